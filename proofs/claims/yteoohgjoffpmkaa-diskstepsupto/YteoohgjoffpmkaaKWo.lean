/-
  What the law's works makes: a disk with one file. Condition: the room is 8 to 67108864.
-/
import Derived.Test.YteoohgjoffpmkaaKPy
import Derived.Lib.SmallJoins
namespace Go.Proofs.Yteoohgjoffpmkaa
open Go.RowKit
set_option linter.unusedVariables false

def fst_ : ByteArray := { data := #[102, 105, 114, 115, 116] }
def one_ : List Int := [111, 110, 101]
/-- The disk that works makes. -/
def dkW (room : Nat) : Dk := ⟨room, room - 8, fset (fun _ => none) fst_ (some one_), fun _ => none, [⟨1, fst_, fst_, [], 0⟩, ⟨2, fst_, fst_, one_, 0⟩], 2, 0, false⟩
theorem fst_nm : nmB fst_ = true := by decide +kernel
theorem fst_size : fst_.size = 5 := rfl
theorem wk_cr (room : Nat) (h : 8 ≤ room) : crR (dk0 room) fst_ = (0, doD (bgD (dk0 room) 5) ⟨1, fst_, fst_, [], 0⟩ (room - 5)) := by
  have h1 : rdE (dk0 room) [fst_] = 0 := by simp [rdE, dk0, fst_nm]
  have h2 : bgE (dk0 room) 5 = 0 := by
    unfold bgE dk0
    rw [if_neg (by simp only; omega), if_neg (by simp)]
  have e : (fst_.size : Int) = 5 := rfl
  unfold crR
  rw [h1, if_neg (by simp), if_neg (by simp [dk0]), e, h2, if_neg (by simp)]
  rfl
theorem wk_ap (room : Nat) (h : 8 ≤ room) : apR (doD (bgD (dk0 room) 5) ⟨1, fst_, fst_, [], 0⟩ (room - 5)) fst_ one_ = (0, dkW room) := by
  have hb : bgD (dk0 room) 5 = { dk0 room with acts := 1 } := by
    unfold bgD dk0
    rw [if_neg (by simp only; omega)]
    rfl
  rw [hb]
  have e : doD { dk0 room with acts := 1 } ⟨1, fst_, fst_, [], 0⟩ (room - 5) = ⟨room, room - 5, fset (fun _ => none) fst_ (some []), fun _ => none, [⟨1, fst_, fst_, [], 0⟩], 1, 0, false⟩ := rfl
  rw [e]
  have h1 : rdE ⟨room, room - 5, fset (fun _ => none) fst_ (some []), fun _ => none, [⟨1, fst_, fst_, [], 0⟩], 1, 0, false⟩ [fst_] = 0 := by simp [rdE, fst_nm]
  have e3 : ((one_.length : Nat) : Int) = 3 := rfl
  have h2 : bgE ⟨room, room - 5, fset (fun _ => none) fst_ (some []), fun _ => none, [⟨1, fst_, fst_, [], 0⟩], 1, 0, false⟩ 3 = 0 := by
    unfold bgE
    rw [if_neg (by simp only; omega), if_neg (by simp)]
  have h3 : bgD ⟨room, room - 5, fset (fun _ => none) fst_ (some []), fun _ => none, [⟨1, fst_, fst_, [], 0⟩], 1, 0, false⟩ 3 = ⟨room, room - 5, fset (fun _ => none) fst_ (some []), fun _ => none, [⟨1, fst_, fst_, [], 0⟩], 2, 0, false⟩ := by
    unfold bgD
    rw [if_neg (by simp only; omega)]
    rfl
  unfold apR
  rw [h1, if_neg (by simp), if_neg (by simp [fset]), e3, h2, if_neg (by simp), if_neg (by decide), h3]
  unfold doD dkW
  have e4 : sdo (fset (fun _ => none) fst_ (some [])) ⟨2, fst_, fst_, one_, 0⟩ (scnt ⟨2, fst_, fst_, one_, 0⟩) = fset (fun _ => none) fst_ (some one_) := by
    unfold sdo
    rw [if_neg (by decide), if_pos rfl]
    show fset (fset (fun _ => none) fst_ (some [])) fst_ (some (((fset (fun _ => none) fst_ (some ([] : List Int))) fst_).getD [] ++ one_.take 3)) = _
    rw [fset_fset, fset_same]
    rfl
  simp only
  rw [e4]
  simp only [Prod.mk.injEq, Dk.mk.injEq, true_and]
  exact ⟨by show room - 5 - 3 = room - 8; omega, rfl, trivial⟩
theorem dkW_sz (room : Nat) : Dsz 2 (dkW room) := ⟨Nat.le_refl _, Nat.zero_le _, (show 4 ≤ 2 * 67108864 by decide), Nat.le_refl _⟩
theorem one_bytes : Bytes one_ := bytes_of_mem (by unfold one_; intro z hz; simp at hz; omega)
theorem one_seg (w : World) : Seg .u8 (w.alloc (.cells #[.int .u8 111, .int .u8 110, .int .u8 101] 5 (3, 3 + 1))) (some ⟨w.heap.size, 0, none⟩) 3 one_ := by
  have hb := heap_new w (.cells #[.int .u8 111, .int .u8 110, .int .u8 101] 5 (3, 3 + 1))
  refine ⟨rfl, .inr ⟨w.heap.size, 0, rfl, by rw [World.size_alloc]; omega, fun i hi => ?_⟩⟩
  rw [Nat.zero_add, cell_of_row _ _ i _ _ _ hb]
  match i, hi with
  | 0, _ => rfl
  | 1, _ => rfl
  | 2, _ => rfl
set_option maxRecDepth 20000 in
set_option maxHeartbeats 1000000 in
theorem works_c (room : Nat) (w : World) (h1 : 8 ≤ room) (h2 : room ≤ 67108864) : Calls Try.prog 14 #[.int .i64 (room : Int)] w fun r w' => ∃ g, r = .returned (.pointer (some ⟨g, 0, none⟩)) ∧ PyS (fun _ => False) w g 2 (dkW room) w' := by
  have HN : Hid _ := new0_m room w h2
  have HCR : Hid (∀ G W g, DkM G W g (dk0 room) → Calls Try.prog 51 #[.pointer (some ⟨g, 0, none⟩), .string fst_] W (ActA G W g (0, doD (bgD (dk0 room) 5) ⟨1, fst_, fst_, [], 0⟩ (room - 5)))) := fun G W g h => by
    have := createA_c fst_ W g (dk0 room) h (dok0 room h2) ⟨Nat.zero_le _, Nat.zero_le _, Nat.zero_le _, Nat.zero_le _⟩ (by decide)
    rw [wk_cr room h1] at this
    exact this
  have HAP : Hid (∀ G W g D b, D = doD (bgD (dk0 room) 5) ⟨1, fst_, fst_, [], 0⟩ (room - 5) → DkM G W g D → Dok D → Seg .u8 W (some ⟨b, 0, none⟩) 3 one_ → ¬ G b → Calls Try.prog 52 #[.pointer (some ⟨g, 0, none⟩), .string fst_, .slice (some ⟨b, 0, none⟩) 3 3] W (ActA G W g (0, dkW room))) := fun G W g D b e h hd hs hb => by
    subst e
    have := appendA_c fst_ (some ⟨b, 0, none⟩) 3 3 one_ W g _ h hd (Dsz.sm (j := 1) (Dsz.do (j := 0) ⟨Nat.zero_le _, Nat.zero_le _, Nat.zero_le _, Nat.zero_le _⟩ _ _ _ (by decide)) (by decide)) (by decide) hs one_bytes (fun e => by cases e) (by decide) (fun b' o q e => by cases e; exact hb)
    rw [wk_ap room h1] at this
    exact this
  clear h1 h2
  unfold fst_ at HCR HAP
  go_enter Try.func14, Try.ntmps14
  go_wp2_with (first
    | (go_at_call 10; go_must (refine (Calls.mono HN.out ?_)); rintro r w1 ⟨g, rfl, k1, k2⟩; have H1 : Hid (DkM (fun k => w.heap.size ≤ k ∧ k < w1.heap.size) w1 g (dk0 room) ∧ Below w.heap.size w w1) := ⟨k1, k2⟩; clear k1 k2)
    | (go_at_call 51; go_must (refine (Calls.mono (HCR.out _ _ _ H1.out.1) ?_)); rintro r w2 k1; have hrr := k1.1; subst hrr; have H2 : Hid (_) := k1; have hcv := Go.Joins.run_convert_bytes_const_at (P := Try.prog) w2 57 5 #[.int .u8 111, .int .u8 110, .int .u8 101] 3 3 w2.heap.size rfl Try.underlying57 Try.underlying5; clear k1)
    | ((fail_if_success (have z := H3)); go_at_call 52; go_must (refine (Calls.mono (HAP.out _ _ _ _ w2.heap.size rfl (H2.out.2.1.below ((Below.refl _ _).alloc (Nat.le_refl _) _)) H2.out.2.2.2 (one_seg w2) (fun z => by have := H1.out.2.size; have := H2.out.2.2.1.size; rcases z with z | z <;> omega)) ?_)); rintro r w3 k1; have hrr := k1.1; subst hrr; have H3 : Hid (_) := k1; clear k1))
  go_ret
  refine ⟨g, rfl, ?_⟩
  obtain ⟨_, a1, a2, a3⟩ := H3.out
  obtain ⟨_, b1, b2, b3⟩ := H2.out
  have s1 := H1.out.2.size
  have s2 := b2.size
  have s3 := a2.size
  have b0 : Gr (fun _ => False) w w1 := Gr.ofB H1.out.2
  rw [World.size_alloc] at s3
  refine ⟨a1.weak (fun k hk => .inr ?_), ?_, a3, dkW_sz room⟩
  · rw [World.size_alloc] at hk
    omega
  · have c1 : Gr (fun _ => False) w w2 := b0.then b2 (fun i hi z => by omega)
    exact (c1.alloc _).then a2 (fun i hi z => by omega)
end Go.Proofs.Yteoohgjoffpmkaa

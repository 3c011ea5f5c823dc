/-
  Proved, in its second form: for texts that hold together at most 2^20 values, hawserlaw03.PackTexts answers true: the bytes of any list of texts are the document's, or the same first error; what is handed in stays, what comes out is one's own. Condition: the second form's own.
-/
import Derived.Test.YtoimoghlbpcllaaRows
import Derived.Test.YtoimoghlbpcllaaTxA
import Derived.Test.YtoimoghlbpcllaaStr
import Derived.WalkKit
import Derived.ProofKit
import Derived.OpenShut
import Derived.ShutString
import Derived.ChangeOld
import Derived.Below
import Derived.Lib.SmallJoins
import Derived.JoinedCond
namespace Go.Proofs.Ytoimoghlbpcllaa.packTexts
open Go.ChangeShapes Go.WideShapes Go.ChangeAt Go.RowKit
set_option linter.unusedVariables false

theorem own : ownKnob Try.prog.godebug = none := by kernel_rfl
theorem laidOut : laidOutB Try.prog = true := by kernel_rfl

theorem same_t (a b : Option Addr) (la ca lb cb : Nat) (xs : List Int) (w : World) (h1 : Seg .u8 w a la xs) (h2 : Seg .u8 w b lb xs) (hx : Bytes xs) :
    Calls Try.prog 27 #[.slice a la ca, .slice b lb cb] w fun e w' => e = .returned (.bool true) ∧ w' = w := by
  have := same_c a b la ca lb cb xs xs w h1 h2 hx hx
  rw [decide_eq_true rfl] at this
  exact this
/-- A list that was answered between two worlds, as it is now. -/
def Lst (B lo hi : Nat) (W : World) (va : Option Addr) (L vc : Nat) (xs : List Int) : Prop :=
  Own B W (.slice va L vc) L xs ∧ ∀ g, (Value.slice va L vc).ownBlock = some g → lo ≤ g ∧ g < hi
theorem lst_of {B : Nat} {w W : World} {va : Option Addr} {L vc : Nat} {xs : List Int} (h : Own w.heap.size W (.slice va L vc) L xs) (hB : B ≤ w.heap.size) : Lst B w.heap.size W.heap.size W va L vc xs := ⟨h.base hB, h.lo⟩
theorem Lst.later {B lo hi : Nat} {w W : World} {va : Option Addr} {L vc : Nat} {xs : List Int} (h : Lst B lo hi w va L vc xs) (hb : Below w.heap.size w W) : Lst B lo hi W va L vc xs := ⟨h.1.below hb, h.2⟩
theorem Lst.seg {B lo hi : Nat} {w : World} {va : Option Addr} {L vc : Nat} {xs : List Int} (h : Lst B lo hi w va L vc xs) : Seg .u8 w va L xs := by
  obtain ⟨a, c, e, hs, _, _⟩ := h.1.seg
  cases e
  exact hs
def zl : List Int := [3, 0, 1, 97, 1, 1, 98, 0, 1, 98]
theorem zl_bytes : Bytes zl := bytes_of_mem (fun z hz => by simp [zl] at hz; omega)
theorem texts_l (w : World) : Calls Try.prog 29 #[.slice (some ⟨w.heap.size, 0, none⟩) 3 3] (w.alloc (.cells #[.string s0, .string s1, .string s2] 9 (0, 0))) fun r w' => ∃ va vc, r = .returned (.tuple #[.slice va 10 vc, .int .i64 0]) ∧ Seg .u8 w' va 10 zl ∧ Below w.heap.size w w' := by
  have hb := (Below.refl w.heap.size w).alloc (Nat.le_refl _) (.cells #[.string s0, .string s1, .string s2] 9 (0, 0))
  have := texts_a (some ⟨w.heap.size, 0, none⟩) 3 3 [s0, s1, s2] _ (last_s w) (by omega) last_w
  unfold TA at this
  rw [last_e, last_z] at this
  refine this.mono ?_
  rintro r w' ⟨va, vc, hr, ho, hb2⟩
  obtain ⟨a, c, e, hs, _, _⟩ := ho.seg
  cases e
  exact ⟨va, vc, hr, hs, hb.trans (hb2.mono hb.size)⟩
set_option maxRecDepth 20000 in
set_option maxHeartbeats 8000000 in
theorem walk (a0 : Option Addr) (n0 cap0 : Nat) (X0 : List ByteArray) (a1 : Option Addr) (n1 cap1 : Nat) (X1 : List ByteArray) (w : World) (x0 : StrS w a0 n0 X0) (lc0 : n0 ≤ cap0) (cm0 : cap0 ≤ maxLen) (nz0 : a0 = none → cap0 = 0) (y0 : ∀ k, tsz X0 k + n0 ≤ 1048576)
    (x1 : StrS w a1 n1 X1) (lc1 : n1 ≤ cap1) (cm1 : cap1 ≤ maxLen) (nz1 : a1 = none → cap1 = 0) (y1 : ∀ k, tsz X1 k + n1 ≤ 1048576) :
    Calls Try.prog 5 #[.slice a0 n0 cap0, .slice a1 n1 cap1] w fun e w' => e = .returned (.bool true) ∧ Below w.heap.size w w' := by
  have HX : Hid (StrS w a0 n0 X0 ∧ StrS w a1 n1 X1) := ⟨x0, x1⟩
  have HN : Hid ((a0 = none → cap0 = 0) ∧ n0 ≤ 1048576 ∧ n1 ≤ 1048576 ∧ (∀ k, tsz X0 k ≤ 1048576) ∧ (∀ k, tsz X1 k ≤ 1048576)) := ⟨nz0, by have := y0 0; omega, by have := y1 0; omega, fun k => by have := y0 k; omega, fun k => by have := y1 k; omega⟩
  obtain ⟨Z0, hZ0⟩ : ∃ Z, Z = tz n0 X0 := ⟨_, rfl⟩
  obtain ⟨Z1, hZ1⟩ : ∃ Z, Z = tz n1 X1 := ⟨_, rfl⟩
  obtain ⟨L0, hL0⟩ : ∃ L, L = Z0.length := ⟨_, rfl⟩
  obtain ⟨L1, hL1⟩ : ∃ L, L = Z1.length := ⟨_, rfl⟩
  obtain ⟨e0, he0⟩ : ∃ e, e = terr X0 n0 := ⟨_, rfl⟩
  obtain ⟨e1, he1⟩ : ∃ e, e = terr X1 n1 := ⟨_, rfl⟩
  have HLB : Hid (L0 ≤ 22020106 ∧ L1 ≤ 22020106 ∧ Bytes Z0 ∧ Bytes Z1) := ⟨by rw [hL0, hZ0]; exact tz_len HN.out.2.1 HN.out.2.2.2.1, by rw [hL1, hZ1]; exact tz_len HN.out.2.2.1 HN.out.2.2.2.2, by rw [hZ0]; exact tz_bytes _ _, by rw [hZ1]; exact tz_bytes _ _⟩
  have HT0 : Hid (∀ f a cap W, TA f a n0 cap X0 W → Calls Try.prog f #[.slice a n0 cap] W fun r w' => ∃ va vc, r = .returned (.tuple #[.slice va L0 vc, .int .i64 e0]) ∧ Own W.heap.size w' (.slice va L0 vc) L0 Z0 ∧ Below W.heap.size W w') := by
    intro f a cap W h
    rw [hL0, hZ0, he0]; exact h
  have HT1 : Hid (∀ f a cap W, TA f a n1 cap X1 W → Calls Try.prog f #[.slice a n1 cap] W fun r w' => ∃ va vc, r = .returned (.tuple #[.slice va L1 vc, .int .i64 e1]) ∧ Own W.heap.size w' (.slice va L1 vc) L1 Z1 ∧ Below W.heap.size W w') := by
    intro f a cap W h
    rw [hL1, hZ1, he1]; exact h
  have hq0 : (e0 != e0) = false := by simp
  have hq1 : (e1 != e1) = false := by simp
  clear x0 x1 lc0 lc1 cm0 cm1 nz0 y0 y1 nz1 hL0 hL1 hZ0 hZ1 he0 he1
  go_enter Try.func5, Try.ntmps5
  go_wp2_with fail
  refine (lendS_c a0 n0 cap0 X0 w HX.out.1 HN.out.2.1 HN.out.1).mono ?_
  rintro r w1 ⟨g, C, rfl, hg, hs, hb⟩
  have H1 : Hid (StrS w1 (some ⟨g, 0, none⟩) (n0 + 2) (X0 ++ [sX, sY]) ∧ StrS w1 (some ⟨g, 0, none⟩) n0 X0 ∧ Below w.heap.size w w1) := ⟨hs, hs.pre (by omega) (by rw [List.take_append_of_le_length (by rw [HX.out.1.1]; exact Nat.le_refl _), List.take_of_length_le (by rw [HX.out.1.1]; exact Nat.le_refl _)]), hb⟩
  clear hg hs hb
  go_wp2_with fail
  refine (HT0.out _ _ C w1 (texts_a _ n0 C X0 w1 H1.out.2.1 HN.out.2.1 HN.out.2.2.2.1)).mono ?_
  rintro r w2 ⟨va, ca, rfl, ho, hb⟩
  have H2 : Hid (Lst w.heap.size w1.heap.size w2.heap.size w2 va L0 ca Z0 ∧ Below w1.heap.size w1 w2 ∧ Below w.heap.size w w2) := ⟨lst_of ho H1.out.2.2.size, hb, H1.out.2.2.trans (hb.mono H1.out.2.2.size)⟩
  clear ho hb
  go_wp2_with fail
  refine (HT0.out _ _ cap0 w2 (texts_x _ n0 cap0 X0 w2 (HX.out.1.below H2.out.2.2) HN.out.2.1 HN.out.2.2.2.1)).mono ?_
  rintro r w3 ⟨vb, cb, rfl, ho, hb⟩
  have H3 : Hid (Lst w.heap.size w2.heap.size w3.heap.size w3 vb L0 cb Z0 ∧ Below w2.heap.size w2 w3 ∧ Below w.heap.size w w3) := ⟨lst_of ho H2.out.2.2.size, hb, H2.out.2.2.trans (hb.mono H2.out.2.2.size)⟩
  clear ho hb
  go_wp2_with fail
  refine (HT1.out _ _ cap1 w3 (texts_a _ n1 cap1 X1 w3 (HX.out.2.below H3.out.2.2) HN.out.2.2.1 HN.out.2.2.2.2)).mono ?_
  rintro r w4 ⟨vc, cc, rfl, ho, hb⟩
  have H4 : Hid (Lst w.heap.size w3.heap.size w4.heap.size w4 vc L1 cc Z1 ∧ Below w3.heap.size w3 w4 ∧ Below w.heap.size w w4) := ⟨lst_of ho H3.out.2.2.size, hb, H3.out.2.2.trans (hb.mono H3.out.2.2.size)⟩
  clear ho hb
  go_wp2_with fail
  refine (HT1.out _ _ cap1 w4 (texts_x _ n1 cap1 X1 w4 (HX.out.2.below H4.out.2.2) HN.out.2.2.1 HN.out.2.2.2.2)).mono ?_
  rintro r w5 ⟨vd, cd, rfl, ho, hb⟩
  have H5 : Hid (Lst w.heap.size w4.heap.size w5.heap.size w5 vd L1 cd Z1 ∧ Below w4.heap.size w4 w5 ∧ Below w.heap.size w w5) := ⟨lst_of ho H4.out.2.2.size, hb, H4.out.2.2.trans (hb.mono H4.out.2.2.size)⟩
  clear ho hb
  have HA : Hid (Lst w.heap.size w1.heap.size w2.heap.size w5 va L0 ca Z0 ∧ Lst w.heap.size w2.heap.size w3.heap.size w5 vb L0 cb Z0 ∧ Lst w.heap.size w3.heap.size w4.heap.size w5 vc L1 cc Z1 ∧ Lst w.heap.size w4.heap.size w5.heap.size w5 vd L1 cd Z1) :=
    ⟨((H2.out.1.later H3.out.2.1).later H4.out.2.1).later H5.out.2.1, (H3.out.1.later H4.out.2.1).later H5.out.2.1, H4.out.1.later H5.out.2.1, H5.out.1⟩
  have HW : Hid (StrS w5 (some ⟨g, 0, none⟩) (n0 + 2) (X0 ++ [sX, sY]) ∧ StrS w5 (some ⟨g, 0, none⟩) n0 X0 ∧ StrS w5 a0 n0 X0 ∧ Below w.heap.size w w5) :=
    ⟨(((H1.out.1.below H2.out.2.1).below H3.out.2.1).below H4.out.2.1).below H5.out.2.1, (((H1.out.2.1.below H2.out.2.1).below H3.out.2.1).below H4.out.2.1).below H5.out.2.1, HX.out.1.below H5.out.2.2, H5.out.2.2⟩
  have HSZ : Hid (w.heap.size ≤ w1.heap.size ∧ w1.heap.size ≤ w2.heap.size ∧ w2.heap.size ≤ w3.heap.size ∧ w3.heap.size ≤ w4.heap.size ∧ w4.heap.size ≤ w5.heap.size) := ⟨H1.out.2.2.size, H2.out.2.1.size, H3.out.2.1.size, H4.out.2.1.size, H5.out.2.1.size⟩
  clear H1 H2 H3 H4 H5
  go_wp2_with (first
    | ((fail_if_success (have z := J1)); go_at_call 27; go_must (refine (same_t va vb L0 ca L0 cb Z0 w5 HA.out.1.seg HA.out.2.1.seg HLB.out.2.2.1).mono ?_); rintro r w6 ⟨rfl, h6⟩; obtain rfl := h6.symm; have J1 : Hid True := trivial)
    | (have z := J1; clear z; (fail_if_success (have z := J2)); go_at_call 27; go_must (refine (same_t vc vd L1 cc L1 cd Z1 w5 HA.out.2.2.1.seg HA.out.2.2.2.seg HLB.out.2.2.2).mono ?_); rintro r w6 ⟨rfl, h6⟩; obtain rfl := h6.symm; have J2 : Hid True := trivial)
    | (have z := J2; clear z; (fail_if_success (have z := J3)); at_builtin; go_must (refine wpList_catS rfl (.tmp 64) (.tmp 65) rfl w5.heap.size 0 _ [] rfl (sown_none w5) a0 n0 cap0 X0 rfl HN.out.1 (HW.out.2.2.1.below ((Below.refl _ _).alloc (Nat.le_refl _) _)) (by have := HN.out.2.1; omega) (by simp) ?_); intro v1 w6 h1 h2; rw [Nat.zero_add] at h1; have J3 : Hid (Lent w5 w6 v1 n0 X0) := ⟨h1, ((Below.refl _ _).alloc (Nat.le_refl _) _).trans h2⟩; obtain ⟨a6, c6, rfl, _⟩ := h1.str; clear h1 h2)
    | (have z := J3; clear z; (fail_if_success (have z := J4)); at_builtin; go_must (refine wpList_catS rfl (.tmp 66) (.tmp 67) rfl w5.heap.size n0 _ X0 rfl (J3.out.1.gb (World.grownBy_alloc w6 _ none)) (some ⟨w6.heap.size, 0, none⟩) 2 2 [sX, sY] rfl (fun h => by cases h) (strs_lit w6) (by have := HN.out.2.1; omega) (by have := J3.out.2.size; simp; omega) ?_); intro v2 w7 h1 h2; have J4 : Hid (Lent w5 w7 v2 (n0 + 2) (X0 ++ [sX, sY])) := ⟨h1, J3.out.2.trans (((Below.refl _ _).alloc J3.out.2.size _).trans h2)⟩; obtain ⟨g7, C7, rfl, _⟩ := h1.form (by omega); clear h1 h2)
    | (have z := J4; clear z; go_at_call 31; go_must (refine (sameS_c (some ⟨g, 0, none⟩) (some ⟨g7, 0, none⟩) (n0 + 2) _ _ (X0 ++ [sX, sY]) w7 (HW.out.1.below J4.out.2) (by obtain ⟨_, _, e, hs, _⟩ := J4.out.1.str; cases e; exact hs) (by have := HN.out.2.1; omega)).mono ?_); rintro r w8 ⟨rfl, h8⟩; have J5 : Hid (Below w5.heap.size w5 w8) := J4.out.2.trans (h8.mono J4.out.2.size); clear h8))
  refine (HT0.out _ _ C w8 (texts_a _ n0 C X0 w8 (HW.out.2.1.below J5.out) HN.out.2.1 HN.out.2.2.2.1)).mono ?_
  rintro r w9 ⟨ve, ce, rfl, ho, hb⟩
  have HE : Hid (Lst w.heap.size w1.heap.size w2.heap.size w9 va L0 ca Z0 ∧ Lst w.heap.size w3.heap.size w4.heap.size w9 vc L1 cc Z1 ∧ Lst w.heap.size w8.heap.size w9.heap.size w9 ve L0 ce Z0 ∧ Below w.heap.size w w9) := by
    have h5 := HW.out.2.2.2
    have h8 := h5.trans (J5.out.mono h5.size)
    exact ⟨(HA.out.1.later J5.out).later hb, (HA.out.2.2.1.later J5.out).later hb, lst_of ho h8.size, h8.trans (hb.mono h8.size)⟩
  have HOW : Hid (Calls Try.prog 32 #[.slice (some ⟨w9.heap.size, 0, none⟩) 3 3] (w9.alloc (.cells #[.slice va L0 ca, .slice vc L1 cc, .slice ve L0 ce] 23)) fun r w' => r = .returned (.bool true) ∧ Below w.heap.size w w') := by
    have z := HSZ.out
    have z5 := J5.out.size
    have m := HLB.out
    refine (own3_c w.heap.size w9 _ _ _ L0 L1 L0 Z0 Z1 Z0 HE.out.1.1 HE.out.2.1.1 HE.out.2.2.1.1 (fun q h e => ?_) (fun q h e => ?_) (fun q h e => ?_) (by omega) (by omega) (by omega) HE.out.2.2.2.size).mono ?_
    · have k1 := HE.out.1.2 q h
      have k2 := HE.out.2.1.2 q e
      omega
    · have k1 := HE.out.1.2 q h
      have k2 := HE.out.2.2.1.2 q e
      omega
    · have k1 := HE.out.2.1.2 q h
      have k2 := HE.out.2.2.1.2 q e
      omega
    · rintro r w' ⟨hr, hg⟩
      refine ⟨hr, hg.below HE.out.2.2.2 (fun k hk => ?_) HE.out.2.2.2.size⟩
      rcases hk with q | q | q
      · exact (HE.out.1.1.lo k q).1
      · exact (HE.out.2.1.1.lo k q).1
      · exact (HE.out.2.2.1.1.lo k q).1
  clear ho hb HA J5
  go_wp2_with (first
    | (go_at_call 32; go_must (refine (Calls.mono HOW.out ?_)); rintro r w10 ⟨rfl, h10⟩; have G1 : Hid (Below w.heap.size w w10) := h10; clear h10)
    | (have z := G1; clear z; (fail_if_success (have z := G2)); go_at_call 29; go_must (refine (texts_l w10).mono ?_); rintro r w11 ⟨vf, cf, rfl, hs, hb⟩; have G2 : Hid (Seg .u8 w11 vf 10 zl ∧ Below w.heap.size w w11) := ⟨hs, G1.out.trans (hb.mono G1.out.size)⟩; clear hs hb)
    | (have z := G2; clear z; go_at_call 27; go_must (refine (same_t vf (some ⟨w11.heap.size, 0, none⟩) 10 cf 10 10 zl _ (G2.out.1.below ((Below.refl _ _).alloc (Nat.le_refl _) _)) (seg_new w11 .u8 _ 5 10 zl rfl rfl) zl_bytes).mono ?_); rintro r w12 ⟨rfl, h12⟩; obtain rfl := h12.symm))
  go_ret
  exact ⟨rfl, G2.out.2.alloc G2.out.2.size _⟩

theorem bulk_len {H : Type} (l : List (DataW H)) : l.length ≤ Rows.uptoBulkAll l := by
  induction l with
  | nil => simp
  | cons d r ih =>
    have : 1 ≤ Rows.uptoBulk d := by
      cases d with
      | lit x => cases x <;> simp [Rows.uptoBulk]
      | _ => simp [Rows.uptoBulk]
    simp only [Rows.uptoBulkAll, List.length_cons]; omega
theorem bulk_mem {H : Type} {d : DataW H} {l : List (DataW H)} (h : d ∈ l) : Rows.uptoBulk d ≤ Rows.uptoBulkAll l := by
  induction l with
  | nil => cases h
  | cons x r ih =>
    simp only [Rows.uptoBulkAll]
    rcases List.mem_cons.1 h with rfl | h
    · omega
    · have := ih h; omega
theorem bulk_slice {H : Type} {ds : List (DataW H)} {d : DataW H} {l r : List (DataW H)} (hk : Rows.uptoSmall H ds = true) (hd : d ∈ ds) (e : d = .slice l r) : l.length + r.length ≤ 1048576 := by
  have h0 : Rows.uptoBulkAll ds ≤ 1048576 := of_decide_eq_true hk
  have h1 := bulk_mem hd
  have h3 := bulk_len l
  have h4 := bulk_len r
  rw [e] at h1
  simp only [Rows.uptoBulk] at h1
  omega

set_option maxRecDepth 100000 in
theorem lifted (os : Os) (started : os.Started) (H : Type) (enc : TypeId × Value → H) (F : Stop.Interp) :
    ReturnsInHanded {} Try.checked os 5 .any ((Rows.OpenSpec.upto Rows.packTextsSpec).pre6 enc Try.prog Try.f5 Rows.packTextsUptoRow.domain false) (((Rows.OpenSpec.upto Rows.packTextsSpec).at F).post enc Try.prog Try.f5 false true false false) := by
  refine returnsInHanded_of_cond (C := Try.checked) (s := Rows.OpenSpec.upto Rows.packTextsSpec) (k := Rows.uptoSmall) rfl own started (by kernel_rfl) Try.func5
    (OpenSpec.witness (enc := enc) (C := Try.checked) (s := Rows.OpenSpec.upto Rows.packTextsSpec) (k := Rows.uptoSmall) rfl false ⟨#[], #[.slice none 0 0, .slice none 0 0], []⟩ 8 (by kernel_rfl) (by kernel_rfl) (by kernel_rfl)
      (x := ([.nil, .nil], [], [])) (by kernel_rfl) rfl (by kernel_rfl)) ?_
  intro W base args ds gs before hval0 hW hcnd hk _
  have hval : ∀ (j : Nat) t v, Try.f5.params[j]? = some t → args[j]? = some v → Value.okWide Try.prog W .any base t v := hval0
  have hW' := hW
  obtain ⟨p, q, hA0, hV, rfl, hfz, hnd⟩ := hW
  have hA : DataW.TrodAll enc Try.prog W 0 (fun _ => true) true Try.f5.params.toList args.toList ds p := hA0
  rw [Try.params5] at hA hval
  obtain ⟨v0, vs0, d0, ds0, p0, q0, hargs, rfl, rfl, h0, r0⟩ := trodAll_cons hA
  obtain ⟨v1, vs1, d1, ds1, p1, q1, rfl, rfl, rfl, h1, r1⟩ := trodAll_cons r0
  obtain ⟨rfl, rfl, rfl⟩ := trodAll_nil r1
  obtain rfl : args = #[v0, v1] := by cases args; simp_all
  obtain ⟨rfl, rfl⟩ := trodVars_none hV
  have k0 := h0
  have lt0 : ∀ x ∈ p0, x.block < W.heap.size := by obtain ⟨m, hm⟩ := k0; exact DataW.trod_lt m _ _ _ hm
  obtain ⟨a0, n0, cap0, X0, rfl, x0, lc0, cm0, nz0, y0⟩ : ∃ a n cap X, v0 = .slice a n cap ∧ StrS W a n X ∧ n ≤ cap ∧ cap ≤ maxLen ∧ (a = none → cap = 0) ∧ ∀ k, tsz X k + n ≤ 1048576 := by
    obtain ⟨sa, sl, sc, hv⟩ := okWide_slice Try.underlying61 (hval 0 61 v0 rfl rfl)
    obtain ⟨a, n, cap, X, h1, h2, h3, h4, h5, h6⟩ := texts_open sa sl sc hv h0
    have hAll : Rows.uptoBulkAll _ ≤ 1048576 := of_decide_eq_true hk
    exact ⟨a, n, cap, X, h1, h2, h3, h4, h5, fun k => Nat.le_trans (h6 k) (Nat.le_trans (bulk_mem (show d0 ∈ _ by simp)) hAll)⟩
  have k1 := h1
  have lt1 : ∀ x ∈ p1, x.block < W.heap.size := by obtain ⟨m, hm⟩ := k1; exact DataW.trod_lt m _ _ _ hm
  obtain ⟨a1, n1, cap1, X1, rfl, x1, lc1, cm1, nz1, y1⟩ : ∃ a n cap X, v1 = .slice a n cap ∧ StrS W a n X ∧ n ≤ cap ∧ cap ≤ maxLen ∧ (a = none → cap = 0) ∧ ∀ k, tsz X k + n ≤ 1048576 := by
    obtain ⟨sa, sl, sc, hv⟩ := okWide_slice Try.underlying61 (hval 1 61 v1 rfl rfl)
    obtain ⟨a, n, cap, X, h1, h2, h3, h4, h5, h6⟩ := texts_open sa sl sc hv h1
    have hAll : Rows.uptoBulkAll _ ≤ 1048576 := of_decide_eq_true hk
    exact ⟨a, n, cap, X, h1, h2, h3, h4, h5, fun k => Nat.le_trans (h6 k) (Nat.le_trans (bulk_mem (show d1 ∈ _ by simp)) hAll)⟩
  clear hA0 hval0
  refine (walk a0 n0 cap0 X0 a1 n1 cap1 X1 W x0 lc0 cm0 nz0 y0 x1 lc1 cm1 nz1 y1).mono fun e W' ⟨he, bel⟩ => ?_
  subst he
  exact ⟨_, rfl, _, _, _, [], _, [], hW', trodAll_mk1 (shut_bool Try.underlying4 _), (trodAll_cons_mk (Below.trod laidOut (by kernel_rfl) (of_decide_eq_true (by kernel_rfl)) k0 bel lt0) (trodAll_cons_mk (Below.trod laidOut (by kernel_rfl) (of_decide_eq_true (by kernel_rfl)) k1 bel lt1) trodAll_mk0)), rfl, bel.frame _, fun h => by cases h⟩

theorem over : Rows.packTextsUptoRow.holds Try.pinned (Rows.OpenSpec.upto Rows.packTextsSpec) :=
  OpenClaim.holds_of_cond 5 Try.f5 rfl rfl rfl rfl rfl rfl rfl ⟨rfl, rfl, rfl, rfl, rfl⟩ rfl rfl rfl rfl rfl (by kernel_rfl) Try.func5 (by kernel_rfl)
    (of_decide_eq_true (by kernel_rfl)) (by unfold Func.isWrapper; first | (rw [if_pos (by decide +kernel)]; kernel_rfl) | (rw [if_neg (by decide +kernel)]; exact ⟨rfl, rfl⟩))
    (fun os started H enc _ F => lifted os started H enc F)

end Go.Proofs.Ytoimoghlbpcllaa.packTexts
namespace Go.Proofs.Ytoimoghlbpcllaa
theorem packTexts_holds : Rows.PackTextsUptoSaid := packTexts.over
#print axioms packTexts_holds
end Go.Proofs.Ytoimoghlbpcllaa

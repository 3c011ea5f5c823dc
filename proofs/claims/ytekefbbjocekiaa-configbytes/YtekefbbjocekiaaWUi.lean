/-
  What the Writer's ready, Fail, Uint and Flag answer. Condition: what is laid down takes at most 2^47 bytes.
-/
import Derived.Test.YtekefbbjocekiaaWS
import Derived.Test.YtekefbbjocekiaaWPu
import Derived.Test.YtekefbbjocekiaaBk
namespace Go.Proofs.Ytekefbbjocekiaa
open Go.RowKit
set_option linter.unusedVariables false

set_option maxRecDepth 20000 in
theorem wready_c (g : Nat) (e : Int) (w : World) (h : w.cell? ⟨g, 0, none⟩ = some (.int .i64 e)) :
    Calls Try.prog 49 #[.pointer (some ⟨g, 0, none⟩)] w fun r w' => r = .returned (.bool (e == 0)) ∧ w' = w := by
  go_enter Try.func49, Try.ntmps49
  go_wp2_with fail
  refine (well_c g e w h).mono ?_
  rintro r w1 ⟨rfl, rfl⟩
  go_wp2
  go_ret
  exact ⟨rfl, rfl⟩

theorem WGoes.err {w g ys e fs} (h : WS w g ys e fs) (x : Int) : WGoes w g fs (w.setCell ⟨g, 0, none⟩ (.int .i64 x)) ys x :=
  ⟨fs, h.setE x, Gr.of (grownBy_cell w g 0 _) (fun k hk => by cases hk; exact .inl rfl), fun k hk => .inl hk⟩
theorem WGoes.pre {w w1 w2 : World} {g fs ys e} (h : w.grownBy w1 none) (k : WGoes w1 g fs w2 ys e) : WGoes w g fs w2 ys e := by
  obtain ⟨f2, h2, g2, l2⟩ := k
  refine ⟨f2, h2, (Gr.of h (by simp)).trans g2, fun j hj => ?_⟩
  rcases l2 j hj with h' | h'
  · exact .inl h'
  · exact .inr (Nat.le_trans h.size h')

theorem encs_one (V : Int) : encs [V] = enc V.toNat := by simp [encs]
set_option maxRecDepth 20000 in
theorem wuint_c (g : Nat) (ys : List Int) (e V : Int) (fs : List Nat) (w : World) (h : WS w g ys e fs) (h0 : 0 ≤ V) (h1 : V < 18446744073709551616) (hb : ys.length + 10 ≤ 140737488355328) :
    Calls Try.prog 51 #[.pointer (some ⟨g, 0, none⟩), .int .u64 V] w fun r w' => r = .returned (.tuple #[]) ∧ WGoes w g fs w' (wadd e ys (enc V.toNat)) e := by
  have HW : Hid (WS w g ys e fs) := h
  have HR : Hid (Calls Try.prog 49 #[.pointer (some ⟨g, 0, none⟩)] w fun r w' => r = .returned (.bool (e == 0)) ∧ w' = w) := wready_c g e w h.c0
  by_cases he : e = 0
  · subst he
    rw [show wadd 0 ys (enc V.toNat) = ys ++ enc V.toNat from rfl]
    have HL : Hid (∀ w n a cap, WS w g ys 0 fs → Seg .u8 w (some ⟨a, 0, none⟩) n (enc V.toNat) → a ≠ g → n ≤ 10 → Calls Try.prog 56 #[.pointer (some ⟨g, 0, none⟩), .slice (some ⟨a, 0, none⟩) n cap] w fun r w' => r = .returned (.tuple #[]) ∧ WGoes w g fs w' (ys ++ enc V.toNat) 0) := fun w n a cap h hs hn hl => lay_c g ys _ 0 fs _ n cap w h hs (fun b o s e => by cases e; exact hn) (fun h => by cases h) (bytes_of_mem (enc_bytes _)) (by omega)
    have HEL : Hid ((enc V.toNat).length ≤ 10) := by
      show _ ≤ _
      rw [enc_length _ (by omega)]
      exact (sz_bd _).2
    have HC : Hid (∀ w (a : Nat) cap, Seg .u64 w (some ⟨a, 0, none⟩) 1 [V] → Calls Try.prog 57 #[.slice (some ⟨a, 0, none⟩) 1 cap] w fun e w' => ∃ g n, e = .returned (.slice (some ⟨g, 0, none⟩) n n) ∧ n = (enc V.toNat).length ∧ w.heap.size ≤ g ∧ Row .u8 5 w' g (enc V.toNat) ∧ Below w.heap.size w w') := fun w a cap hs => by
      have := encode_c _ 1 cap [V] w hs (fun i hi => by simp at hi; subst hi; exact ⟨h0, h1⟩) (by omega)
      rw [encs_one] at this
      exact this
    obtain ⟨zs, hzs⟩ : ∃ zs, zs = enc V.toNat := ⟨_, rfl⟩
    rw [← hzs] at HC HEL HL ⊢
    clear h hb h0 h1 hzs
    go_enter Try.func51, Try.ntmps51
    go_wp2_with fail
    refine Calls.mono HR.out ?_
    rintro r w1 ⟨rfl, rfl⟩
    go_wp2_with fail
    have hrow : Row .u64 80 (w1.alloc (Obj.cells #[.int .u64 V] 80)) w1.heap.size [V] := heap_new w1 _
    refine (HC.out _ w1.heap.size 1 (hrow.segAll 1 rfl)).mono ?_
    rintro _ w2 ⟨g2, n2, rfl, hn2, hg2, hr2, hb2⟩
    have hgb : w1.grownBy w2 none := gb_trans (World.grownBy_alloc w1 _ none) (grownBy_below hb2 _)
    have hs2 : w1.heap.size ≤ g2 := Nat.le_trans (World.grownBy_alloc w1 (Obj.cells #[.int .u64 V] 80) none).size hg2
    have H2 : Hid (WS w2 g ys 0 fs ∧ Seg .u8 w2 (some ⟨g2, 0, none⟩) n2 zs ∧ g2 ≠ g ∧ n2 ≤ 10 ∧ w1.grownBy w2 none) := ⟨HW.out.new hgb, hr2.segAll n2 hn2, (fun e => by have := HW.out.lt; omega), hn2 ▸ HEL.out, hgb⟩
    clear hrow hn2 hg2 hr2 hb2 hgb hs2
    go_wp2_with fail
    refine (HL.out w2 n2 g2 n2 H2.out.1 H2.out.2.1 H2.out.2.2.1 H2.out.2.2.2.1).mono ?_
    rintro _ w3 ⟨rfl, h3⟩
    have H3 : Hid (WGoes w1 g fs w3 (ys ++ zs) 0) := h3.pre H2.out.2.2.2.2
    clear h3
    go_wp2
    go_end0
    exact ⟨rfl, H3.out⟩
  · have hbq : (e == 0) = false := by simp [he]
    have HE : Hid (wadd e ys (enc V.toNat) = ys) := by show _ = _; rw [wadd, if_neg he]
    rw [HE.out]
    rw [hbq] at HR
    clear he HE h hb h0 h1
    go_enter Try.func51, Try.ntmps51
    go_wp2_with fail
    refine Calls.mono HR.out ?_
    rintro r w1 ⟨rfl, rfl⟩
    go_wp2
    go_end0
    exact ⟨rfl, HW.out.stay⟩

end Go.Proofs.Ytekefbbjocekiaa

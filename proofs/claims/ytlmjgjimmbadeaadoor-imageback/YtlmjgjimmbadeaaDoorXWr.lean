/-
  The document's Writer in memory, as plain data, and what its lay, Fail, Uint, Int, Flag, Text answer. Condition: what is laid down takes at most 2^47 bytes.
-/
import Derived.Test.YtlmjgjimmbadeaaDoorFa
import Derived.Test.YtlmjgjimmbadeaaDoorByt
import Derived.Laws.IdiomStrings
namespace Go.Proofs.YtlmjgjimmbadeaaDoor
open Go.RowKit
set_option linter.unusedVariables false

/-- The document's Writer's block. -/
def Xwr (w : World) (g : Nat) (v : Value) (e : Int) : Prop := w.heap[g]? = some (.cells #[v, .int .i64 e] 83 (0, 0))
theorem Xwr.c0 {w g v e} (h : Xwr w g v e) : w.cell? ⟨g, 0, none⟩ = some v := by rw [cell_of_row w g 0 _ _ _ h]; rfl
theorem Xwr.c1 {w g v e} (h : Xwr w g v e) : w.cell? ⟨g, 1, none⟩ = some (.int .i64 e) := by rw [cell_of_row w g 1 _ _ _ h]; rfl
theorem Xwr.free {w g v e} (h : Xwr w g v e) (i : Nat) : w.frozen? ⟨g, i, none⟩ = false := frozen_of_row w g i _ _ h
theorem Xwr.setV {w g v e} (h : Xwr w g v e) (x : Value) : Xwr (w.setCell ⟨g, 0, none⟩ x) g x e := by
  unfold Xwr; rw [heap_setCell_same w g 0 _ _ _ h]; rfl
theorem Xwr.setE {w g v e} (h : Xwr w g v e) (x : Int) : Xwr (w.setCell ⟨g, 1, none⟩ (.int .i64 x)) g v x := by
  unfold Xwr; rw [heap_setCell_same w g 1 _ _ _ h]; rfl
/-- The document's Writer as plain data: what was laid down, the first error; F: the block that its bytes lie in. -/
structure XW (B : Nat) (w : World) (g : Nat) (v : Value) (ys : List Int) (e : Int) (F : Option Nat) : Prop where
  blk : Xwr w g v e
  own : Own B w v ys.length ys
  fb : v.ownBlock = F
  off : F ≠ some g
  bytes : Bytes ys
  base : B ≤ w.heap.size
/-- What a call of it comes to. -/
def XGoes (B : Nat) (w : World) (g : Nat) (F : Option Nat) (w' : World) (ys' : List Int) (e' : Int) : Prop :=
  ∃ v' F', XW B w' g v' ys' e' F' ∧ Gr (fun k => k = g ∨ F = some k) w w' ∧ (F' = F ∨ ∃ k, F' = some k ∧ w.heap.size ≤ k)
theorem XW.stay {B w g v ys e F} (h : XW B w g v ys e F) : XGoes B w g F w ys e := ⟨v, F, h, Gr.refl _ _, .inl rfl⟩
theorem XW.gr {G : Nat → Prop} {B w w' g v ys e F} (h : XW B w g v ys e F) (hg : Gr G w w') (h1 : ¬ G g) (h2 : ∀ k, F = some k → ¬ G k) : XW B w' g v ys e F := by
  refine ⟨(hg.block g (lt_of_block h.blk) h1).trans h.blk, ⟨h.own.1, ?_⟩, h.fb, h.off, h.bytes, Nat.le_trans h.base hg.size⟩
  rcases h.own.2 with h0 | ⟨b, cap, cur, rfl, hB, hgb, r⟩
  · exact .inl h0
  · exact .inr ⟨b, cap, cur, rfl, hB, (hg.block b (lt_of_block hgb) (h2 b (by rw [← h.fb]; rfl))).trans hgb, r⟩
theorem XW.new {B w w' g v ys e F} (h : XW B w g v ys e F) (hg : w.grownBy w' none) : XW B w' g v ys e F := h.gr (G := fun _ => False) (Gr.of hg (by simp)) (by simp) (by simp)
theorem XGoes.then {B w g F w1 w2 ys1 e1 ys2 e2} (h : XGoes B w g F w1 ys1 e1) (k : ∀ v F', XW B w1 g v ys1 e1 F' → XGoes B w1 g F' w2 ys2 e2) : XGoes B w g F w2 ys2 e2 := by
  obtain ⟨v, F1, h1, g1, f1⟩ := h
  obtain ⟨v2, F2, h2, g2, f2⟩ := k v F1 h1
  refine ⟨v2, F2, h2, ?_, ?_⟩
  · refine ⟨g2.os.trans g1.os, g2.tape.trans g1.tape, g2.output.trans g1.output, Nat.le_trans g1.size g2.size, fun i hi hn => ?_⟩
    refine (g2.block i (Nat.lt_of_lt_of_le hi g1.size) ?_).trans (g1.block i hi hn)
    rintro (h | h)
    · exact hn (.inl h)
    · rcases f1 with f1 | ⟨k', f1, hk⟩
      · exact hn (.inr (by rw [← f1]; exact h))
      · rw [f1] at h; cases h; omega
  · rcases f2 with rfl | ⟨k', f2, hk⟩
    · exact f1
    · exact .inr ⟨k', f2, Nat.le_trans g1.size hk⟩
/-- One step of it, laid open. -/
def XStep (B : Nat) (w : World) (g : Nat) (F : Option Nat) (w' : World) (v' : Value) (ys' : List Int) (e' : Int) (F' : Option Nat) : Prop :=
  XW B w' g v' ys' e' F' ∧ Gr (fun k => k = g ∨ F = some k) w w' ∧ (F' = F ∨ ∃ k, F' = some k ∧ w.heap.size ≤ k)
theorem XStep.seq {B w g F w1 v1 ys1 e1 F1 w2 ys2 e2} (h : XStep B w g F w1 v1 ys1 e1 F1) (k : XGoes B w1 g F1 w2 ys2 e2) : XGoes B w g F w2 ys2 e2 := by
  obtain ⟨h1, g1, f1⟩ := h
  obtain ⟨v2, F2, h2, g2, f2⟩ := k
  refine ⟨v2, F2, h2, ?_, ?_⟩
  · refine ⟨g2.os.trans g1.os, g2.tape.trans g1.tape, g2.output.trans g1.output, Nat.le_trans g1.size g2.size, fun i hi hn => ?_⟩
    refine (g2.block i (Nat.lt_of_lt_of_le hi g1.size) ?_).trans (g1.block i hi hn)
    rintro (h | h)
    · exact hn (.inl h)
    · rcases f1 with f1 | ⟨k', f1, hk⟩
      · exact hn (.inr (by rw [← f1]; exact h))
      · rw [f1] at h; cases h; omega
  · rcases f2 with rfl | ⟨k', f2, hk⟩
    · exact f1
    · exact .inr ⟨k', f2, Nat.le_trans g1.size hk⟩
theorem XGoes.pre {B w w0 g F w1 ys1 e1} (hg : w0.grownBy w none) (h : XGoes B w g F w1 ys1 e1) : XGoes B w0 g F w1 ys1 e1 := by
  obtain ⟨v, F1, h1, g1, f1⟩ := h
  refine ⟨v, F1, h1, (Gr.of hg (by simp)).trans g1, ?_⟩
  rcases f1 with f1 | ⟨k, f1, hk⟩
  · exact .inl f1
  · exact .inr ⟨k, f1, Nat.le_trans hg.size hk⟩

set_option maxRecDepth 20000 in
theorem xlay_c (B g : Nat) (v : Value) (ys : List Int) (e : Int) (F : Option Nat) (ao : Option Addr) (m c : Nat) (zs : List Int) (w : World) (h : XW B w g v ys e F) (hs : Seg .u8 w ao m zs) (hz : Bytes zs) (hao : ao = none → c = 0) (hb : ys.length + m ≤ 140737488355328) :
    Calls Tryd.prog 99 #[.pointer (some ⟨g, 0, none⟩), .slice ao m c] w fun r w' => r = .returned (.tuple #[]) ∧ XGoes B w g F w' (wadd e ys zs) e := by
  have HW : Hid (XW B w g v ys e F) := h
  obtain ⟨va, vc, rfl, _⟩ := h.own.seg
  have c0 := h.blk.c0
  have c1 := h.blk.c1
  by_cases he : e = 0
  · subst he
    have HS : Hid (Seg .u8 w ao m zs) := hs
    have HZ : Hid (Bytes zs) := hz
    have HAO : Hid (ao = none → c = 0) := hao
    have HB : Hid (ys.length + m ≤ 140737488355328) := hb
    have HML : Hid (zs.length = m) := hs.1
    clear h hs hz hao hb
    go_enter Tryd.func99, Tryd.ntmps99
    go_wp2_with (at_builtin; go_must (refine wpList_append_apart _ rfl (.tmp 13) (.tmp 14) rfl B ys.length (.slice va ys.length vc) ys rfl HW.out.own ao m c zs rfl HAO.out HS.out HB.out HW.out.base ?_); go_loud (intro v' w1 hown hgr hat; obtain ⟨a', cap', rfl, hsg, _⟩ := hown.seg; have H1 : Hid (Own B w1 (.slice a' (ys.length + m) cap') (ys.length + m) (ys ++ zs) ∧ w.grownBy w1 F ∧ ((Value.slice a' (ys.length + m) cap').ownBlock = F ∨ (Value.slice a' (ys.length + m) cap').ownBlock = some w.heap.size)) := (by rw [← HW.out.fb]; exact ⟨hown, hgr, hat⟩); have hblk : Xwr w1 g (.slice va ys.length vc) 0 := (hgr.block g (lt_of_block HW.out.blk) (by rw [HW.out.fb]; exact fun e => HW.out.off e.symm)).trans HW.out.blk; have HK : Hid (Xwr w1 g (.slice va ys.length vc) 0) := hblk; have d0 := hblk.c0; have f0 := hblk.free 0; clear hblk hown hgr hat hsg c0 c1))
    go_end0
    refine ⟨rfl, .slice a' (ys.length + m) cap', (Value.slice a' (ys.length + m) cap').ownBlock, ⟨HK.out.setV _, ?_, rfl, ?_, ?_, ?_⟩, ?_, ?_⟩
    · have hl : (ys ++ zs).length = ys.length + m := by rw [List.length_append, HML.out]
      have := H1.out.1.grown (grownBy_cell w1 g 0 (.slice a' (ys.length + m) cap')) (fun b hb e => by
        rw [← hb] at e
        rcases H1.out.2.2 with h | h
        · rw [h] at e; exact HW.out.off e.symm
        · rw [h] at e; cases e; exact absurd (lt_of_block HW.out.blk) (Nat.lt_irrefl _))
      rw [show wadd 0 ys zs = ys ++ zs from rfl, hl]; exact this
    · intro e
      rcases H1.out.2.2 with h | h
      · rw [h] at e; exact HW.out.off e
      · rw [h] at e; cases e; exact absurd (lt_of_block HW.out.blk) (Nat.lt_irrefl _)
    · rw [show wadd 0 ys zs = ys ++ zs from rfl]
      intro i hi
      rw [List.length_append] at hi
      by_cases h1 : i < ys.length
      · rw [List.getElem?_append_left h1]; exact HW.out.bytes i h1
      · rw [List.getElem?_append_right (by omega)]; exact HZ.out _ (by omega)
    · exact Nat.le_trans HW.out.base (Nat.le_trans H1.out.2.1.size (grownBy_cell w1 g 0 (.slice a' (ys.length + m) cap')).size)
    · exact (Gr.of H1.out.2.1 (fun k hk => .inl (.inr hk))).trans (Gr.of (grownBy_cell w1 g 0 _) (fun k hk => by cases hk; exact .inl (.inl rfl)))
    · rcases H1.out.2.2 with h | h
      · exact .inl h
      · exact .inr ⟨_, h, Nat.le_refl _⟩
  · have hbq : (e == 0) = false := by simp [he]
    have HE : Hid (wadd e ys zs = ys) := by show _ = _; rw [wadd, if_neg he]
    rw [HE.out]
    clear h hs hz hao hb he HE
    go_enter Tryd.func99, Tryd.ntmps99
    go_wp2
    go_end0
    exact ⟨rfl, HW.out.stay⟩

theorem xwfail_c (B g : Nat) (v : Value) (ys : List Int) (e x : Int) (F : Option Nat) (w : World) (h : XW B w g v ys e F) :
    Calls Tryd.prog 65 #[.pointer (some ⟨g, 0, none⟩), .int .i64 x] w fun r w' => r = .returned (.tuple #[]) ∧ XGoes B w g F w' ys (ferr e x) := by
  have HW : Hid (XW B w g v ys e F) := h
  have c1 := h.blk.c1
  have f1 := h.blk.free 1
  clear h
  by_cases he : e = 0
  · subst he
    go_enter Tryd.func65, Tryd.ntmps65
    go_wp2
    go_end0
    have hg := grownBy_cell w g 1 (.int .i64 x)
    refine ⟨rfl, v, F, ⟨HW.out.blk.setE x, HW.out.own.grown hg (fun b hb e => by rw [HW.out.fb] at hb; rw [← e] at hb; exact HW.out.off hb), HW.out.fb, HW.out.off, HW.out.bytes, Nat.le_trans HW.out.base hg.size⟩, Gr.of hg (fun k hk => by cases hk; exact .inl (.inl rfl)), .inl rfl⟩
  · have hbq : (e == 0) = false := by simp [he]
    have HE : Hid (ferr e x = e) := by show _ = _; rw [ferr, if_neg he]
    rw [HE.out]
    clear he HE
    go_enter Tryd.func65, Tryd.ntmps65
    go_wp2
    go_end0
    exact ⟨rfl, HW.out.stay⟩

set_option maxRecDepth 20000 in
theorem xwuint_c (B g : Nat) (v : Value) (ys : List Int) (e V : Int) (F : Option Nat) (w : World) (h : XW B w g v ys e F) (h0 : 0 ≤ V) (h1 : V < 18446744073709551616) (hb : ys.length + 10 ≤ 140737488355328) :
    Calls Tryd.prog 67 #[.pointer (some ⟨g, 0, none⟩), .int .u64 V] w fun r w' => r = .returned (.tuple #[]) ∧ XGoes B w g F w' (wadd e ys (enc V.toNat)) e := by
  have HW : Hid (XW B w g v ys e F) := h
  have HB : Hid (ys.length + 10 ≤ 140737488355328) := hb
  have HC : Hid (Calls Tryd.prog 64 #[.int .u64 V] w fun e w' => ∃ g n cap, e = .returned (.slice (some ⟨g, 0, none⟩) n cap) ∧ Mine w' w.heap.size g n cap (enc V.toNat) ∧ Below w.heap.size w w') := bytes_c V h0 h1 w
  have HEL : Hid ((enc V.toNat).length ≤ 10) := by
    show _ ≤ _
    rw [enc_length _ (by omega)]
    exact (sz_bd _).2
  obtain ⟨zs, hzs⟩ : ∃ zs, zs = enc V.toNat := ⟨_, rfl⟩
  rw [← hzs] at HC HEL ⊢
  have HZ : Hid (Bytes zs) := by rw [hzs]; exact bytes_of_mem (enc_bytes _)
  clear h hb h0 h1 hzs
  go_enter Tryd.func67, Tryd.ntmps67
  go_wp2_with fail
  refine HC.out.mono ?_
  rintro r w1 ⟨g1, n1, cap1, rfl, hm, hbl⟩
  have H1 : Hid (Mine w1 w.heap.size g1 n1 cap1 zs ∧ Below w.heap.size w w1) := ⟨hm, hbl⟩
  clear hm hbl
  go_wp2_with fail
  refine (xlay_c B g v ys e F _ n1 cap1 zs w1 (HW.out.new (grownBy_below H1.out.2 _)) H1.out.1.seg HZ.out (fun h => by cases h) ?_).mono ?_
  · have := H1.out.1.len; have := HEL.out; have := HB.out; omega
  · rintro r w2 ⟨rfl, h2⟩
    have H2 : Hid (XGoes B w g F w2 (wadd e ys zs) e) := XGoes.pre (grownBy_below H1.out.2 _) h2
    clear h2
    go_wp2
    go_end0
    exact ⟨rfl, H2.out⟩
end Go.Proofs.YtlmjgjimmbadeaaDoor

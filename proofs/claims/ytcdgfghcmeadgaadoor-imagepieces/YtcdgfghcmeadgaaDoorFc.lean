/-
  What the document's Bytes answers of a number of 64 bits: its bytes, in memory of their own. No condition of its own.
  The document's Writer in memory, as plain data, and what its lay, Fail, Uint, Int, Flag, Text answer. Condition: what is laid down takes at most 2^47 bytes.
  What the document's Writer's Int, Flag, Text and Bytes answer. Condition: what is laid down takes at most 2^47 bytes.
  What the document's Writer's Text, Digest, Row and Bytes answer. Condition: what is laid down takes at most 2^47 bytes.
  What the document's Writer's Digest, Row and Bytes answer. Condition: what is laid down takes at most 2^47 bytes.
  What the document's Writer's Row answers. Condition: what is laid down takes at most 2^47 bytes.
  One step of a Writer beside a row that came in as an argument (for Row's contract). No condition of its own.
  What the Writer's Row answers. Condition: what is laid down takes at most 2^47 bytes.
  Texts in the order of their bytes, ranges of texts, and lists of ranges in normal form: two of them that have the same texts are the same. No condition.
  What the texts of table lean on: variables of several cells in a block of their own, worlds that have grown, regions that only read. No condition of its own.
  The tree of a table in memory, as the list of its rows; what height, count and size answer. Condition: none of its own.
  What table's Check answers of a row, and the document's: the same number. No condition.
  Plain mathematics for the laws of package crc: words of 32 bits as polynomials over two elements, modulo the generator. No condition of its own; it imports nothing of the program.
  Words of 32 bits as the program holds them, and how often one can be moved. No condition.
  Slices of integers that can be read, and lists of bytes. No condition of its own.
  Plain mathematics for the laws of package crc: the register moved over bytes, the document's long division, and that both are one; the way back. No condition of its own; it imports nothing of the program.
  The table of package crc as memory holds it, and what crc.More answers, called with whatever word and bytes. Condition: the table lies in memory as the program's text lays it; the bytes can be read.
  What crc.Sum answers, called with whatever parts. Condition: the table lies in memory as the program's text lays it; the parts can be read.
  Rows of integers in memory that a call made itself: what is read there, what a store leaves. No condition of its own.
  What crc.laid answers, and crc.overX and crc.Tail: a word's four bytes, the lowest first. No condition.
  Slices of bytes as strings. No condition of its own.
  What bytes.Equal and crc.Holds answer, called with whatever bytes. Condition: the table lies in memory as the program's text lays it; the bytes can be read, and are at most 2^47.
  Rows in memory; what image's numbers, follows, laid and sumOf answer. Condition: lengths that a machine has.
  What image's follows, laid and sumOf answer. Condition: lengths that a machine has.
  States in memory; what image's Size answers of one. Condition: none but that its rows can be read.
  What image's Encode answers of a state: its image, or the error. Condition: the state's rows can be read, and the table of package crc lies in memory.
-/
import Derived.Test.YtcdgfghcmeadgaaDoorFa
import Derived.Laws.IdiomStrings
import Derived.Test.YtcdgfghcmeadgaaDoorFb
import Derived.BigQuiet
import Derived.Deep.RegionHeld3
import Derived.Deep.QuietTactic
import Derived.Test.YtcdgfghcmeadgaaDoorRows
import Derived.WalkKit
import Derived.Below
import Derived.Lib.Strings
import Derived.WalkSmall
import Derived.WalkSpells
import Derived.Deep.Light
import Derived.Deep.WholeRow
import Derived.Deep.MidRow
import Derived.Laws.CopyOwn
import Derived.Sort.AtCall
import Derived.Laws.Bits64b
import Derived.Laws.BytesArg
import Derived.Lib.AppendStr
namespace Go.Proofs.YtcdgfghcmeadgaaDoor
open Go.RowKit
set_option linter.unusedVariables false

/-- A literal of bytes is one's own. -/
theorem mine_new (w : World) (x : Int) (B : Nat) (hB : B ≤ w.heap.size) : Mine (w.alloc (.cells #[.int .u8 x] 5)) B w.heap.size 1 1 [x] := by
  have hc : ∀ i, (w.alloc (.cells #[.int .u8 x] 5)).cell? ⟨w.heap.size, i, none⟩ = (#[Value.int .u8 x] : Array Value)[i]? := fun i => World.cell?_alloc_new w _ _ i
  refine ⟨rfl, Nat.le_refl _, by unfold maxLen; omega, hB, by simp, fun i hi => ?_, fun i hi => ?_, fun i hi => ?_⟩
  · obtain rfl : i = 0 := by omega
    rw [hc]; rfl
  · obtain rfl : i = 0 := by omega
    rw [hc]; rfl
  · exact frozen_of_row _ _ _ _ _ (heap_alloc_new w _)

set_option maxHeartbeats 400000 in
theorem bytes_c (V : Int) (h0 : 0 ≤ V) (h1 : V < 18446744073709551616) (w : World) :
    Calls Tryd.prog 64 #[.int .u64 V] w fun e w' => ∃ g n cap, e = .returned (.slice (some ⟨g, 0, none⟩) n cap) ∧ Mine w' w.heap.size g n cap (enc V.toNat) ∧ Below w.heap.size w w' := by
  obtain ⟨N, hN⟩ : ∃ N, V.toNat = N := ⟨_, rfl⟩
  induction N using Nat.strongRecOn generalizing V w with
  | ind N ih =>
    by_cases hs : V < 128
    · have HE : Hid (enc V.toNat = [V]) := by show _ = _; rw [enc_small (by omega), Int.toNat_of_nonneg h0]
      clear ih hN
      have hm : V % 256 = V := by omega
      go_enter Tryd.func64, Tryd.ntmps64
      go_wp2
      go_ret
      refine ⟨w.heap.size, 1, 1, rfl, ?_, (Below.refl _ _).alloc (Nat.le_refl _) _⟩
      rw [HE.out]
      exact mine_new w V _ (Nat.le_refl _)
    · have HE : Hid (enc V.toNat = [V % 128 + 128] ++ enc (V / 128).toNat) := by
        show _ = _
        rw [enc_big (by omega), show ((V.toNat % 128 + 128 : Nat) : Int) = V % 128 + 128 from by omega, show V.toNat / 128 = (V / 128).toNat from by omega]
        rfl
      have IH : Hid (∀ w : World, Calls Tryd.prog 64 #[.int .u64 (V / 128)] w fun e w' => ∃ g n cap, e = .returned (.slice (some ⟨g, 0, none⟩) n cap) ∧ Mine w' w.heap.size g n cap (enc (V / 128).toNat) ∧ Below w.heap.size w w') :=
        fun w => ih (V / 128).toNat (by omega) (V / 128) (by omega) (by omega) w rfl
      have HLN : Hid ((enc (V / 128).toNat).length ≤ 10) := by show _ ≤ _; rw [enc_length _ (by omega)]; exact (sz_bd _).2
      obtain ⟨i0, hi, hz0, hz1, hz2⟩ := info_parts Tryd.infoU8
      clear ih hN
      go_enter Tryd.func64, Tryd.ntmps64
      go_wp2_with fail
      refine (IH.out _).mono ?_
      rintro e w1 ⟨g, n, cap, rfl, hm, hb⟩
      have HM : Hid (Mine w1 (w.heap.size + 1) g n cap (enc (V / 128).toNat)) := by simp at hm; exact hm
      have HB : Hid (Below (w.heap.size + 1) (w.alloc (.cells #[.int .u8 (V % 128 + 128)] 5)) w1) := by simp at hb; exact hb
      have HM0 : Hid (Mine w1 w.heap.size w.heap.size 1 1 [V % 128 + 128]) := (mine_new w _ _ (Nat.le_refl _)).keep HB.out (by omega)
      have hn : n ≤ 10 := by rw [← hm.len]; exact HLN.out
      clear hm hb
      go_wp2_with (at_builtin; go_must (refine wpList_append_mine _ rfl _ _ 27 rfl 5 i0 Tryd.underlying27 hi hz0 hz1 hz2 w.heap.size w.heap.size 1 1 [V % 128 + 128] rfl HM0.out (some ⟨g, 0, none⟩) n cap (enc (V / 128).toNat) rfl (fun h => by cases h) HM.out.seg (by omega) ?_); intro g4 c4 w4 hm4 hb4)
      have HM4 : Hid (Mine w4 w.heap.size g4 (1 + n) c4 (enc V.toNat)) := by show Mine _ _ _ _ _ _; rw [HE.out]; exact hm4
      have HB4 : Hid (Below w.heap.size w w4) := (((Below.refl _ w).alloc (Nat.le_refl _) _).trans (HB.out.mono (by omega))).trans hb4
      clear hm4 hb4
      go_wp2
      go_ret
      exact ⟨g4, 1 + n, c4, rfl, HM4.out, HB4.out⟩
end Go.Proofs.YtcdgfghcmeadgaaDoor
namespace Go.Proofs.YtcdgfghcmeadgaaDoor
open Go.RowKit
set_option linter.unusedVariables false

/-- The document's Writer's block. -/
def Xwr (w : World) (g : Nat) (v : Value) (e : Int) : Prop := w.heap[g]? = some (.cells #[v, .int .i64 e] 83 (0, 0))
theorem Xwr.c0 {w g v e} (h : Xwr w g v e) : w.cell? ⟨g, 0, none⟩ = some v := by rw [cell_of_row w g 0 _ _ _ h]; rfl
theorem Xwr.c1 {w g v e} (h : Xwr w g v e) : w.cell? ⟨g, 1, none⟩ = some (.int .i64 e) := by rw [cell_of_row w g 1 _ _ _ h]; rfl
theorem Xwr.free {w g v e} (h : Xwr w g v e) (i : Nat) : w.frozen? ⟨g, i, none⟩ = false := frozen_of_row w g i _ _ h
theorem Xwr.setV {w g v e} (h : Xwr w g v e) (x : Value) : Xwr (w.setCell ⟨g, 0, none⟩ x) g x e := by
  unfold Xwr; rw [heap_setCell_same w g 0 _ _ _ h]; rfl
theorem Xwr.setE {w g v e} (h : Xwr w g v e) (x : Int) : Xwr (w.setCell ⟨g, 1, none⟩ (.int .i64 x)) g v x := by
  unfold Xwr; rw [heap_setCell_same w g 1 _ _ _ h]; rfl
/-- The document's Writer as plain data: what was laid down, the first error; F: the block that its bytes lie in. -/
structure XW (B : Nat) (w : World) (g : Nat) (v : Value) (ys : List Int) (e : Int) (F : Option Nat) : Prop where
  blk : Xwr w g v e
  own : Own B w v ys.length ys
  fb : v.ownBlock = F
  off : F ≠ some g
  bytes : Bytes ys
  base : B ≤ w.heap.size
/-- What a call of it comes to. -/
def XGoes (B : Nat) (w : World) (g : Nat) (F : Option Nat) (w' : World) (ys' : List Int) (e' : Int) : Prop :=
  ∃ v' F', XW B w' g v' ys' e' F' ∧ Gr (fun k => k = g ∨ F = some k) w w' ∧ (F' = F ∨ ∃ k, F' = some k ∧ w.heap.size ≤ k)
theorem XW.stay {B w g v ys e F} (h : XW B w g v ys e F) : XGoes B w g F w ys e := ⟨v, F, h, Gr.refl _ _, .inl rfl⟩
theorem XW.gr {G : Nat → Prop} {B w w' g v ys e F} (h : XW B w g v ys e F) (hg : Gr G w w') (h1 : ¬ G g) (h2 : ∀ k, F = some k → ¬ G k) : XW B w' g v ys e F := by
  refine ⟨(hg.block g (lt_of_block h.blk) h1).trans h.blk, ⟨h.own.1, ?_⟩, h.fb, h.off, h.bytes, Nat.le_trans h.base hg.size⟩
  rcases h.own.2 with h0 | ⟨b, cap, cur, rfl, hB, hgb, r⟩
  · exact .inl h0
  · exact .inr ⟨b, cap, cur, rfl, hB, (hg.block b (lt_of_block hgb) (h2 b (by rw [← h.fb]; rfl))).trans hgb, r⟩
theorem XW.new {B w w' g v ys e F} (h : XW B w g v ys e F) (hg : w.grownBy w' none) : XW B w' g v ys e F := h.gr (G := fun _ => False) (Gr.of hg (by simp)) (by simp) (by simp)
theorem XGoes.then {B w g F w1 w2 ys1 e1 ys2 e2} (h : XGoes B w g F w1 ys1 e1) (k : ∀ v F', XW B w1 g v ys1 e1 F' → XGoes B w1 g F' w2 ys2 e2) : XGoes B w g F w2 ys2 e2 := by
  obtain ⟨v, F1, h1, g1, f1⟩ := h
  obtain ⟨v2, F2, h2, g2, f2⟩ := k v F1 h1
  refine ⟨v2, F2, h2, ?_, ?_⟩
  · refine ⟨g2.os.trans g1.os, g2.tape.trans g1.tape, g2.output.trans g1.output, Nat.le_trans g1.size g2.size, fun i hi hn => ?_⟩
    refine (g2.block i (Nat.lt_of_lt_of_le hi g1.size) ?_).trans (g1.block i hi hn)
    rintro (h | h)
    · exact hn (.inl h)
    · rcases f1 with f1 | ⟨k', f1, hk⟩
      · exact hn (.inr (by rw [← f1]; exact h))
      · rw [f1] at h; cases h; omega
  · rcases f2 with rfl | ⟨k', f2, hk⟩
    · exact f1
    · exact .inr ⟨k', f2, Nat.le_trans g1.size hk⟩
/-- One step of it, laid open. -/
def XStep (B : Nat) (w : World) (g : Nat) (F : Option Nat) (w' : World) (v' : Value) (ys' : List Int) (e' : Int) (F' : Option Nat) : Prop :=
  XW B w' g v' ys' e' F' ∧ Gr (fun k => k = g ∨ F = some k) w w' ∧ (F' = F ∨ ∃ k, F' = some k ∧ w.heap.size ≤ k)
theorem XStep.seq {B w g F w1 v1 ys1 e1 F1 w2 ys2 e2} (h : XStep B w g F w1 v1 ys1 e1 F1) (k : XGoes B w1 g F1 w2 ys2 e2) : XGoes B w g F w2 ys2 e2 := by
  obtain ⟨h1, g1, f1⟩ := h
  obtain ⟨v2, F2, h2, g2, f2⟩ := k
  refine ⟨v2, F2, h2, ?_, ?_⟩
  · refine ⟨g2.os.trans g1.os, g2.tape.trans g1.tape, g2.output.trans g1.output, Nat.le_trans g1.size g2.size, fun i hi hn => ?_⟩
    refine (g2.block i (Nat.lt_of_lt_of_le hi g1.size) ?_).trans (g1.block i hi hn)
    rintro (h | h)
    · exact hn (.inl h)
    · rcases f1 with f1 | ⟨k', f1, hk⟩
      · exact hn (.inr (by rw [← f1]; exact h))
      · rw [f1] at h; cases h; omega
  · rcases f2 with rfl | ⟨k', f2, hk⟩
    · exact f1
    · exact .inr ⟨k', f2, Nat.le_trans g1.size hk⟩
theorem XGoes.pre {B w w0 g F w1 ys1 e1} (hg : w0.grownBy w none) (h : XGoes B w g F w1 ys1 e1) : XGoes B w0 g F w1 ys1 e1 := by
  obtain ⟨v, F1, h1, g1, f1⟩ := h
  refine ⟨v, F1, h1, (Gr.of hg (by simp)).trans g1, ?_⟩
  rcases f1 with f1 | ⟨k, f1, hk⟩
  · exact .inl f1
  · exact .inr ⟨k, f1, Nat.le_trans hg.size hk⟩

set_option maxRecDepth 20000 in
theorem xlay_c (B g : Nat) (v : Value) (ys : List Int) (e : Int) (F : Option Nat) (ao : Option Addr) (m c : Nat) (zs : List Int) (w : World) (h : XW B w g v ys e F) (hs : Seg .u8 w ao m zs) (hz : Bytes zs) (hao : ao = none → c = 0) (hb : ys.length + m ≤ 140737488355328) :
    Calls Tryd.prog 99 #[.pointer (some ⟨g, 0, none⟩), .slice ao m c] w fun r w' => r = .returned (.tuple #[]) ∧ XGoes B w g F w' (wadd e ys zs) e := by
  have HW : Hid (XW B w g v ys e F) := h
  obtain ⟨va, vc, rfl, _⟩ := h.own.seg
  have c0 := h.blk.c0
  have c1 := h.blk.c1
  by_cases he : e = 0
  · subst he
    have HS : Hid (Seg .u8 w ao m zs) := hs
    have HZ : Hid (Bytes zs) := hz
    have HAO : Hid (ao = none → c = 0) := hao
    have HB : Hid (ys.length + m ≤ 140737488355328) := hb
    have HML : Hid (zs.length = m) := hs.1
    clear h hs hz hao hb
    go_enter Tryd.func99, Tryd.ntmps99
    go_wp2_with (at_builtin; go_must (refine wpList_append_apart _ rfl (.tmp 13) (.tmp 14) rfl B ys.length (.slice va ys.length vc) ys rfl HW.out.own ao m c zs rfl HAO.out HS.out HB.out HW.out.base ?_); go_loud (intro v' w1 hown hgr hat; obtain ⟨a', cap', rfl, hsg, _⟩ := hown.seg; have H1 : Hid (Own B w1 (.slice a' (ys.length + m) cap') (ys.length + m) (ys ++ zs) ∧ w.grownBy w1 F ∧ ((Value.slice a' (ys.length + m) cap').ownBlock = F ∨ (Value.slice a' (ys.length + m) cap').ownBlock = some w.heap.size)) := (by rw [← HW.out.fb]; exact ⟨hown, hgr, hat⟩); have hblk : Xwr w1 g (.slice va ys.length vc) 0 := (hgr.block g (lt_of_block HW.out.blk) (by rw [HW.out.fb]; exact fun e => HW.out.off e.symm)).trans HW.out.blk; have HK : Hid (Xwr w1 g (.slice va ys.length vc) 0) := hblk; have d0 := hblk.c0; have f0 := hblk.free 0; clear hblk hown hgr hat hsg c0 c1))
    go_end0
    refine ⟨rfl, .slice a' (ys.length + m) cap', (Value.slice a' (ys.length + m) cap').ownBlock, ⟨HK.out.setV _, ?_, rfl, ?_, ?_, ?_⟩, ?_, ?_⟩
    · have hl : (ys ++ zs).length = ys.length + m := by rw [List.length_append, HML.out]
      have := H1.out.1.grown (grownBy_cell w1 g 0 (.slice a' (ys.length + m) cap')) (fun b hb e => by
        rw [← hb] at e
        rcases H1.out.2.2 with h | h
        · rw [h] at e; exact HW.out.off e.symm
        · rw [h] at e; cases e; exact absurd (lt_of_block HW.out.blk) (Nat.lt_irrefl _))
      rw [show wadd 0 ys zs = ys ++ zs from rfl, hl]; exact this
    · intro e
      rcases H1.out.2.2 with h | h
      · rw [h] at e; exact HW.out.off e
      · rw [h] at e; cases e; exact absurd (lt_of_block HW.out.blk) (Nat.lt_irrefl _)
    · rw [show wadd 0 ys zs = ys ++ zs from rfl]
      intro i hi
      rw [List.length_append] at hi
      by_cases h1 : i < ys.length
      · rw [List.getElem?_append_left h1]; exact HW.out.bytes i h1
      · rw [List.getElem?_append_right (by omega)]; exact HZ.out _ (by omega)
    · exact Nat.le_trans HW.out.base (Nat.le_trans H1.out.2.1.size (grownBy_cell w1 g 0 (.slice a' (ys.length + m) cap')).size)
    · exact (Gr.of H1.out.2.1 (fun k hk => .inl (.inr hk))).trans (Gr.of (grownBy_cell w1 g 0 _) (fun k hk => by cases hk; exact .inl (.inl rfl)))
    · rcases H1.out.2.2 with h | h
      · exact .inl h
      · exact .inr ⟨_, h, Nat.le_refl _⟩
  · have hbq : (e == 0) = false := by simp [he]
    have HE : Hid (wadd e ys zs = ys) := by show _ = _; rw [wadd, if_neg he]
    rw [HE.out]
    clear h hs hz hao hb he HE
    go_enter Tryd.func99, Tryd.ntmps99
    go_wp2
    go_end0
    exact ⟨rfl, HW.out.stay⟩

theorem xwfail_c (B g : Nat) (v : Value) (ys : List Int) (e x : Int) (F : Option Nat) (w : World) (h : XW B w g v ys e F) :
    Calls Tryd.prog 65 #[.pointer (some ⟨g, 0, none⟩), .int .i64 x] w fun r w' => r = .returned (.tuple #[]) ∧ XGoes B w g F w' ys (ferr e x) := by
  have HW : Hid (XW B w g v ys e F) := h
  have c1 := h.blk.c1
  have f1 := h.blk.free 1
  clear h
  by_cases he : e = 0
  · subst he
    go_enter Tryd.func65, Tryd.ntmps65
    go_wp2
    go_end0
    have hg := grownBy_cell w g 1 (.int .i64 x)
    refine ⟨rfl, v, F, ⟨HW.out.blk.setE x, HW.out.own.grown hg (fun b hb e => by rw [HW.out.fb] at hb; rw [← e] at hb; exact HW.out.off hb), HW.out.fb, HW.out.off, HW.out.bytes, Nat.le_trans HW.out.base hg.size⟩, Gr.of hg (fun k hk => by cases hk; exact .inl (.inl rfl)), .inl rfl⟩
  · have hbq : (e == 0) = false := by simp [he]
    have HE : Hid (ferr e x = e) := by show _ = _; rw [ferr, if_neg he]
    rw [HE.out]
    clear he HE
    go_enter Tryd.func65, Tryd.ntmps65
    go_wp2
    go_end0
    exact ⟨rfl, HW.out.stay⟩

set_option maxRecDepth 20000 in
theorem xwuint_c (B g : Nat) (v : Value) (ys : List Int) (e V : Int) (F : Option Nat) (w : World) (h : XW B w g v ys e F) (h0 : 0 ≤ V) (h1 : V < 18446744073709551616) (hb : ys.length + 10 ≤ 140737488355328) :
    Calls Tryd.prog 67 #[.pointer (some ⟨g, 0, none⟩), .int .u64 V] w fun r w' => r = .returned (.tuple #[]) ∧ XGoes B w g F w' (wadd e ys (enc V.toNat)) e := by
  have HW : Hid (XW B w g v ys e F) := h
  have HB : Hid (ys.length + 10 ≤ 140737488355328) := hb
  have HC : Hid (Calls Tryd.prog 64 #[.int .u64 V] w fun e w' => ∃ g n cap, e = .returned (.slice (some ⟨g, 0, none⟩) n cap) ∧ Mine w' w.heap.size g n cap (enc V.toNat) ∧ Below w.heap.size w w') := bytes_c V h0 h1 w
  have HEL : Hid ((enc V.toNat).length ≤ 10) := by
    show _ ≤ _
    rw [enc_length _ (by omega)]
    exact (sz_bd _).2
  obtain ⟨zs, hzs⟩ : ∃ zs, zs = enc V.toNat := ⟨_, rfl⟩
  rw [← hzs] at HC HEL ⊢
  have HZ : Hid (Bytes zs) := by rw [hzs]; exact bytes_of_mem (enc_bytes _)
  clear h hb h0 h1 hzs
  go_enter Tryd.func67, Tryd.ntmps67
  go_wp2_with fail
  refine HC.out.mono ?_
  rintro r w1 ⟨g1, n1, cap1, rfl, hm, hbl⟩
  have H1 : Hid (Mine w1 w.heap.size g1 n1 cap1 zs ∧ Below w.heap.size w w1) := ⟨hm, hbl⟩
  clear hm hbl
  go_wp2_with fail
  refine (xlay_c B g v ys e F _ n1 cap1 zs w1 (HW.out.new (grownBy_below H1.out.2 _)) H1.out.1.seg HZ.out (fun h => by cases h) ?_).mono ?_
  · have := H1.out.1.len; have := HEL.out; have := HB.out; omega
  · rintro r w2 ⟨rfl, h2⟩
    have H2 : Hid (XGoes B w g F w2 (wadd e ys zs) e) := XGoes.pre (grownBy_below H1.out.2 _) h2
    clear h2
    go_wp2
    go_end0
    exact ⟨rfl, H2.out⟩
end Go.Proofs.YtcdgfghcmeadgaaDoor
namespace Go.Proofs.YtcdgfghcmeadgaaDoor
open Go.RowKit
set_option linter.unusedVariables false

end Go.Proofs.YtcdgfghcmeadgaaDoor
namespace Go.Proofs.YtcdgfghcmeadgaaDoor
open Go.RowKit
set_option linter.unusedVariables false

set_option maxRecDepth 20000 in
theorem xwtext_c (B g : Nat) (v : Value) (ys : List Int) (e : Int) (s : ByteArray) (most : Int) (F : Option Nat) (w : World) (h : XW B w g v ys e F) (hs : s.size ≤ 1125899906842) (hb : ys.length + s.size + 10 ≤ 140737488355328) :
    Calls Tryd.prog 66 #[.pointer (some ⟨g, 0, none⟩), .string s, .int .i64 most] w fun r w' => r = .returned (.tuple #[]) ∧ XGoes B w g F w' (wadd (ferr e (wte s.size most)) ys (enc s.size ++ sb s)) (ferr e (wte s.size most)) := by
  obtain ⟨i0, hi, hz0, hz1, hz2⟩ := info_parts Tryd.infoU8
  have HI : Hid (Tryd.prog.info? 5 = some i0 ∧ i0.zero = some (.int .u8 0) ∧ i0.size = 1 ∧ i0.bytes = 1) := ⟨hi, hz0, hz1, hz2⟩
  clear hi hz0 hz1 hz2
  have HW : Hid (XW B w g v ys e F) := h
  have HC : Hid (∀ w, Calls Tryd.prog 64 #[.int .u64 (s.size : Int)] w fun e w' => ∃ g n cap, e = .returned (.slice (some ⟨g, 0, none⟩) n cap) ∧ Mine w' w.heap.size g n cap (enc s.size) ∧ Below w.heap.size w w') := fun w => by
    have := bytes_c (s.size : Int) (by omega) (by omega) w
    rw [Int.toNat_natCast] at this; exact this
  have HEL : Hid ((enc s.size).length ≤ 10) := by
    show _ ≤ _
    rw [enc_length _ (by omega)]
    exact (sz_bd _).2
  have HL : Hid (s.size ≤ 140737488355328 ∧ ys.length + s.size + 10 ≤ 140737488355328) := ⟨by omega, hb⟩
  obtain ⟨E, hE⟩ : ∃ E, E = wte s.size most := ⟨_, rfl⟩
  rw [← hE]
  have HF : Hid (∀ w v F, XW B w g v ys e F → Calls Tryd.prog 65 #[.pointer (some ⟨g, 0, none⟩), .int .i64 E] w fun r w' => r = .returned (.tuple #[]) ∧ XGoes B w g F w' ys (ferr e E)) := fun w v F h => xwfail_c B g v ys e E F w h
  obtain ⟨E1, hE1⟩ : ∃ E1, E1 = ferr e E := ⟨_, rfl⟩
  rw [← hE1] at HF ⊢
  have HLY : Hid (∀ w v F g1 n1 c1, XW B w g v ys E1 F → Seg .u8 w (some ⟨g1, 0, none⟩) n1 (enc s.size ++ sb s) → Calls Tryd.prog 99 #[.pointer (some ⟨g, 0, none⟩), .slice (some ⟨g1, 0, none⟩) n1 c1] w fun r w' => r = .returned (.tuple #[]) ∧ XGoes B w g F w' (wadd E1 ys (enc s.size ++ sb s)) E1) := by
    intro w v F g1 n1 c1 h hsg
    have hln : n1 ≤ s.size + 10 := by
      have := hsg.1
      rw [List.length_append, sb_length] at this
      have := HEL.out; omega
    refine xlay_c B g v ys E1 F _ n1 c1 _ w h hsg ?_ (fun h => by cases h) (by omega)
    apply bytes_of_mem
    intro c hc
    rcases List.mem_append.1 hc with hc | hc
    · exact enc_bytes _ c hc
    · obtain ⟨u, _, rfl⟩ := List.mem_map.1 hc
      have := u.toNat_lt; omega
  obtain ⟨Y1, hY1⟩ : ∃ Y1, Y1 = wadd E1 ys (enc s.size ++ sb s) := ⟨_, rfl⟩
  rw [← hY1] at HLY ⊢
  have HE0 : Hid (E = 0 → E1 = e) := fun h => by rw [hE1, h, ferr_zero]
  obtain ⟨S, hS⟩ : ∃ S, S = s.size := ⟨_, rfl⟩
  have hsS : s.size = S := hS.symm
  have hSb : S ≤ 1125899906842 := by omega
  rw [hsS] at HC HEL HLY HL hE
  clear h hb hE1 hY1 hS hs
  by_cases h0 : most < 0
  · obtain rfl : E = 1 := by rw [hE, wte, if_pos h0]
    clear hE HE0
    go_enter Tryd.func66, Tryd.ntmps66
    go_wp2_with fail
    refine (HF.out w v F HW.out).mono ?_
    rintro r w1 ⟨rfl, v1, F1, hw1⟩
    have H1 : Hid (XStep B w g F w1 v1 ys E1 F1) := hw1
    clear hw1
    go_wp2_with fail
    refine (HC.out w1).mono ?_
    rintro r w2 ⟨g1, n1, c1, rfl, hm, hbl⟩
    have H2 : Hid (Mine w2 w1.heap.size g1 n1 c1 (enc S) ∧ Below w1.heap.size w1 w2) := ⟨hm, hbl⟩
    obtain ⟨W3, C, hcv, hM3, hB3⟩ := str_bytes s w2 (by rw [hsS]; exact HL.out.1)
    rw [hsS] at hcv hM3
    have H3 : Hid (Mine W3 w2.heap.size w2.heap.size S C (sb s) ∧ Below w2.heap.size w2 W3) := ⟨hM3, hB3⟩
    have H4 : Hid (Mine W3 w1.heap.size g1 n1 c1 (enc S)) := H2.out.1.later H3.out.2
    have HN : Hid (n1 + S ≤ 140737488355328) := by
      have := HL.out; have := HEL.out; have := H2.out.1.len; show _ ≤ _; omega
    clear hm hbl hM3 hB3
    go_wp2_with (at_builtin; go_must (refine wpList_append_mine _ rfl (.tmp 20) (.tmp 22) 27 rfl 5 i0 Tryd.underlying27 HI.out.1 HI.out.2.1 HI.out.2.2.1 HI.out.2.2.2 w1.heap.size g1 n1 c1 (enc S) rfl H4.out (some ⟨w2.heap.size, 0, none⟩) S C (sb s) rfl (fun h => by cases h) H3.out.1.seg HN.out ?_); intro b' cap' w4 hm4 hb4; have H5 : Hid (Seg .u8 w4 (some ⟨b', 0, none⟩) (n1 + S) (enc S ++ sb s) ∧ w1.grownBy w4 none) := ⟨hm4.seg, grownBy_below (H2.out.2.trans ((H3.out.2.mono H2.out.2.size).trans hb4)) _⟩; clear hm4 hb4)
    refine (HLY.out w4 v1 F1 b' (n1 + S) cap' (H1.out.1.new H5.out.2) H5.out.1).mono ?_
    rintro r w5 ⟨rfl, h5⟩
    have H6 : Hid (XGoes B w g F w5 Y1 E1) := H1.out.seq (XGoes.pre H5.out.2 h5)
    clear h5
    go_wp2
    go_end0
    exact ⟨rfl, H6.out⟩
  · by_cases h1 : most < (S : Int)
    · obtain rfl : E = 31 := by rw [hE, wte, if_neg h0, if_pos h1]
      clear hE HE0
      go_enter Tryd.func66, Tryd.ntmps66
      go_wp2_with fail
      refine (HF.out w v F HW.out).mono ?_
      rintro r w1 ⟨rfl, v1, F1, hw1⟩
      have H1 : Hid (XStep B w g F w1 v1 ys E1 F1) := hw1
      clear hw1
      go_wp2_with fail
      refine (HC.out w1).mono ?_
      rintro r w2 ⟨g1, n1, c1, rfl, hm, hbl⟩
      have H2 : Hid (Mine w2 w1.heap.size g1 n1 c1 (enc S) ∧ Below w1.heap.size w1 w2) := ⟨hm, hbl⟩
      obtain ⟨W3, C, hcv, hM3, hB3⟩ := str_bytes s w2 (by rw [hsS]; exact HL.out.1)
      rw [hsS] at hcv hM3
      have H3 : Hid (Mine W3 w2.heap.size w2.heap.size S C (sb s) ∧ Below w2.heap.size w2 W3) := ⟨hM3, hB3⟩
      have H4 : Hid (Mine W3 w1.heap.size g1 n1 c1 (enc S)) := H2.out.1.later H3.out.2
      have HN : Hid (n1 + S ≤ 140737488355328) := by
        have := HL.out; have := HEL.out; have := H2.out.1.len; show _ ≤ _; omega
      clear hm hbl hM3 hB3
      go_wp2_with (at_builtin; go_must (refine wpList_append_mine _ rfl (.tmp 20) (.tmp 22) 27 rfl 5 i0 Tryd.underlying27 HI.out.1 HI.out.2.1 HI.out.2.2.1 HI.out.2.2.2 w1.heap.size g1 n1 c1 (enc S) rfl H4.out (some ⟨w2.heap.size, 0, none⟩) S C (sb s) rfl (fun h => by cases h) H3.out.1.seg HN.out ?_); intro b' cap' w4 hm4 hb4; have H5 : Hid (Seg .u8 w4 (some ⟨b', 0, none⟩) (n1 + S) (enc S ++ sb s) ∧ w1.grownBy w4 none) := ⟨hm4.seg, grownBy_below (H2.out.2.trans ((H3.out.2.mono H2.out.2.size).trans hb4)) _⟩; clear hm4 hb4)
      refine (HLY.out w4 v1 F1 b' (n1 + S) cap' (H1.out.1.new H5.out.2) H5.out.1).mono ?_
      rintro r w5 ⟨rfl, h5⟩
      have H6 : Hid (XGoes B w g F w5 Y1 E1) := H1.out.seq (XGoes.pre H5.out.2 h5)
      clear h5
      go_wp2
      go_end0
      exact ⟨rfl, H6.out⟩
    · obtain rfl : E = 0 := by rw [hE, wte, if_neg h0, if_neg h1]
      obtain rfl := HE0.out rfl
      clear hE HE0
      go_enter Tryd.func66, Tryd.ntmps66
      go_wp2_with fail
      refine (HC.out w).mono ?_
      rintro r w2 ⟨g1, n1, c1, rfl, hm, hbl⟩
      have H2 : Hid (Mine w2 w.heap.size g1 n1 c1 (enc S) ∧ Below w.heap.size w w2) := ⟨hm, hbl⟩
      obtain ⟨W3, C, hcv, hM3, hB3⟩ := str_bytes s w2 (by rw [hsS]; exact HL.out.1)
      rw [hsS] at hcv hM3
      have H3 : Hid (Mine W3 w2.heap.size w2.heap.size S C (sb s) ∧ Below w2.heap.size w2 W3) := ⟨hM3, hB3⟩
      have H4 : Hid (Mine W3 w.heap.size g1 n1 c1 (enc S)) := H2.out.1.later H3.out.2
      have HN : Hid (n1 + S ≤ 140737488355328) := by
        have := HL.out; have := HEL.out; have := H2.out.1.len; show _ ≤ _; omega
      clear hm hbl hM3 hB3
      go_wp2_with (at_builtin; go_must (refine wpList_append_mine _ rfl (.tmp 20) (.tmp 22) 27 rfl 5 i0 Tryd.underlying27 HI.out.1 HI.out.2.1 HI.out.2.2.1 HI.out.2.2.2 w.heap.size g1 n1 c1 (enc S) rfl H4.out (some ⟨w2.heap.size, 0, none⟩) S C (sb s) rfl (fun h => by cases h) H3.out.1.seg HN.out ?_); intro b' cap' w4 hm4 hb4; have H5 : Hid (Seg .u8 w4 (some ⟨b', 0, none⟩) (n1 + S) (enc S ++ sb s) ∧ w.grownBy w4 none) := ⟨hm4.seg, grownBy_below (H2.out.2.trans ((H3.out.2.mono H2.out.2.size).trans hb4)) _⟩; clear hm4 hb4)
      refine (HLY.out w4 v F b' (n1 + S) cap' (HW.out.new H5.out.2) H5.out.1).mono ?_
      rintro r w5 ⟨rfl, h5⟩
      have H6 : Hid (XGoes B w g F w5 Y1 E1) := XGoes.pre H5.out.2 h5
      clear h5
      go_wp2
      go_end0
      exact ⟨rfl, H6.out⟩
end Go.Proofs.YtcdgfghcmeadgaaDoor
namespace Go.Proofs.YtcdgfghcmeadgaaDoor
open Go.RowKit
set_option linter.unusedVariables false

theorem wadd_take (e : Int) (ys ds : List Int) (k : Nat) (hk : k < ds.length) : wadd e (wadd e ys (ds.take k)) [ds[k]?.getD 0] = wadd e ys (ds.take (k + 1)) := by
  unfold wadd
  split
  · rw [List.append_assoc, take_snoc ds k hk]
  · rfl
theorem wadd_len (e : Int) (ys zs : List Int) : (wadd e ys zs).length ≤ ys.length + zs.length := by
  unfold wadd; split <;> simp

end Go.Proofs.YtcdgfghcmeadgaaDoor
namespace Go.Proofs.YtcdgfghcmeadgaaDoor
open Go.RowKit
set_option linter.unusedVariables false

/-- The error of a row that may not be. -/
def wre (key val : ByteArray) (ver : Int) : Int := if key.size = 0 ∨ ver < 1 then 32 else if 1024 < key.size ∨ 65536 < val.size ∨ 1152921504606846976 < ver then 31 else 0
/-- A row's bytes. -/
def rowB (key val : ByteArray) (ver : Int) : List Int := (enc key.size ++ sb key) ++ ((enc val.size ++ sb val) ++ enc ver.toNat)
theorem ferr_keep {e x : Int} (h : e ≠ 0 ∨ x = 0) : ferr e x = e := by
  unfold ferr; split
  · rcases h with h | h
    · contradiction
    · omega
  · rfl
theorem wadd_wadd (e : Int) (ys a b : List Int) : wadd e (wadd e ys a) b = wadd e ys (a ++ b) := by
  unfold wadd; split
  · rw [List.append_assoc]
  · rfl
theorem XStep.step {B w g F w1 v1 ys1 e1 F1 w2 v2 ys2 e2 F2} (h : XStep B w g F w1 v1 ys1 e1 F1) (k : XStep B w1 g F1 w2 v2 ys2 e2 F2) : XStep B w g F w2 v2 ys2 e2 F2 := by
  obtain ⟨v3, F3, x3⟩ := h.seq ⟨v2, F2, k⟩
  refine ⟨k.1, x3.2.1, ?_⟩
  rcases k.2.2 with rfl | ⟨j, rfl, hj⟩
  · exact h.2.2
  · exact .inr ⟨j, rfl, Nat.le_trans h.2.1.size hj⟩
theorem XStep.pre {B w w0 g F w1 v1 ys1 e1 F1} (hg : w0.grownBy w none) (h : XStep B w g F w1 v1 ys1 e1 F1) : XStep B w0 g F w1 v1 ys1 e1 F1 := by
  refine ⟨h.1, (Gr.of hg (by simp)).trans h.2.1, ?_⟩
  rcases h.2.2 with f1 | ⟨k, f1, hk⟩
  · exact .inl f1
  · exact .inr ⟨k, f1, Nat.le_trans hg.size hk⟩
theorem notNew {F F' : Option Nat} {n N : Nat} (h : F' = F ∨ ∃ k, F' = some k ∧ n ≤ k) (h1 : F ≠ some N) (h2 : N < n) : F' ≠ some N := by
  rcases h with rfl | ⟨k, rfl, hk⟩
  · exact h1
  · intro e; cases e; omega
theorem key_empty (key : ByteArray) : key.toList.isEmpty = decide (key.size = 0) := by
  rw [ByteArray.toList_eq]
  have : key.size = key.data.toList.length := rfl
  rw [this]
  cases key.data.toList <;> simp

set_option maxRecDepth 20000 in
set_option maxHeartbeats 1000000 in
theorem xwrow_c (B g : Nat) (v : Value) (ys : List Int) (e : Int) (key val : ByteArray) (ver : Int) (F : Option Nat) (w : World) (h : XW B w g v ys e F) (hk : key.size ≤ 1125899906842) (hv : val.size ≤ 1125899906842) (hn : ver ≤ 9223372036854775807) (hn0 : -9223372036854775808 ≤ ver)
    (hb : ys.length + key.size + val.size + 40 ≤ 140737488355328) :
    Calls Tryd.prog 35 #[.pointer (some ⟨g, 0, none⟩), .agg #[.string key, .string val, .int .i64 ver]] w fun r w' => r = .returned (.tuple #[]) ∧ XGoes B w g F w' (wadd (ferr e (wre key val ver)) ys (rowB key val ver)) (ferr e (wre key val ver)) := by
  have HW : Hid (XW B w g v ys e F) := h
  obtain ⟨E, hE⟩ : ∃ E, E = wre key val ver := ⟨_, rfl⟩
  rw [← hE]
  obtain ⟨E1, hE1⟩ : ∃ E1, E1 = ferr e E := ⟨_, rfl⟩
  have HF : Hid (∀ w v F, XW B w g v ys e F → Calls Tryd.prog 65 #[.pointer (some ⟨g, 0, none⟩), .int .i64 E] w fun r w' => r = .returned (.tuple #[]) ∧ XGoes B w g F w' ys (ferr e E)) := fun w v F h => xwfail_c B g v ys e E F w h
  rw [← hE1] at HF ⊢
  have hE1' : E1 ≠ 0 ∨ E = 0 := by
    by_cases h0 : E = 0
    · exact .inr h0
    · left; rw [hE1]; unfold ferr; split <;> assumption
  have hek : (enc key.size).length ≤ 10 := by rw [enc_length _ (by omega)]; exact (sz_bd _).2
  have hev : (enc val.size).length ≤ 10 := by rw [enc_length _ (by omega)]; exact (sz_bd _).2
  have hsk := sb_length key
  have hsv := sb_length val
  have l1 := wadd_len E1 ys (enc key.size ++ sb key)
  have l2 := wadd_len E1 (wadd E1 ys (enc key.size ++ sb key)) (enc val.size ++ sb val)
  rw [List.length_append] at l1 l2
  have k1 : ferr E1 (wte key.size 1024) = E1 := ferr_keep (hE1'.imp id (fun h0 => by
    rw [hE] at h0; unfold wre at h0; unfold wte
    split at h0
    · omega
    · split at h0
      · omega
      · rw [if_neg (by omega), if_neg (by omega)]))
  have k2 : ferr E1 (wte val.size 65536) = E1 := ferr_keep (hE1'.imp id (fun h0 => by
    rw [hE] at h0; unfold wre at h0; unfold wte
    split at h0
    · omega
    · split at h0
      · omega
      · rw [if_neg (by omega), if_neg (by omega)]))
  have hver : E = 0 → 0 ≤ ver := fun h0 => by
    rw [hE] at h0; unfold wre at h0
    split at h0 <;> omega
  have HT1 : Hid (∀ w v F, XW B w g v ys E1 F → Calls Tryd.prog 66 #[.pointer (some ⟨g, 0, none⟩), .string key, .int .i64 1024] w fun r w' => r = .returned (.tuple #[]) ∧ XGoes B w g F w' (wadd E1 ys (enc key.size ++ sb key)) E1) := fun w v F h => by
    have := xwtext_c B g v ys E1 key 1024 F w h hk (by omega)
    rw [k1] at this; exact this
  have HT2 : Hid (∀ w v F, XW B w g v (wadd E1 ys (enc key.size ++ sb key)) E1 F → Calls Tryd.prog 66 #[.pointer (some ⟨g, 0, none⟩), .string val, .int .i64 65536] w fun r w' => r = .returned (.tuple #[]) ∧ XGoes B w g F w' (wadd E1 (wadd E1 ys (enc key.size ++ sb key)) (enc val.size ++ sb val)) E1) := fun w v F h => by
    have := xwtext_c B g v _ E1 val 65536 F w h hv (by omega)
    rw [k2] at this; exact this
  have HT3 : Hid (∀ w v F V, XW B w g v (wadd E1 (wadd E1 ys (enc key.size ++ sb key)) (enc val.size ++ sb val)) E1 F → V = IntKind.u64.wrap ver ∨ V = ver ∧ 0 ≤ ver → Calls Tryd.prog 67 #[.pointer (some ⟨g, 0, none⟩), .int .u64 V] w fun r w' => r = .returned (.tuple #[]) ∧ XGoes B w g F w' (wadd E1 ys (rowB key val ver)) E1) := fun w v F V h hV => by
    have hVb : 0 ≤ V ∧ V < 18446744073709551616 := by
      rcases hV with rfl | ⟨rfl, _⟩
      · exact wrap_u64_bd ver
      · omega
    refine (xwuint_c B g v _ E1 V F w h hVb.1 hVb.2 (by omega)).mono (fun _ _ ⟨a, b⟩ => ⟨a, ?_⟩)
    rw [wadd_wadd, wadd_wadd] at b
    unfold rowB
    rcases hE1' with h1 | h1
    · rw [wadd_err h1] at b ⊢; exact b
    · have : V = ver := by
        rcases hV with rfl | ⟨rfl, _⟩
        · rw [IntKind.wrap_u64]; have := hver h1; omega
        · rfl
      rw [this] at b; exact b
  obtain ⟨Y1, hY1⟩ : ∃ Y1, Y1 = wadd E1 ys (enc key.size ++ sb key) := ⟨_, rfl⟩
  obtain ⟨Y2, hY2⟩ : ∃ Y2, Y2 = wadd E1 Y1 (enc val.size ++ sb val) := ⟨_, rfl⟩
  obtain ⟨Y3, hY3⟩ : ∃ Y3, Y3 = wadd E1 ys (rowB key val ver) := ⟨_, rfl⟩
  rw [← hY1] at HT1 HT2 HT3
  rw [← hY2] at HT2 HT3
  rw [← hY3] at HT3 ⊢
  have HE0 : Hid (E = 0 → E1 = e) := fun h => by rw [hE1, h, ferr_zero]
  obtain ⟨N, hN⟩ : ∃ N, N = w.heap.size := ⟨_, rfl⟩
  have HN : Hid (N ≠ g) := by have := lt_of_block h.blk; show _ ≠ _; omega
  have HNF : Hid (F ≠ some N) := by
    intro hF
    have h1 := h.own.lo N (by rw [h.fb]; exact hF)
    omega
  have hem := key_empty key
  obtain ⟨KZ, hKZ⟩ : ∃ KZ, KZ = key.size := ⟨_, rfl⟩
  obtain ⟨VZ, hVZ⟩ : ∃ VZ, VZ = val.size := ⟨_, rfl⟩
  have hks : key.size = KZ := hKZ.symm
  have hvs : val.size = VZ := hVZ.symm
  have hEE : E = if KZ = 0 ∨ ver < 1 then 32 else if 1024 < KZ ∨ 65536 < VZ ∨ 1152921504606846976 < ver then 31 else 0 := by rw [hE, wre, hks, hvs]
  have hkb : KZ ≤ 1125899906842 := by omega
  have hvb : VZ ≤ 1125899906842 := by omega
  rw [hks] at hem
  clear h hE1 hY1 hY2 hY3 hE hE1' hek hev hsk hsv l1 l2 k1 k2 hver hb hk hv hKZ hVZ
  by_cases hA : KZ = 0
  · obtain rfl : E = 32 := by rw [hEE, if_pos (.inl hA)]
    subst hA
    rw [decide_eq_true rfl] at hem
    clear hEE HE0
    go_enter Tryd.func35, Tryd.ntmps35
    go_wp2_with fail
    rw [← hN]
    generalize hW1 : World.alloc w _ = W1
    have HB0 : Hid (Bk 48 W1 N #[.string key, .string val, .int .i64 ver] ∧ w.grownBy W1 none) := by rw [← hW1, hN]; exact ⟨heap_new w _, World.grownBy_alloc _ _ _⟩
    clear hW1 hN
    refine (HF.out W1 v F (HW.out.new HB0.out.2)).mono ?_
    rintro r w1 ⟨rfl, v1, F1, hw1⟩
    have HX1 : Hid (XStep B w g F w1 v1 ys E1 F1 ∧ Bk 48 w1 N #[.string key, .string val, .int .i64 ver] ∧ F1 ≠ some N) :=
      ⟨XStep.pre HB0.out.2 hw1, HB0.out.1.gr hw1.2.1 (by rintro (h | h); exact HN.out h; exact HNF.out h), notNew hw1.2.2 HNF.out (lt_of_block HB0.out.1)⟩
    clear hw1
    have b0 := HX1.out.2.1.cell 0
    have b1 := HX1.out.2.1.cell 1
    have b2 := HX1.out.2.1.cell 2
    simp at b0 b1 b2
    go_wp2_with fail
    refine (HT1.out w1 v1 F1 HX1.out.1.1).mono ?_
    rintro r w3 ⟨rfl, v3, F3, hw3⟩
    have HX3 : Hid (XStep B w g F w3 v3 Y1 E1 F3 ∧ Bk 48 w3 N #[.string key, .string val, .int .i64 ver] ∧ F3 ≠ some N) :=
      ⟨HX1.out.1.step hw3, HX1.out.2.1.gr hw3.2.1 (by rintro (h | h); exact HN.out h; exact HX1.out.2.2 h), notNew hw3.2.2 HX1.out.2.2 (lt_of_block HX1.out.2.1)⟩
    clear hw3
    have d1 := HX3.out.2.1.cell 1
    simp at d1
    go_wp2_with fail
    refine (HT2.out w3 v3 F3 HX3.out.1.1).mono ?_
    rintro r w4 ⟨rfl, v4, F4, hw4⟩
    have HX4 : Hid (XStep B w g F w4 v4 Y2 E1 F4 ∧ Bk 48 w4 N #[.string key, .string val, .int .i64 ver] ∧ F4 ≠ some N) :=
      ⟨HX3.out.1.step hw4, HX3.out.2.1.gr hw4.2.1 (by rintro (h | h); exact HN.out h; exact HX3.out.2.2 h), notNew hw4.2.2 HX3.out.2.2 (lt_of_block HX3.out.2.1)⟩
    clear hw4
    have d2 := HX4.out.2.1.cell 2
    simp at d2
    go_wp2_with fail
    refine (HT3.out w4 v4 F4 _ HX4.out.1.1 (by first | exact .inl rfl | exact .inr ⟨rfl, by omega⟩)).mono ?_
    rintro r w5 ⟨rfl, h5⟩
    have H5 : Hid (XGoes B w g F w5 Y3 E1) := HX4.out.1.seq h5
    clear h5
    go_wp2
    go_end0
    exact ⟨rfl, H5.out⟩
  · have hem2 : key.toList.isEmpty = false := by rw [hem]; exact decide_eq_false hA
    clear hem
    by_cases hB : ver < 1
    · obtain rfl : E = 32 := by rw [hEE, if_pos (.inr hB)]
      clear hEE HE0
      go_enter Tryd.func35, Tryd.ntmps35
      go_wp2_with fail
      rw [← hN]
      generalize hW1 : World.alloc w _ = W1
      have HB0 : Hid (Bk 48 W1 N #[.string key, .string val, .int .i64 ver] ∧ w.grownBy W1 none) := by rw [← hW1, hN]; exact ⟨heap_new w _, World.grownBy_alloc _ _ _⟩
      clear hW1 hN
      refine (HF.out W1 v F (HW.out.new HB0.out.2)).mono ?_
      rintro r w1 ⟨rfl, v1, F1, hw1⟩
      have HX1 : Hid (XStep B w g F w1 v1 ys E1 F1 ∧ Bk 48 w1 N #[.string key, .string val, .int .i64 ver] ∧ F1 ≠ some N) :=
        ⟨XStep.pre HB0.out.2 hw1, HB0.out.1.gr hw1.2.1 (by rintro (h | h); exact HN.out h; exact HNF.out h), notNew hw1.2.2 HNF.out (lt_of_block HB0.out.1)⟩
      clear hw1
      have b0 := HX1.out.2.1.cell 0
      have b1 := HX1.out.2.1.cell 1
      have b2 := HX1.out.2.1.cell 2
      simp at b0 b1 b2
      go_wp2_with fail
      refine (HT1.out w1 v1 F1 HX1.out.1.1).mono ?_
      rintro r w3 ⟨rfl, v3, F3, hw3⟩
      have HX3 : Hid (XStep B w g F w3 v3 Y1 E1 F3 ∧ Bk 48 w3 N #[.string key, .string val, .int .i64 ver] ∧ F3 ≠ some N) :=
        ⟨HX1.out.1.step hw3, HX1.out.2.1.gr hw3.2.1 (by rintro (h | h); exact HN.out h; exact HX1.out.2.2 h), notNew hw3.2.2 HX1.out.2.2 (lt_of_block HX1.out.2.1)⟩
      clear hw3
      have d1 := HX3.out.2.1.cell 1
      simp at d1
      go_wp2_with fail
      refine (HT2.out w3 v3 F3 HX3.out.1.1).mono ?_
      rintro r w4 ⟨rfl, v4, F4, hw4⟩
      have HX4 : Hid (XStep B w g F w4 v4 Y2 E1 F4 ∧ Bk 48 w4 N #[.string key, .string val, .int .i64 ver] ∧ F4 ≠ some N) :=
        ⟨HX3.out.1.step hw4, HX3.out.2.1.gr hw4.2.1 (by rintro (h | h); exact HN.out h; exact HX3.out.2.2 h), notNew hw4.2.2 HX3.out.2.2 (lt_of_block HX3.out.2.1)⟩
      clear hw4
      have d2 := HX4.out.2.1.cell 2
      simp at d2
      go_wp2_with fail
      refine (HT3.out w4 v4 F4 _ HX4.out.1.1 (by first | exact .inl rfl | exact .inr ⟨rfl, by omega⟩)).mono ?_
      rintro r w5 ⟨rfl, h5⟩
      have H5 : Hid (XGoes B w g F w5 Y3 E1) := HX4.out.1.seq h5
      clear h5
      go_wp2
      go_end0
      exact ⟨rfl, H5.out⟩
    · have hE2 : E = if 1024 < KZ ∨ 65536 < VZ ∨ 1152921504606846976 < ver then 31 else 0 := by rw [hEE, if_neg (by omega)]
      clear hEE
      by_cases hC1 : 1024 < KZ
      · obtain rfl : E = 31 := by rw [hE2, if_pos (.inl hC1)]
        clear hE2 HE0
        go_enter Tryd.func35, Tryd.ntmps35
        go_wp2_with fail
        rw [← hN]
        generalize hW1 : World.alloc w _ = W1
        have HB0 : Hid (Bk 48 W1 N #[.string key, .string val, .int .i64 ver] ∧ w.grownBy W1 none) := by rw [← hW1, hN]; exact ⟨heap_new w _, World.grownBy_alloc _ _ _⟩
        clear hW1 hN
        refine (HF.out W1 v F (HW.out.new HB0.out.2)).mono ?_
        rintro r w1 ⟨rfl, v1, F1, hw1⟩
        have HX1 : Hid (XStep B w g F w1 v1 ys E1 F1 ∧ Bk 48 w1 N #[.string key, .string val, .int .i64 ver] ∧ F1 ≠ some N) :=
          ⟨XStep.pre HB0.out.2 hw1, HB0.out.1.gr hw1.2.1 (by rintro (h | h); exact HN.out h; exact HNF.out h), notNew hw1.2.2 HNF.out (lt_of_block HB0.out.1)⟩
        clear hw1
        have b0 := HX1.out.2.1.cell 0
        have b1 := HX1.out.2.1.cell 1
        have b2 := HX1.out.2.1.cell 2
        simp at b0 b1 b2
        go_wp2_with fail
        refine (HT1.out w1 v1 F1 HX1.out.1.1).mono ?_
        rintro r w3 ⟨rfl, v3, F3, hw3⟩
        have HX3 : Hid (XStep B w g F w3 v3 Y1 E1 F3 ∧ Bk 48 w3 N #[.string key, .string val, .int .i64 ver] ∧ F3 ≠ some N) :=
          ⟨HX1.out.1.step hw3, HX1.out.2.1.gr hw3.2.1 (by rintro (h | h); exact HN.out h; exact HX1.out.2.2 h), notNew hw3.2.2 HX1.out.2.2 (lt_of_block HX1.out.2.1)⟩
        clear hw3
        have d1 := HX3.out.2.1.cell 1
        simp at d1
        go_wp2_with fail
        refine (HT2.out w3 v3 F3 HX3.out.1.1).mono ?_
        rintro r w4 ⟨rfl, v4, F4, hw4⟩
        have HX4 : Hid (XStep B w g F w4 v4 Y2 E1 F4 ∧ Bk 48 w4 N #[.string key, .string val, .int .i64 ver] ∧ F4 ≠ some N) :=
          ⟨HX3.out.1.step hw4, HX3.out.2.1.gr hw4.2.1 (by rintro (h | h); exact HN.out h; exact HX3.out.2.2 h), notNew hw4.2.2 HX3.out.2.2 (lt_of_block HX3.out.2.1)⟩
        clear hw4
        have d2 := HX4.out.2.1.cell 2
        simp at d2
        go_wp2_with fail
        refine (HT3.out w4 v4 F4 _ HX4.out.1.1 (by first | exact .inl rfl | exact .inr ⟨rfl, by omega⟩)).mono ?_
        rintro r w5 ⟨rfl, h5⟩
        have H5 : Hid (XGoes B w g F w5 Y3 E1) := HX4.out.1.seq h5
        clear h5
        go_wp2
        go_end0
        exact ⟨rfl, H5.out⟩
      · by_cases hC2 : 65536 < VZ
        · obtain rfl : E = 31 := by rw [hE2, if_pos (.inr (.inl hC2))]
          clear hE2 HE0
          go_enter Tryd.func35, Tryd.ntmps35
          go_wp2_with fail
          rw [← hN]
          generalize hW1 : World.alloc w _ = W1
          have HB0 : Hid (Bk 48 W1 N #[.string key, .string val, .int .i64 ver] ∧ w.grownBy W1 none) := by rw [← hW1, hN]; exact ⟨heap_new w _, World.grownBy_alloc _ _ _⟩
          clear hW1 hN
          refine (HF.out W1 v F (HW.out.new HB0.out.2)).mono ?_
          rintro r w1 ⟨rfl, v1, F1, hw1⟩
          have HX1 : Hid (XStep B w g F w1 v1 ys E1 F1 ∧ Bk 48 w1 N #[.string key, .string val, .int .i64 ver] ∧ F1 ≠ some N) :=
            ⟨XStep.pre HB0.out.2 hw1, HB0.out.1.gr hw1.2.1 (by rintro (h | h); exact HN.out h; exact HNF.out h), notNew hw1.2.2 HNF.out (lt_of_block HB0.out.1)⟩
          clear hw1
          have b0 := HX1.out.2.1.cell 0
          have b1 := HX1.out.2.1.cell 1
          have b2 := HX1.out.2.1.cell 2
          simp at b0 b1 b2
          go_wp2_with fail
          refine (HT1.out w1 v1 F1 HX1.out.1.1).mono ?_
          rintro r w3 ⟨rfl, v3, F3, hw3⟩
          have HX3 : Hid (XStep B w g F w3 v3 Y1 E1 F3 ∧ Bk 48 w3 N #[.string key, .string val, .int .i64 ver] ∧ F3 ≠ some N) :=
            ⟨HX1.out.1.step hw3, HX1.out.2.1.gr hw3.2.1 (by rintro (h | h); exact HN.out h; exact HX1.out.2.2 h), notNew hw3.2.2 HX1.out.2.2 (lt_of_block HX1.out.2.1)⟩
          clear hw3
          have d1 := HX3.out.2.1.cell 1
          simp at d1
          go_wp2_with fail
          refine (HT2.out w3 v3 F3 HX3.out.1.1).mono ?_
          rintro r w4 ⟨rfl, v4, F4, hw4⟩
          have HX4 : Hid (XStep B w g F w4 v4 Y2 E1 F4 ∧ Bk 48 w4 N #[.string key, .string val, .int .i64 ver] ∧ F4 ≠ some N) :=
            ⟨HX3.out.1.step hw4, HX3.out.2.1.gr hw4.2.1 (by rintro (h | h); exact HN.out h; exact HX3.out.2.2 h), notNew hw4.2.2 HX3.out.2.2 (lt_of_block HX3.out.2.1)⟩
          clear hw4
          have d2 := HX4.out.2.1.cell 2
          simp at d2
          go_wp2_with fail
          refine (HT3.out w4 v4 F4 _ HX4.out.1.1 (by first | exact .inl rfl | exact .inr ⟨rfl, by omega⟩)).mono ?_
          rintro r w5 ⟨rfl, h5⟩
          have H5 : Hid (XGoes B w g F w5 Y3 E1) := HX4.out.1.seq h5
          clear h5
          go_wp2
          go_end0
          exact ⟨rfl, H5.out⟩
        · by_cases hC3 : 1152921504606846976 < ver
          · obtain rfl : E = 31 := by rw [hE2, if_pos (.inr (.inr hC3))]
            clear hE2 HE0
            go_enter Tryd.func35, Tryd.ntmps35
            go_wp2_with fail
            rw [← hN]
            generalize hW1 : World.alloc w _ = W1
            have HB0 : Hid (Bk 48 W1 N #[.string key, .string val, .int .i64 ver] ∧ w.grownBy W1 none) := by rw [← hW1, hN]; exact ⟨heap_new w _, World.grownBy_alloc _ _ _⟩
            clear hW1 hN
            refine (HF.out W1 v F (HW.out.new HB0.out.2)).mono ?_
            rintro r w1 ⟨rfl, v1, F1, hw1⟩
            have HX1 : Hid (XStep B w g F w1 v1 ys E1 F1 ∧ Bk 48 w1 N #[.string key, .string val, .int .i64 ver] ∧ F1 ≠ some N) :=
              ⟨XStep.pre HB0.out.2 hw1, HB0.out.1.gr hw1.2.1 (by rintro (h | h); exact HN.out h; exact HNF.out h), notNew hw1.2.2 HNF.out (lt_of_block HB0.out.1)⟩
            clear hw1
            have b0 := HX1.out.2.1.cell 0
            have b1 := HX1.out.2.1.cell 1
            have b2 := HX1.out.2.1.cell 2
            simp at b0 b1 b2
            go_wp2_with fail
            refine (HT1.out w1 v1 F1 HX1.out.1.1).mono ?_
            rintro r w3 ⟨rfl, v3, F3, hw3⟩
            have HX3 : Hid (XStep B w g F w3 v3 Y1 E1 F3 ∧ Bk 48 w3 N #[.string key, .string val, .int .i64 ver] ∧ F3 ≠ some N) :=
              ⟨HX1.out.1.step hw3, HX1.out.2.1.gr hw3.2.1 (by rintro (h | h); exact HN.out h; exact HX1.out.2.2 h), notNew hw3.2.2 HX1.out.2.2 (lt_of_block HX1.out.2.1)⟩
            clear hw3
            have d1 := HX3.out.2.1.cell 1
            simp at d1
            go_wp2_with fail
            refine (HT2.out w3 v3 F3 HX3.out.1.1).mono ?_
            rintro r w4 ⟨rfl, v4, F4, hw4⟩
            have HX4 : Hid (XStep B w g F w4 v4 Y2 E1 F4 ∧ Bk 48 w4 N #[.string key, .string val, .int .i64 ver] ∧ F4 ≠ some N) :=
              ⟨HX3.out.1.step hw4, HX3.out.2.1.gr hw4.2.1 (by rintro (h | h); exact HN.out h; exact HX3.out.2.2 h), notNew hw4.2.2 HX3.out.2.2 (lt_of_block HX3.out.2.1)⟩
            clear hw4
            have d2 := HX4.out.2.1.cell 2
            simp at d2
            go_wp2_with fail
            refine (HT3.out w4 v4 F4 _ HX4.out.1.1 (by first | exact .inl rfl | exact .inr ⟨rfl, by omega⟩)).mono ?_
            rintro r w5 ⟨rfl, h5⟩
            have H5 : Hid (XGoes B w g F w5 Y3 E1) := HX4.out.1.seq h5
            clear h5
            go_wp2
            go_end0
            exact ⟨rfl, H5.out⟩
          · obtain rfl : E = 0 := by rw [hE2, if_neg (by omega)]
            obtain rfl := HE0.out rfl
            clear hE2 HE0
            go_enter Tryd.func35, Tryd.ntmps35
            go_wp2_with fail
            rw [← hN]
            generalize hW1 : World.alloc w _ = W1
            have HB0 : Hid (Bk 48 W1 N #[.string key, .string val, .int .i64 ver] ∧ w.grownBy W1 none) := by rw [← hW1, hN]; exact ⟨heap_new w _, World.grownBy_alloc _ _ _⟩
            clear hW1 hN
            have HX1 : Hid (XStep B w g F W1 v ys E1 F ∧ Bk 48 W1 N #[.string key, .string val, .int .i64 ver] ∧ F ≠ some N) :=
              ⟨⟨HW.out.new HB0.out.2, Gr.of HB0.out.2 (by simp), .inl rfl⟩, HB0.out.1, HNF.out⟩
            refine (HT1.out W1 v F HX1.out.1.1).mono ?_
            rintro r w3 ⟨rfl, v3, F3, hw3⟩
            have HX3 : Hid (XStep B w g F w3 v3 Y1 E1 F3 ∧ Bk 48 w3 N #[.string key, .string val, .int .i64 ver] ∧ F3 ≠ some N) :=
              ⟨HX1.out.1.step hw3, HX1.out.2.1.gr hw3.2.1 (by rintro (h | h); exact HN.out h; exact HX1.out.2.2 h), notNew hw3.2.2 HX1.out.2.2 (lt_of_block HX1.out.2.1)⟩
            clear hw3
            have d1 := HX3.out.2.1.cell 1
            simp at d1
            go_wp2_with fail
            refine (HT2.out w3 v3 F3 HX3.out.1.1).mono ?_
            rintro r w4 ⟨rfl, v4, F4, hw4⟩
            have HX4 : Hid (XStep B w g F w4 v4 Y2 E1 F4 ∧ Bk 48 w4 N #[.string key, .string val, .int .i64 ver] ∧ F4 ≠ some N) :=
              ⟨HX3.out.1.step hw4, HX3.out.2.1.gr hw4.2.1 (by rintro (h | h); exact HN.out h; exact HX3.out.2.2 h), notNew hw4.2.2 HX3.out.2.2 (lt_of_block HX3.out.2.1)⟩
            clear hw4
            have d2 := HX4.out.2.1.cell 2
            simp at d2
            go_wp2_with fail
            refine (HT3.out w4 v4 F4 _ HX4.out.1.1 (by first | exact .inl rfl | exact .inr ⟨rfl, by omega⟩)).mono ?_
            rintro r w5 ⟨rfl, h5⟩
            have H5 : Hid (XGoes B w g F w5 Y3 E1) := HX4.out.1.seq h5
            clear h5
            go_wp2
            go_end0
            exact ⟨rfl, H5.out⟩
end Go.Proofs.YtcdgfghcmeadgaaDoor
namespace Go.Proofs.YtcdgfghcmeadgaaDoor
open Go.RowKit
set_option linter.unusedVariables false

/-- One step of a Writer beside a row that came in. -/
def WBeside (w : World) (g : Nat) (fs : List Nat) (N : Nat) (cs : Array Value) (w' : World) (ys' : List Int) (e' : Int) : Prop :=
  ∃ fs', WS w' g ys' e' fs' ∧ Gr (fun k => k = g) w w' ∧ (∀ k ∈ fs', k ∈ fs ∨ w.heap.size ≤ k) ∧ Bk 48 w' N cs ∧ N ≠ g
theorem WBeside.next {w g fs N cs w1 ys1 e1} (h : WBeside w g fs N cs w1 ys1 e1) : ∃ f1, WS w1 g ys1 e1 f1 ∧ ∀ w2 ys2 e2, WGoes w1 g f1 w2 ys2 e2 → WBeside w g fs N cs w2 ys2 e2 := by
  obtain ⟨f1, h1, g1, l1, b1, n1⟩ := h
  refine ⟨f1, h1, fun w2 ys2 e2 k => ?_⟩
  obtain ⟨f2, h2, g2, l2⟩ := k
  refine ⟨f2, h2, g1.trans g2, fun j hj => ?_, b1.gr g2 n1, n1⟩
  rcases l2 j hj with h | h
  · exact l1 j h
  · exact .inr (Nat.le_trans g1.size h)
theorem WBeside.cells {w g fs N w1 ys1 e1} {a b c : Value} {cs : Array Value} (h : WBeside w g fs N cs w1 ys1 e1) (hc : cs = #[a, b, c]) : w1.cell? ⟨N, 0, none⟩ = some a ∧ w1.cell? ⟨N, 1, none⟩ = some b ∧ w1.cell? ⟨N, 2, none⟩ = some c ∧ w1.cell? ⟨g, 0, none⟩ = some (.int .i64 e1) := by
  subst hc
  obtain ⟨f1, h1, _, _, b1, _⟩ := h
  exact ⟨by rw [b1.cell 0]; rfl, by rw [b1.cell 1]; rfl, by rw [b1.cell 2]; rfl, h1.c0⟩
theorem WBeside.goes {w g fs N cs w1 ys1 e1} (h : WBeside w g fs N cs w1 ys1 e1) : WGoes w g fs w1 ys1 e1 := by
  obtain ⟨f1, h1, g1, l1, _⟩ := h
  exact ⟨f1, h1, g1, l1⟩
theorem WBeside.drew {w g fs N cs w1 ys1 e1} (h : WBeside w g fs N cs w1 ys1 e1) : WBeside w g fs N cs w1.drew ys1 e1 := by
  obtain ⟨f1, h1, nx⟩ := h.next
  exact nx _ _ _ (h1.stay.then (fun f h => (h.new (gb_drewN (World.grownBy.refl _ _) 1)).stay.pre (gb_drewN (World.grownBy.refl _ _) 1)))
theorem WBeside.start {w g fs ys e} (h : WS w g ys e fs) (cs : Array Value) : WBeside w g fs w.heap.size cs (w.alloc (.cells cs 48)) ys e :=
  ⟨fs, h.new (World.grownBy_alloc _ _ _), Gr.of (World.grownBy_alloc _ _ none) (by simp), fun k hk => .inl hk, heap_new w _, by have := h.lt; omega⟩

end Go.Proofs.YtcdgfghcmeadgaaDoor
namespace Go.Proofs.YtcdgfghcmeadgaaDoor
open Go.RowKit
set_option linter.unusedVariables false

set_option maxRecDepth 20000 in
set_option maxHeartbeats 20000000 in
theorem wrow_c (g : Nat) (ys : List Int) (e : Int) (key val : ByteArray) (ver : Int) (fs : List Nat) (w : World) (h : WS w g ys e fs) (hk : key.size ≤ 1125899906842) (hv : val.size ≤ 1125899906842) (hn : ver ≤ 9223372036854775807)
    (hb : ys.length + key.size + val.size + 40 ≤ 140737488355328) :
    Calls Tryd.prog 40 #[.pointer (some ⟨g, 0, none⟩), .agg #[.string key, .string val, .int .i64 ver]] w fun r w' => r = .returned (.tuple #[]) ∧ WGoes w g fs w' (wadd (ferr e (wre key val ver)) ys (rowB key val ver)) (ferr e (wre key val ver)) := by
  have HW : Hid (WS w g ys e fs) := h
  have HR : Hid (∀ w, w.cell? ⟨g, 0, none⟩ = some (.int .i64 e) → Calls Tryd.prog 71 #[.pointer (some ⟨g, 0, none⟩)] w fun r w' => r = .returned (.bool (e == 0)) ∧ w' = w) := fun w h => wready_c g e w h
  obtain ⟨N, hN⟩ : ∃ N, N = w.heap.size := ⟨_, rfl⟩
  by_cases he : e = 0
  · subst he
    obtain ⟨CS, hCS⟩ : ∃ CS : Array Value, CS = #[.string key, .string val, .int .i64 ver] := ⟨_, rfl⟩
    have HM1 : Hid (∀ (w1 : World) (x : Int) (b : Bool), WBeside w g fs N CS w1 ys 0 → (x == 0) = false → b = false → Calls Tryd.prog 72 #[.pointer (some ⟨g, 0, none⟩), .bool b, .int .i64 x] w1 fun r w' => r = .returned (.bool false) ∧ WBeside w g fs N CS w' ys x) := by
      intro w1 x b h hx hb
      obtain ⟨f1, h1, nx⟩ := h.next
      refine (wmust_no g ys f1 w1 h1 x b hx hb).mono ?_
      rintro r w' ⟨rfl, h2, h3⟩
      exact ⟨rfl, nx _ _ _ h3⟩
    have HM2 : Hid (∀ (w1 : World) (x : Int) (b : Bool), WBeside w g fs N CS w1 ys 0 → b = true → Calls Tryd.prog 72 #[.pointer (some ⟨g, 0, none⟩), .bool b, .int .i64 x] w1 fun r w' => r = .returned (.bool true) ∧ w' = w1) := by
      intro w1 x b h hb
      obtain ⟨f1, h1, nx⟩ := h.next
      exact wmust_so g ys f1 w1 h1 x b hb
    have HM3 : Hid (∀ (w1 : World) (b : Bool), WBeside w g fs N CS w1 ys 32 → Calls Tryd.prog 72 #[.pointer (some ⟨g, 0, none⟩), .bool b, .int .i64 31] w1 fun r w' => r = .returned (.bool false) ∧ w' = w1) := by
      intro w1 b h
      obtain ⟨f1, h1, nx⟩ := h.next
      exact wmust_late g w1 32 31 b (by decide) h1.c0
    have hek : (enc key.size).length ≤ 10 := by rw [enc_length _ (by omega)]; exact (sz_bd _).2
    have hev : (enc val.size).length ≤ 10 := by rw [enc_length _ (by omega)]; exact (sz_bd _).2
    have hsk := sb_length key
    have hsv := sb_length val
    have HT1 : Hid (key.size ≤ 1024 → ∀ w1, WBeside w g fs N CS w1 ys 0 → Calls Tryd.prog 75 #[.pointer (some ⟨g, 0, none⟩), .string key, .int .i64 1024] w1 fun r w' => r = .returned (.tuple #[]) ∧ WBeside w g fs N CS w' (ys ++ (enc key.size ++ sb key)) 0) := by
      intro h0 w1 h
      obtain ⟨f1, h1, nx⟩ := h.next
      have := wtext_c g ys 0 key 1024 f1 w1 h1 hk (by omega)
      rw [show ferr 0 (wte key.size 1024) = 0 from by rw [ferr, if_pos rfl, wte, if_neg (by omega), if_neg (by omega)]] at this
      exact this.mono (fun _ _ ⟨a, b⟩ => ⟨a, nx _ _ _ b⟩)
    have HT2 : Hid (val.size ≤ 65536 → ∀ w1, WBeside w g fs N CS w1 (ys ++ (enc key.size ++ sb key)) 0 → Calls Tryd.prog 75 #[.pointer (some ⟨g, 0, none⟩), .string val, .int .i64 65536] w1 fun r w' => r = .returned (.tuple #[]) ∧ WBeside w g fs N CS w' (ys ++ (enc key.size ++ sb key) ++ (enc val.size ++ sb val)) 0) := by
      intro h0 w1 h
      obtain ⟨f1, h1, nx⟩ := h.next
      have := wtext_c g _ 0 val 65536 f1 w1 h1 hv (by simp only [List.length_append]; omega)
      rw [show ferr 0 (wte val.size 65536) = 0 from by rw [ferr, if_pos rfl, wte, if_neg (by omega), if_neg (by omega)]] at this
      exact this.mono (fun _ _ ⟨a, b⟩ => ⟨a, nx _ _ _ b⟩)
    have HT3 : Hid (1 ≤ ver → ver ≤ 1152921504606846976 → ∀ w1, WBeside w g fs N CS w1 (ys ++ (enc key.size ++ sb key) ++ (enc val.size ++ sb val)) 0 → Calls Tryd.prog 38 #[.pointer (some ⟨g, 0, none⟩), .int .i64 ver, .int .i64 1152921504606846976] w1 fun r w' => r = .returned (.tuple #[]) ∧ WBeside w g fs N CS w' (ys ++ rowB key val ver) 0) := by
      intro h0 h00 w1 h
      obtain ⟨f1, h1, nx⟩ := h.next
      have := wint_c g _ 0 ver 1152921504606846976 f1 w1 h1 hn (by simp only [List.length_append]; omega)
      rw [show ferr 0 (wie ver 1152921504606846976) = 0 from by rw [ferr, if_pos rfl, wie, if_neg (by omega), if_neg (by omega)]] at this
      refine this.mono (fun _ _ ⟨a, b⟩ => ⟨a, ?_⟩)
      have := nx _ _ _ b
      rw [show wadd 0 (ys ++ (enc key.size ++ sb key) ++ (enc val.size ++ sb val)) (enc ver.toNat) = ys ++ rowB key val ver from by simp [wadd, rowB]] at this
      exact this
    have HE : Hid (wre key val ver = if key.size = 0 ∨ ver < 1 then 32 else if 1024 < key.size ∨ 65536 < val.size ∨ 1152921504606846976 < ver then 31 else 0) := rfl
    have HY0 : Hid (wadd 0 ys (rowB key val ver) = ys ++ rowB key val ver) := rfl
    have HYE : Hid (∀ E : Int, E ≠ 0 → wadd E ys (rowB key val ver) = ys) := fun E hE => wadd_err hE ys _
    obtain ⟨E, hE⟩ : ∃ E, E = wre key val ver := ⟨_, rfl⟩
    rw [← hE] at HE ⊢
    rw [show ferr 0 E = E from by rw [ferr, if_pos rfl]]
    obtain ⟨Y1, hY1⟩ : ∃ Y1, Y1 = ys ++ (enc key.size ++ sb key) := ⟨_, rfl⟩
    rw [← hY1] at HT1 HT2 HT3
    obtain ⟨Y2, hY2⟩ : ∃ Y2, Y2 = Y1 ++ (enc val.size ++ sb val) := ⟨_, rfl⟩
    rw [← hY2] at HT2 HT3
    obtain ⟨RB, hRB⟩ : ∃ RB, RB = rowB key val ver := ⟨_, rfl⟩
    rw [← hRB] at HT3 HY0 HYE ⊢
    have hem := key_empty key
    obtain ⟨KZ, hKZ⟩ : ∃ KZ, KZ = key.size := ⟨_, rfl⟩
    obtain ⟨VZ, hVZ⟩ : ∃ VZ, VZ = val.size := ⟨_, rfl⟩
    have hks : key.size = KZ := hKZ.symm
    have hvs : val.size = VZ := hVZ.symm
    rw [hks] at hem HE HT1 hk
    rw [hvs] at HE HT2 hv
    have HS : Hid (WBeside w g fs N CS (w.alloc (.cells CS 48)) ys 0) := by rw [hN]; exact WBeside.start h CS
    clear h hb hE hY1 hY2 hRB hek hev hsk hsv hKZ hVZ
    by_cases hA : KZ = 0
    · obtain rfl : E = 32 := by rw [HE.out, if_pos (.inl hA)]
      rw [decide_eq_true hA] at hem
      rw [HYE.out 32 (by decide)]
      clear HE HT1 HT2 HT3

      go_enter Tryd.func40, Tryd.ntmps40
      go_wp2_with fail
      rw [← hN, ← hCS]
      generalize hW1 : World.alloc w _ = W1
      have H1 : Hid (WBeside w g fs N CS W1 ys 0) := by rw [← hW1]; exact HS.out
      obtain ⟨a0, a1, a2, a3⟩ := H1.out.cells hCS
      replace hCS : Hid _ := hCS
      clear hW1 hN HW HS
      refine (HR.out W1 a3).mono ?_
      rintro r w1 ⟨rfl, rfl⟩
      go_wp2_with fail
      have H1d : Hid (WBeside w g fs N CS w1.drew ys 0) := H1.out.drew

      first | go_region_with (go_at_call 72; refine (HM1.out _ 32 _ H1d.out (by decide) ?_).mono ?_; (first | rfl | (simp; omega)); rintro _ w2 ⟨rfl, h2⟩; have H2 : Hid (WBeside w g fs N CS w2 ys 32) := h2; clear h2) | fail
      obtain ⟨b0, b1, b2, b3⟩ := WBeside.cells H2.out hCS.out
      clear a0 a1 a2 a3 H1 H1d
      have H2d : Hid (WBeside w g fs N CS w2.drew ys 32) := H2.out.drew
      go_wp2_with fail
      try (generalize decide ((VZ : Int) ≤ 65536) = sv; cases sv)
      all_goals
        first | go_region_with (go_at_call 72; refine (HM3.out _ _ H2d.out).mono ?_; rintro _ w3 ⟨rfl, rfl⟩) | fail
        go_wp2
        go_end0
        exact ⟨rfl, H2d.out.goes⟩
    · rw [decide_eq_false hA] at hem
      by_cases hB : ver < 1
      · obtain rfl : E = 32 := by rw [HE.out, if_pos (.inr hB)]
        by_cases hK : KZ ≤ 1024
        · skip
          rw [HYE.out 32 (by decide)]
          clear HE HT1 HT2 HT3

          go_enter Tryd.func40, Tryd.ntmps40
          go_wp2_with fail
          rw [← hN, ← hCS]
          generalize hW1 : World.alloc w _ = W1
          have H1 : Hid (WBeside w g fs N CS W1 ys 0) := by rw [← hW1]; exact HS.out
          obtain ⟨a0, a1, a2, a3⟩ := H1.out.cells hCS
          replace hCS : Hid _ := hCS
          clear hW1 hN HW HS
          refine (HR.out W1 a3).mono ?_
          rintro r w1 ⟨rfl, rfl⟩
          go_wp2_with fail
          have H1d : Hid (WBeside w g fs N CS w1.drew ys 0) := H1.out.drew

          first | go_region_with (go_at_call 72; refine (HM1.out _ 32 _ H1d.out (by decide) ?_).mono ?_; (first | rfl | (simp; omega)); rintro _ w2 ⟨rfl, h2⟩; have H2 : Hid (WBeside w g fs N CS w2 ys 32) := h2; clear h2) | fail
          obtain ⟨b0, b1, b2, b3⟩ := WBeside.cells H2.out hCS.out
          clear a0 a1 a2 a3 H1 H1d
          have H2d : Hid (WBeside w g fs N CS w2.drew ys 32) := H2.out.drew
          go_wp2_with fail
          try (generalize decide ((VZ : Int) ≤ 65536) = sv; cases sv)
          all_goals
            first | go_region_with (go_at_call 72; refine (HM3.out _ _ H2d.out).mono ?_; rintro _ w3 ⟨rfl, rfl⟩) | fail
            go_wp2
            go_end0
            exact ⟨rfl, H2d.out.goes⟩
        · skip
          rw [HYE.out 32 (by decide)]
          clear HE HT1 HT2 HT3

          go_enter Tryd.func40, Tryd.ntmps40
          go_wp2_with fail
          rw [← hN, ← hCS]
          generalize hW1 : World.alloc w _ = W1
          have H1 : Hid (WBeside w g fs N CS W1 ys 0) := by rw [← hW1]; exact HS.out
          obtain ⟨a0, a1, a2, a3⟩ := H1.out.cells hCS
          replace hCS : Hid _ := hCS
          clear hW1 hN HW HS
          refine (HR.out W1 a3).mono ?_
          rintro r w1 ⟨rfl, rfl⟩
          go_wp2_with fail
          have H1d : Hid (WBeside w g fs N CS w1.drew ys 0) := H1.out.drew

          first | go_region_with (go_at_call 72; refine (HM1.out _ 32 _ H1d.out (by decide) ?_).mono ?_; (first | rfl | (simp; omega)); rintro _ w2 ⟨rfl, h2⟩; have H2 : Hid (WBeside w g fs N CS w2 ys 32) := h2; clear h2) | fail
          obtain ⟨b0, b1, b2, b3⟩ := WBeside.cells H2.out hCS.out
          clear a0 a1 a2 a3 H1 H1d
          have H2d : Hid (WBeside w g fs N CS w2.drew ys 32) := H2.out.drew
          go_wp2_with fail
          try (generalize decide ((VZ : Int) ≤ 65536) = sv; cases sv)
          all_goals
            first | go_region_with (go_at_call 72; refine (HM3.out _ _ H2d.out).mono ?_; rintro _ w3 ⟨rfl, rfl⟩) | fail
            go_wp2
            go_end0
            exact ⟨rfl, H2d.out.goes⟩
      · have hB1 : 1 ≤ ver := by omega
        by_cases hK : KZ ≤ 1024
        · by_cases hV : VZ ≤ 65536
          · by_cases hS : ver ≤ 1152921504606846976
            · obtain rfl : E = 0 := by rw [HE.out, if_neg (by omega), if_neg (by omega)]
              rw [HY0.out]
              clear HE
              replace HT1 := HT1.out hK
              replace HT2 := HT2.out hV
              replace HT3 := HT3.out (by omega) hS
              replace HT1 : Hid _ := HT1
              replace HT2 : Hid _ := HT2
              replace HT3 : Hid _ := HT3

              go_enter Tryd.func40, Tryd.ntmps40
              go_wp2_with fail
              rw [← hN, ← hCS]
              generalize hW1 : World.alloc w _ = W1
              have H1 : Hid (WBeside w g fs N CS W1 ys 0) := by rw [← hW1]; exact HS.out
              obtain ⟨a0, a1, a2, a3⟩ := H1.out.cells hCS
              replace hCS : Hid _ := hCS
              clear hW1 hN HW HS
              refine (HR.out W1 a3).mono ?_
              rintro r w1 ⟨rfl, rfl⟩
              go_wp2_with fail
              have H1d : Hid (WBeside w g fs N CS w1.drew ys 0) := H1.out.drew

              first | go_region_with (go_at_call 72; refine (HM2.out _ 32 _ H1d.out ?_).mono ?_; (first | rfl | (simp; omega)); rintro _ w2 ⟨rfl, rfl⟩) | fail
              have H2d : Hid (WBeside w g fs N CS w1.drew.drew ys 0) := H1d.out.drew
              go_wp2_with fail

              first | go_region_with (go_at_call 72; refine (HM2.out _ 31 _ H2d.out ?_).mono ?_; (first | rfl | (simp; omega)); rintro _ w3 ⟨rfl, rfl⟩) | fail
              go_wp2_with fail
              refine (HT1.out _ (by first | exact H2d.out | exact H2d.out.drew)).mono ?_
              rintro _ w4 ⟨rfl, h4⟩
              have H4 : Hid (WBeside w g fs N CS w4 Y1 0) := h4
              obtain ⟨d0, d1, d2, d3⟩ := WBeside.cells H4.out hCS.out
              clear h4 a0 a1 a2 a3 H1 H1d H2d
              go_wp2_with fail
              refine (HT2.out _ (by first | exact H4.out | exact H4.out.drew)).mono ?_
              rintro _ w5 ⟨rfl, h5⟩
              have H5 : Hid (WBeside w g fs N CS w5 Y2 0) := h5
              obtain ⟨f0, f1, f2, f3⟩ := WBeside.cells H5.out hCS.out
              clear h5 d0 d1 d2 d3 H4
              go_wp2_with fail
              refine (HT3.out _ (by first | exact H5.out | exact H5.out.drew)).mono ?_
              rintro _ w6 ⟨rfl, h6⟩
              have H6 : Hid (WBeside w g fs N CS w6 (ys ++ RB) 0) := h6
              clear h6 f0 f1 f2 f3 H5
              go_wp2
              go_end0
              exact ⟨rfl, H6.out.goes⟩
            · obtain rfl : E = 31 := by rw [HE.out, if_neg (by omega), if_pos (by omega)]
              rw [HYE.out 31 (by decide)]
              clear HE HT1 HT2 HT3

              go_enter Tryd.func40, Tryd.ntmps40
              go_wp2_with fail
              rw [← hN, ← hCS]
              generalize hW1 : World.alloc w _ = W1
              have H1 : Hid (WBeside w g fs N CS W1 ys 0) := by rw [← hW1]; exact HS.out
              obtain ⟨a0, a1, a2, a3⟩ := H1.out.cells hCS
              replace hCS : Hid _ := hCS
              clear hW1 hN HW HS
              refine (HR.out W1 a3).mono ?_
              rintro r w1 ⟨rfl, rfl⟩
              go_wp2_with fail
              have H1d : Hid (WBeside w g fs N CS w1.drew ys 0) := H1.out.drew

              first | go_region_with (go_at_call 72; refine (HM2.out _ 32 _ H1d.out ?_).mono ?_; (first | rfl | (simp; omega)); rintro _ w2 ⟨rfl, rfl⟩) | fail
              have H2d : Hid (WBeside w g fs N CS w1.drew.drew ys 0) := H1d.out.drew
              go_wp2_with fail

              first | go_region_with (go_at_call 72; refine (HM1.out _ 31 _ H2d.out (by decide) ?_).mono ?_; (first | rfl | (simp; omega)); rintro _ w3 ⟨rfl, h3⟩; have H3 : Hid (WBeside w g fs N CS w3 ys 31) := h3; clear h3) | fail
              go_wp2
              go_end0
              exact ⟨rfl, H3.out.goes⟩
          · obtain rfl : E = 31 := by rw [HE.out, if_neg (by omega), if_pos (by omega)]
            rw [HYE.out 31 (by decide)]
            clear HE HT1 HT2 HT3

            go_enter Tryd.func40, Tryd.ntmps40
            go_wp2_with fail
            rw [← hN, ← hCS]
            generalize hW1 : World.alloc w _ = W1
            have H1 : Hid (WBeside w g fs N CS W1 ys 0) := by rw [← hW1]; exact HS.out
            obtain ⟨a0, a1, a2, a3⟩ := H1.out.cells hCS
            replace hCS : Hid _ := hCS
            clear hW1 hN HW HS
            refine (HR.out W1 a3).mono ?_
            rintro r w1 ⟨rfl, rfl⟩
            go_wp2_with fail
            have H1d : Hid (WBeside w g fs N CS w1.drew ys 0) := H1.out.drew

            first | go_region_with (go_at_call 72; refine (HM2.out _ 32 _ H1d.out ?_).mono ?_; (first | rfl | (simp; omega)); rintro _ w2 ⟨rfl, rfl⟩) | fail
            have H2d : Hid (WBeside w g fs N CS w1.drew.drew ys 0) := H1d.out.drew
            go_wp2_with fail

            first | go_region_with (go_at_call 72; refine (HM1.out _ 31 _ H2d.out (by decide) ?_).mono ?_; (first | rfl | (simp; omega)); rintro _ w3 ⟨rfl, h3⟩; have H3 : Hid (WBeside w g fs N CS w3 ys 31) := h3; clear h3) | fail
            go_wp2
            go_end0
            exact ⟨rfl, H3.out.goes⟩
        · obtain rfl : E = 31 := by rw [HE.out, if_neg (by omega), if_pos (by omega)]
          rw [HYE.out 31 (by decide)]
          clear HE HT1 HT2 HT3

          go_enter Tryd.func40, Tryd.ntmps40
          go_wp2_with fail
          rw [← hN, ← hCS]
          generalize hW1 : World.alloc w _ = W1
          have H1 : Hid (WBeside w g fs N CS W1 ys 0) := by rw [← hW1]; exact HS.out
          obtain ⟨a0, a1, a2, a3⟩ := H1.out.cells hCS
          replace hCS : Hid _ := hCS
          clear hW1 hN HW HS
          refine (HR.out W1 a3).mono ?_
          rintro r w1 ⟨rfl, rfl⟩
          go_wp2_with fail
          have H1d : Hid (WBeside w g fs N CS w1.drew ys 0) := H1.out.drew

          first | go_region_with (go_at_call 72; refine (HM2.out _ 32 _ H1d.out ?_).mono ?_; (first | rfl | (simp; omega)); rintro _ w2 ⟨rfl, rfl⟩) | fail
          have H2d : Hid (WBeside w g fs N CS w1.drew.drew ys 0) := H1d.out.drew
          go_wp2_with fail

          first | go_region_with (go_at_call 72; refine (HM1.out _ 31 _ H2d.out (by decide) ?_).mono ?_; (first | rfl | (simp; omega)); rintro _ w3 ⟨rfl, h3⟩; have H3 : Hid (WBeside w g fs N CS w3 ys 31) := h3; clear h3) | fail
          go_wp2
          go_end0
          exact ⟨rfl, H3.out.goes⟩
  · have hbq : (e == 0) = false := by simp [he]
    have HE : Hid (ferr e (wre key val ver) = e) := by show _ = _; rw [ferr, if_neg he]
    rw [HE.out, wadd_err he]
    rw [hbq] at HR
    have HS : Hid (WBeside w g fs N #[.string key, .string val, .int .i64 ver] (w.alloc (.cells #[.string key, .string val, .int .i64 ver] 48)) ys e) := by rw [hN]; exact WBeside.start h _
    clear he HE h hb
    go_enter Tryd.func40, Tryd.ntmps40
    go_wp2_with fail
    generalize hW1 : World.alloc w _ = W1
    have H1 : Hid (WBeside w g fs N #[.string key, .string val, .int .i64 ver] W1 ys e) := by rw [← hW1]; exact HS.out
    clear hW1 HS
    refine (HR.out W1 (H1.out.cells rfl).2.2.2).mono ?_
    rintro r w1 ⟨rfl, rfl⟩
    go_wp2
    first | go_end0 | (simp only [Exit.inBlock, Exit.then]; refine bodyPost_ret (results_none rfl _ _ _) rfl ?_) | refine bodyPost_ret (results_none rfl _ _ _) rfl ?_
    exact ⟨rfl, H1.out.goes⟩
end Go.Proofs.YtcdgfghcmeadgaaDoor
namespace Go.Proofs.YtcdgfghcmeadgaaDoor.Tb
set_option linter.unusedVariables false
open Go.RowKit

theorem bl_irrefl : ∀ a : List UInt8, Op.bytesLess a a = false
  | [] => rfl
  | x :: r => by simp [Op.bytesLess, bl_irrefl r]
theorem bl_trans : ∀ a b c : List UInt8, Op.bytesLess a b = true → Op.bytesLess b c = true → Op.bytesLess a c = true
  | _, [], _, h, _ => by simp [Op.bytesLess] at h
  | _, _ :: _, [], _, h => by simp [Op.bytesLess] at h
  | [], _ :: _, _ :: _, _, _ => rfl
  | x :: a, y :: b, z :: c, h1, h2 => by
    simp only [Op.bytesLess, Bool.or_eq_true, Bool.and_eq_true, decide_eq_true_eq, beq_iff_eq] at h1 h2 ⊢
    rcases h1 with h1 | ⟨rfl, h1⟩
    · rcases h2 with h2 | ⟨rfl, h2⟩
      · exact .inl (UInt8.lt_trans h1 h2)
      · exact .inl h1
    · rcases h2 with h2 | ⟨rfl, h2⟩
      · exact .inl h2
      · exact .inr ⟨rfl, bl_trans a b c h1 h2⟩
theorem bl_total : ∀ a b : List UInt8, a ≠ b → Op.bytesLess a b = true ∨ Op.bytesLess b a = true
  | [], [], h => absurd rfl h
  | [], _ :: _, _ => .inl rfl
  | _ :: _, [], _ => .inr rfl
  | x :: a, y :: b, h => by
    simp only [Op.bytesLess, Bool.or_eq_true, Bool.and_eq_true, decide_eq_true_eq, beq_iff_eq]
    by_cases e : x = y
    · subst e
      rcases bl_total a b (fun e => h (by rw [e])) with h1 | h1
      · exact .inl (.inr ⟨rfl, h1⟩)
      · exact .inr (.inr ⟨rfl, h1⟩)
    · rcases UInt8.lt_or_lt_of_ne e with h1 | h1
      · exact .inl (.inl h1)
      · exact .inr (.inl h1)

/-- Is one text ahead of another one? -/
def tl (s t : ByteArray) : Bool := Op.bytesLess s.toList t.toList
theorem toList_inj {s t : ByteArray} (h : s.toList = t.toList) : s = t := by
  rw [ByteArray.toList_eq, ByteArray.toList_eq] at h
  exact Go.WideShapes.bytes_inj h
theorem te_iff (s t : ByteArray) : (s.toList == t.toList) = decide (s = t) := by
  by_cases h : s = t
  · subst h; simp
  · have : s.toList ≠ t.toList := fun e => h (toList_inj e)
    simp [h, this]
theorem tl_irrefl (s : ByteArray) : tl s s = false := bl_irrefl _
theorem tl_trans {a b c : ByteArray} (h : tl a b = true) (k : tl b c = true) : tl a c = true := bl_trans _ _ _ h k
theorem tl_asymm {a b : ByteArray} (h : tl a b = true) : tl b a = false := by
  cases k : tl b a with
  | false => rfl
  | true => have := tl_trans h k; rw [tl_irrefl] at this; cases this
theorem tl_total {a b : ByteArray} (h : a ≠ b) : tl a b = true ∨ tl b a = true := bl_total _ _ (fun e => h (toList_inj e))
theorem tl_eq {a b : ByteArray} (h : tl a b = false) (k : tl b a = false) : a = b := by
  by_cases e : a = b
  · exact e
  · rcases tl_total e with h1 | h1
    · rw [h1] at h; cases h
    · rw [h1] at k; cases k
/-- a ≤ b, b < c. -/
theorem le_lt {a b c : ByteArray} (h : tl b a = false) (k : tl b c = true) : tl a c = true := by
  by_cases e : a = b
  · subst e; exact k
  · rcases tl_total e with h1 | h1
    · exact tl_trans h1 k
    · rw [h1] at h; cases h
theorem lt_le {a b c : ByteArray} (h : tl a b = true) (k : tl c b = false) : tl a c = true := by
  by_cases e : b = c
  · subst e; exact h
  · rcases tl_total e with h1 | h1
    · exact tl_trans h h1
    · rw [h1] at k; cases k
theorem le_le {a b c : ByteArray} (h : tl b a = false) (k : tl c b = false) : tl c a = false := by
  cases e : tl c a with
  | false => rfl
  | true => have := lt_le e h; rw [k] at this; cases this
theorem tl_ne {a b : ByteArray} (h : tl a b = true) : a ≠ b := fun e => by subst e; rw [tl_irrefl] at h; cases h
theorem bl_none (a : List UInt8) : Op.bytesLess a [] = false := by cases a <;> rfl
theorem tl_none (s : ByteArray) : tl s .empty = false := by
  unfold tl; rw [show ByteArray.empty.toList = [] from by rw [ByteArray.toList_eq]; rfl]; exact bl_none _
theorem tl_some {s : ByteArray} (h : s ≠ .empty) : tl .empty s = true := by
  rcases tl_total h with h1 | h1
  · rw [tl_none] at h1; cases h1
  · exact h1

/-- A range: from, to; to "": without an end. -/
abbrev Rg := ByteArray × ByteArray
/-- Has it come to its end at a text? -/
def rPast (r : Rg) (t : ByteArray) : Bool := !decide (r.2 = .empty) && !tl t r.2
def rHas (r : Rg) (t : ByteArray) : Bool := !tl t r.1 && !rPast r t
def rEmpty (r : Rg) : Bool := rPast r r.1
def lHas (l : List Rg) (t : ByteArray) : Bool := l.any fun r => rHas r t
/-- Normal form: no range is empty, and each ends ahead of where the next one begins. -/
def Nrm : List Rg → Prop
  | [] => True
  | r :: l => rEmpty r = false ∧ (∀ s ∈ l, r.2 ≠ .empty ∧ tl r.2 s.1 = true) ∧ Nrm l

theorem rHas_iff {r : Rg} {t : ByteArray} : rHas r t = true ↔ tl t r.1 = false ∧ (r.2 = .empty ∨ tl t r.2 = true) := by
  unfold rHas rPast
  by_cases h : r.2 = .empty <;> cases tl t r.1 <;> cases tl t r.2 <;> simp [h]
theorem rEmpty_iff {r : Rg} : rEmpty r = false ↔ r.2 = .empty ∨ tl r.1 r.2 = true := by
  unfold rEmpty rPast
  by_cases h : r.2 = .empty <;> cases tl r.1 r.2 <;> simp [h]
theorem rHas_from {r : Rg} (h : rEmpty r = false) : rHas r r.1 = true := rHas_iff.2 ⟨tl_irrefl _, rEmpty_iff.1 h⟩
theorem lHas_cons (r : Rg) (l : List Rg) (t : ByteArray) : lHas (r :: l) t = (rHas r t || lHas l t) := rfl
theorem lHas_app (a b : List Rg) (t : ByteArray) : lHas (a ++ b) t = (lHas a t || lHas b t) := by simp [lHas, List.any_append]
theorem lHas_iff {l : List Rg} {t : ByteArray} : lHas l t = true ↔ ∃ r ∈ l, rHas r t = true := by simp [lHas]
/-- Nothing of a normal list lies ahead of its first range. -/
theorem Nrm.low {r : Rg} {l : List Rg} (h : Nrm (r :: l)) {t : ByteArray} (ht : lHas (r :: l) t = true) : tl t r.1 = false := by
  obtain ⟨s, hs, hh⟩ := lHas_iff.1 ht
  rcases List.mem_cons.1 hs with rfl | hs
  · exact (rHas_iff.1 hh).1
  · have h1 := (rHas_iff.1 hh).1
    obtain ⟨h2, h3⟩ := h.2.1 s hs
    rcases rEmpty_iff.1 h.1 with h4 | h4
    · exact absurd h4 h2
    · exact le_le (tl_asymm (tl_trans h4 h3)) h1
theorem Nrm.rest {r : Rg} {l : List Rg} (h : Nrm (r :: l)) {t : ByteArray} (ht : lHas l t = true) : rHas r t = false := by
  obtain ⟨s, hs, hh⟩ := lHas_iff.1 ht
  obtain ⟨h2, h3⟩ := h.2.1 s hs
  cases e : rHas r t with
  | false => rfl
  | true =>
    rcases (rHas_iff.1 e).2 with h4 | h4
    · exact absurd h4 h2
    · have := tl_trans h4 h3; rw [(rHas_iff.1 hh).1] at this; cases this
/-- The end of the first range is not in the list. -/
theorem Nrm.gap {r : Rg} {l : List Rg} (h : Nrm (r :: l)) (hr : r.2 ≠ .empty) : lHas (r :: l) r.2 = false := by
  cases e : lHas (r :: l) r.2 with
  | false => rfl
  | true =>
    obtain ⟨s, hs, hh⟩ := lHas_iff.1 e
    rcases List.mem_cons.1 hs with rfl | hs
    · rcases (rHas_iff.1 hh).2 with h4 | h4
      · exact absurd h4 hr
      · rw [tl_irrefl] at h4; cases h4
    · have := (h.2.1 s hs).2; rw [(rHas_iff.1 hh).1] at this; cases this
/-- Two lists in normal form that have the same texts are the same. -/
theorem Nrm.uniq : ∀ {l m : List Rg}, Nrm l → Nrm m → (∀ t, lHas l t = lHas m t) → l = m
  | [], [], _, _, _ => rfl
  | [], s :: m, _, hm, h => by
    have := h s.1; rw [lHas_cons, rHas_from hm.1] at this; simp [lHas] at this
  | r :: l, [], hl, _, h => by
    have := h r.1; rw [lHas_cons, rHas_from hl.1] at this; simp [lHas] at this
  | r :: l, s :: m, hl, hm, h => by
    have h1 : tl r.1 s.1 = false := hm.low (by rw [← h, lHas_cons, rHas_from hl.1]; rfl)
    have h2 : tl s.1 r.1 = false := hl.low (by rw [h, lHas_cons, rHas_from hm.1]; rfl)
    have e1 : r.1 = s.1 := tl_eq h1 h2
    have side : ∀ {r s : Rg} {l m : List Rg}, Nrm (r :: l) → Nrm (s :: m) → (∀ t, lHas (r :: l) t = lHas (s :: m) t) → r.1 = s.1 → r.2 ≠ .empty → s.2 ≠ .empty ∧ tl r.2 s.2 = false := by
      intro r s l m hl hm h e hr
      have g := hl.gap hr
      rw [h, lHas_cons] at g
      have g' : rHas s r.2 = false := by cases x : rHas s r.2 with
        | false => rfl
        | true => rw [x] at g; cases g
      have lo : tl r.2 s.1 = false := by
        rcases rEmpty_iff.1 hl.1 with h4 | h4
        · exact absurd h4 hr
        · rw [← e]; exact tl_asymm h4
      constructor
      · intro hs
        have := rHas_iff.2 ⟨lo, Or.inl hs⟩; rw [g'] at this; cases this
      · cases x : tl r.2 s.2 with
        | false => rfl
        | true => have := rHas_iff.2 ⟨lo, Or.inr x⟩; rw [g'] at this; cases this
    have e2 : r.2 = s.2 := by
      by_cases hr : r.2 = .empty
      · by_cases hs : s.2 = .empty
        · rw [hr, hs]
        · exact absurd hr (side hm hl (fun t => (h t).symm) e1.symm hs).1
      · obtain ⟨hs, k1⟩ := side hl hm h e1 hr
        have k2 := (side hm hl (fun t => (h t).symm) e1.symm hs).2
        exact tl_eq k1 k2
    have e : r = s := Prod.ext e1 e2
    subst e
    have : l = m := Nrm.uniq hl.2.2 hm.2.2 fun t => by
      have k := h t
      rw [lHas_cons, lHas_cons] at k
      cases x : rHas r t with
      | false => rw [x] at k; simpa using k
      | true =>
        have a : lHas l t = false := by cases y : lHas l t with
          | false => rfl
          | true => rw [hl.rest y] at x; cases x
        have b : lHas m t = false := by cases y : lHas m t with
          | false => rfl
          | true => rw [hm.rest y] at x; cases x
        rw [a, b]
    rw [this]
/-- A range behind a normal list. -/
theorem Nrm.snoc : ∀ {l : List Rg} {r : Rg}, Nrm l → rEmpty r = false → (∀ s ∈ l, s.2 ≠ .empty ∧ tl s.2 r.1 = true) → Nrm (l ++ [r])
  | [], r, _, h, _ => ⟨h, (fun _ h => by cases h), trivial⟩
  | s :: l, r, hl, h, k => ⟨hl.1, fun x hx => by
      rcases List.mem_append.1 hx with h1 | h1
      · exact hl.2.1 x h1
      · simp only [List.mem_singleton] at h1; subst h1; exact k s (by simp),
    Nrm.snoc hl.2.2 h (fun x hx => k x (by simp [hx]))⟩
theorem Nrm.init : ∀ {l : List Rg} {r : Rg}, Nrm (l ++ [r]) → Nrm l ∧ rEmpty r = false ∧ ∀ s ∈ l, s.2 ≠ .empty ∧ tl s.2 r.1 = true
  | [], r, h => ⟨trivial, h.1, fun _ h => by cases h⟩
  | s :: l, r, h => by
    obtain ⟨h1, h2, h3⟩ := Nrm.init h.2.2
    refine ⟨⟨h.1, fun x hx => h.2.1 x (by simp [hx]), h1⟩, h2, fun x hx => ?_⟩
    rcases List.mem_cons.1 hx with rfl | hx
    · exact h.2.1 r (by simp)
    · exact h3 x hx

end Go.Proofs.YtcdgfghcmeadgaaDoor.Tb
namespace Go.Proofs.YtcdgfghcmeadgaaDoor.Tb
open Go.RowKit
set_option linter.unusedVariables false

theorem heap_new (w : World) (o : Obj) : (w.alloc o).heap[w.heap.size]? = some o := by
  show (w.heap.push _)[w.heap.size]? = _
  rw [Array.getElem?_push, if_pos rfl]
/-- A block that holds one value of so many cells. -/
def Bk (T : TypeId) (w : World) (b : Nat) (cs : Array Value) : Prop := w.heap[b]? = some (.cells cs T (0, 0))
theorem Bk.grew {T w w' b cs row} (h : Bk T w b cs) (hg : w.grownBy w' row) (hn : row ≠ some b) : Bk T w' b cs := (hg.block b (lt_of_block h) (fun e => hn e.symm)).trans h
theorem bk_load {T : TypeId} {d : TypeDesc} (hu : Tryd.prog.underlying T = some d) (hd : d.isRow = true) {n : Nat} (hi : (Tryd.prog.info? T).map (·.size) = some n) {w : World} {b : Nat} {cs : Array Value} (h : Bk T w b cs) (hl : cs.size = n) :
    (loadVar T ⟨b, 0, none⟩).run Tryd.prog w = .ok (.agg cs) w := by
  have := run_loadVar_mid (P := Tryd.prog) w b 0 T cs.toList d (fun j v hv => by rw [Nat.zero_add, cell_of_row w b j _ _ _ h]; simpa using hv) hu hd (by rw [hi, ← hl]; simp)
  simpa using this
theorem wpList_load_bk {ops : Array Oper} {rest : List Oper} {op : Oper} {a : Act} {w : World} {Q : Exit → Act → World → Prop} (T : TypeId) (hgd : op.guard = none) (x : Operand) (ho : op.op = .load T x)
    {d : TypeDesc} (hu : Tryd.prog.underlying T = some d) (hd : d.isRow = true) {n : Nat} (hi : (Tryd.prog.info? T).map (·.size) = some n) (b : Nat) (cs : Array Value) (hx : a.eval x = .pointer (some ⟨b, 0, none⟩)) (h : Bk T w b cs) (hl : cs.size = n)
    (K : wpList Tryd.prog ops Q rest (a.put op.dst (.agg cs)) w) : wpList Tryd.prog ops Q (op :: rest) a w :=
  wpList_load_mid hgd T x ho b 0 hx cs.toList d (fun j v hv => by rw [Nat.zero_add, cell_of_row w b j _ _ _ h]; simpa using hv) hu hd (by rw [hi, ← hl]; simp) (by simpa using K)
theorem wpList_load_bkG {ops : Array Oper} {rest : List Oper} {op : Oper} {a : Act} {w : World} {Q : Exit → Act → World → Prop} (T : TypeId) (hgd : Region.wanted op (yielded ops a.tmps) = true) (x : Operand) (ho : op.op = .load T x)
    {d : TypeDesc} (hu : Tryd.prog.underlying T = some d) (hd : d.isRow = true) {n : Nat} (hi : (Tryd.prog.info? T).map (·.size) = some n) (b : Nat) (cs : Array Value) (hx : a.eval x = .pointer (some ⟨b, 0, none⟩)) (h : Bk T w b cs) (hl : cs.size = n)
    (K : wpList Tryd.prog ops Q rest (a.put op.dst (.agg cs)) w) : wpList Tryd.prog ops Q (op :: rest) a w :=
  BigFrame.wpList_want hgd fun _ hK => wp_load_mid T x ho b 0 hx cs.toList d (fun j v hv => by rw [Nat.zero_add, cell_of_row w b j _ _ _ h]; simpa using hv) hu hd (by rw [hi, ← hl]; simp) (hK _ _ (by simpa using K))
theorem wpList_store_bk {ops : Array Oper} {rest : List Oper} {op : Oper} {a : Act} {w : World} {Q : Exit → Act → World → Prop} (T : TypeId) (hgd : op.guard = none) (x y : Operand) (ho : op.op = .store T x y)
    {n : Nat} (hi : (Tryd.prog.info? T).map (·.size) = some n) (b : Nat) (cs es : Array Value) (hx : a.eval x = .pointer (some ⟨b, 0, none⟩)) (hy : a.eval y = .agg es) (h : Bk T w b cs) (hl : cs.size = n) (hl2 : es.size = n) (h1 : es.all (·.oneCell') = true)
    (K : ∀ w', Bk T w' b es → w.grownBy w' (some b) → wpList Tryd.prog ops Q rest (a.put op.dst undef) w') : wpList Tryd.prog ops Q (op :: rest) a w := by
  have hst := run_storeVar_row (P := Tryd.prog) w b T T cs es h (by rw [hi, hl2]) (by rw [hl, hl2]) h1
  refine wpList_plain hgd fun K' hK => ?_
  unfold Oper.wp execOp
  simp only [ho, hx, hy, Instr.storeAt, Instr.sureAddr, Sem.run_bind, Sem.run_pure, Result.andThen_ok, hst]
  refine hK _ _ (K _ ?_ ?_)
  · unfold Bk World.setRow
    simp only [Array.getElem?_modify]
    rw [if_pos trivial, h]; rfl
  · exact ⟨rfl, rfl, rfl, by simp [World.setRow], fun k _ hk => setRow_other w b k _ (fun e => hk (by rw [e]))⟩
theorem blk_new (w : World) (T : TypeId) (cs : Array Value) : Bk T (w.alloc (.cells cs T)) w.heap.size cs ∧ w.grownBy (w.alloc (.cells cs T)) none := ⟨heap_new w _, World.grownBy_alloc _ _ _⟩
theorem Bk.cell {T w b cs} (h : Bk T w b cs) (i : Nat) : w.cell? ⟨b, i, none⟩ = cs[i]? := cell_of_row w b i cs T (0, 0) h
theorem Bk.below {T w w' b cs B} (h : Bk T w b cs) (hb : Below B w w') (hl : b < B) : Bk T w' b cs := (hb.block b hl).trans h
theorem Bk.set {T w b cs} (h : Bk T w b cs) (i : Nat) (v : Value) : Bk T (w.setCell ⟨b, i, none⟩ v) b (cs.setIfInBounds i v) := by
  unfold Bk at h ⊢
  simp only [World.setCell, Array.getElem?_modify]
  rw [if_pos trivial, h]; rfl
/-- What is answered lies in a variable of several cells, and maybe in others. -/
theorem results_cell1 {fn : Func} {p : Tmp} {ty : TypeId} (h : fn.results = #[.cell p ty]) (tmps : Array Value) (P : Program) (w : World) (ad : Addr) (v : Value)
    (hp : tmps.getD p undef = .pointer (some ad)) (hl : (loadVar ty ad).run P w = .ok v w) : (results fn tmps).run P w = .ok v w := by
  have hp' : tmps[p]?.getD undef = .pointer (some ad) := by simpa using hp
  simp only [results, h]
  simp [hp', asAddr, hl]
theorem results_cell2 {fn : Func} {p q : Tmp} {ty : TypeId} (h : fn.results = #[.cell p ty, .tmp q]) (tmps : Array Value) (P : Program) (w : World) (ad : Addr) (v v2 : Value)
    (hp : tmps.getD p undef = .pointer (some ad)) (h2 : tmps.getD q undef = v2) (hl : (loadVar ty ad).run P w = .ok v w) : (results fn tmps).run P w = .ok (.tuple #[v, v2]) w := by
  have hp' : tmps[p]?.getD undef = .pointer (some ad) := by simpa using hp
  have h2' : tmps[q]?.getD undef = v2 := by simpa using h2
  simp only [results, h]
  simp [hp', h2', asAddr, hl]
theorem results_cell3 {fn : Func} {p q r : Tmp} {ty : TypeId} (h : fn.results = #[.cell p ty, .tmp q, .tmp r]) (tmps : Array Value) (P : Program) (w : World) (ad : Addr) (v v2 v3 : Value)
    (hp : tmps.getD p undef = .pointer (some ad)) (h2 : tmps.getD q undef = v2) (h3 : tmps.getD r undef = v3) (hl : (loadVar ty ad).run P w = .ok v w) : (results fn tmps).run P w = .ok (.tuple #[v, v2, v3]) w := by
  have hp' : tmps[p]?.getD undef = .pointer (some ad) := by simpa using hp
  have h2' : tmps[q]?.getD undef = v2 := by simpa using h2
  have h3' : tmps[r]?.getD undef = v3 := by simpa using h3
  simp only [results, h]
  simp [hp', h2', h3', asAddr, hl]
theorem gb_new {a b c : World} (h : a.grownBy b none) (k : b.grownBy c (some a.heap.size)) : a.grownBy c none :=
  ⟨k.os.trans h.os, k.tape.trans h.tape, k.output.trans h.output, Nat.le_trans h.size k.size, fun i hi hn => (k.block i (Nat.lt_of_lt_of_le hi h.size) (fun e => by cases e; omega)).trans (h.block i hi hn)⟩
theorem gb_newer {a b c : World} {N : Nat} (h : a.grownBy b none) (k : b.grownBy c (some N)) (hN : a.heap.size ≤ N) : a.grownBy c none :=
  ⟨k.os.trans h.os, k.tape.trans h.tape, k.output.trans h.output, Nat.le_trans h.size k.size, fun i hi hn => (k.block i (Nat.lt_of_lt_of_le hi h.size) (fun e => by cases e; omega)).trans (h.block i hi hn)⟩
theorem gb_trans {a b c : World} {row : Option Nat} (h : a.grownBy b row) (k : b.grownBy c row) : a.grownBy c row :=
  ⟨k.os.trans h.os, k.tape.trans h.tape, k.output.trans h.output, Nat.le_trans h.size k.size, fun i hi hn => (k.block i (Nat.lt_of_lt_of_le hi h.size) hn).trans (h.block i hi hn)⟩
theorem gb_below {a b : World} (h : a.grownBy b none) : Below a.heap.size a b := ⟨h.os, h.tape, h.output, h.size, fun i hi => h.block i hi (fun e => by cases e)⟩
theorem below_gb {a b : World} (h : Below a.heap.size a b) : a.grownBy b none := ⟨h.os, h.tape, h.output, h.size, fun i hi _ => h.block i hi⟩
theorem gb_wide {a b : World} (h : a.grownBy b none) (row : Option Nat) : a.grownBy b row := ⟨h.os, h.tape, h.output, h.size, fun i hi _ => h.block i hi (fun e => by cases e)⟩
theorem gb_drewN {a b : World} {row : Option Nat} (h : a.grownBy b row) (n : Nat) : a.grownBy (b.drewN n) row := gb_trans h ⟨rfl, rfl, rfl, Nat.le_refl _, fun _ _ _ => rfl⟩
theorem gb_refl (a : World) : a.grownBy a none := ⟨rfl, rfl, rfl, Nat.le_refl _, fun _ _ _ => rfl⟩
theorem gb_alloc (a : World) (o : Obj) : a.grownBy (a.alloc o) none := World.grownBy_alloc _ _ _

/-- The world w, with the blocks of p behind its own, and so many draws as p. -/
def gw (w p : World) : World := { heap := w.heap ++ p.heap, tape := w.tape, drawn := p.drawn, os := w.os, output := w.output }
theorem gw_gb (w p : World) : w.grownBy (gw w p) none := ⟨rfl, rfl, rfl, by simp [gw], fun k hk _ => by
  show (w.heap ++ p.heap)[k]? = _
  rw [Array.getElem?_append_left hk]⟩
theorem gb_gw {w w' : World} (h : w.grownBy w' none) : ∃ p, w' = gw w p := by
  refine ⟨{ w' with heap := w'.heap.extract w.heap.size w'.heap.size }, ?_⟩
  have hh : w'.heap = w.heap ++ w'.heap.extract w.heap.size w'.heap.size := by
    apply Array.ext_getElem?
    intro k
    by_cases hk : k < w.heap.size
    · rw [Array.getElem?_append_left hk]; exact h.block k hk (fun e => by cases e)
    · rw [Array.getElem?_append_right (by omega), Array.getElem?_extract]
      have hs := h.size
      by_cases h2 : k < w'.heap.size
      · rw [if_pos (by omega)]; congr 1; omega
      · rw [if_neg (by omega), Array.getElem?_eq_none (by omega)]
  have e1 := h.os
  have e2 := h.tape
  have e3 := h.output
  cases w'
  simp only [gw]
  simp only at e1 e2 e3 hh
  rw [e1, e2, e3, ← hh]
theorem wp_region_gb {P : Program} {id : Nat} {Q : Exit → Act → World → Prop} {a : Act} {w : World} {l : List Oper} (hm : P.follows .mixedOrders = true) (hB : Region.lexB .any l.toArray = true)
    (h : wpQuiet P l.toArray (fun w' => ∃ p : World, w' = gw w p) (fun a' => ∀ w', (∃ p : World, w' = gw w p) → Q .normal a' w') l a) : (Code.region id l.toArray true).wp P Q a w :=
  wp_region_quiet (C := fun w' => ∃ p : World, w' = gw w p) hm hB (gb_gw ⟨rfl, rfl, rfl, Nat.le_refl _, fun _ _ _ => rfl⟩) (by simpa using h)
theorem calls_gb {P : Program} {f : FuncId} {args : Array Value} {w p : World} {v : Value} (h : Calls P f args (gw w p) fun e w' => e = .returned v ∧ (gw w p).grownBy w' none) :
    Calls P f args (gw w p) fun e w'' => e = .returned v ∧ ∃ p : World, w'' = gw w p :=
  h.mono fun _ _ ⟨he, hg⟩ => ⟨he, gb_gw (gb_trans (gw_gb w p) hg)⟩
theorem calls_gw {P : Program} {f : FuncId} {args : Array Value} {w p : World} {v : Value} (h : Calls P f args (gw w p) fun e w' => e = .returned v ∧ w' = gw w p) :
    Calls P f args (gw w p) fun e w'' => e = .returned v ∧ ∃ p : World, w'' = gw w p :=
  h.mono fun _ _ ⟨he, hg⟩ => ⟨he, p, hg⟩
theorem cell_gw {w : World} {a : Addr} {v : Value} (h : w.cell? a = some v) (p : World) : (gw w p).cell? a = some v := by
  have hb : a.block < w.heap.size := by
    rcases Nat.lt_or_ge a.block w.heap.size with h1 | h1
    · exact h1
    · simp [World.cell?, h1] at h
  exact ((gb_below (gw_gb w p)).cell (p := a) hb).trans h
theorem bk_gw {T : TypeId} {w : World} {b : Nat} {cs : Array Value} (h : Bk T w b cs) (p : World) : Bk T (gw w p) b cs := h.grew (gw_gb w p) (by simp)
theorem run_lss (s t : ByteArray) (W : World) : (binOp .lss 9 (.string s) (.string t)).run Tryd.prog W = .ok (.bool (tl s t)) W := by
  simp [binOp, Op.stringOp, tl]
theorem run_geq (s t : ByteArray) (W : World) : (binOp .geq 9 (.string s) (.string t)).run Tryd.prog W = .ok (.bool (!tl s t)) W := by
  simp [binOp, Op.stringOp, tl]
theorem run_eql (s t : ByteArray) (W : World) : (binOp .eql 9 (.string s) (.string t)).run Tryd.prog W = .ok (.bool (decide (s = t))) W := by
  have := te_iff s t
  simp [binOp, Op.stringOp, this]
theorem run_neq (s t : ByteArray) (W : World) : (binOp .neq 9 (.string s) (.string t)).run Tryd.prog W = .ok (.bool (!decide (s = t))) W := by
  have := te_iff s t
  simp [binOp, Op.stringOp, this]
theorem tl_not (s t : ByteArray) : (tl s t || (s.toList == t.toList)) = !tl t s := by
  rw [te_iff]
  by_cases h : s = t
  · subst h; simp [tl_irrefl]
  · rcases tl_total h with h1 | h1
    · simp [h1, tl_asymm h1]
    · simp [h1, tl_asymm h1, h]
theorem run_gtr (s t : ByteArray) (W : World) : (binOp .gtr 9 (.string s) (.string t)).run Tryd.prog W = .ok (.bool (tl t s)) W := by
  have := tl_not s t
  unfold tl at this
  simp only [binOp, Op.stringOp, tl, this, Bool.not_not]
  rfl
end Go.Proofs.YtcdgfghcmeadgaaDoor.Tb
namespace Go.Proofs.YtcdgfghcmeadgaaDoor.Tb
open Go.RowKit
set_option linter.unusedVariables false

/-- A row: key, value, version. -/
abbrev Rw := ByteArray × ByteArray × Int
def iv (x : Rw) : Value := .agg #[.string x.1, .string x.2.1, .int .i64 x.2.2]
def ivs (x : Rw) : Array Value := #[.string x.1, .string x.2.1, .int .i64 x.2.2]
def sz (x : Rw) : Nat := x.1.size + x.2.1.size
def szs (xs : List Rw) : Nat := (xs.map sz).sum
theorem szs_mid (l r : List Rw) (x : Rw) : szs (l ++ x :: r) = szs l + sz x + szs r := by
  simp [szs, List.map_append, List.sum_append]; omega
theorem szs_app (l r : List Rw) : szs (l ++ r) = szs l + szs r := by simp [szs]
/-- A node's cells. -/
def nc (x : Rw) (pl pr : Option Addr) (h n b : Nat) : Array Value := #[.string x.1, .string x.2.1, .int .i64 x.2.2, .pointer pl, .pointer pr, .int .i64 h, .int .i64 n, .int .i64 b]
theorem w64 (x : Int) (h : -9223372036854775808 ≤ x ∧ x ≤ 9223372036854775807) : wrap64 x = x := IntWalk.wrap64_in x h
theorem szs_cons (x : Rw) (l : List Rw) : szs (x :: l) = sz x + szs l := by simp [szs]
/-- Lists that no number outgrows. -/
def Sm (xs : List Rw) : Prop := xs.length < 4611686018427387904 ∧ szs xs < 4611686018427387904
theorem it_range {T : TypeId} {W : World} {b : Nat} {x : Rw} (hb : Bk T W b (ivs x)) : W.rangeAt b 0 [.string x.1, .string x.2.1, .int .i64 x.2.2] := fun j v hv => by
  rw [Nat.zero_add, hb.cell]
  match j, hv with
  | 0, hv => exact hv
  | 1, hv => exact hv
  | 2, hv => exact hv
  | j + 3, hv => simp at hv
end Go.Proofs.YtcdgfghcmeadgaaDoor.Tb
namespace Go.Proofs.YtcdgfghcmeadgaaDoor.Tb
open Go.RowKit
set_option linter.unusedVariables false

/-- What a row may not be. -/
def rowE (x : Rw) : Int := if x.1.size < 1 ∨ 1024 < x.1.size then 70 else if 65536 < x.2.1.size then 71 else if x.2.2 < 1 ∨ 1152921504606846976 < x.2.2 then 72 else 0
theorem ncheck_c (s : ByteArray) (w : World) : Calls Tryd.prog 105 #[.string s] w fun r w' => r = .returned (.int .i64 (if s.size < 1 ∨ 1024 < s.size then 60 else 0)) ∧ w' = w := by
  by_cases h1 : s.size < 1
  · rw [if_pos (.inl h1)]
    go_enter Tryd.func105, Tryd.ntmps105
    go_wp2
    go_ret
    exact ⟨rfl, rfl⟩
  · by_cases h2 : 1024 < s.size
    · rw [if_pos (.inr h2)]
      go_enter Tryd.func105, Tryd.ntmps105
      go_wp2
      go_ret
      exact ⟨rfl, rfl⟩
    · rw [if_neg (by omega)]
      go_enter Tryd.func105, Tryd.ntmps105
      go_wp2
      go_ret
      exact ⟨rfl, rfl⟩
theorem tcheck_c (x : Rw) (w : World) : Calls Tryd.prog 78 #[iv x] w fun r w' => r = .returned (.int .i64 (rowE x)) ∧ w.grownBy w' none := by
  obtain ⟨k, v, n⟩ := x
  have HC : Hid (∀ W, Calls Tryd.prog 105 #[.string k] W fun r w' => r = .returned (.int .i64 (if k.size < 1 ∨ 1024 < k.size then 60 else 0)) ∧ w' = W) := ncheck_c k
  have HN : Hid (w.grownBy (w.alloc (.cells #[.string k, .string v, .int .i64 n] 48)) none) := gb_alloc _ _
  unfold iv rowE
  simp only
  by_cases h1 : k.size < 1 ∨ 1024 < k.size
  · rw [if_pos h1]
    rw [if_pos h1] at HC
    clear h1
    go_enter Tryd.func78, Tryd.ntmps78
    go_wp2_with (go_at_call 105; refine (Calls.mono (HC.out _) ?_); rintro e wq ⟨rfl, rfl⟩)
    go_ret
    exact ⟨rfl, HN.out⟩
  · rw [if_neg h1]
    rw [if_neg h1] at HC
    clear h1
    by_cases h2 : 65536 < v.size
    · rw [if_pos h2]
      go_enter Tryd.func78, Tryd.ntmps78
      go_wp2_with (go_at_call 105; refine (Calls.mono (HC.out _) ?_); rintro e wq ⟨rfl, rfl⟩)
      go_ret
      exact ⟨rfl, HN.out⟩
    · rw [if_neg h2]
      by_cases h3 : n < 1
      · rw [if_pos (.inl h3)]
        go_enter Tryd.func78, Tryd.ntmps78
        go_wp2_with (go_at_call 105; refine (Calls.mono (HC.out _) ?_); rintro e wq ⟨rfl, rfl⟩)
        go_ret
        exact ⟨rfl, HN.out⟩
      · by_cases h4 : 1152921504606846976 < n
        · rw [if_pos (.inr h4)]
          go_enter Tryd.func78, Tryd.ntmps78
          go_wp2_with (go_at_call 105; refine (Calls.mono (HC.out _) ?_); rintro e wq ⟨rfl, rfl⟩)
          go_ret
          exact ⟨rfl, HN.out⟩
        · rw [if_neg (by omega)]
          go_enter Tryd.func78, Tryd.ntmps78
          go_wp2_with (go_at_call 105; refine (Calls.mono (HC.out _) ?_); rintro e wq ⟨rfl, rfl⟩)
          go_ret
          exact ⟨rfl, HN.out⟩
end Go.Proofs.YtcdgfghcmeadgaaDoor.Tb
namespace Go.Proofs.YtcdgfghcmeadgaaDoor.Cr
set_option linter.unusedVariables false

/-- A word as a polynomial: the highest bit is 1, the lowest x^31. -/
abbrev Wd := BitVec 32
/-- The generator, without x^32. -/
def gen : Wd := 0x82f63b78#32
def one : Wd := 0x80000000#32
/-- A word times x. -/
def tx (a : Wd) : Wd := if a.getLsbD 0 then (a >>> 1) ^^^ gen else a >>> 1
/-- A word times x^n. -/
def txn : Nat → Wd → Wd
  | 0, a => a
  | n + 1, a => tx (txn n a)
/-- Some rounds of a product: the coefficients of a from 1 on. -/
def ms : Nat → Wd → Wd → Wd → Wd
  | 0, _, _, s => s
  | k + 1, a, b, s => ms k (a <<< 1) (tx b) (if a.msb then s ^^^ b else s)
def mul (a b : Wd) : Wd := ms 32 a b 0

/-- Linear over two elements. -/
def Lin (f : Wd → Wd) : Prop := ∀ a b, f (a ^^^ b) = f a ^^^ f b

theorem xor4 (a b c d : Wd) : (a ^^^ b) ^^^ (c ^^^ d) = (a ^^^ c) ^^^ (b ^^^ d) := by
  rw [BitVec.xor_assoc, ← BitVec.xor_assoc b c d, BitVec.xor_comm b c, BitVec.xor_assoc c b d, ← BitVec.xor_assoc]

theorem tx_lin : Lin tx := by
  intro a b
  unfold tx
  rw [BitVec.getLsbD_xor, BitVec.ushiftRight_xor_distrib]
  cases a.getLsbD 0 <;> cases b.getLsbD 0 <;> simp
  · rw [BitVec.xor_assoc]
  · rw [BitVec.xor_assoc, BitVec.xor_comm (b >>> 1), BitVec.xor_assoc]
  · rw [xor4, BitVec.xor_self, BitVec.xor_zero]
theorem lin_zero {f : Wd → Wd} (h : Lin f) : f 0 = 0 := by
  have := h 0 0
  rw [BitVec.xor_self, BitVec.xor_self] at this
  exact this
theorem txn_lin (n : Nat) : Lin (txn n) := by
  induction n with
  | zero => intro a b; rfl
  | succ n ih => intro a b; show tx (txn n (a ^^^ b)) = _; rw [ih, tx_lin]; rfl
theorem txn_zero (n : Nat) : txn n 0 = 0 := lin_zero (txn_lin n)
theorem txn_add (m n : Nat) (a : Wd) : txn (m + n) a = txn m (txn n a) := by
  induction m with
  | zero => rw [Nat.zero_add]; rfl
  | succ m ih => rw [Nat.succ_add]; show tx (txn (m + n) a) = tx (txn m (txn n a)); rw [ih]
theorem txn_tx (n : Nat) (a : Wd) : txn n (tx a) = tx (txn n a) := by
  rw [show tx a = txn 1 a from rfl, ← txn_add, Nat.add_comm, txn_add]; rfl

theorem ms_acc (k : Nat) : ∀ a b s : Wd, ms k a b s = s ^^^ ms k a b 0 := by
  induction k with
  | zero => intro a b s; simp [ms]
  | succ k ih =>
    intro a b s
    unfold ms
    rw [ih (a <<< 1) (tx b) (if a.msb then s ^^^ b else s), ih (a <<< 1) (tx b) (if a.msb then 0 ^^^ b else 0)]
    cases a.msb
    · simp
    · simp [BitVec.xor_assoc]
theorem ms_lin_r (k : Nat) : ∀ a b c : Wd, ms k a (b ^^^ c) 0 = ms k a b 0 ^^^ ms k a c 0 := by
  induction k with
  | zero => intro a b c; simp [ms]
  | succ k ih =>
    intro a b c
    unfold ms
    rw [ms_acc, ms_acc k _ (tx b), ms_acc k _ (tx c), tx_lin, ih]
    cases a.msb
    · simp
    · simp only [if_true]; rw [show (0 : Wd) ^^^ (b ^^^ c) = b ^^^ c from BitVec.zero_xor, show (0 : Wd) ^^^ b = b from BitVec.zero_xor, show (0 : Wd) ^^^ c = c from BitVec.zero_xor, xor4]
theorem ms_lin_l (k : Nat) : ∀ a b c : Wd, ms k (a ^^^ b) c 0 = ms k a c 0 ^^^ ms k b c 0 := by
  induction k with
  | zero => intro a b c; simp [ms]
  | succ k ih =>
    intro a b c
    unfold ms
    rw [ms_acc, ms_acc k (a <<< 1), ms_acc k (b <<< 1), BitVec.shiftLeft_xor_distrib, ih, BitVec.msb_xor]
    cases a.msb <;> cases b.msb <;> simp
    · rw [← BitVec.xor_assoc, ← BitVec.xor_assoc, BitVec.xor_comm c]
    · rw [BitVec.xor_assoc]
    · rw [xor4, BitVec.xor_self, BitVec.zero_xor]
theorem ms_tx (k : Nat) : ∀ a b : Wd, ms k a (tx b) 0 = tx (ms k a b 0) := by
  induction k with
  | zero => intro a b; exact (lin_zero tx_lin).symm
  | succ k ih =>
    intro a b
    unfold ms
    rw [ms_acc, ms_acc k _ (tx b), tx_lin, ih (a <<< 1) (tx b)]
    cases a.msb
    · simp only [Bool.false_eq_true, if_false]; rw [lin_zero tx_lin]
    · simp
theorem ms_nil (k : Nat) : ∀ b s : Wd, ms k 0 b s = s := by
  induction k with
  | zero => intro b s; rfl
  | succ k ih => intro b s; unfold ms; rw [show (0 : Wd) <<< 1 = 0 from by decide, ih]; rfl

theorem mul_lin_r (a : Wd) : Lin (mul a) := fun b c => ms_lin_r 32 a b c
theorem mul_lin_l (b : Wd) : Lin (fun a => mul a b) := fun a c => ms_lin_l 32 a c b
theorem mul_tx (a b : Wd) : mul a (tx b) = tx (mul a b) := ms_tx 32 a b
theorem mul_txn (n : Nat) (a b : Wd) : mul a (txn n b) = txn n (mul a b) := by
  induction n with
  | zero => rfl
  | succ n ih => show mul a (tx (txn n b)) = tx (txn n (mul a b)); rw [mul_tx, ih]

/-- What is linear is known by its answers at the words with one bit. -/
theorem lin_ext {f g : Wd → Wd} (hf : Lin f) (hg : Lin g) (h : ∀ i, i < 32 → f (1#32 <<< i) = g (1#32 <<< i)) : ∀ a, f a = g a := by
  have key : ∀ k, k ≤ 32 → ∀ a : Wd, a.toNat < 2 ^ k → f a = g a := by
    intro k
    induction k with
    | zero =>
      intro _ a ha
      have : a = 0 := by apply BitVec.eq_of_toNat_eq; simp at ha ⊢; omega
      rw [this, lin_zero hf, lin_zero hg]
    | succ k ih =>
      intro hk a ha
      by_cases hb : a.toNat < 2 ^ k
      · exact ih (by omega) a hb
      · have e : a = (a ^^^ (1#32 <<< k)) ^^^ (1#32 <<< k) := by rw [BitVec.xor_assoc, BitVec.xor_self, BitVec.xor_zero]
        have hp : 2 ^ k < 2 ^ 32 := Nat.pow_lt_pow_right (by omega) (by omega)
        have h1 : (1#32 <<< k).toNat = 2 ^ k := by
          rw [BitVec.toNat_shiftLeft, Nat.shiftLeft_eq, show (1#32).toNat = 1 from rfl, Nat.one_mul]; exact Nat.mod_eq_of_lt hp
        have hl : (a ^^^ (1#32 <<< k)).toNat < 2 ^ k := by
          rw [BitVec.toNat_xor, h1]
          apply Nat.lt_of_not_le
          intro hle
          have hlt : a.toNat ^^^ 2 ^ k < 2 ^ (k + 1) := Nat.xor_lt_two_pow ha (by rw [Nat.pow_succ]; have := Nat.two_pow_pos k; omega)
          have t1 : (a.toNat ^^^ 2 ^ k).testBit k = true := by
            rw [Nat.testBit_eq_decide_div_mod_eq]
            have := Nat.two_pow_pos k
            have : (a.toNat ^^^ 2 ^ k) / 2 ^ k = 1 := by
              apply Nat.div_eq_of_lt_le <;> omega
            rw [this]; rfl
          have t2 : a.toNat.testBit k = true := by
            rw [Nat.testBit_eq_decide_div_mod_eq]
            have := Nat.two_pow_pos k
            have : a.toNat / 2 ^ k = 1 := by
              apply Nat.div_eq_of_lt_le <;> omega
            rw [this]; rfl
          rw [Nat.testBit_xor, t2, Nat.testBit_two_pow_self] at t1
          exact absurd t1 (by decide)
        rw [e, hf, hg, ih (by omega) _ hl, h k (by omega)]
  intro a
  exact key 32 (by omega) a a.isLt

theorem bit_pw : ∀ i, i < 32 → 1#32 <<< i = txn (31 - i) one := by decide +kernel
theorem mul_bit : ∀ i, i < 32 → ∀ b, mul (1#32 <<< i) b = txn (31 - i) b := by
  intro i hi
  refine lin_ext (mul_lin_r _) (txn_lin _) ?_
  revert i
  decide +kernel
theorem mul_comm (a b : Wd) : mul a b = mul b a := by
  refine lin_ext (f := fun a => mul a b) (g := mul b) (mul_lin_l b) (mul_lin_r b) ?_ a
  intro i hi
  show mul (1#32 <<< i) b = mul b (1#32 <<< i)
  rw [mul_bit i hi, bit_pw i hi, mul_txn]
  congr 1
  refine lin_ext (f := fun b => b) (g := fun b => mul b one) (fun _ _ => rfl) (mul_lin_l one) ?_ b
  intro j hj
  show 1#32 <<< j = mul (1#32 <<< j) one
  rw [mul_bit j hj, bit_pw j hj]
theorem mul_one (a : Wd) : mul a one = a := by
  rw [mul_comm]
  have := mul_bit 31 (by omega) a
  exact this
theorem one_mul (a : Wd) : mul one a = a := by rw [mul_comm, mul_one]
theorem txn_mul (n : Nat) (a b : Wd) : mul (txn n a) b = txn n (mul a b) := by
  rw [mul_comm, mul_txn, mul_comm]
theorem mul_assoc (a b c : Wd) : mul (mul a b) c = mul a (mul b c) := by
  refine lin_ext (f := fun a => mul (mul a b) c) (g := fun a => mul a (mul b c)) ?_ (mul_lin_l _) ?_ a
  · intro x y
    show mul (mul (x ^^^ y) b) c = mul (mul x b) c ^^^ mul (mul y b) c
    rw [show mul (x ^^^ y) b = mul x b ^^^ mul y b from mul_lin_l b x y]
    exact mul_lin_l c _ _
  · intro i hi
    show mul (mul (1#32 <<< i) b) c = mul (1#32 <<< i) (mul b c)
    rw [mul_bit i hi, mul_bit i hi, txn_mul]

/-- x^n. -/
def pw (n : Nat) : Wd := txn n one
theorem pw_add (m n : Nat) : mul (pw m) (pw n) = pw (m + n) := by
  unfold pw; rw [txn_mul, one_mul, txn_add]
theorem mul_pw (a : Wd) (n : Nat) : mul a (pw n) = txn n a := by
  unfold pw; rw [mul_txn, mul_one]
theorem pw_mul (a : Wd) (n : Nat) : mul (pw n) a = txn n a := by rw [mul_comm, mul_pw]

/-- A word's power. -/
def wpow (w : Wd) : Nat → Wd
  | 0 => one
  | n + 1 => mul w (wpow w n)
theorem wpow_pw (k n : Nat) : wpow (pw k) n = pw (k * n) := by
  induction n with
  | zero => rfl
  | succ n ih => unfold wpow; rw [ih, pw_add, Nat.mul_succ, Nat.add_comm]
theorem wpow_sq (w : Wd) (n : Nat) : wpow (mul w w) n = wpow w (2 * n) := by
  induction n with
  | zero => rfl
  | succ n ih =>
    rw [show 2 * (n + 1) = 2 * n + 1 + 1 from by omega]
    unfold wpow
    rw [ih, mul_assoc]
    rfl
theorem wpow_even (p w : Wd) (n : Nat) (h : n % 2 = 0) : mul p (wpow (mul w w) (n / 2)) = mul p (wpow w n) := by
  rw [wpow_sq, show 2 * (n / 2) = n from by omega]
theorem wpow_odd (p w : Wd) (n : Nat) (h : n % 2 = 1) : mul (mul p w) (wpow (mul w w) (n / 2)) = mul p (wpow w n) := by
  rw [wpow_sq, mul_assoc, show mul w (wpow w (2 * (n / 2))) = wpow w (2 * (n / 2) + 1) from rfl, show 2 * (n / 2) + 1 = n from by omega]

end Go.Proofs.YtcdgfghcmeadgaaDoor.Cr
namespace Go.Proofs.YtcdgfghcmeadgaaDoor.Cr
set_option linter.unusedVariables false
open Go.RowKit

/-- A word as the program's number. -/
def W (v : Wd) : Int := (v.toNat : Int)
theorem W_nn (v : Wd) : 0 ≤ W v := by unfold W; omega
theorem W_lt (v : Wd) : W v < 4294967296 := by have := v.isLt; unfold W; omega
theorem W_inj {a b : Wd} (h : W a = W b) : a = b := BitVec.eq_of_toNat_eq (by unfold W at h; omega)
theorem W_of (a : Int) (h0 : 0 ≤ a) (h1 : a < 4294967296) : ∃ v : Wd, a = W v := by
  refine ⟨BitVec.ofNat 32 a.toNat, ?_⟩
  unfold W; rw [BitVec.toNat_ofNat]; omega
theorem ret_int {k : IntKind} {a b : Int} (h : a = b) : Ending.returned (.int k a) = .returned (.int k b) := by rw [h]
theorem W_xor (a b : Wd) : bits .xor .u32 (W a) (W b) = W (a ^^^ b) := by
  have h := u32_xor (W a) (W b) (W_nn a) (W_lt a) (W_nn b) (W_lt b)
  rw [h]; unfold W; rw [BitVec.toNat_xor]; simp
theorem W_not (a : Wd) : bits .xor .u32 4294967295 (W a) = W (~~~ a) := by
  have : (4294967295 : Int) = W (BitVec.allOnes 32) := rfl
  rw [this, W_xor, BitVec.allOnes_xor]
theorem W_neg (a : Wd) : bits .xor .u32 IntKind.u32.max (W a) = W (~~~ a) := by
  rw [show IntKind.u32.max = 4294967295 from rfl, W_not]
theorem W_com (a : Wd) : bits .xor .u32 (if IntKind.u32.signed = true then -1 else IntKind.u32.max) (W a) = W (~~~ a) := W_neg a
theorem W_lit (a : Wd) (n : Int) (m : Wd) (h : n = W m) : bits .xor .u32 (W a) n = W (a ^^^ m) := by rw [h, W_xor]
theorem W_half (a : Wd) : W a / (2 : Int) = W (a >>> 1) := by
  unfold W; rw [BitVec.toNat_ushiftRight, Nat.shiftRight_eq_div_pow]; omega
theorem W_dbl (a : Wd) : W a * (2 : Int) % (4294967296 : Int) = W (a <<< 1) := by
  unfold W; rw [BitVec.toNat_shiftLeft, Nat.shiftLeft_eq]; omega
theorem W_zero (a : Wd) : (W a = 0) ↔ a = 0 := ⟨fun h => W_inj (b := 0) (by rw [h]; rfl), fun h => by rw [h]; rfl⟩
theorem nat_and_one (n : Nat) : n &&& 1 = n % 2 := Nat.and_one_is_mod n
theorem W_low (a : Wd) : bits .and .u32 (W a) 1 = (if a.getLsbD 0 then 1 else 0) := by
  have h := u32_and (W a) 1 (W_nn a) (W_lt a) (by decide) (by decide)
  rw [h]
  have e : (W a).toNat = a.toNat := by unfold W; simp
  rw [e, show (1 : Int).toNat = 1 from rfl, Nat.and_one_is_mod]
  have hb : a.getLsbD 0 = decide (a.toNat % 2 = 1) := by
    show a.toNat.testBit 0 = _
    rw [Nat.testBit_zero]
  rw [hb]
  rcases Nat.mod_two_eq_zero_or_one a.toNat with h | h <;> simp [h]
theorem W_top (a : Wd) : bits .and .u32 (W a) 2147483648 = (if a.msb then 2147483648 else 0) := by
  have h := u32_and (W a) 2147483648 (W_nn a) (W_lt a) (by decide) (by decide)
  rw [h]
  have e : (W a).toNat = a.toNat := by unfold W; simp
  have q : a.toNat &&& 2 ^ 31 = (a.toNat.testBit 31).toNat * 2 ^ 31 := by
    apply Nat.eq_of_testBit_eq
    intro i
    rw [Nat.testBit_and, Nat.testBit_two_pow]
    by_cases h : 31 = i
    · subst h; cases a.toNat.testBit 31 <;> decide
    · cases a.toNat.testBit 31 with
      | false => simp [h]
      | true => rw [show true.toNat * 2 ^ 31 = 2 ^ 31 from rfl, Nat.testBit_two_pow]; simp [h]
  rw [e, show (2147483648 : Int).toNat = 2 ^ 31 from rfl, q]
  have hb : a.msb = a.toNat.testBit 31 := BitVec.msb_eq_getLsbD_last a
  rw [hb]
  cases a.toNat.testBit 31 <;> rfl

theorem ofI_W (a : Wd) : BitVec.ofInt 32 (W a) = a := by unfold W; rw [BitVec.ofInt_natCast]; simp
theorem W_bit (a : Wd) (i : Nat) (h : i < 32) : bits .and .u32 (W a / (2 : Int) ^ i) 1 = (if a.getLsbD i then 1 else 0) := by
  have e : W a / (2 : Int) ^ i = W (a >>> i) := by
    unfold W; rw [BitVec.toNat_ushiftRight, Nat.shiftRight_eq_div_pow]
    rw [Int.natCast_ediv, Int.natCast_pow]; rfl
  rw [e, W_low, BitVec.getLsbD_ushiftRight]; rfl

/-- How often a word can be moved up until nothing is left. -/
def cnt : Nat → Wd → Nat
  | 0, _ => 0
  | k + 1, v => if v = 0 then 0 else 1 + cnt k (v <<< 1)
theorem cnt_end (k : Nat) : ∀ v : Wd, v <<< k = 0 → cnt (k + 1) v = cnt k v := by
  induction k with
  | zero => intro v h; have : v = 0 := by simpa using h
            rw [this]; rfl
  | succ k ih =>
    intro v h
    show (if v = 0 then 0 else 1 + cnt (k + 1) (v <<< 1)) = (if v = 0 then 0 else 1 + cnt k (v <<< 1))
    rw [ih (v <<< 1) (by rw [← BitVec.shiftLeft_add, Nat.add_comm]; exact h)]
theorem cnt_less (v : Wd) (h : v ≠ 0) : cnt 32 (v <<< 1) < cnt 32 v := by
  have e : cnt 32 (v <<< 1) = cnt 31 (v <<< 1) := cnt_end 31 _ (by rw [← BitVec.shiftLeft_add]; apply BitVec.eq_of_getLsbD_eq; intro i hi; simp)
  have e2 : cnt 32 v = 1 + cnt 31 (v <<< 1) := by show (if v = 0 then 0 else 1 + cnt 31 (v <<< 1)) = _; rw [if_neg h]
  omega

end Go.Proofs.YtcdgfghcmeadgaaDoor.Cr
namespace Go.Proofs.YtcdgfghcmeadgaaDoor.Cr
set_option linter.unusedVariables false
open Go.RowKit

def Bytes (xs : List Int) : Prop := ∀ i, i < xs.length → 0 ≤ xs[i]?.getD 0 ∧ xs[i]?.getD 0 < 256
theorem take_snoc (l : List Int) (k : Nat) (h : k < l.length) : l.take (k + 1) = l.take k ++ [l[k]?.getD 0] := by
  rw [List.take_succ_eq_append_getElem h]; simp [h]
theorem Bytes.mem {xs : List Int} (h : Bytes xs) : ∀ z ∈ xs, 0 ≤ z ∧ z < 256 := by
  intro z hz
  obtain ⟨i, hi, rfl⟩ := List.getElem_of_mem hz
  have := h i hi
  simpa [hi] using this
theorem bytes_of_mem {xs : List Int} (h : ∀ z ∈ xs, 0 ≤ z ∧ z < 256) : Bytes xs := by
  intro i hi
  have := h _ (List.getElem_mem hi)
  simpa [hi] using this
/-- A slice of integers of a kind that can be read: these are its elements. -/
def Seg (k : IntKind) (w : World) (a : Option Addr) (len : Nat) (xs : List Int) : Prop :=
  xs.length = len ∧ (len = 0 ∨ ∃ b off, a = some ⟨b, off, none⟩ ∧ b < w.heap.size ∧ ∀ i, i < len → w.cell? ⟨b, off + i, none⟩ = some (.int k (xs[i]?.getD 0)))
theorem Seg.below {k : IntKind} {w w' : World} {a : Option Addr} {len : Nat} {xs : List Int} (h : Seg k w a len xs) (hb : Below w.heap.size w w') : Seg k w' a len xs := by
  refine ⟨h.1, ?_⟩
  rcases h.2 with h0 | ⟨b, off, ha, hlt, hc⟩
  · exact .inl h0
  · have := hb.size
    exact .inr ⟨b, off, ha, by omega, fun i hi => (hb.cell (p := ⟨b, off + i, none⟩) hlt).trans (hc i hi)⟩

theorem Seg.keep {k : IntKind} {w w' : World} {B b : Nat} {len : Nat} {xs : List Int} (h : Seg k w (some ⟨b, 0, none⟩) len xs) (hb : Below B w w') (hlt : b < B) : Seg k w' (some ⟨b, 0, none⟩) len xs := by
  refine ⟨h.1, ?_⟩
  rcases h.2 with h0 | ⟨b', off, ha, hw, hc⟩
  · exact .inl h0
  · cases ha
    have := hb.size
    exact .inr ⟨b, 0, rfl, by omega, fun i hi => (hb.cell (p := ⟨b, 0 + i, none⟩) hlt).trans (hc i hi)⟩

theorem wf_u64 {n : Int} (h : (Lit.int .u64 n).wf = true) : 0 ≤ n ∧ n < 18446744073709551616 := by
  simp [Lit.wf, IntKind.min, IntKind.max, IntKind.signed, IntKind.bits] at h; omega
theorem wf_u8 {n : Int} (h : (Lit.int .u8 n).wf = true) : 0 ≤ n ∧ n < 256 := by
  simp [Lit.wf, IntKind.min, IntKind.max, IntKind.signed, IntKind.bits] at h; omega
/-- A slice that came in. -/
theorem seg_of_row {k : IntKind} {R : Nat} {w : World} {a : Option Addr} {len cap : Nat} {zs : List Int}
    (h : (a = none ∧ len = 0 ∧ cap = 0 ∧ zs = []) ∨
      ∃ x, a = some x ∧ len ≤ cap ∧ cap ≤ R ∧ zs.length = cap ∧ (∀ i, i < zs.length → w.cell? (x.add i) = some (.int k (zs.getD i 0))) ∧ ∀ n ∈ zs, (Lit.int k n).wf = true) :
    Seg k w a len (zs.take len) ∧ len ≤ cap ∧ cap ≤ R ∧ ∀ i, i < (zs.take len).length → (Lit.int k ((zs.take len)[i]?.getD 0)).wf = true := by
  rcases h with ⟨rfl, rfl, rfl, rfl⟩ | ⟨x, rfl, hl, hm, hz, hc, hw⟩
  · exact ⟨⟨rfl, .inl rfl⟩, Nat.le_refl _, Nat.zero_le _, fun i hi => by simp at hi⟩
  · refine ⟨⟨by simp; omega, ?_⟩, hl, hm, fun i hi => ?_⟩
    · by_cases h0 : len = 0
      · exact .inl h0
      · right
        obtain ⟨b, off, spot⟩ := x
        have hspot : spot = none := by simpa [Addr.add] using World.cell?_spot (hc 0 (by omega))
        subst hspot
        have hc0 : ∀ i, i < len → w.cell? ⟨b, off + i, none⟩ = some (.int k ((zs.take len)[i]?.getD 0)) := fun i hi => by
          have := hc i (by omega)
          rw [Go.WideShapes.add_plain] at this
          rw [this, List.getElem?_take_of_lt hi]; simp
        refine ⟨b, off, rfl, ?_, hc0⟩
        have := hc0 0 (by omega)
        rcases Nat.lt_or_ge b w.heap.size with h | h
        · exact h
        · simp [World.cell?, h] at this
    · have hi' : i < zs.length := by simp at hi; omega
      have hi2 : i < len := by simp at hi; omega
      rw [List.getElem?_take_of_lt hi2]
      exact hw _ (by simp [hi'])

/-- A slice that a literal makes. -/
theorem seg_new (w : World) (k : IntKind) (C : Array Value) (T : TypeId) (n : Nat) (xs : List Int) (hC : C = (xs.map (Value.int k)).toArray) (hn : n = xs.length) :
    Seg k (w.alloc (.cells C T)) (some ⟨w.heap.size, 0, none⟩) n xs := by
  subst hC hn
  refine ⟨rfl, .inr ⟨_, _, rfl, by simp, fun i hi => ?_⟩⟩
  rw [Nat.zero_add, World.cell?_alloc_new]
  simp [hi]

theorem seg_at (n0 : Nat) (w : World) (k : IntKind) (C : Array Value) (T : TypeId) (n : Nat) (xs : List Int) (h0 : n0 = w.heap.size) (hC : C = (xs.map (Value.int k)).toArray) (hn : n = xs.length) :
    Seg k (w.alloc (.cells C T)) (some ⟨n0, 0, none⟩) n xs := by
  subst h0; exact seg_new w k C T n xs hC hn

/-- The same, where the run-time has laid its mark behind (a constant string's bytes). -/
theorem seg_mark (n0 : Nat) (w : World) (k : IntKind) (C : Array Value) (T : TypeId) (fr : Nat × Nat) (n : Nat) (xs : List Int) (h0 : n0 = w.heap.size) (hC : C = (xs.map (Value.int k)).toArray) (hn : n = xs.length) :
    Seg k (w.alloc (.cells C T fr)) (some ⟨n0, 0, none⟩) n xs := by
  subst h0 hC hn
  refine ⟨rfl, .inr ⟨_, _, rfl, by simp, fun i hi => ?_⟩⟩
  rw [Nat.zero_add, World.cell?_alloc_mark]
  simp [hi]

end Go.Proofs.YtcdgfghcmeadgaaDoor.Cr
namespace Go.Proofs.YtcdgfghcmeadgaaDoor.Cr
set_option linter.unusedVariables false

/-- A byte as a word. -/
def wb (z : Int) : Wd := BitVec.ofInt 32 z
/-- The register moved over one byte. -/
def stp (r : Wd) (z : Int) : Wd := txn 8 (r ^^^ wb z)
/-- The register moved over bytes. -/
def reg (r : Wd) (l : List Int) : Wd := l.foldl stp r

theorem reg_nil (r : Wd) : reg r [] = r := rfl
theorem reg_cons (r : Wd) (z : Int) (l : List Int) : reg r (z :: l) = reg (stp r z) l := rfl
theorem reg_append (r : Wd) (l m : List Int) : reg r (l ++ m) = reg (reg r l) m := by
  unfold reg; rw [List.foldl_append]
theorem reg_snoc (r : Wd) (l : List Int) (z : Int) : reg r (l ++ [z]) = stp (reg r l) z := by
  rw [reg_append]; rfl
theorem reg_lin (l : List Int) : ∀ r s : Wd, reg (r ^^^ s) l = txn (8 * l.length) r ^^^ reg s l := by
  induction l with
  | nil => intro r s; rfl
  | cons z l ih =>
    intro r s
    rw [reg_cons, reg_cons]
    have e : stp (r ^^^ s) z = txn 8 r ^^^ stp s z := by
      unfold stp; rw [BitVec.xor_assoc, txn_lin]
    rw [e, ih, List.length_cons, ← txn_add]
    congr 2
theorem reg_zero (r : Wd) (l : List Int) : reg r l = txn (8 * l.length) r ^^^ reg 0 l := by
  have := reg_lin l r 0
  rw [show r ^^^ (0 : Wd) = r from BitVec.xor_zero] at this
  exact this

/-- What comes in when the low four bits leave. -/
def tabl : List Int := [0x00000000, 0x105ec76f, 0x20bd8ede, 0x30e349b1, 0x417b1dbc, 0x5125dad3, 0x61c69362, 0x7198540d, 0x82f63b78, 0x92a8fc17, 0xa24bb5a6, 0xb21572c9, 0xc38d26c4, 0xd3d3e1ab, 0xe330a81a, 0xf36e6f75]
def tab4 (n : Nat) : Wd := BitVec.ofInt 32 (tabl.getD n 0)
theorem tab4_is : ∀ n, n < 16 → txn 4 (BitVec.ofNat 32 n) = tab4 n := by decide +kernel
theorem tx_low (a : Wd) (h : a.getLsbD 0 = false) : tx a = a >>> 1 := by unfold tx; rw [h]; rfl
theorem txn_low (n : Nat) (a : Wd) (h : ∀ i, i < n → a.getLsbD i = false) : txn n a = a >>> n := by
  induction n with
  | zero => simp [txn]
  | succ n ih =>
    show tx (txn n a) = _
    rw [ih (fun i hi => h i (by omega)), tx_low]
    · rw [BitVec.shiftRight_add]
    · rw [BitVec.getLsbD_ushiftRight]; exact h (n + 0) (by omega)
theorem low_high (n : Nat) (r : Wd) : r = ((r >>> n) <<< n) ^^^ (r % (1#32 <<< n)) ∨ 32 ≤ n := by
  by_cases hn : 32 ≤ n
  · exact .inr hn
  left
  apply BitVec.eq_of_getLsbD_eq
  intro i hi
  have e : (r % (1#32 <<< n)).getLsbD i = (decide (i < n) && r.getLsbD i) := by
    have h1 : (1#32 <<< n).toNat = 2 ^ n := by
      rw [BitVec.toNat_shiftLeft, Nat.shiftLeft_eq, show (1#32).toNat = 1 from rfl, Nat.one_mul]
      exact Nat.mod_eq_of_lt (Nat.pow_lt_pow_right (by omega) (by omega))
    show (r % (1#32 <<< n)).toNat.testBit i = _
    rw [BitVec.toNat_umod, h1, Nat.testBit_mod_two_pow]; rfl
  rw [BitVec.getLsbD_xor, e, BitVec.getLsbD_shiftLeft, BitVec.getLsbD_ushiftRight]
  by_cases h : i < n
  · simp [h, hi]
  · simp [h, hi, show n + (i - n) = i from by omega]
theorem txn4 (r : Wd) : txn 4 r = (r >>> 4) ^^^ tab4 (r.toNat % 16) := by
  rcases low_high 4 r with h | h
  · rw [← tab4_is _ (Nat.mod_lt _ (by omega))]
    have e : r % (1#32 <<< 4) = BitVec.ofNat 32 (r.toNat % 16) := by
      apply BitVec.eq_of_toNat_eq
      rw [BitVec.toNat_umod, BitVec.toNat_ofNat]
      have : (1#32 <<< 4).toNat = 16 := by decide
      rw [this]; omega
    rw [e] at h
    have h2 : txn 4 ((r >>> 4) <<< 4) = r >>> 4 := by
      rw [txn_low 4 _ (by intro i hi; rw [BitVec.getLsbD_shiftLeft]; simp [hi])]
      apply BitVec.eq_of_toNat_eq
      have := r.isLt
      simp only [BitVec.toNat_ushiftRight, BitVec.toNat_shiftLeft, Nat.shiftRight_eq_div_pow, Nat.shiftLeft_eq]
      omega
    calc txn 4 r = txn 4 (((r >>> 4) <<< 4) ^^^ BitVec.ofNat 32 (r.toNat % 16)) := by rw [← h]
      _ = _ := by rw [txn_lin, h2]
  · omega

/-- Some rounds of the long division, over the bits of bytes. -/
def hz (zs : List Int) : Nat → Wd
  | 0 => 0
  | i + 1 => tx (hz zs i) ^^^ (if i < 8 * zs.length ∧ (zs.getD (i / 8) 0) / 2 ^ (i % 8) % 2 = 1 then one else 0)
/-- Some rounds over the bits of one byte. -/
def hy (z : Int) : Nat → Wd
  | 0 => 0
  | i + 1 => tx (hy z i) ^^^ (if z / 2 ^ i % 2 = 1 then one else 0)
theorem hz_succ (zs : List Int) (i : Nat) : hz zs (i + 1) = tx (hz zs i) ^^^ (if i < 8 * zs.length ∧ (zs.getD (i / 8) 0) / 2 ^ (i % 8) % 2 = 1 then one else 0) := rfl
theorem hy_is : ∀ n : Nat, n < 256 → hy n 8 = wb n <<< 24 := by decide +kernel
theorem wb_up : ∀ n : Nat, n < 256 → txn 32 (wb n <<< 24) = txn 8 (wb n) := by decide +kernel
theorem hz_byte (zs : List Int) (k : Nat) (hk : k < zs.length) : ∀ j, j ≤ 8 → hz zs (8 * k + j) = txn j (hz zs (8 * k)) ^^^ hy (zs.getD k 0) j := by
  intro j
  induction j with
  | zero => intro _; show _ = hz zs (8 * k) ^^^ 0; rw [show ∀ a : Wd, a ^^^ 0 = a from fun a => BitVec.xor_zero]; rfl
  | succ j ih =>
    intro hj
    rw [← Nat.add_assoc, hz_succ]
    show _ = tx (txn j (hz zs (8 * k))) ^^^ (tx (hy (zs.getD k 0) j) ^^^ _)
    rw [ih (by omega), tx_lin, BitVec.xor_assoc, show (8 * k + j) / 8 = k from by omega, show (8 * k + j) % 8 = j from by omega]
    have : (8 * k + j < 8 * zs.length) = True := by apply eq_true; omega
    simp only [this, true_and]
theorem hz_reg (zs : List Int) (hb : ∀ z ∈ zs, 0 ≤ z ∧ z < 256) : ∀ k, k ≤ zs.length → txn 32 (hz zs (8 * k)) = reg 0 (zs.take k) := by
  intro k
  induction k with
  | zero => intro _; exact txn_zero 32
  | succ k ih =>
    intro hk
    have hk' : k < zs.length := by omega
    have h1 := hz_byte zs k hk' 8 (by omega)
    rw [Nat.mul_succ, h1]
    have hg : zs.getD k 0 = zs[k] := by simp [List.getD, List.getElem?_eq_getElem hk']
    have hm := hb _ (List.getElem_mem hk')
    obtain ⟨n, hn⟩ := Int.eq_ofNat_of_zero_le hm.1
    have hn' : n < 256 := by omega
    rw [hg, hn, show ((n : Nat) : Int) = (n : Int) from rfl, hy_is n hn', txn_lin, wb_up n hn', ← txn_add, Nat.add_comm, txn_add, ih (by omega), List.take_succ_eq_append_getElem hk', reg_snoc, hn]
    unfold stp
    rw [txn_lin]
theorem hz_tail (zs : List Int) (j : Nat) : hz zs (8 * zs.length + j) = txn j (hz zs (8 * zs.length)) := by
  induction j with
  | zero => rfl
  | succ j ih =>
    rw [← Nat.add_assoc, hz_succ]
    show _ = tx (txn j (hz zs (8 * zs.length)))
    rw [ih, if_neg (by omega)]
    exact BitVec.xor_zero
/-- The long division answers what the register does. -/
theorem hz_end (zs : List Int) (hb : ∀ z ∈ zs, 0 ≤ z ∧ z < 256) : hz zs (8 * zs.length + 32) = reg 0 zs := by
  rw [hz_tail, hz_reg zs hb _ (Nat.le_refl _), List.take_length]

/-- What undoes a word times x. -/
def ux (w : Wd) : Wd := if w.msb then ((w ^^^ gen) <<< 1) ||| 1#32 else w <<< 1
def uxn : Nat → Wd → Wd
  | 0, a => a
  | n + 1, a => ux (uxn n a)
theorem tx_ux (w : Wd) : tx (ux w) = w := by
  unfold tx ux
  cases h : w.msb
  · simp only [Bool.false_eq_true, if_false]
    have : (w <<< 1).getLsbD 0 = false := by simp
    rw [this]
    simp only [Bool.false_eq_true, if_false]
    rw [BitVec.msb_eq_false_iff_two_mul_lt] at h
    apply BitVec.eq_of_toNat_eq
    simp only [BitVec.toNat_ushiftRight, BitVec.toNat_shiftLeft, Nat.shiftRight_eq_div_pow, Nat.shiftLeft_eq]
    omega
  · simp only [if_true]
    have h0 : (((w ^^^ gen) <<< 1) ||| 1#32).getLsbD 0 = true := by simp
    rw [h0]
    simp only [if_true]
    have hm : (w ^^^ gen).msb = false := by rw [BitVec.msb_xor, h]; decide
    have e : (((w ^^^ gen) <<< 1) ||| 1#32) >>> 1 = w ^^^ gen := by
      apply BitVec.eq_of_getLsbD_eq
      intro i hi
      rw [BitVec.getLsbD_ushiftRight, BitVec.getLsbD_or, BitVec.getLsbD_shiftLeft]
      by_cases h31 : i = 31
      · subst h31
        have : (w ^^^ gen).getLsbD 31 = false := by rw [← hm, BitVec.msb_eq_getLsbD_last]
        rw [this]; simp
      · have : (1#32).getLsbD (1 + i) = false := by
          rw [BitVec.getLsbD_one]; simp
        rw [this]
        simp [show 1 + i < 32 from by omega]
    rw [e, BitVec.xor_assoc, BitVec.xor_self]
    exact BitVec.xor_zero
theorem txn_uxn (n : Nat) (w : Wd) : txn n (uxn n w) = w := by
  induction n generalizing w with
  | zero => rfl
  | succ n ih =>
    show tx (txn n (ux (uxn n w))) = w
    rw [← txn_tx, tx_ux, ih]

/-- A word's four bytes, the lowest first. -/
def by4 (t : Wd) : List Int := [(t.toNat % 256 : Nat), (t.toNat / 256 % 256 : Nat), (t.toNat / 65536 % 256 : Nat), (t.toNat / 16777216 % 256 : Nat)]
theorem wb_nat (n : Nat) : wb (n : Int) = BitVec.ofNat 32 n := by unfold wb; rw [BitVec.ofInt_natCast]
theorem txn8_up (r : Wd) (v : Nat) (h : v < 2 ^ 32) : txn 8 (r ^^^ BitVec.ofNat 32 v) = txn 8 (r ^^^ BitVec.ofNat 32 (v % 256)) ^^^ BitVec.ofNat 32 (v / 256) := by
  have e : BitVec.ofNat 32 v = BitVec.ofNat 32 (v % 256) ^^^ (BitVec.ofNat 32 (v / 256) <<< 8) := by
    have := low_high 8 (BitVec.ofNat 32 v)
    rcases this with h1 | h1
    · have a : BitVec.ofNat 32 v >>> 8 = BitVec.ofNat 32 (v / 256) := by
        apply BitVec.eq_of_toNat_eq
        simp only [BitVec.toNat_ushiftRight, BitVec.toNat_ofNat, Nat.shiftRight_eq_div_pow]; omega
      have b : BitVec.ofNat 32 v % (1#32 <<< 8) = BitVec.ofNat 32 (v % 256) := by
        apply BitVec.eq_of_toNat_eq
        rw [BitVec.toNat_umod, BitVec.toNat_ofNat, BitVec.toNat_ofNat]
        have : (1#32 <<< 8).toNat = 256 := by decide
        rw [this]; omega
      rw [a, b, BitVec.xor_comm] at h1
      exact h1
    · omega
  rw [e, ← BitVec.xor_assoc, txn_lin 8 (r ^^^ _)]
  congr 1
  rw [txn_low 8 _ (by intro i hi; rw [BitVec.getLsbD_shiftLeft]; simp [hi])]
  apply BitVec.eq_of_toNat_eq
  simp only [BitVec.toNat_ushiftRight, BitVec.toNat_shiftLeft, BitVec.toNat_ofNat, Nat.shiftRight_eq_div_pow, Nat.shiftLeft_eq]
  omega
theorem reg_by4 (r t : Wd) : reg r (by4 t) = txn 32 (r ^^^ t) := by
  have ht := t.isLt
  have e : t = BitVec.ofNat 32 t.toNat := by simp
  have s1 := txn8_up r t.toNat ht
  have s2 := txn8_up (txn 8 (r ^^^ BitVec.ofNat 32 (t.toNat % 256))) (t.toNat / 256) (by omega)
  have s3 := txn8_up (txn 8 (txn 8 (r ^^^ BitVec.ofNat 32 (t.toNat % 256)) ^^^ BitVec.ofNat 32 (t.toNat / 256 % 256))) (t.toNat / 256 / 256) (by omega)
  have s4 := txn8_up (txn 8 (txn 8 (txn 8 (r ^^^ BitVec.ofNat 32 (t.toNat % 256)) ^^^ BitVec.ofNat 32 (t.toNat / 256 % 256)) ^^^ BitVec.ofNat 32 (t.toNat / 256 / 256 % 256))) (t.toNat / 256 / 256 / 256) (by omega)
  have z : t.toNat / 256 / 256 / 256 / 256 = 0 := by omega
  have lhs : reg r (by4 t) = txn 8 (txn 8 (txn 8 (txn 8 (r ^^^ BitVec.ofNat 32 (t.toNat % 256)) ^^^ BitVec.ofNat 32 (t.toNat / 256 % 256)) ^^^ BitVec.ofNat 32 (t.toNat / 256 / 256 % 256)) ^^^ BitVec.ofNat 32 (t.toNat / 256 / 256 / 256 % 256)) := by
    show stp (stp (stp (stp r _) _) _) _ = _
    unfold stp
    rw [wb_nat, wb_nat, wb_nat, wb_nat]
    rw [show t.toNat / 65536 = t.toNat / 256 / 256 from by omega, show t.toNat / 16777216 = t.toNat / 256 / 256 / 256 from by omega]
  rw [lhs]
  have q : txn 32 (r ^^^ t) = txn 8 (txn 8 (txn 8 (txn 8 (r ^^^ BitVec.ofNat 32 t.toNat)))) := by
    rw [← e, ← txn_add, ← txn_add, ← txn_add]
  rw [q, s1, s2, s3, s4, z]
  exact BitVec.xor_zero.symm

end Go.Proofs.YtcdgfghcmeadgaaDoor.Cr
namespace Go.Proofs.YtcdgfghcmeadgaaDoor.Cr
set_option linter.unusedVariables false
open Go.RowKit

/-- The table's cells. -/
def Tab (w : World) : Prop := ∀ i, i < 16 → w.cell? ⟨0, i, none⟩ = some (.int .u32 (tabl.getD i 0))
theorem Tab.pos {w : World} (h : Tab w) : 0 < w.heap.size := by
  have := h 0 (by omega)
  rcases Nat.lt_or_ge 0 w.heap.size with h | h
  · exact h
  · simp [World.cell?, Nat.le_zero.1 h] at this
theorem Tab.below {w w' : World} (h : Tab w) (hb : Below w.heap.size w w') : Tab w' := fun i hi =>
  (hb.cell (p := ⟨0, i, none⟩) h.pos).trans (h i hi)
theorem tab_word : ∀ i, i < 16 → tabl.getD i 0 = W (tab4 i) := by decide +kernel
theorem Tab.cell {w : World} (h : Tab w) (r : Wd) : w.cell? ⟨0, (W r % (16 : Int)).toNat, none⟩ = some (.int .u32 (W (tab4 (r.toNat % 16)))) := by
  have e : (W r % (16 : Int)).toNat = r.toNat % 16 := by unfold W; omega
  rw [e, h _ (by omega), tab_word _ (by omega)]
theorem Tab.at {w : World} (h : Tab w) (r : Wd) : ∃ I : Int, (W r).tmod (16 : Int) = I ∧ 0 ≤ I ∧ I < 16 ∧ w.cell? ⟨0, I.toNat, none⟩ = some (.int .u32 (W (tab4 (r.toNat % 16)))) := by
  have e : (W r).tmod (16 : Int) = W r % 16 := Int.tmod_eq_emod_of_nonneg (W_nn r)
  exact ⟨W r % 16, e, by omega, by omega, h.cell r⟩
theorem W_sixteenth (a : Wd) : W a / (16 : Int) = W (a >>> 4) := by
  unfold W; rw [BitVec.toNat_ushiftRight, Nat.shiftRight_eq_div_pow]; omega
theorem W_byte (a : Wd) (z : Int) (h0 : 0 ≤ z) (h1 : z < 256) : bits .xor .u32 (W a) z = W (a ^^^ wb z) := by
  have e : z = W (wb z) := by
    obtain ⟨n, rfl⟩ := Int.eq_ofNat_of_zero_le h0
    unfold W
    rw [wb_nat, BitVec.toNat_ofNat]
    omega
  rw [e, W_xor, ← e]

theorem more_c (c : Wd) (a : Option Addr) (len cap : Nat) (xs : List Int) (w : World) (hseg : Seg .u8 w a len xs) (hx : Bytes xs) (ht : Tab w) (hl : len ≤ 1125899906842624) :
    Calls Tryd.prog 76 #[.int .u32 (W c), .slice a len cap] w fun e w' => e = .returned (.int .u32 (W (~~~ (reg (~~~ c) xs)))) ∧ w' = w := by
  obtain ⟨hlen, hseg⟩ := hseg
  have HL : Hid (xs.length = len) := hlen
  have hn := W_neg c
  go_enter Tryd.func76, Tryd.ntmps76
  go_wp2
  go_loop [5, 12] (fun r i => ∃ k : Nat, k ≤ len ∧ i = .int .i64 k ∧ r = .int .u32 (W (reg (~~~ c) (xs.take k)))) (fun _ i => len - (intOf i).toNat)
  case atStart => exact ⟨0, Nat.zero_le _, rfl, rfl⟩
  case round =>
    obtain ⟨k, hk, rfl, rfl⟩ := hrel
    by_cases hlt : k < len
    · obtain ⟨b, off, rfl, hbw, hc⟩ := hseg.resolve_left (by omega)
      have hcell := hc k hlt
      have hxk := hx k (by omega)
      have HS : Hid (reg (~~~ c) (xs.take (k + 1)) = stp (reg (~~~ c) (xs.take k)) (xs[k]?.getD 0)) := by
        rw [take_snoc xs k (by omega)]; exact reg_snoc _ _ _
      obtain ⟨R, hR⟩ : ∃ R, R = reg (~~~ c) (xs.take k) := ⟨_, rfl⟩
      rw [← hR] at HS ⊢
      obtain ⟨R1, hR1⟩ : ∃ R1, R1 = R ^^^ wb (xs[k]?.getD 0) := ⟨_, rfl⟩
      obtain ⟨R2, hR2⟩ : ∃ R2, R2 = txn 4 R1 := ⟨_, rfl⟩
      obtain ⟨R3, hR3⟩ : ∃ R3, R3 = txn 4 R2 := ⟨_, rfl⟩
      have hb1 := W_byte R (xs[k]?.getD 0) hxk.1 hxk.2
      rw [← hR1] at hb1
      obtain ⟨I1, hi1, hp1, hq1', hc1⟩ := ht.at R1
      obtain ⟨I2, hi2, hp2, hq2', hc2⟩ := ht.at R2
      have hx1 := W_xor (R1 >>> 4) (tab4 (R1.toNat % 16))
      have hx2 := W_xor (R2 >>> 4) (tab4 (R2.toNat % 16))
      rw [← txn4, ← hR2] at hx1
      rw [← txn4, ← hR3] at hx2
      have HE : Hid (stp R (xs[k]?.getD 0) = R3) := by
        show txn 8 (R ^^^ wb _) = R3
        rw [hR3, hR2, hR1, ← txn_add]
      have hq1 := W_sixteenth R1
      have hq2 := W_sixteenth R2
      obtain ⟨Q1, hQ1⟩ : ∃ Q, Q = R1 >>> 4 := ⟨_, rfl⟩
      obtain ⟨Q2, hQ2⟩ : ∃ Q, Q = R2 >>> 4 := ⟨_, rfl⟩
      obtain ⟨T1, hT1⟩ : ∃ Q, Q = tab4 (R1.toNat % 16) := ⟨_, rfl⟩
      obtain ⟨T2, hT2⟩ : ∃ Q, Q = tab4 (R2.toNat % 16) := ⟨_, rfl⟩
      rw [← hQ1] at hq1 hx1
      rw [← hQ2] at hq2 hx2
      rw [← hT1] at hx1 hc1
      rw [← hT2] at hx2 hc2
      clear hR hR1 hR2 hR3 hQ1 hQ2 hT1 hT2 hc hx hlen ht hseg hn
      go_wp2
      go_round
      case rel => exact ⟨k + 1, by omega, by go_num, congrArg (Value.int .u32) (by rw [HS.out, HE.out])⟩
      case measure => simp [intOf]; omega
    · have HK : Hid (xs.take k = xs) := by
        show xs.take k = xs
        exact List.take_of_length_le (by omega)
      have hm := W_neg (reg (~~~ c) xs)
      rw [HK.out]
      clear hseg hx hlen ht hn
      go_wp2
      go_ret
      exact ⟨rfl, rfl⟩

end Go.Proofs.YtcdgfghcmeadgaaDoor.Cr
namespace Go.Proofs.YtcdgfghcmeadgaaDoor.Cr
set_option linter.unusedVariables false
open Go.RowKit

/-- A slice of slices of bytes that can be read: these are its elements. -/
def Segs (w : World) (a : Option Addr) (n : Nat) (X : List (List Int)) : Prop :=
  X.length = n ∧ (n = 0 ∨ ∃ b off, a = some ⟨b, off, none⟩ ∧ b < w.heap.size ∧ ∀ i, i < n → ∃ pa pl pc, w.cell? ⟨b, off + i, none⟩ = some (.slice pa pl pc) ∧ Seg .u8 w pa pl (X[i]?.getD []) ∧ Bytes (X[i]?.getD []) ∧ pl ≤ 1125899906842624)
theorem Segs.below {w w' : World} {a : Option Addr} {n : Nat} {X : List (List Int)} (h : Segs w a n X) (hb : Below w.heap.size w w') : Segs w' a n X := by
  refine ⟨h.1, ?_⟩
  rcases h.2 with h0 | ⟨b, off, ha, hlt, hc⟩
  · exact .inl h0
  · have := hb.size
    refine .inr ⟨b, off, ha, by omega, fun i hi => ?_⟩
    obtain ⟨pa, pl, pc, h1, h2, h3⟩ := hc i hi
    exact ⟨pa, pl, pc, (hb.cell (p := ⟨b, off + i, none⟩) hlt).trans h1, h2.below hb, h3⟩
/-- A list of one part, that a call makes. -/
theorem segs_one {w : World} {a : Option Addr} {len cap : Nat} {xs : List Int} (T : TypeId) (h : Seg .u8 w a len xs) (hx : Bytes xs) (hl : len ≤ 1125899906842624) :
    Segs (w.alloc (.cells #[.slice a len cap] T)) (some ⟨w.heap.size, 0, none⟩) 1 [xs] := by
  refine ⟨rfl, .inr ⟨_, _, rfl, by simp, fun i hi => ?_⟩⟩
  obtain rfl : i = 0 := by omega
  refine ⟨a, len, cap, ?_, ?_, hx, hl⟩
  · rw [World.cell?_alloc_new]; rfl
  · exact h.below ((Below.refl _ _).alloc (Nat.le_refl _) _)
theorem segs_at {w : World} {a : Option Addr} {len cap : Nat} {xs : List Int} (n0 : Nat) (T : TypeId) (h0 : n0 = w.heap.size) (h : Seg .u8 w a len xs) (hx : Bytes xs) (hl : len ≤ 1125899906842624) :
    Segs (w.alloc (.cells #[.slice a len cap] T)) (some ⟨n0, 0, none⟩) 1 [xs] := by
  subst h0; exact segs_one T h hx hl
theorem segs_nil (w : World) (a : Option Addr) : Segs w a 0 [] := ⟨rfl, .inl rfl⟩

def ones : Wd := BitVec.allOnes 32
/-- The sum of bytes. -/
def sum (xs : List Int) : Wd := ~~~ (reg ones xs)

theorem flat_snoc (X : List (List Int)) (k : Nat) (h : k < X.length) : (X.take (k + 1)).flatten = (X.take k).flatten ++ X[k]?.getD [] := by
  rw [List.take_succ_eq_append_getElem h, List.flatten_append]; simp [h]

theorem sum_c (a : Option Addr) (n cap : Nat) (X : List (List Int)) (w : World) (hseg : Segs w a n X) (ht : Tab w) (hn : n ≤ 1125899906842624) :
    Calls Tryd.prog 42 #[.slice a n cap] w fun e w' => e = .returned (.int .u32 (W (sum X.flatten))) ∧ w' = w := by
  obtain ⟨hlen, hseg⟩ := hseg
  have HL : Hid (X.length = n) := hlen
  have HT : Hid (Tab w) := ht
  clear ht
  go_enter Tryd.func42, Tryd.ntmps42
  go_wp2
  go_loop [3, 8] (fun r i => ∃ k : Nat, k ≤ n ∧ i = .int .i64 k ∧ r = .int .u32 (W (sum (X.take k).flatten))) (fun _ i => n - (intOf i).toNat)
  case atStart => exact ⟨0, Nat.zero_le _, rfl, congrArg (Value.int .u32) (show (0 : Int) = W (~~~ ones) by decide +kernel)⟩
  case round =>
    obtain ⟨k, hk, rfl, rfl⟩ := hrel
    by_cases hlt : k < n
    · obtain ⟨b, off, rfl, hbw, hc⟩ := hseg.resolve_left (by omega)
      obtain ⟨pa, pl, pc, hcell, h2, h3, h4⟩ := hc k hlt
      have HC := more_c (sum (X.take k).flatten) pa pl pc _ w h2 h3 HT.out h4
      have e : ~~~ (reg (~~~ (sum (X.take k).flatten)) (X[k]?.getD [])) = sum (X.take (k + 1)).flatten := by
        unfold sum
        rw [BitVec.not_not, flat_snoc X k (by omega), reg_append]
      rw [e] at HC
      replace HC : Hid _ := HC
      clear hc h2 h3 e hlen
      go_wp2_with (go_at_call 76; go_must (refine Calls.mono HC.out ?_); rintro e w' ⟨rfl, rfl⟩)
      go_round
      case rel => exact ⟨k + 1, by omega, by go_num, rfl⟩
      case measure => simp [intOf]; omega
    · have HK : Hid (X.take k = X) := by
        show X.take k = X
        exact List.take_of_length_le (by omega)
      rw [HK.out]
      clear hseg hlen
      go_wp2
      go_ret
      exact ⟨rfl, rfl⟩

end Go.Proofs.YtcdgfghcmeadgaaDoor.Cr
namespace Go.Proofs.YtcdgfghcmeadgaaDoor.Cr
open Go.RowKit
set_option linter.unusedVariables false

/-- Block g holds these integers, and nothing else. -/
def Row (k : IntKind) (T : TypeId) (w : World) (g : Nat) (xs : List Int) : Prop := w.heap[g]? = some (.cells (xs.map (Value.int k)).toArray T (0, 0))
theorem Row.lt {k T w g xs} (h : Row k T w g xs) : g < w.heap.size := lt_of_block h
theorem Row.cell {k T w g xs} (h : Row k T w g xs) (i : Nat) (hi : i < xs.length) : w.cell? ⟨g, i, none⟩ = some (.int k (xs[i]?.getD 0)) := by
  rw [cell_of_row w g i _ T (0, 0) h]; simp [hi]
theorem Row.free {k T w g xs} (h : Row k T w g xs) (i : Nat) : w.frozen? ⟨g, i, none⟩ = false := frozen_of_row w g i _ T h
theorem Row.set {k T w g xs} (h : Row k T w g xs) (i : Nat) (v : Int) : Row k T (w.setCell ⟨g, i, none⟩ (.int k v)) g (xs.set i v) := by
  unfold Row
  rw [heap_setCell_same w g i _ T _ h]; simp [List.map_set]
theorem Row.below {k T w w' g xs B} (h : Row k T w g xs) (hb : Below B w w') (hg : g < B) : Row k T w' g xs := (hb.block g hg).trans h
theorem Row.seg {k T w g xs} (h : Row k T w g xs) (len : Nat) (hl : len ≤ xs.length) : Seg k w (some ⟨g, 0, none⟩) len (xs.take len) := by
  refine ⟨by simp; omega, .inr ⟨g, 0, rfl, h.lt, fun i hi => ?_⟩⟩
  rw [Nat.zero_add, h.cell i (by omega), List.getElem?_take_of_lt hi]
theorem Row.segAll {k T w g xs} (h : Row k T w g xs) (len : Nat) (hl : len = xs.length) : Seg k w (some ⟨g, 0, none⟩) len xs := by
  have := h.seg len (by omega)
  rw [hl, List.take_length] at this
  rw [hl]; exact this
theorem Row.drewN {k T w g xs} (h : Row k T w g xs) (n : Nat) : Row k T (w.drewN n) g xs := by
  unfold Row
  rw [show (w.drewN n).heap = w.heap from by simp]
  exact h
/-- A row that 'make' has made. -/
theorem row_of_own {k T w base g n} {L : List Value} (xs : List Int) (h : w.ownsRow base T 1 (.slice (some ⟨g, 0, none⟩) n n) n L) (hL : L = xs.map (Value.int k)) : Row k T w g xs := by
  rcases h.2 with ⟨h', _⟩ | ⟨g', cap', cur, h', _, hg, _, _, hs, htake⟩
  · simp at h'
  · simp only [Value.slice.injEq, Option.some.injEq, Addr.mk.injEq, and_true, true_and] at h'
    obtain ⟨rfl, rfl⟩ := h'
    unfold Row
    rw [List.take_of_length_le (by rw [Array.length_toList, hs]; exact Nat.le_refl _)] at htake
    rw [hg, ← hL, ← htake]

theorem Tryd.infoU8 : (Tryd.prog.info? 5).map (fun i => (i.zero, i.size, i.bytes)) = some (some (.int .u8 0), 1, 1) := by kernel_rfl

/-- The elements of a slice, as cells. -/
theorem seg_news' {k : IntKind} {w : World} {a : Option Addr} {m : Nat} {ys : List Int} (h : Seg k w a m ys) (ad : Addr) (ha : a = some ad) : ∀ j u, (ys.map (Value.int k))[j]? = some u → w.cell? (ad.add j) = some u := by
  intro j u hj
  have hjl : j < ys.length := by
    rcases Nat.lt_or_ge j ys.length with h' | h'
    · exact h'
    · rw [List.getElem?_eq_none (by simpa using h')] at hj; cases hj
  rcases h.2 with h0 | ⟨b, off, hb, _, hc⟩
  · rw [h.1] at hjl; omega
  · rw [hb] at ha; cases ha
    rw [Go.WideShapes.add_plain, hc j (by rw [← h.1]; exact hjl), ← hj]
    simp [hjl]
end Go.Proofs.YtcdgfghcmeadgaaDoor.Cr
namespace Go.Proofs.YtcdgfghcmeadgaaDoor.Cr
set_option linter.unusedVariables false
open Go.RowKit

/-- A word's bytes as an array. -/
def arr4 (t : Wd) : Value := .agg ((by4 t).map (Value.int .u8)).toArray

theorem arr4_is (t : Wd) (V : Int) (h : V = W t) : arr4 t = .agg #[.int .u8 (V % 256), .int .u8 (V / 256 % 256), .int .u8 (V / 65536 % 256), .int .u8 (V / 16777216)] := by
  have e : ∀ a b c d a' b' c' d' : Int, a = a' → b = b' → c = c' → d = d' → Value.agg #[.int .u8 a, .int .u8 b, .int .u8 c, .int .u8 d] = Value.agg #[.int .u8 a', .int .u8 b', .int .u8 c', .int .u8 d'] := by
    rintro _ _ _ _ _ _ _ _ rfl rfl rfl rfl; rfl
  have := t.isLt
  subst h
  exact e _ _ _ _ _ _ _ _ (by unfold W; omega) (by unfold W; omega) (by unfold W; omega) (by unfold W; omega)
theorem arr4_ex (t : Wd) : ∃ b0 b1 b2 b3 : Int, arr4 t = .agg #[.int .u8 b0, .int .u8 b1, .int .u8 b2, .int .u8 b3] ∧ by4 t = [b0, b1, b2, b3] := ⟨_, _, _, _, rfl, rfl⟩
theorem by4_bytes (t : Wd) : ∀ z ∈ by4 t, 0 ≤ z ∧ z < 256 := by
  intro z hz
  unfold by4 at hz
  simp only [List.mem_cons, List.not_mem_nil, or_false] at hz
  rcases hz with rfl | rfl | rfl | rfl <;> omega
/-- A new variable of four bytes, as a call that made memory of its own behind it leaves it. -/
theorem var4 {w w2 : World} {C : Array Value} {T : TypeId} (h : Below (w.alloc (.cells C T)).heap.size (w.alloc (.cells C T)) w2) (hC : C = #[.int .u8 0, .int .u8 0, .int .u8 0, .int .u8 0]) :
    ∀ i, i < 4 → w2.cell? ⟨w.heap.size, i, none⟩ = some (.int .u8 0) ∧ w2.frozen? ⟨w.heap.size, i, none⟩ = false := by
  intro i hi
  subst hC
  refine ⟨?_, ?_⟩
  · rw [h.cell (by simp), World.cell?_alloc_new]
    match i, hi with
    | 0, _ => rfl
    | 1, _ => rfl
    | 2, _ => rfl
    | 3, _ => rfl
  · rw [h.frozen (by simp)]
    have hb : (w.alloc (.cells #[.int .u8 0, .int .u8 0, .int .u8 0, .int .u8 0] T)).heap[w.heap.size]? = some (.cells #[.int .u8 0, .int .u8 0, .int .u8 0, .int .u8 0] T (0, 0)) := by
      show (w.heap.push _)[w.heap.size]? = _
      rw [Array.getElem?_push, if_pos rfl]
    exact frozen_of_row _ _ i _ T hb
theorem laid_c (t : Wd) (w : World) :
    Calls Tryd.prog 79 #[.int .u32 (W t)] w fun e w' => e = .returned (arr4 t) ∧ Below w.heap.size w w' := by
  obtain ⟨V, hV⟩ : ∃ V : Int, V = W t := ⟨_, rfl⟩
  have h0 := W_nn t
  have h1 := W_lt t
  rw [← hV] at h0 h1 ⊢
  have HV : Hid (V = W t) := hV
  clear hV
  go_enter Tryd.func79, Tryd.ntmps79
  go_wp2
  refine bodyPost_ret (v := .agg #[.int .u8 (V % 256), .int .u8 (V / 256 % 256), .int .u8 (V / 65536 % 256), .int .u8 (V / 16777216)]) (by simp [results, Tryd.results79, go_sem]) rfl ⟨?_, (Below.refl _ _).alloc (Nat.le_refl _) _⟩
  rw [arr4_is t V HV.out]

end Go.Proofs.YtcdgfghcmeadgaaDoor.Cr
namespace Go.Proofs.YtcdgfghcmeadgaaDoor.Cr
open Go.RowKit
set_option linter.unusedVariables false

/-- A slice of bytes as a string. -/
theorem seg_string {P : Program} {w : World} {a : Option Addr} {len : Nat} {xs : List Int} (src dst e : TypeId) (cap : Nat) (h : Seg .u8 w a len xs) (hs : P.underlying src = some (.slice e)) (he : P.underlying e = some (.int .u8)) (hd : P.underlying dst = some .string) :
    (convert src dst (.slice a len cap)).run P w = .ok (.string (strOfNums xs)) w := by
  rcases h.2 with rfl | ⟨b, off, rfl, _, hc⟩
  · obtain rfl : xs = [] := List.eq_nil_of_length_eq_zero h.1
    cases a with
    | none => exact run_convert_bytes_nil w src e hs he 0 cap dst hd
    | some ad =>
      rw [run_convert_bytes_string w src dst e _ 0 cap hs he hd, run_bytesToString w ad 0 cap [] (run_loadCells_list (P := P) w ad [] (fun j v hj => by simp at hj))]
      rfl
  · exact run_convert_bytes_arg w src e hs he b off len cap xs h.1 (fun i hi => by rw [hc i hi]; simp) dst hd
theorem strOfNums_inj {xs ys : List Int} (hx : Bytes xs) (hy : Bytes ys) (h : strOfNums xs = strOfNums ys) : xs = ys := by
  have h1 : xs.map (fun n => UInt8.ofNat n.toNat) = ys.map (fun n => UInt8.ofNat n.toNat) := by
    rw [← strOfNums_data, ← strOfNums_data, h]
  have hl : xs.length = ys.length := by simpa using congrArg List.length h1
  apply List.ext_getElem hl
  intro i i1 i2
  have h2 := congrArg (fun l => l[i]?) h1
  simp [i1, i2] at h2
  have a := hx i i1
  have b := hy i i2
  simp [i1] at a
  simp [i2] at b
  have h3 := congrArg UInt8.toNat h2
  simp [UInt8.toNat_ofNat'] at h3
  omega
theorem str_eq {xs ys : List Int} (hx : Bytes xs) (hy : Bytes ys) : ((strOfNums xs).toList == (strOfNums ys).toList) = decide (xs = ys) := by
  by_cases h : xs = ys
  · subst h; simp
  · have : (strOfNums xs).toList ≠ (strOfNums ys).toList := fun e => h (strOfNums_inj hx hy (by
      rw [ByteArray.toList_eq, ByteArray.toList_eq] at e
      exact Go.WideShapes.bytes_inj e))
    simp [h, this]

end Go.Proofs.YtcdgfghcmeadgaaDoor.Cr
namespace Go.Proofs.YtcdgfghcmeadgaaDoor.Cr
set_option linter.unusedVariables false
open Go.RowKit

theorem beq_c (a b : Option Addr) (la ca lb cb : Nat) (xs ys : List Int) (w : World) (h1 : Seg .u8 w a la xs) (h2 : Seg .u8 w b lb ys) (hx : Bytes xs) (hy : Bytes ys) :
    Calls Tryd.prog 80 #[.slice a la ca, .slice b lb cb] w fun e w' => e = .returned (.bool (decide (xs = ys))) ∧ w' = w := by
  have r1 := seg_string (P := Tryd.prog) 27 9 5 ca h1 Tryd.underlying27 Tryd.underlying5 Tryd.underlying9
  have r2 := seg_string (P := Tryd.prog) 27 9 5 cb h2 Tryd.underlying27 Tryd.underlying5 Tryd.underlying9
  have HE : Hid (((strOfNums xs).toList == (strOfNums ys).toList) = decide (xs = ys)) := str_eq hx hy
  clear h1 h2 hx hy
  go_enter Tryd.func80, Tryd.ntmps80
  go_wp2
  go_ret
  exact ⟨by rw [← HE.out]; rfl, rfl⟩

/-- Do bytes end with the sum of those ahead? -/
def holds (xs : List Int) : Bool := decide (4 ≤ xs.length ∧ xs.drop (xs.length - 4) = by4 (sum (xs.take (xs.length - 4))))
theorem Seg.take {w : World} {a : Option Addr} {len : Nat} {xs : List Int} (h : Seg .u8 w a len xs) (n : Nat) (hn : n ≤ len) : Seg .u8 w a n (xs.take n) := by
  refine ⟨by have := h.1; simp; omega, ?_⟩
  rcases h.2 with h0 | ⟨b, off, ha, hw, hc⟩
  · left; omega
  · exact .inr ⟨b, off, ha, hw, fun i hi => by rw [hc i (by omega), List.getElem?_take_of_lt hi]⟩
theorem Seg.drop {w : World} {b off : Nat} {len : Nat} {xs : List Int} (h : Seg .u8 w (some ⟨b, off, none⟩) len xs) (n : Nat) (hn : n ≤ len) (h0 : 0 < len) : Seg .u8 w (some ⟨b, off + n, none⟩) (len - n) (xs.drop n) := by
  refine ⟨by have := h.1; simp; omega, ?_⟩
  rcases h.2 with h0 | ⟨b', off', ha, hw, hc⟩
  · omega
  · cases ha
    exact .inr ⟨b, off + n, rfl, hw, fun i hi => by rw [show off + n + i = off + (n + i) from by omega, hc (n + i) (by omega), List.getElem?_drop]⟩
theorem Bytes.take {xs : List Int} (h : Bytes xs) (n : Nat) : Bytes (xs.take n) := bytes_of_mem fun z hz => h.mem z (List.mem_of_mem_take hz)
theorem Bytes.drop {xs : List Int} (h : Bytes xs) (n : Nat) : Bytes (xs.drop n) := bytes_of_mem fun z hz => h.mem z (List.mem_of_mem_drop hz)

theorem Seg.held {w w3 wr : World} {a : Option Addr} {len : Nat} {xs : List Int} (h : Seg .u8 w a len xs) (hw : Below w.heap.size w w3) (hh : Hid (Below w3.heap.size w3 wr)) : Seg .u8 wr a len xs := h.below (hw.trans (hh.out.mono hw.size))

set_option maxHeartbeats 1000000 in
theorem holds_c (a : Option Addr) (len cap : Nat) (xs : List Int) (w : World) (hlc : len ≤ cap) (hs : Seg .u8 w a len xs) (hx : Bytes xs) (hl : len ≤ 140737488355328) (ht : Tab w) :
    Calls Tryd.prog 49 #[.slice a len cap] w fun e w' => e = .returned (.bool (holds xs)) ∧ Below w.heap.size w w' := by
  have HLN : Hid (xs.length = len) := hs.1
  by_cases h4 : len < 4
  · have HF : Hid (holds xs = false) := by
      show holds xs = false
      unfold holds
      rw [HLN.out]
      exact decide_eq_false (by omega)
    clear hs
    go_enter Tryd.func49, Tryd.ntmps49
    go_wp2
    go_ret
    rw [HF.out]
    exact ⟨rfl, Below.refl _ _⟩
  · obtain ⟨b, off, rfl, hseg2⟩ := hs.2.resolve_left (by omega)
    obtain ⟨n, hn⟩ : ∃ n, len = n + 4 := ⟨len - 4, by omega⟩
    have HF : Hid (holds xs = decide (xs.drop n = by4 (sum (xs.take n)))) := by
      show _ = _
      unfold holds
      rw [HLN.out, hn]
      simp
    have HS1 : Hid (Seg .u8 w (some ⟨b, off, none⟩) n (xs.take n)) := hs.take n (by omega)
    have HS2 : Hid (Seg .u8 w (some ⟨b, off + n, none⟩) 4 (xs.drop n)) := by
      have := hs.drop n (by omega) (by omega)
      rw [show len - n = 4 from by omega] at this; exact this
    have HX1 : Hid (Bytes (xs.take n)) := hx.take n
    have HX2 : Hid (Bytes (xs.drop n)) := hx.drop n
    have HT : Hid (Tab w) := ht
    obtain ⟨ys, hys⟩ : ∃ ys, ys = xs.take n := ⟨_, rfl⟩
    rw [← hys] at HF HS1 HX1
    obtain ⟨b0, b1, b2, b3, hA, hB⟩ := arr4_ex (sum ys)
    have HB4 : Hid (Bytes [b0, b1, b2, b3]) := by rw [← hB]; exact bytes_of_mem (by4_bytes _)
    rw [hB] at HF
    replace hA : Hid _ := hA
    subst hn
    clear hs hx hys hB h4 HLN ht hseg2
    go_enter Tryd.func49, Tryd.ntmps49
    go_wp2_with (first
      | (go_at_call 42; refine (sum_c _ 1 1 [ys] _ ?_ (HT.out.below ((Below.refl _ _).alloc (Nat.le_refl _) _)) (by omega)).mono ?_; exact segs_at _ _ rfl HS1.out HX1.out (by omega); rintro e w1 ⟨rfl, rfl⟩; rw [show [ys].flatten = ys from by simp])
      | (go_at_call 79; go_must (refine (laid_c _ _).mono ?_); rintro e w2 ⟨rfl, hb2⟩; rw [hA.out]; replace hb2 : Hid _ := hb2))
    have HW : Hid (Below w.heap.size w (w2.alloc (Obj.cells #[.int .u8 b0, .int .u8 b1, .int .u8 b2, .int .u8 b3] 96))) := by
      have h1 : Below w.heap.size w w2 := ((Below.refl _ _).alloc (Nat.le_refl _) _).trans (hb2.out.mono (by simp))
      exact h1.alloc h1.size _
    have HG : Hid (Seg .u8 (w2.alloc (Obj.cells #[.int .u8 b0, .int .u8 b1, .int .u8 b2, .int .u8 b3] 96)) (some ⟨w2.heap.size, 0, none⟩) 4 [b0, b1, b2, b3]) := seg_new w2 .u8 _ 96 4 [b0, b1, b2, b3] rfl rfl
    clear hb2
    generalize (w2.alloc (Obj.cells #[.int .u8 b0, .int .u8 b1, .int .u8 b2, .int .u8 b3] 96)) = w3 at HW HG ⊢
    generalize w2.heap.size = g at HG ⊢
    have hS : Hid (Below w3.heap.size w3 w3) := Below.refl _ _
    have hSd : Hid (Below w3.heap.size w3 w3.drew) := (Below.refl _ _).drew
    have i1 : (0 : Int) ≤ (n : Int) := by omega
    have i2 : (n : Int) ≤ ((n + 4 : Nat) : Int) := by omega
    have i3 : n + 4 - n = 4 := by omega
    have i4 : ¬ cap = n := by omega
    have i5 : (n : Int) ≤ (n : Int) + 4 := by omega
    have i6 : (n : Int) + 4 ≤ (cap : Int) := by omega
    go_region_held3 (fun wr => Hid (Below w3.heap.size w3 wr)) (assumption) (first
      | (go_at_call 80; refine (beq_c _ _ _ _ _ _ (xs.drop n) [b0, b1, b2, b3] _ (HS2.out.held HW.out (by assumption)) (HG.out.held (Below.refl _ _) (by assumption)) HX2.out HB4.out).mono ?_; rintro e w5 ⟨rfl, rfl⟩; rw [← HF.out]))
    go_wp2
    go_ret
    exact ⟨rfl, HW.out.drew⟩

end Go.Proofs.YtcdgfghcmeadgaaDoor.Cr
namespace Go.Proofs.YtcdgfghcmeadgaaDoor
open Go.RowKit
set_option linter.unusedVariables false

theorem gbb {a b : World} (h : a.grownBy b none) : Below a.heap.size a b := ⟨h.os, h.tape, h.output, h.size, fun i hi => h.block i hi (fun e => by cases e)⟩
theorem bgb {a b : World} (h : Below a.heap.size a b) : a.grownBy b none := grownBy_below h none
theorem gal (a : World) (o : Obj) : a.grownBy (a.alloc o) none := World.grownBy_alloc _ _ _
theorem grf (a : World) : a.grownBy a none := World.grownBy.refl _ _
theorem WM.uint {B w wr ys} (h : WM B w wr ys 0) (V : Int) (h0 : 0 ≤ V) (h1 : V < 18446744073709551616) (hb : ys.length + 10 ≤ 140737488355328) : Calls Tryd.prog 73 #[.pointer (some ⟨B, 0, none⟩), .int .u64 V] wr fun r w' => r = .returned (.tuple #[]) ∧ WM B w w' (ys ++ enc V.toNat) 0 :=
  h.goes (fun fs hs => by
    have k := wuint_c B ys 0 V fs wr hs h0 h1 hb
    rw [show wadd 0 ys (enc V.toNat) = ys ++ enc V.toNat from if_pos rfl] at k
    exact k)
theorem WM.size {B w wr ys e} (h : WM B w wr ys e) : Calls Tryd.prog 77 #[.pointer (some ⟨B, 0, none⟩)] wr fun r w' => r = .returned (.int .i64 (ys.length : Int)) ∧ w' = wr := by
  obtain ⟨fs, h1, _⟩ := h
  exact wsize_c B ys e fs wr h1
/-- The bytes of some numbers. -/
def numB (vs : List Int) : List Int := vs.flatMap (fun v => enc v.toNat)
theorem numB_take (vs : List Int) (k : Nat) (h : k < vs.length) : numB (vs.take (k + 1)) = numB (vs.take k) ++ enc (vs[k]?.getD 0).toNat := by
  unfold numB
  rw [List.take_add_one, List.flatMap_append, List.getElem?_eq_getElem h]
  simp
set_option maxRecDepth 20000 in
set_option maxHeartbeats 1000000 in
theorem numbers_c (b n cap : Nat) (vs : List Int) (w : World) (h : Seg .i64 w (some ⟨b, 0, none⟩) n vs) (hv : ∀ i, i < n → 0 ≤ vs[i]?.getD 0 ∧ vs[i]?.getD 0 < 9223372036854775808) (hn : n ≤ 10) :
    Calls Tryd.prog 43 #[.slice (some ⟨b, 0, none⟩) n cap] w fun r w' => r = .returned (.int .i64 ((numB vs).length : Int)) ∧ w.grownBy w' none := by
  have HS : Hid (Seg .i64 w (some ⟨b, 0, none⟩) n vs ∧ ∀ i, i < n → 0 ≤ vs[i]?.getD 0 ∧ vs[i]?.getD 0 < 9223372036854775808) := ⟨h, hv⟩
  obtain ⟨B, hB⟩ : ∃ B, B = w.heap.size := ⟨_, rfl⟩
  have HBW : Hid (B = w.heap.size) := hB
  clear h hv
  go_enter Tryd.func43, Tryd.ntmps43
  go_wp2_with fail
  rw [← hB]
  generalize hW1 : World.alloc w _ = W1
  have H1 : Hid (WM B w W1 [] 0) := by
    rw [← hW1, hB]
    exact ⟨[], ws_none (heap_new w _), by simp, (Below.refl _ _).alloc (Nat.le_refl _) _, by simp⟩
  clear hW1 hB
  go_wp2_with fail
  go_loopw [8] (fun i wr => ∃ k : Nat, k ≤ n ∧ i = .int .i64 (k : Int) ∧ Hid (WM B w wr (numB (vs.take k)) 0 ∧ (numB (vs.take k)).length ≤ 10 * k)) (fun i _ => n - (intOf i).toNat)
  case atStart => exact ⟨0, Nat.zero_le _, rfl, H1.out, by simp [numB]⟩
  case round =>
    obtain ⟨k, hk, rfl, hr⟩ := hrel
    clear H1
    by_cases hlt : k < n
    · have hi1 : (k : Int) < n := by omega
      obtain ⟨V, hV⟩ : ∃ V, V = vs[k]?.getD 0 := ⟨_, rfl⟩
      have hVb := HS.out.2 k hlt
      rw [← hV] at hVb
      have hcell : wr.cell? ⟨b, k, none⟩ = some (.int .i64 V) := by
        rcases HS.out.1.2 with z | ⟨b', off, q, hb, hc⟩
        · omega
        · cases q
          obtain ⟨_, _, _, hbel, _⟩ := hr.out.1
          rw [hbel.cell (p := ⟨b, k, none⟩) (by rw [HBW.out]; exact hb)]
          have := hc k hlt
          rw [Nat.zero_add] at this
          rw [this, hV]
      have HT : Hid (numB (vs.take (k + 1)) = numB (vs.take k) ++ enc V.toNat ∧ (numB (vs.take (k + 1))).length ≤ 10 * (k + 1)) := by
        have e := numB_take vs k (by rw [HS.out.1.1]; exact hlt)
        rw [← hV] at e
        have := enc_leN V.toNat (by omega)
        exact ⟨e, by rw [e, List.length_append]; have := hr.out.2; omega⟩
      have h0 := hVb.1
      have h1 := hVb.2
      have HU : Hid (Calls Tryd.prog 73 #[.pointer (some ⟨B, 0, none⟩), .int .u64 V] wr fun r w' => r = .returned (.tuple #[]) ∧ WM B w w' (numB (vs.take (k + 1))) 0) := by
        have k := hr.out.1.uint V (by omega) (by omega) (by have := hr.out.2; omega)
        rw [← HT.out.1] at k
        exact k
      clear hV hVb
      go_wp2_with (go_at_call 73; go_must (refine (Calls.mono HU.out ?_)); rintro r x1 ⟨rfl, h⟩; have A1 : Hid (WM B w x1 (numB (vs.take (k + 1))) 0) := h; clear h)
      go_roundw
      case rel => exact ⟨k + 1, by omega, by go_num, A1.out, HT.out.2⟩
      case measure => simp [intOf]; omega
    · obtain rfl : k = n := by omega
      have hge : ¬ (k : Int) < k := by omega
      have e : vs.take k = vs := List.take_of_length_le (by rw [HS.out.1.1]; exact Nat.le_refl _)
      rw [e] at hr
      have HZ : Hid (Calls Tryd.prog 77 #[.pointer (some ⟨B, 0, none⟩)] wr fun r w' => r = .returned (.int .i64 ((numB vs).length : Int)) ∧ w' = wr) := hr.out.1.size
      have HG : Hid (w.grownBy wr none) := by
        obtain ⟨_, _, _, hbel, _⟩ := hr.out.1
        rw [HBW.out] at hbel
        exact bgb hbel
      clear e hr
      go_wp2_with (go_at_call 77; go_must (refine (Calls.mono HZ.out ?_)); rintro r wq ⟨rfl, hq⟩; obtain rfl := hq.symm)
      go_ret
      exact ⟨rfl, HG.out⟩
/-- A row: key, value, version. -/
structure Rwi where
  k : ByteArray
  v : ByteArray
  n : Int
def Rwi.cells (r : Rwi) : List Value := [.string r.k, .string r.v, .int .i64 r.n]
def Rwi.err (r : Rwi) : Int := Tb.rowE (r.k, r.v, r.n)
def Rwi.bytes (r : Rwi) : List Int := rowB r.k r.v r.n
def gtI (s t : ByteArray) : Bool := !(Op.bytesLess s.toList t.toList || s.toList == t.toList)
theorem run_gtI (s t : ByteArray) : ∀ W, (binOp .gtr 9 (.string s) (.string t)).run Tryd.prog W = .ok (.bool (gtI s t)) W := fun W => by
  rfl
/-- Whether a row may stand behind a key, in a state of that number. -/
def fwI (r : Rwi) (ahead : ByteArray) (seq : Int) : Bool := (r.err == 0) && gtI r.k ahead && decide (r.n ≤ seq)
end Go.Proofs.YtcdgfghcmeadgaaDoor
namespace Go.Proofs.YtcdgfghcmeadgaaDoor
open Go.RowKit
set_option linter.unusedVariables false

theorem infoRwI : (Tryd.prog.info? 48).map (·.size) = some 3 := by kernel_rfl
set_option maxRecDepth 20000 in
set_option maxHeartbeats 1000000 in
theorem follows_c (k v : ByteArray) (n : Int) (ahead : ByteArray) (seq : Int) (w : World) :
    Calls Tryd.prog 44 #[.agg #[.string k, .string v, .int .i64 n], .string ahead, .int .i64 seq] w fun r w' => r = .returned (.bool (fwI ⟨k, v, n⟩ ahead seq)) ∧ w.grownBy w' none := by
  have H0 : Hid (Bk 48 (w.alloc (.cells #[.string k, .string v, .int .i64 n] 48)) w.heap.size #[.string k, .string v, .int .i64 n] ∧ w.grownBy (w.alloc (.cells #[.string k, .string v, .int .i64 n] 48)) none) := blk_new w _ _
  obtain ⟨E, hE⟩ : ∃ E, E = Tb.rowE (k, v, n) := ⟨_, rfl⟩
  have HC : Hid (∀ W, Calls Tryd.prog 78 #[.agg #[.string k, .string v, .int .i64 n]] W fun r w' => r = .returned (.int .i64 E) ∧ W.grownBy w' none) := fun W => by
    rw [hE]
    exact Tb.tcheck_c (k, v, n) W
  have hgt := run_gtI k ahead
  have hfw : fwI ⟨k, v, n⟩ ahead seq = ((E == 0) && gtI k ahead && decide (n ≤ seq)) := by rw [hE]; rfl
  rw [hfw]
  generalize gtI k ahead = G at hgt ⊢
  clear hE hfw
  by_cases hE0 : E = 0
  · subst hE0
    cases G with
    | false =>
      simp only [Bool.and_false, Bool.false_and]
      go_enter Tryd.func44, Tryd.ntmps44
      go_wp2_with (first
        | (refine wpList_load_bk 48 rfl (.tmp 3) rfl Tryd.underlying48 rfl infoRwI w.heap.size _ rfl H0.out.1 rfl ?_)
        | (go_at_call 78; go_must (refine (Calls.mono (HC.out _) ?_)); rintro r w1 ⟨rfl, h⟩; have H1 : Hid (w.grownBy w1 none) := gb_trans H0.out.2 h; have c0 : w1.cell? ⟨w.heap.size, 0, none⟩ = some (.string k) := (H0.out.1.grew h (by simp)).cell 0; have c2 : w1.cell? ⟨w.heap.size, 2, none⟩ = some (.int .i64 n) := (H0.out.1.grew h (by simp)).cell 2; clear h))
      go_ret
      exact ⟨rfl, H1.out⟩
    | true =>
      obtain ⟨b, hb⟩ : ∃ b, b = decide (n ≤ seq) := ⟨_, rfl⟩
      have hdc : decide (n ≤ seq) = b := hb.symm
      rw [hdc]
      simp only [Bool.and_true, beq_self_eq_true, Bool.true_and]
      clear hb
      go_enter Tryd.func44, Tryd.ntmps44
      go_wp2_with (first
        | (refine wpList_load_bk 48 rfl (.tmp 3) rfl Tryd.underlying48 rfl infoRwI w.heap.size _ rfl H0.out.1 rfl ?_)
        | (go_at_call 78; go_must (refine (Calls.mono (HC.out _) ?_)); rintro r w1 ⟨rfl, h⟩; have H1 : Hid (w.grownBy w1 none) := gb_trans H0.out.2 h; have c0 : w1.cell? ⟨w.heap.size, 0, none⟩ = some (.string k) := (H0.out.1.grew h (by simp)).cell 0; have c2 : w1.cell? ⟨w.heap.size, 2, none⟩ = some (.int .i64 n) := (H0.out.1.grew h (by simp)).cell 2; clear h))
      go_ret
      exact ⟨rfl, H1.out⟩
  · have hEb : (E == 0) = false := by simp [hE0]
    rw [hEb]
    simp only [Bool.false_and]
    clear hE0
    go_enter Tryd.func44, Tryd.ntmps44
    go_wp2_with (first
      | (refine wpList_load_bk 48 rfl (.tmp 3) rfl Tryd.underlying48 rfl infoRwI w.heap.size _ rfl H0.out.1 rfl ?_)
      | (go_at_call 78; go_must (refine (Calls.mono (HC.out _) ?_)); rintro r w1 ⟨rfl, h⟩; have H1 : Hid (w.grownBy w1 none) := gb_trans H0.out.2 h; clear h))
    go_ret
    exact ⟨rfl, H1.out⟩
/-- Bytes laid behind others. -/
theorem ilaid_c (v : Value) (n : Nat) (xs ys : List Int) (C g : Nat) (fs : List Nat) (w : World) (ho : Own C w v n xs) (hw : WS w g ys 0 fs) (hC : C ≤ w.heap.size) (hb : n + ys.length ≤ 70368744177664) :
    Calls Tryd.prog 39 #[v, .pointer (some ⟨g, 0, none⟩)] w fun r w' => ∃ v', r = .returned v' ∧ Own C w' v' (n + ys.length) (xs ++ ys) ∧ w.grownBy w' v.ownBlock := by
  have HO : Hid (Own C w v n xs ∧ C ≤ w.heap.size) := ⟨ho, hC⟩
  obtain ⟨m, hm⟩ : ∃ m, m = ys.length := ⟨_, rfl⟩
  have HB : Hid (Calls Tryd.prog 74 #[.pointer (some ⟨g, 0, none⟩)] w fun r w' => ∃ b, r = .returned (.tuple #[.slice (some ⟨b, 0, none⟩) m m, .int .i64 0]) ∧ Seg .u8 w' (some ⟨b, 0, none⟩) m ys ∧ w.grownBy w' none) := by
    rw [hm]
    refine (wbytes_ok g ys fs w hw (by omega)).mono ?_
    rintro r w' ⟨b, rfl, h1, h2, h3⟩
    exact ⟨b, rfl, h2.segAll _ rfl, bgb h3⟩
  obtain ⟨va, vc, rfl, _⟩ := ho.seg
  rw [← hm] at hb ⊢
  clear ho hw hC hm
  go_enter Tryd.func39, Tryd.ntmps39
  go_wp2_with (first
    | (go_at_call 74; go_must (refine (Calls.mono HB.out ?_)); rintro r w1 ⟨b, rfl, h1, h2⟩; have H1 : Hid (Own C w1 (.slice va n vc) n xs ∧ Seg .u8 w1 (some ⟨b, 0, none⟩) m ys ∧ w.grownBy w1 none ∧ C ≤ w1.heap.size) := ⟨HO.out.1.below (gbb h2), h1, h2, Nat.le_trans HO.out.2 h2.size⟩; clear h1 h2)
    | (at_builtin; go_must (refine wpList_append_apart _ rfl (.tmp 12) (.tmp 13) rfl C n (.slice va n vc) xs rfl H1.out.1 (some ⟨b, 0, none⟩) m m ys rfl (fun e => by cases e) H1.out.2.1 (by omega) H1.out.2.2.2 ?_); intro v2 w2 ho hg _; have H2 : Hid (Own C w2 v2 (n + m) (xs ++ ys) ∧ w.grownBy w2 (Value.slice va n vc).ownBlock) := ⟨ho, gb_trans (gb_wide H1.out.2.2.1 _) hg⟩; clear ho hg))
  go_ret
  exact ⟨v2, rfl, H2.out.1, H2.out.2⟩
theorem sumOf_c (t : Cr.Wd) (w : World) :
    Calls Tryd.prog 41 #[.int .u32 (Cr.W t)] w fun e w' => e = .returned (Cr.arr4 t) ∧ w.grownBy w' none := by
  obtain ⟨V, hV⟩ : ∃ V : Int, V = Cr.W t := ⟨_, rfl⟩
  have h0 := Cr.W_nn t
  have h1 := Cr.W_lt t
  rw [← hV] at h0 h1 ⊢
  have HV : Hid (V = Cr.W t) := hV
  clear hV
  go_enter Tryd.func41, Tryd.ntmps41
  go_wp2
  refine bodyPost_ret (v := .agg #[.int .u8 (V % 256), .int .u8 (V / 256 % 256), .int .u8 (V / 65536 % 256), .int .u8 (V / 16777216)]) (by simp [results, Tryd.results41, go_sem]) rfl ⟨?_, gal _ _⟩
  rw [Cr.arr4_is t V HV.out]
end Go.Proofs.YtcdgfghcmeadgaaDoor
namespace Go.Proofs.YtcdgfghcmeadgaaDoor
open Go.RowKit
set_option linter.unusedVariables false

def zRow : Rwi := ⟨.empty, .empty, 0⟩
def rAt (X : List Rwi) (k : Nat) : Rwi := X[k]?.getD zRow
/-- Rows that can be read. -/
def Rws (w : World) (a : Option Addr) (n : Nat) (X : List Rwi) : Prop :=
  X.length = n ∧ (n = 0 ∨ ∃ b off, a = some ⟨b, off, none⟩ ∧ b < w.heap.size ∧ ∀ i, i < n → w.rangeAt b (off + i * 3) (rAt X i).cells)
theorem Rws.below {w w' : World} {a : Option Addr} {n : Nat} {X : List Rwi} (h : Rws w a n X) (hb : Below w.heap.size w w') : Rws w' a n X := by
  refine ⟨h.1, ?_⟩
  rcases h.2 with h0 | ⟨b, off, ha, hlt, hc⟩
  · exact .inl h0
  · have := hb.size
    exact .inr ⟨b, off, ha, by omega, fun i hi j v hv => (hb.cell (p := ⟨b, off + i * 3 + j, none⟩) hlt).trans (hc i hi j v hv)⟩
/-- The key ahead of a row. -/
def ahd (X : List Rwi) : Nat → ByteArray
  | 0 => .empty
  | k + 1 => (rAt X k).k
/-- Whether the first rows follow one another. -/
def okTo (X : List Rwi) (seq : Int) : Nat → Bool
  | 0 => true
  | k + 1 => okTo X seq k && fwI (rAt X k) (ahd X k) seq
def rowsB (X : List Rwi) : Nat → List Int
  | 0 => []
  | k + 1 => rowsB X k ++ (rAt X k).bytes
/-- How many bytes there are up to a row. -/
def tz (seq : Int) (n : Nat) (X : List Rwi) (k : Nat) : Nat := 8 + (numB [seq, (n : Int)]).length + (rowsB X k).length
/-- The first error. -/
def sE (seq : Int) (n : Nat) (X : List Rwi) : Int :=
  if 1048576 < n then 90 else if seq < 0 ∨ 1152921504606846976 < seq then 91 else if okTo X seq n = false then 91 else if 268435456 < tz seq n X n then 90 else 0
/-- The size that is told. -/
def sN (seq : Int) (n : Nat) (X : List Rwi) : Int := if sE seq n X = 0 then ((tz seq n X n : Nat) : Int) else 0
theorem sN_no {seq : Int} {n : Nat} {X : List Rwi} (h : sE seq n X ≠ 0) : sN seq n X = 0 := if_neg h
theorem okTo_stay (X : List Rwi) (seq : Int) (k n : Nat) (h : k ≤ n) (hk : okTo X seq k = false) : okTo X seq n = false := by
  induction n with
  | zero =>
    obtain rfl : k = 0 := by omega
    exact hk
  | succ n ih =>
    rcases Nat.lt_or_ge n k with q | q
    · obtain rfl : k = n + 1 := by omega
      exact hk
    · show (okTo X seq n && _) = false
      rw [ih q, Bool.false_and]
theorem fw_bd {r : Rwi} {ahead : ByteArray} {seq : Int} (h : fwI r ahead seq = true) : r.err = 0 ∧ 1 ≤ r.k.size ∧ r.k.size ≤ 1024 ∧ r.v.size ≤ 65536 ∧ 1 ≤ r.n ∧ r.n ≤ 1152921504606846976 ∧ r.n ≤ seq := by
  unfold fwI at h
  simp only [Bool.and_eq_true, beq_iff_eq, decide_eq_true_eq] at h
  obtain ⟨⟨h1, h2⟩, h3⟩ := h
  refine ⟨h1, ?_⟩
  unfold Rwi.err Tb.rowE at h1
  simp only at h1
  split at h1
  · omega
  · split at h1
    · omega
    · split at h1
      · omega
      · omega
theorem row_len (k v : ByteArray) (n : Int) : (rowB k v n).length = (numB [(k.size : Int), (v.size : Int), n]).length + k.size + v.size := by
  unfold rowB numB
  simp [sb_length]
  omega
theorem num3_le (a b c : Int) (ha : a < 18446744073709551616) (hb : b < 18446744073709551616) (hc : c < 18446744073709551616) : (numB [a, b, c]).length ≤ 30 := by
  unfold numB
  simp only [List.flatMap_cons, List.flatMap_nil, List.append_nil, List.length_append]
  have h1 := enc_leN a.toNat (by omega)
  have h2 := enc_leN b.toNat (by omega)
  have h3 := enc_leN c.toNat (by omega)
  omega
theorem num2_le (a b : Int) (ha : a < 18446744073709551616) (hb : b < 18446744073709551616) : (numB [a, b]).length ≤ 20 := by
  unfold numB
  simp only [List.flatMap_cons, List.flatMap_nil, List.append_nil, List.length_append]
  have h1 := enc_leN a.toNat (by omega)
  have h2 := enc_leN b.toNat (by omega)
  omega
theorem nums_seg (w : World) (l : List Int) (T : TypeId) : Seg .i64 (w.alloc (.cells (l.map (Value.int .i64)).toArray T)) (some ⟨w.heap.size, 0, none⟩) l.length l := by
  refine ⟨rfl, ?_⟩
  by_cases h0 : l.length = 0
  · exact .inl h0
  · refine .inr ⟨w.heap.size, 0, rfl, by simp, fun i hi => ?_⟩
    rw [Nat.zero_add, cell_of_row _ _ i _ _ _ (heap_new w _)]
    simp [hi]
theorem num3_c (a b c : Int) (ha : 0 ≤ a ∧ a < 9223372036854775808) (hb : 0 ≤ b ∧ b < 9223372036854775808) (hc : 0 ≤ c ∧ c < 9223372036854775808) (T : TypeId) (w : World) :
    Calls Tryd.prog 43 #[.slice (some ⟨w.heap.size, 0, none⟩) 3 3] (w.alloc (.cells #[.int .i64 a, .int .i64 b, .int .i64 c] T)) fun r w' => r = .returned (.int .i64 ((numB [a, b, c]).length : Int)) ∧ w.grownBy w' none := by
  have k := numbers_c w.heap.size 3 3 [a, b, c] _ (nums_seg w [a, b, c] T) (fun i hi => by rcases (by omega : i = 0 ∨ i = 1 ∨ i = 2) with rfl | rfl | rfl <;> simpa) (by omega)
  exact k.mono fun r w' ⟨h1, h2⟩ => ⟨h1, gb_trans (gal _ _) h2⟩
theorem num3_d (a b c : Int) (ha : 0 ≤ a ∧ a < 9223372036854775808) (hb : 0 ≤ b ∧ b < 9223372036854775808) (hc : 0 ≤ c ∧ c < 9223372036854775808) (T : TypeId) (w : World) :
    Calls Tryd.prog 43 #[.slice (some ⟨w.heap.size, 0, none⟩) 3 3] (w.alloc (.cells #[.int .i64 a, .int .i64 b, .int .i64 c] T)).drew fun r w' => r = .returned (.int .i64 ((numB [a, b, c]).length : Int)) ∧ w.grownBy w' none := by
  have hd : (w.alloc (.cells #[.int .i64 a, .int .i64 b, .int .i64 c] T)).grownBy (w.alloc (.cells #[.int .i64 a, .int .i64 b, .int .i64 c] T)).drew none := gb_drewN (grf _) 1
  have k := numbers_c w.heap.size 3 3 [a, b, c] _ ((nums_seg w [a, b, c] T).grew hd (by simp)) (fun i hi => by rcases (by omega : i = 0 ∨ i = 1 ∨ i = 2) with rfl | rfl | rfl <;> simpa) (by omega)
  exact k.mono fun r w' ⟨h1, h2⟩ => ⟨h1, gb_trans (gb_trans (gal _ _) hd) h2⟩
theorem num2_c (a b : Int) (ha : 0 ≤ a ∧ a < 9223372036854775808) (hb : 0 ≤ b ∧ b < 9223372036854775808) (T : TypeId) (w : World) :
    Calls Tryd.prog 43 #[.slice (some ⟨w.heap.size, 0, none⟩) 2 2] (w.alloc (.cells #[.int .i64 a, .int .i64 b] T)) fun r w' => r = .returned (.int .i64 ((numB [a, b]).length : Int)) ∧ w.grownBy w' none := by
  have k := numbers_c w.heap.size 2 2 [a, b] _ (nums_seg w [a, b] T) (fun i hi => by rcases (by omega : i = 0 ∨ i = 1) with rfl | rfl <;> simpa) (by omega)
  exact k.mono fun r w' ⟨h1, h2⟩ => ⟨h1, gb_trans (gal _ _) h2⟩
/-- A row's variable, and what has grown since. -/
theorem held_al {x W : World} {Q : Nat} {k v : ByteArray} {n : Int} (h : (W.cell? ⟨Q, 0, none⟩ = some (.string k) ∧ W.cell? ⟨Q, 1, none⟩ = some (.string v) ∧ W.cell? ⟨Q, 2, none⟩ = some (.int .i64 n)) ∧ Hid (Q < x.heap.size ∧ x.grownBy W none)) (o : Obj) :
    ((W.alloc o).cell? ⟨Q, 0, none⟩ = some (.string k) ∧ (W.alloc o).cell? ⟨Q, 1, none⟩ = some (.string v) ∧ (W.alloc o).cell? ⟨Q, 2, none⟩ = some (.int .i64 n)) ∧ Hid (Q < x.heap.size ∧ x.grownBy (W.alloc o) none) := by
  have hq : Q < W.heap.size := Nat.lt_of_lt_of_le h.2.out.1 h.2.out.2.size
  exact ⟨⟨((gbb (gal W o)).cell hq).trans h.1.1, ((gbb (gal W o)).cell hq).trans h.1.2.1, ((gbb (gal W o)).cell hq).trans h.1.2.2⟩, h.2.out.1, gb_trans h.2.out.2 (gal _ _)⟩
theorem held_dr {x W : World} {Q : Nat} {k v : ByteArray} {n : Int} (h : (W.cell? ⟨Q, 0, none⟩ = some (.string k) ∧ W.cell? ⟨Q, 1, none⟩ = some (.string v) ∧ W.cell? ⟨Q, 2, none⟩ = some (.int .i64 n)) ∧ Hid (Q < x.heap.size ∧ x.grownBy W none)) :
    (W.drew.cell? ⟨Q, 0, none⟩ = some (.string k) ∧ W.drew.cell? ⟨Q, 1, none⟩ = some (.string v) ∧ W.drew.cell? ⟨Q, 2, none⟩ = some (.int .i64 n)) ∧ Hid (Q < x.heap.size ∧ x.grownBy W.drew none) :=
  ⟨⟨h.1.1, h.1.2.1, h.1.2.2⟩, h.2.out.1, gb_drewN h.2.out.2 1⟩
set_option maxRecDepth 20000 in
set_option maxHeartbeats 4000000 in
theorem isize_c (seq : Int) (a : Option Addr) (n cap : Nat) (X : List Rwi) (w : World) (h : Rws w a n X) :
    Calls Tryd.prog 12 #[.agg #[.int .i64 seq, .slice a n cap]] w fun r w' => r = .returned (.tuple #[.int .i64 (sN seq n X), .int .i64 (sE seq n X)]) ∧ w.grownBy w' none := by
  have H0 : Hid (w.grownBy (w.alloc (.cells #[.int .i64 seq, .slice a n cap] 24)) none) := gal _ _
  by_cases hn : 1048576 < n
  · have he : sE seq n X = 90 := by unfold sE; rw [if_pos hn]
    rw [sN_no (by rw [he]; decide), he]
    have hd : (1048576 : Int) < (n : Int) := by omega
    clear h he hn
    go_enter Tryd.func12, Tryd.ntmps12
    go_wp2
    go_ret2
    exact ⟨rfl, H0.out⟩
  · have hd : ¬ (1048576 : Int) < (n : Int) := by omega
    by_cases hs : seq < 0 ∨ 1152921504606846976 < seq
    · have he : sE seq n X = 91 := by unfold sE; rw [if_neg hn, if_pos hs]
      rw [sN_no (by rw [he]; decide), he]
      clear h he hn
      rcases hs with hs | hs
      · go_enter Tryd.func12, Tryd.ntmps12
        go_wp2
        go_ret2
        exact ⟨rfl, H0.out⟩
      · have hs0 : ¬ seq < 0 := by omega
        go_enter Tryd.func12, Tryd.ntmps12
        go_wp2
        go_ret2
        exact ⟨rfl, H0.out⟩
    · have hs0 : ¬ seq < 0 := by omega
      have hs1 : ¬ (1152921504606846976 : Int) < seq := by omega
      obtain ⟨W0, hW0⟩ : ∃ W0, W0 = w.alloc (.cells #[.int .i64 seq, .slice a n cap] 24) := ⟨_, rfl⟩
      have HB : Hid (W0.cell? ⟨w.heap.size, 0, none⟩ = some (.int .i64 seq) ∧ W0.cell? ⟨w.heap.size, 1, none⟩ = some (.slice a n cap) ∧ w.heap.size < W0.heap.size ∧ w.grownBy W0 none ∧ Rws W0 a n X ∧ W0 = w.alloc (.cells #[.int .i64 seq, .slice a n cap] 24)) := by
        have hb := (blk_new w 24 #[.int .i64 seq, .slice a n cap])
        rw [← hW0] at hb
        exact ⟨hb.1.cell 0, hb.1.cell 1, lt_of_block hb.1, hb.2, h.below (gbb hb.2), hW0⟩
      have HC0 : Hid (∀ W, W0.grownBy W none → W.cell? ⟨w.heap.size, 0, none⟩ = some (.int .i64 seq)) := fun W hg => ((gbb hg).cell (p := ⟨w.heap.size, 0, none⟩) HB.out.2.2.1).trans HB.out.1
      have HC1 : Hid (∀ W, W0.grownBy W none → W.cell? ⟨w.heap.size, 1, none⟩ = some (.slice a n cap)) := fun W hg => ((gbb hg).cell (p := ⟨w.heap.size, 1, none⟩) HB.out.2.2.1).trans HB.out.2.1
      obtain ⟨N2, hN2⟩ : ∃ N, N = (numB [seq, (n : Int)]).length := ⟨_, rfl⟩
      have hN2b : N2 ≤ 20 := by rw [hN2]; exact num2_le _ _ (by omega) (by omega)
      have HN2 : Hid (∀ W : World, Calls Tryd.prog 43 #[.slice (some ⟨W.heap.size, 0, none⟩) 2 2] (W.alloc (.cells #[.int .i64 seq, .int .i64 (n : Int)] 3)) fun r w' => r = .returned (.int .i64 (N2 : Int)) ∧ W.grownBy w' none) := fun W => by
        rw [hN2]
        exact num2_c seq n (by omega) (by omega) _ W
      have HN3 : Hid (Calls Tryd.prog 43 #[.slice (some ⟨w.heap.size + 1, 0, none⟩) 2 2] ((w.alloc (.cells #[.int .i64 seq, .slice a n cap] 24)).alloc (.cells #[.int .i64 seq, .int .i64 (n : Int)] 3)) fun r w' => r = .returned (.int .i64 (N2 : Int)) ∧ W0.grownBy w' none) := by
        have k := HN2.out W0
        rw [hW0, World.size_alloc] at k
        rw [hW0]
        exact k
      have HNE : Hid (sE seq n X = (if okTo X seq n = false then 91 else if 268435456 < tz seq n X n then 90 else 0) ∧ N2 = (numB [seq, (n : Int)]).length) := ⟨by unfold sE; rw [if_neg hn, if_neg hs], hN2⟩
      clear h hn hs hN2 HN2 hW0 H0
      go_enter Tryd.func12, Tryd.ntmps12
      go_wp2_with (go_at_call 43; go_must (refine (Calls.mono HN3.out ?_)); rintro r w1 ⟨rfl, h⟩; have H1 : Hid (W0.grownBy w1 none) := h; have d0 := HC0.out _ h; have d1 := HC1.out _ h; clear h)
      go_loopw [4, 5, 34] (fun t s i wr => ∃ (k : Nat) (T : Nat) (S : ByteArray), k ≤ n ∧ t = .int .i64 (T : Int) ∧ s = .string S ∧ i = .int .i64 (k : Int) ∧ Hid (T = tz seq n X k ∧ S = ahd X k ∧ okTo X seq k = true ∧ W0.grownBy wr none ∧ T ≤ 66700 * (k + 1))) (fun _ _ i _ => n - (intOf i).toNat)
      case atStart =>
        refine ⟨0, 4 + N2 + 4, _, Nat.zero_le _, by go_num, rfl, rfl, ?_, rfl, rfl, H1.out, by omega⟩
        unfold tz
        rw [← HNE.out.2]
        simp [rowsB]
        omega
      case round =>
        obtain ⟨k, T, S, hk, rfl, rfl, rfl, hr⟩ := hrel
        clear H1 d0 d1
        have hTb : T ≤ 69942116000 := by have := hr.out.2.2.2.2; omega
        by_cases hlt : k < n
        · have hi1 : (k : Int) < n := by omega
          rcases HB.out.2.2.2.2.1.2 with z | ⟨b, off, rfl, hbl, hcl⟩
          · omega
          obtain ⟨u, hu⟩ : ∃ u, u = rAt X k := ⟨_, rfl⟩
          have HRG : Hid (wr.rangeAt b (off + k * 3) u.cells) := by
            rw [hu]
            intro j v hv
            exact ((gbb hr.out.2.2.2.1).cell (p := ⟨b, off + k * 3 + j, none⟩) hbl).trans (hcl k hlt j v hv)
          have HNX : Hid (okTo X seq (k + 1) = fwI u S seq ∧ tz seq n X (k + 1) = T + u.bytes.length ∧ ahd X (k + 1) = u.k) := by
            refine ⟨?_, ?_, by rw [hu]; rfl⟩
            · show (okTo X seq k && fwI (rAt X k) (ahd X k) seq) = _
              rw [hr.out.2.2.1, Bool.true_and, hu, hr.out.2.1]
            · rw [hr.out.1, hu]
              unfold tz
              show 8 + _ + (rowsB X k ++ (rAt X k).bytes).length = _
              rw [List.length_append]
              omega
          clear hu hcl hbl
          obtain ⟨kk, vv, nn⟩ := u
          have hgA : W0.grownBy (wr.alloc (.cells #[.string kk, .string vv, .int .i64 nn] 48)) none := gb_trans hr.out.2.2.2.1 (gal _ _)
          have d0 := HC0.out _ hgA
          have HA : Hid (W0.grownBy (wr.alloc (.cells #[.string kk, .string vv, .int .i64 nn] 48)) none ∧ Bk 48 (wr.alloc (.cells #[.string kk, .string vv, .int .i64 nn] 48)) wr.heap.size #[.string kk, .string vv, .int .i64 nn]) := ⟨hgA, (blk_new wr _ _).1⟩
          obtain ⟨G, hG⟩ : ∃ G, G = fwI ⟨kk, vv, nn⟩ S seq := ⟨_, rfl⟩
          have HF : Hid (∀ W, Calls Tryd.prog 44 #[.agg #[.string kk, .string vv, .int .i64 nn], .string S, .int .i64 seq] W fun r w' => r = .returned (.bool G) ∧ W.grownBy w' none) := fun W => by rw [hG]; exact follows_c kk vv nn S seq W
          clear hgA
          cases G with
          | false =>
            have HE : Hid (sE seq n X = 91) := by
              show _ = _
              rw [HNE.out.1, if_pos (okTo_stay X seq (k + 1) n (by omega) (by rw [HNX.out.1, ← hG]))]
            clear hG
            go_wp2_with (first
              | (refine wpList_load_mid rfl 48 (.tmp 36) rfl b (off + k * 3) (by first | rfl | simp) [.string kk, .string vv, .int .i64 nn] _ HRG.out Tryd.underlying48 rfl (by kernel_rfl) ?_)
              | (refine wpList_load_bk 48 rfl (.tmp 7) rfl Tryd.underlying48 rfl infoRwI wr.heap.size _ rfl HA.out.2 rfl ?_)
              | (go_at_call 44; go_must (refine (Calls.mono (HF.out _) ?_)); rintro r x2 ⟨rfl, h2⟩; have A2 : Hid (w.grownBy x2 none) := gb_trans HB.out.2.2.2.1 (gb_trans HA.out.1 h2); clear h2))
            go_ret2
            rw [sN_no (by rw [HE.out]; decide), HE.out]
            exact ⟨rfl, A2.out⟩
          | true =>
            have hbd := fw_bd hG.symm
            simp only at hbd
            obtain ⟨N3, hN3⟩ : ∃ N, N = (numB [(kk.size : Int), (vv.size : Int), nn]).length := ⟨_, rfl⟩
            have hN3b : N3 ≤ 30 := by rw [hN3]; exact num3_le _ _ _ (by omega) (by omega) (by omega)
            have HNN : Hid (tz seq n X (k + 1) = T + (N3 + kk.size + vv.size) ∧ okTo X seq (k + 1) = true) := ⟨by rw [HNX.out.2.1, show Rwi.bytes ⟨kk, vv, nn⟩ = rowB kk vv nn from rfl, row_len, hN3], by rw [HNX.out.1, ← hG]⟩
            have HNM : Hid (∀ W : World, Calls Tryd.prog 43 #[.slice (some ⟨W.heap.size, 0, none⟩) 3 3] (W.alloc (.cells #[.int .i64 (kk.size : Int), .int .i64 (vv.size : Int), .int .i64 nn] 3)).drew fun r w' => r = .returned (.int .i64 (N3 : Int)) ∧ W.grownBy w' none) := fun W => by
              rw [hN3]
              exact num3_d _ _ _ (by omega) (by omega) (by omega) _ W
            have hKb : kk.size ≤ 1024 := hbd.2.2.1
            have hVb : vv.size ≤ 65536 := hbd.2.2.2.1
            have z1 : IntKind.i64.wrap ((N3 : Int) + (kk.size : Int)) = (N3 : Int) + (kk.size : Int) := IntWalk.i64_in _ ⟨by omega, by omega⟩
            have z2 : IntKind.i64.wrap ((N3 : Int) + (kk.size : Int) + (vv.size : Int)) = (N3 : Int) + (kk.size : Int) + (vv.size : Int) := IntWalk.i64_in _ ⟨by omega, by omega⟩
            have z3 : IntKind.i64.wrap ((T : Int) + ((N3 : Int) + (kk.size : Int) + (vv.size : Int))) = (T : Int) + ((N3 : Int) + (kk.size : Int) + (vv.size : Int)) := IntWalk.i64_in _ ⟨by omega, by omega⟩
            clear hG hbd hN3
            go_wp2_with (first
              | (refine wpList_load_mid rfl 48 (.tmp 36) rfl b (off + k * 3) (by first | rfl | simp) [.string kk, .string vv, .int .i64 nn] _ HRG.out Tryd.underlying48 rfl (by kernel_rfl) ?_)
              | (refine wpList_load_bk 48 rfl (.tmp 7) rfl Tryd.underlying48 rfl infoRwI wr.heap.size _ rfl HA.out.2 rfl ?_)
              | (go_at_call 44; go_must (refine (Calls.mono (HF.out _) ?_)); rintro r x2 ⟨rfl, h2⟩; have A2 : Hid (W0.grownBy x2 none ∧ Bk 48 x2 wr.heap.size #[.string kk, .string vv, .int .i64 nn]) := ⟨gb_trans HA.out.1 h2, HA.out.2.grew h2 (by simp)⟩; clear h2))
            obtain ⟨Q, hQ⟩ : ∃ Q, Q = wr.heap.size := ⟨_, rfl⟩
            rw [← hQ]
            have hS0 : (x2.cell? ⟨Q, 0, none⟩ = some (.string kk) ∧ x2.cell? ⟨Q, 1, none⟩ = some (.string vv) ∧ x2.cell? ⟨Q, 2, none⟩ = some (.int .i64 nn)) ∧ Hid (Q < x2.heap.size ∧ x2.grownBy x2 none) := by
              rw [hQ]
              exact ⟨⟨A2.out.2.cell 0, A2.out.2.cell 1, A2.out.2.cell 2⟩, lt_of_block A2.out.2, grf _⟩
            have HNU : Hid (Calls Tryd.prog 43 #[.slice (some ⟨x2.heap.size, 0, none⟩) 3 3] (x2.alloc (.cells #[.int .i64 (kk.size : Int), .int .i64 (vv.size : Int), .int .i64 nn] 3)).drew fun r w' => r = .returned (.int .i64 (N3 : Int)) ∧ ((w'.cell? ⟨Q, 0, none⟩ = some (.string kk) ∧ w'.cell? ⟨Q, 1, none⟩ = some (.string vv) ∧ w'.cell? ⟨Q, 2, none⟩ = some (.int .i64 nn)) ∧ Hid (Q < x2.heap.size ∧ x2.grownBy w' none))) := by
              refine (HNM.out x2).mono ?_
              rintro r w' ⟨h1, h2⟩
              have hq : Q < x2.heap.size := hS0.2.out.1
              exact ⟨h1, ⟨((gbb h2).cell hq).trans hS0.1.1, ((gbb h2).cell hq).trans hS0.1.2.1, ((gbb h2).cell hq).trans hS0.1.2.2⟩, hq, h2⟩
            clear hQ HNM HF HRG HA d0
            go_region_held3 (fun W => (W.cell? ⟨Q, 0, none⟩ = some (.string kk) ∧ W.cell? ⟨Q, 1, none⟩ = some (.string vv) ∧ W.cell? ⟨Q, 2, none⟩ = some (.int .i64 nn)) ∧ Hid (Q < x2.heap.size ∧ x2.grownBy W none)) (first | assumption | exact held_al (by assumption) _ | exact held_dr (by assumption)) (first
              | (go_at_call 43; refine (Calls.mono HNU.out ?_); rintro r x3 ⟨rfl, h3⟩))
            have A3 : Hid (W0.grownBy x3 none) := gb_trans A2.out.1 h3.2.out.2
            have e0 := h3.1.1
            clear h3 z1 z2 z3 HNU hS0
            go_wp2_with fail
            go_roundw
            case rel => exact ⟨k + 1, T + (N3 + kk.size + vv.size), kk, by omega, by go_num, rfl, by go_num, HNN.out.1.symm, HNX.out.2.2.symm, HNN.out.2, A3.out, by have := hr.out.2.2.2.2; omega⟩
            case measure => simp [intOf]; omega
        · obtain rfl : k = n := by omega
          have hge : ¬ (k : Int) < k := by omega
          have HEE : Hid (sE seq k X = (if 268435456 < T then 90 else 0) ∧ tz seq k X k = T ∧ w.grownBy wr none) := ⟨by rw [HNE.out.1, if_neg (by rw [hr.out.2.2.1]; decide), ← hr.out.1], hr.out.1.symm, gb_trans HB.out.2.2.2.1 hr.out.2.2.2.1⟩
          by_cases hbig : 268435456 < T
          · have hb1 : (268435456 : Int) < (T : Int) := by omega
            rw [if_pos hbig] at HEE
            clear hr
            go_wp2_with fail
            go_ret2
            rw [sN_no (by rw [HEE.out.1]; decide), HEE.out.1]
            exact ⟨rfl, HEE.out.2.2⟩
          · have hb1 : ¬ (268435456 : Int) < (T : Int) := by omega
            rw [if_neg hbig] at HEE
            clear hr
            go_wp2_with fail
            go_ret2
            have e : sN seq k X = (T : Int) := by unfold sN; rw [if_pos HEE.out.1, HEE.out.2.1]
            rw [e, HEE.out.1]
            exact ⟨rfl, HEE.out.2.2⟩
end Go.Proofs.YtcdgfghcmeadgaaDoor
namespace Go.Proofs.YtcdgfghcmeadgaaDoor
open Go.RowKit
set_option linter.unusedVariables false

def mark4 : List Int := [104, 119, 105, 49]
/-- An image without its sum, up to a row. -/
def bodyTo (seq : Int) (n : Nat) (X : List Rwi) (k : Nat) : List Int := mark4 ++ (numB [seq, (n : Int)] ++ rowsB X k)
def img (seq : Int) (n : Nat) (X : List Rwi) : List Int := bodyTo seq n X n ++ Cr.by4 (Cr.sum (bodyTo seq n X n))
/-- What is answered. -/
def iB (seq : Int) (n : Nat) (X : List Rwi) : List Int := if sE seq n X = 0 then img seq n X else []
theorem body_len (seq : Int) (n : Nat) (X : List Rwi) (k : Nat) : (bodyTo seq n X k).length + 4 = tz seq n X k := by
  unfold bodyTo tz mark4
  simp only [List.length_append, List.length_cons, List.length_nil]
  omega
theorem img_len (seq : Int) (n : Nat) (X : List Rwi) : (img seq n X).length = tz seq n X n := by
  have := body_len seq n X n
  unfold img
  rw [List.length_append]
  have e : (Cr.by4 (Cr.sum (bodyTo seq n X n))).length = 4 := rfl
  omega
theorem body_more (seq : Int) (n : Nat) (X : List Rwi) (k : Nat) : bodyTo seq n X (k + 1) = bodyTo seq n X k ++ (rAt X k).bytes := by
  unfold bodyTo
  show mark4 ++ (numB [seq, (n : Int)] ++ (rowsB X k ++ (rAt X k).bytes)) = _
  simp only [List.append_assoc]
theorem tz_mono (seq : Int) (n : Nat) (X : List Rwi) {k m : Nat} (h : k ≤ m) : tz seq n X k ≤ tz seq n X m := by
  induction m with
  | zero =>
    obtain rfl : k = 0 := by omega
    exact Nat.le_refl _
  | succ m ih =>
    rcases Nat.lt_or_ge m k with q | q
    · obtain rfl : k = m + 1 := by omega
      exact Nat.le_refl _
    · have := ih q
      unfold tz at this ⊢
      show _ ≤ 8 + _ + (rowsB X m ++ (rAt X m).bytes).length
      rw [List.length_append]
      omega
theorem sE_ok {seq : Int} {n : Nat} {X : List Rwi} (h : sE seq n X = 0) : n ≤ 1048576 ∧ 0 ≤ seq ∧ seq ≤ 1152921504606846976 ∧ okTo X seq n = true ∧ tz seq n X n ≤ 268435456 := by
  unfold sE at h
  split at h
  · omega
  · split at h
    · omega
    · split at h
      · omega
      · split at h
        · omega
        · rename_i a b c d
          exact ⟨by omega, by omega, by omega, by simpa using c, by omega⟩
theorem okTo_at {X : List Rwi} {seq : Int} {n k : Nat} (h : okTo X seq n = true) (hk : k < n) : fwI (rAt X k) (ahd X k) seq = true := by
  have h1 : okTo X seq (k + 1) = true := by
    cases e : okTo X seq (k + 1) with
    | true => rfl
    | false => rw [okTo_stay X seq (k + 1) n (by omega) e] at h; cases h
  have h2 : (okTo X seq k && fwI (rAt X k) (ahd X k) seq) = true := h1
  simp only [Bool.and_eq_true] at h2
  exact h2.2
theorem fw_wre {r : Rwi} {ahead : ByteArray} {seq : Int} (h : fwI r ahead seq = true) : wre r.k r.v r.n = 0 := by
  have hb := fw_bd h
  unfold wre
  rw [if_neg (by omega), if_neg (by omega)]
/-- The bytes so far, the state's variable, its rows, the table. -/
structure ES (w W : World) (C : Nat) (seq : Int) (a : Option Addr) (n cap : Nat) (X : List Rwi) (v : Value) (m : Nat) (xs : List Int) : Prop where
  own : Own C W v m xs
  bk : Bk 24 W w.heap.size #[.int .i64 seq, .slice a n cap]
  rows : Rws W a n X
  bel : Below w.heap.size w W
  hi : C ≤ W.heap.size
  lt : w.heap.size < C
  tab : Cr.Tab W
theorem ES.new {w W W' C seq a n cap X v m xs} (h : ES w W C seq a n cap X v m xs) (hg : W.grownBy W' none) : ES w W' C seq a n cap X v m xs :=
  ⟨h.own.below (gbb hg), h.bk.grew hg (by simp), h.rows.below (gbb hg), h.bel.trans ((gbb hg).mono (by have := h.hi; have := h.lt; omega)), Nat.le_trans h.hi hg.size, h.lt, h.tab.below (gbb hg)⟩
theorem rws_gr {w w' : World} {a : Option Addr} {n : Nat} {X : List Rwi} {B : Nat} (h : Rws w a n X) (hb : Below B w w') (hlt : ∀ b o s, a = some ⟨b, o, s⟩ → n = 0 ∨ b < B) (hs : w.heap.size ≤ w'.heap.size) : Rws w' a n X := by
  refine ⟨h.1, ?_⟩
  rcases h.2 with h0 | ⟨b, off, ha, hl, hc⟩
  · exact .inl h0
  · rcases hlt _ _ _ ha with z | z
    · exact .inl z
    · exact .inr ⟨b, off, ha, by omega, fun i hi j v hv => (hb.cell (p := ⟨b, off + i * 3 + j, none⟩) z).trans (hc i hi j v hv)⟩
theorem ES.app {w W W' C seq a n cap X v m xs v' m' xs'} (h : ES w W C seq a n cap X v m xs) (ho : Own C W' v' m' xs') (hg : W.grownBy W' v.ownBlock) (hr : ∀ b o s, a = some ⟨b, o, s⟩ → n = 0 ∨ b < w.heap.size) : ES w W' C seq a n cap X v' m' xs' := by
  have hlo := h.own.lo
  have hb : Below C W W' := (Below.refl C W).grown hg h.hi (fun k hk => (hlo k hk).1)
  have hp : w.heap.size ≤ C := Nat.le_of_lt h.lt
  refine ⟨ho, h.bk.grew hg (fun q => by have := (hlo _ q).1; have := h.lt; omega), rws_gr h.rows hb (fun b o s q => (hr b o s q).imp id (fun z => by omega)) hg.size, h.bel.trans (hb.mono hp), Nat.le_trans h.hi hg.size, h.lt, ?_⟩
  intro i hi
  exact (hb.cell (p := ⟨0, i, none⟩) (show 0 < C by have := h.lt; omega)).trans (h.tab i hi)
/-- A writer's call behind a new writer changes nothing that was there. -/
theorem gb_wr {W W1 w' : World} {g : Nat} (h : W.grownBy W1 none) (k : Gr (fun j => j = g) W1 w') (hg : W.heap.size ≤ g) : W.grownBy w' none :=
  ⟨k.os.trans h.os, k.tape.trans h.tape, k.output.trans h.output, Nat.le_trans h.size k.size, fun i hi hn => (k.block i (Nat.lt_of_lt_of_le hi h.size) (by omega)).trans (h.block i hi hn)⟩
theorem cells_sbI (s : ByteArray) : Go.Lib.strCells s = (sb s).map (Value.int .u8) := by
  unfold Go.Lib.strCells sb
  rw [List.map_map]
  rfl
end Go.Proofs.YtcdgfghcmeadgaaDoor

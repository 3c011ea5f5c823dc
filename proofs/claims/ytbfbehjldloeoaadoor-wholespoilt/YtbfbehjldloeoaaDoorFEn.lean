/-
  What frame.Encode answers, called with whatever frame: its bytes in memory of its own, or the refusal. Condition: the table of package crc lies in memory as the program's text lays it; the body can be read, and is at most 2^47.
-/
import Derived.Test.YtbfbehjldloeoaaDoorRows
import Derived.Test.YtbfbehjldloeoaaDoorFCu
namespace Go.Proofs.YtbfbehjldloeoaaDoor
set_option linter.unusedVariables false
open Go.RowKit

/-- Encode's error, and its bytes. -/
def fee (t : Int) (n : Nat) : Int := if t < 1 ∨ 255 < t then 42 else if 1048576 < n then 43 else 0
def feb (t : Int) (body : List Int) : List Int := if fee t body.length = 0 then fenc t body else []

set_option maxHeartbeats 1000000 in
theorem encode_c (t : Int) (a : Option Addr) (len cap : Nat) (xs : List Int) (w : World) (hn : a = none → cap = 0) (hs : Seg .u8 w a len xs) (hx : Bytes xs) (hl : len ≤ 140737488355328) (ht : Tab w) :
    Calls Tryd.prog 5 #[.agg #[.int .i64 t, .slice a len cap]] w fun e w' => ∃ v, e = .returned (.tuple #[v, .int .i64 (fee t len)]) ∧ Own w.heap.size w' v (feb t xs).length (feb t xs) ∧ Below w.heap.size w w' := by
  have hlen := hs.1
  by_cases ht0 : t < 1 ∨ 255 < t
  · have HF : Hid (fee t len = 42) := by show _ = _; unfold fee; rw [if_pos ht0]
    have HB : Hid (feb t xs = []) := by show _ = _; unfold feb fee; rw [if_pos ht0]; rfl
    rw [HF.out, HB.out]
    clear hs hx ht hlen HF HB
    rcases ht0 with h1 | h1
    · go_enter Tryd.func5, Tryd.ntmps5
      go_wp2
      go_ret2
      exact ⟨_, rfl, own_nil _ _, (Below.refl _ _).alloc (Nat.le_refl _) _⟩
    · have h2 : ¬ t < 1 := by omega
      go_enter Tryd.func5, Tryd.ntmps5
      go_wp2
      go_ret2
      exact ⟨_, rfl, own_nil _ _, (Below.refl _ _).alloc (Nat.le_refl _) _⟩
  · have t1 : ¬ t < 1 := by omega
    have t2 : ¬ 255 < t := by omega
    by_cases hl1 : 1048576 < len
    · have HF : Hid (fee t len = 43) := by show _ = _; unfold fee; rw [if_neg ht0, if_pos hl1]
      have HB : Hid (feb t xs = []) := by show _ = _; unfold feb fee; rw [hlen, if_neg ht0, if_pos hl1]; rfl
      rw [HF.out, HB.out]
      clear hs hx ht hlen HF HB ht0
      go_enter Tryd.func5, Tryd.ntmps5
      go_wp2
      go_ret2
      exact ⟨_, rfl, own_nil _ _, (Below.refl _ _).alloc (Nat.le_refl _) _⟩
    · have HF : Hid (fee t len = 0) := by show _ = _; unfold fee; rw [if_neg ht0, if_neg hl1]
      have HB : Hid (feb t xs = fenc t xs) := by show _ = _; unfold feb fee; rw [hlen, if_neg ht0, if_neg hl1]; rfl
      have HLN : Hid (xs.length = len) := hlen
      have HS : Hid (Seg .u8 w a len xs) := hs
      have HX : Hid (Bytes xs) := hx
      have HT : Hid (Tab w) := ht
      have HNA : Hid (a = none → cap = 0) := hn
      rw [HF.out, HB.out]
      clear hs hx ht hlen HF HB ht0 hn
      have e1 : t % 256 = t := by omega
      go_enter Tryd.func5, Tryd.ntmps5
      go_wp2_with fail
      have HSX : Hid (#[Value.int IntKind.u8 72, Value.int IntKind.u8 87, Value.int IntKind.u8 t, Value.int IntKind.u8 ((len : Int) % 256), Value.int IntKind.u8 ((len : Int) / 256 % 256), Value.int IntKind.u8 ((len : Int) / 65536)] = ((fsix t len).map (Value.int .u8)).toArray) := by
        have : (len : Int) / 65536 % 256 = (len : Int) / 65536 := by omega
        show _ = _
        unfold fsix
        rw [this]; rfl
      have HB6 : Hid (Bytes (fsix t len)) := fsix_bytes (by omega) (by omega)
      obtain ⟨N, hN⟩ : ∃ N, N = w.heap.size := ⟨_, rfl⟩
      rw [← hN]
      generalize hW1 : World.alloc (World.alloc w _) _ = W1
      have H1 : Hid (Seg .u8 W1 (some ⟨N + 1, 0, none⟩) 6 (fsix t len) ∧ Below N w W1 ∧ W1.cell? ⟨N, 1, none⟩ = some (.slice a len cap) ∧ W1.heap.size = N + 2) := by
        rw [← hW1, hN, HSX.out]
        refine ⟨seg_at _ _ .u8 _ 5 6 (fsix t len) (by simp) rfl rfl, ((Below.refl _ _).alloc (Nat.le_refl _) _).alloc (by simp) _, ?_, by simp⟩
        rw [World.cell?_alloc_past _ _ _ (by simp), World.cell?_alloc_new]; rfl
      have HNW : Hid (N = w.heap.size) := hN
      clear hW1 hN HSX
      refine (seal_c (some ⟨N + 1, 0, none⟩) 6 6 (fsix t len) W1 (fun h => by cases h) H1.out.1 HB6.out (by omega) (HT.out.below (HNW.out ▸ H1.out.2.1))).mono ?_
      rintro e w2 ⟨v2, rfl, ho2, hb2⟩
      obtain ⟨g2, k2, rfl, hg2, hk2⟩ := ho2.form (by omega)
      have H2 : Hid (Own W1.heap.size w2 (.slice (some ⟨g2, 0, none⟩) 10 k2) 10 (sealed (fsix t len)) ∧ Below N w w2 ∧ W1.heap.size ≤ w2.heap.size) := ⟨ho2, H1.out.2.1.trans (hb2.mono (by rw [H1.out.2.2.2]; omega)), hb2.size⟩
      have c1 : w2.cell? ⟨N, 1, none⟩ = some (.slice a len cap) := (hb2.cell (p := ⟨N, 1, none⟩) (by rw [H1.out.2.2.2]; show N < N + 2; omega)).trans H1.out.2.2.1
      have HN2 : Hid (N ≤ W1.heap.size) := by rw [H1.out.2.2.2]; show N ≤ N + 2; omega
      clear ho2 hb2 H1 hg2
      have hl3 : len ≤ 1048576 := by omega
      go_wp2_with (first
        | (at_builtin; go_must (refine wpList_append_grow _ rfl _ _ rfl W1.heap.size 10 _ (sealed (fsix t len)) rfl H2.out.1 a len cap xs rfl HNA.out (HS.out.below (HNW.out ▸ H2.out.2.1)) (by omega) H2.out.2.2 ?_); intro v3 w3 ho3 hb3; obtain ⟨g3, k3, rfl, hg3, hk3⟩ := ho3.form (by omega); have H3 : Hid (Own W1.heap.size w3 (.slice (some ⟨g3, 0, none⟩) (10 + len) k3) (10 + len) (sealed (fsix t len) ++ xs) ∧ Below N w w3) := ⟨ho3, H2.out.2.1.trans (hb3.mono HN2.out)⟩; clear ho3 hb3 hg3)
        | (go_at_call 12; obtain ⟨a3, c3, he3, hs3, _, _⟩ := H3.out.1.seg; cases he3; go_must (refine (seal_c (some ⟨g3, 0, none⟩) (10 + len) k3 (sealed (fsix t len) ++ xs) w3 (fun h => by cases h) hs3 (bytes_append (sealed_bytes HB6.out) HX.out) (by omega) (HT.out.below (HNW.out ▸ H3.out.2))).mono ?_); rintro e w4 ⟨v4, rfl, ho4, hb4⟩; have H4 : Hid (Own N w4 v4 (fenc t xs).length (fenc t xs) ∧ Below N w w4) := ⟨by rw [fenc_length, HLN.out]; have := ho4.base (HNW.out ▸ H3.out.2).size; rw [← HNW.out, show 10 + len + 4 = len + 14 from by omega] at this; unfold fenc; rw [HLN.out]; exact this, H3.out.2.trans (hb4.mono (Nat.le_trans (Nat.le_of_eq HNW.out) (HNW.out ▸ H3.out.2).size))⟩; clear ho4 hb4 hs3))
      go_ret2
      rw [← HNW.out]
      exact ⟨_, rfl, H4.out.1, H4.out.2⟩
end Go.Proofs.YtbfbehjldloeoaaDoor

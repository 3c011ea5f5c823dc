/-
  What image's Encode answers of a state: its image, or the error. Condition: the state's rows can be read, and the table of package crc lies in memory.
-/
import Derived.Test.YtlmjgjimmbadeaaDoorISz
import Derived.Lib.AppendStr
namespace Go.Proofs.YtlmjgjimmbadeaaDoor
open Go.RowKit
set_option linter.unusedVariables false

def mark4 : List Int := [104, 119, 105, 49]
/-- An image without its sum, up to a row. -/
def bodyTo (seq : Int) (n : Nat) (X : List Rwi) (k : Nat) : List Int := mark4 ++ (numB [seq, (n : Int)] ++ rowsB X k)
def img (seq : Int) (n : Nat) (X : List Rwi) : List Int := bodyTo seq n X n ++ Cr.by4 (Cr.sum (bodyTo seq n X n))
/-- What is answered. -/
def iB (seq : Int) (n : Nat) (X : List Rwi) : List Int := if sE seq n X = 0 then img seq n X else []
theorem body_len (seq : Int) (n : Nat) (X : List Rwi) (k : Nat) : (bodyTo seq n X k).length + 4 = tz seq n X k := by
  unfold bodyTo tz mark4
  simp only [List.length_append, List.length_cons, List.length_nil]
  omega
theorem img_len (seq : Int) (n : Nat) (X : List Rwi) : (img seq n X).length = tz seq n X n := by
  have := body_len seq n X n
  unfold img
  rw [List.length_append]
  have e : (Cr.by4 (Cr.sum (bodyTo seq n X n))).length = 4 := rfl
  omega
theorem body_more (seq : Int) (n : Nat) (X : List Rwi) (k : Nat) : bodyTo seq n X (k + 1) = bodyTo seq n X k ++ (rAt X k).bytes := by
  unfold bodyTo
  show mark4 ++ (numB [seq, (n : Int)] ++ (rowsB X k ++ (rAt X k).bytes)) = _
  simp only [List.append_assoc]
theorem tz_mono (seq : Int) (n : Nat) (X : List Rwi) {k m : Nat} (h : k ≤ m) : tz seq n X k ≤ tz seq n X m := by
  induction m with
  | zero =>
    obtain rfl : k = 0 := by omega
    exact Nat.le_refl _
  | succ m ih =>
    rcases Nat.lt_or_ge m k with q | q
    · obtain rfl : k = m + 1 := by omega
      exact Nat.le_refl _
    · have := ih q
      unfold tz at this ⊢
      show _ ≤ 8 + _ + (rowsB X m ++ (rAt X m).bytes).length
      rw [List.length_append]
      omega
theorem sE_ok {seq : Int} {n : Nat} {X : List Rwi} (h : sE seq n X = 0) : n ≤ 1048576 ∧ 0 ≤ seq ∧ seq ≤ 1152921504606846976 ∧ okTo X seq n = true ∧ tz seq n X n ≤ 268435456 := by
  unfold sE at h
  split at h
  · omega
  · split at h
    · omega
    · split at h
      · omega
      · split at h
        · omega
        · rename_i a b c d
          exact ⟨by omega, by omega, by omega, by simpa using c, by omega⟩
theorem okTo_at {X : List Rwi} {seq : Int} {n k : Nat} (h : okTo X seq n = true) (hk : k < n) : fwI (rAt X k) (ahd X k) seq = true := by
  have h1 : okTo X seq (k + 1) = true := by
    cases e : okTo X seq (k + 1) with
    | true => rfl
    | false => rw [okTo_stay X seq (k + 1) n (by omega) e] at h; cases h
  have h2 : (okTo X seq k && fwI (rAt X k) (ahd X k) seq) = true := h1
  simp only [Bool.and_eq_true] at h2
  exact h2.2
theorem fw_wre {r : Rwi} {ahead : ByteArray} {seq : Int} (h : fwI r ahead seq = true) : wre r.k r.v r.n = 0 := by
  have hb := fw_bd h
  unfold wre
  rw [if_neg (by omega), if_neg (by omega)]
/-- The bytes so far, the state's variable, its rows, the table. -/
structure ES (w W : World) (C : Nat) (seq : Int) (a : Option Addr) (n cap : Nat) (X : List Rwi) (v : Value) (m : Nat) (xs : List Int) : Prop where
  own : Own C W v m xs
  bk : Bk 24 W w.heap.size #[.int .i64 seq, .slice a n cap]
  rows : Rws W a n X
  bel : Below w.heap.size w W
  hi : C ≤ W.heap.size
  lt : w.heap.size < C
  tab : Cr.Tab W
theorem ES.new {w W W' C seq a n cap X v m xs} (h : ES w W C seq a n cap X v m xs) (hg : W.grownBy W' none) : ES w W' C seq a n cap X v m xs :=
  ⟨h.own.below (gbb hg), h.bk.grew hg (by simp), h.rows.below (gbb hg), h.bel.trans ((gbb hg).mono (by have := h.hi; have := h.lt; omega)), Nat.le_trans h.hi hg.size, h.lt, h.tab.below (gbb hg)⟩
theorem rws_gr {w w' : World} {a : Option Addr} {n : Nat} {X : List Rwi} {B : Nat} (h : Rws w a n X) (hb : Below B w w') (hlt : ∀ b o s, a = some ⟨b, o, s⟩ → n = 0 ∨ b < B) (hs : w.heap.size ≤ w'.heap.size) : Rws w' a n X := by
  refine ⟨h.1, ?_⟩
  rcases h.2 with h0 | ⟨b, off, ha, hl, hc⟩
  · exact .inl h0
  · rcases hlt _ _ _ ha with z | z
    · exact .inl z
    · exact .inr ⟨b, off, ha, by omega, fun i hi j v hv => (hb.cell (p := ⟨b, off + i * 3 + j, none⟩) z).trans (hc i hi j v hv)⟩
theorem ES.app {w W W' C seq a n cap X v m xs v' m' xs'} (h : ES w W C seq a n cap X v m xs) (ho : Own C W' v' m' xs') (hg : W.grownBy W' v.ownBlock) (hr : ∀ b o s, a = some ⟨b, o, s⟩ → n = 0 ∨ b < w.heap.size) : ES w W' C seq a n cap X v' m' xs' := by
  have hlo := h.own.lo
  have hb : Below C W W' := (Below.refl C W).grown hg h.hi (fun k hk => (hlo k hk).1)
  have hp : w.heap.size ≤ C := Nat.le_of_lt h.lt
  refine ⟨ho, h.bk.grew hg (fun q => by have := (hlo _ q).1; have := h.lt; omega), rws_gr h.rows hb (fun b o s q => (hr b o s q).imp id (fun z => by omega)) hg.size, h.bel.trans (hb.mono hp), Nat.le_trans h.hi hg.size, h.lt, ?_⟩
  intro i hi
  exact (hb.cell (p := ⟨0, i, none⟩) (show 0 < C by have := h.lt; omega)).trans (h.tab i hi)
/-- A writer's call behind a new writer changes nothing that was there. -/
theorem gb_wr {W W1 w' : World} {g : Nat} (h : W.grownBy W1 none) (k : Gr (fun j => j = g) W1 w') (hg : W.heap.size ≤ g) : W.grownBy w' none :=
  ⟨k.os.trans h.os, k.tape.trans h.tape, k.output.trans h.output, Nat.le_trans h.size k.size, fun i hi hn => (k.block i (Nat.lt_of_lt_of_le hi h.size) (by omega)).trans (h.block i hi hn)⟩
theorem cells_sbI (s : ByteArray) : Go.Lib.strCells s = (sb s).map (Value.int .u8) := by
  unfold Go.Lib.strCells sb
  rw [List.map_map]
  rfl
end Go.Proofs.YtlmjgjimmbadeaaDoor

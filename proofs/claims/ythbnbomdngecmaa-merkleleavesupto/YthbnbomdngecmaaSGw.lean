/-
  What the document's New and Write leave: a hasher in a block of its own, its held bytes in memory made behind it. Condition: the bytes can be read, and lie below the hasher.
-/
import Derived.Test.YthbnbomdngecmaaSOw
import Derived.Deep.RegionLaw
import Derived.BigRegion
namespace Go.Proofs.Ythbnbomdngecmaa
set_option linter.unusedVariables false
open Go.RowKit

def hcs (s : St) (n : Int) (v : Value) : Array Value := #[.int .u32 (W s.a), .int .u32 (W s.b), .int .u32 (W s.c), .int .u32 (W s.d), .int .u32 (W s.e), .int .u32 (W s.f), .int .u32 (W s.g), .int .u32 (W s.h), .int .i64 n, v]
/-- A hasher of the document's, at a block: its words, how many bytes it took, what it holds. -/
def GHv (w : World) (g : Nat) (p : St × List Int) (n : Int) (v : Value) : Prop :=
  Bk 94 w g (hcs p.1 n v) ∧ Own (g + 1) w v p.2.length p.2
def GH (w : World) (g : Nat) (p : St × List Int) (n : Int) : Prop := ∃ v, GHv w g p n v
theorem GHv.ne {w g p n v} (h : GHv w g p n v) : v.ownBlock ≠ some g := fun e => by have := (Own.lo h.2 g e).1; omega
theorem GHv.form {w g p n v} (h : GHv w g p n v) : ∃ a c, v = .slice a p.2.length c := by
  obtain ⟨a, c, e, _⟩ := h.2.seg; exact ⟨a, c, e⟩
theorem hcs_set9 (s : St) (n : Int) (v u : Value) : (hcs s n v).setIfInBounds 9 u = hcs s n u := rfl
theorem hcs_set8 (s : St) (n m : Int) (v : Value) : (hcs s n v).setIfInBounds 8 (.int .i64 m) = hcs s m v := rfl
/-- One byte more is appended: in a world where the slice has grown, the new slice is laid into the hasher. -/
theorem ghv_app {w w4 : World} {g : Nat} {p : St × List Int} {n : Int} {v : Value} {x : Int} {g4 cap4 : Nat} (h : GHv w g p n v) (ho : Own (g + 1) w4 (.slice (some ⟨g4, 0, none⟩) (p.2.length + 1) cap4) (p.2.length + 1) (p.2 ++ [x])) (hg : w.grownBy w4 v.ownBlock) :
    GHv ((w4.setCell ⟨g, 9, none⟩ (.slice (some ⟨g4, 0, none⟩) (p.2.length + 1) cap4)).setCell ⟨g, 8, none⟩ (.int .i64 (n + 1))) g (p.1, p.2 ++ [x]) (n + 1) (.slice (some ⟨g4, 0, none⟩) (p.2.length + 1) cap4) := by
  have hb : Bk 94 w4 g (hcs p.1 n v) := h.1.grew hg h.ne
  have h1 := (hb.set 9 (.slice (some ⟨g4, 0, none⟩) (p.2.length + 1) cap4)).set 8 (.int .i64 (n + 1))
  rw [hcs_set9, hcs_set8] at h1
  have hlo := (Own.lo ho g4 rfl).1
  refine ⟨h1, ?_⟩
  have e : (p.2 ++ [x]).length = p.2.length + 1 := by simp
  show Own (g + 1) _ _ (p.2 ++ [x]).length _
  rw [e]
  have q1 : w4.grownBy (w4.setCell ⟨g, 9, none⟩ (.slice (some ⟨g4, 0, none⟩) (p.2.length + 1) cap4)) (some g) := ⟨rfl, rfl, rfl, by simp, fun k _ hk => Below.heap_setCell _ _ _ _ (fun e => hk (by rw [e]))⟩
  have q2 : (w4.setCell ⟨g, 9, none⟩ (.slice (some ⟨g4, 0, none⟩) (p.2.length + 1) cap4)).grownBy ((w4.setCell ⟨g, 9, none⟩ (.slice (some ⟨g4, 0, none⟩) (p.2.length + 1) cap4)).setCell ⟨g, 8, none⟩ (.int .i64 (n + 1))) (some g) := ⟨rfl, rfl, rfl, by simp, fun k _ hk => Below.heap_setCell _ _ _ _ (fun e => hk (by rw [e]))⟩
  exact ho.grown (gb_trans q1 q2) (fun k hk e => by have h1 : g4 = k := Option.some.inj hk; have h2 : g = k := Option.some.inj e; omega)
set_option maxRecDepth 20000 in
theorem gnew_c (w : World) : Calls Try.prog 32 #[] w fun r w' => ∃ g, r = .returned (.pointer (some ⟨g, 0, none⟩)) ∧ w.heap.size ≤ g ∧ GH w' g (st0, []) 0 ∧ w.grownBy w' none := by
  go_enter Try.func32, Try.ntmps32
  go_wp2_with (first
    | (go_at_call 47; go_must (refine (gbegin_c _).mono ?_); rintro r w1 ⟨rfl, h1⟩; have H1 : Hid (w.grownBy w1 none) := h1; clear h1)
    | (refine wpList_build_run rfl 94 _ rfl (.agg (hcs st0 0 (.slice none 0 0))) (by kernel_rfl) ?_))
  go_ret
  refine ⟨_, rfl, H1.out.size, ⟨.slice none 0 0, heap_new w1 _, own_nil _ _⟩, gb_trans H1.out (World.grownBy_alloc _ _ _)⟩
theorem cell_far {w w' : World} {row : Option Nat} {b j : Nat} {v : Value} (h : w.cell? ⟨b, j, none⟩ = some v) (hg : w.grownBy w' row) (hn : row ≠ some b) : w'.cell? ⟨b, j, none⟩ = some v := by
  have hb : b < w.heap.size := by
    rcases Nat.lt_or_ge b w.heap.size with h1 | h1
    · exact h1
    · simp [World.cell?, h1] at h
  have := hg.block b hb (fun e => hn e.symm)
  simp only [World.cell?] at h ⊢
  rw [this]; exact h
theorem ghv_end {w wr w4 : World} {g : Nat} {u z : Value} (h : Below g w wr) (h4 : Below (g + 1) wr w4) (hg : g < wr.heap.size) : Below g w ((w4.setCell ⟨g, 9, none⟩ u).setCell ⟨g, 8, none⟩ z) := by
  have h1 := h.trans (h4.mono (Nat.le_succ g))
  have hs := h4.size
  have q1 : w4.grownBy (w4.setCell ⟨g, 9, none⟩ u) (some g) := ⟨rfl, rfl, rfl, by simp, fun k _ hk => Below.heap_setCell _ _ _ _ (fun e => hk (by rw [e]))⟩
  have q2 : (w4.setCell ⟨g, 9, none⟩ u).grownBy ((w4.setCell ⟨g, 9, none⟩ u).setCell ⟨g, 8, none⟩ z) (some g) := ⟨rfl, rfl, rfl, by simp, fun k _ hk => Below.heap_setCell _ _ _ _ (fun e => hk (by rw [e]))⟩
  exact h1.grown (gb_trans q1 q2) (by omega) (fun k hk => by cases hk; exact Nat.le_refl _)
theorem u8_one (x : Int) : ∀ u ∈ (#[Value.int .u8 x]).toList, u.oneCell' = true := by simp [Value.oneCell']

theorem rd_own {w : World} {g : Nat} {s : St} {bs : List Int} {n : Int} {g4 k4 cap4 : Nat} (h : GHv w g (s, bs) n (.slice (some ⟨g4, 0, none⟩) k4 cap4)) (hl : bs.length = 64) : Rd64 w g4 0 bs := by
  obtain ⟨a, c, e, hs, _⟩ := h.2.seg
  injection e with e1 e2 e3
  subst e1
  rcases hs.2 with h0 | ⟨b, off, ha, hb, hc⟩
  · have : bs.length = 0 := h0
    omega
  · cases ha
    refine ⟨hb, fun i hi => ?_⟩
    rw [hc i (by show i < bs.length; omega), List.getD_eq_getElem?_getD]
theorem gsbyte_bytes (p : St × List Int) (x : Int) (hp : Bytes p.2) (hx : 0 ≤ x ∧ x < 256) : Bytes (sbyte p x).2 := by
  unfold sbyte
  split
  · exact bytes_of_mem (by simp)
  · refine bytes_of_mem (fun z hz => ?_)
    rcases List.mem_append.1 hz with h | h
    · exact hp.mem z h
    · rw [List.mem_singleton.1 h]; exact hx
theorem gshz_bytes (xs : List Int) (hx : Bytes xs) : ∀ p : St × List Int, Bytes p.2 → Bytes (shz p xs).2 := by
  have hm := hx.mem
  clear hx
  induction xs with
  | nil => intro p hp; exact hp
  | cons x xs ih => intro p hp; exact ih (fun z hz => hm z (List.mem_cons_of_mem _ hz)) _ (gsbyte_bytes p x hp (hm x (by simp)))
end Go.Proofs.Ythbnbomdngecmaa

/-
  The law's walk: what Decode answers of any bytes is what the document's Decode answers, and is the caller's own. Condition: the bytes can be read, and are at most 2^47 - 4096; the table of package crc lies in memory.
-/
import Derived.Test.YtlmjgjimmbadeaaDoorIJd
import Derived.Test.YtlmjgjimmbadeaaDoorIDk
import Derived.Test.YtlmjgjimmbadeaaDoorILv
import Derived.Test.YtlmjgjimmbadeaaDoorMem
import Derived.ArgAppend
namespace Go.Proofs.YtlmjgjimmbadeaaDoor
open Go.RowKit
set_option linter.unusedVariables false

theorem dno_uniq {xs : List Int} {e f : Int} (h : DNo xs e) (k : DNo xs f) : e = f := by
  rcases h with ⟨a1, rfl⟩ | ⟨a1, a2, rfl⟩ | ⟨a1, a2, a3, a4, rfl⟩ | ⟨a1, a2, a3, a4, a5, rfl⟩ <;>
  rcases k with ⟨b1, rfl⟩ | ⟨b1, b2, rfl⟩ | ⟨b1, b2, b3, b4, rfl⟩ | ⟨b1, b2, b3, b4, b5, rfl⟩ <;> first
    | rfl
    | omega
    | (rcases a2 with q | q <;> first | omega | (rw [q] at b3; cases b3))
    | (rcases b2 with q | q <;> first | omega | (rw [q] at a3; cases a3))
    | (rw [a4] at b4; cases b4)
/-- Rows that lie in a block of their own, which may be written. -/
def Thr (w : World) (a : Option Addr) (n : Nat) : Prop := (a = none ∧ n = 0) ∨ ∃ b, a = some ⟨b, 0, none⟩ ∧ b < w.heap.size ∧ w.there b 0 (n * 3)
def Frs (N : Nat) (a : Option Addr) : Prop := ∀ b o s, a = some ⟨b, o, s⟩ → N ≤ b
def ob : Option Addr → Option Nat
  | none => none
  | some a => some a.block
theorem Rws.grewO {w w' : World} {a : Option Addr} {n : Nat} {X : List Rwi} {row : Option Nat} (h : Rws w a n X) (hg : w.grownBy w' row) (hn : ∀ b o s, a = some ⟨b, o, s⟩ → row ≠ some b) : Rws w' a n X := by
  refine ⟨h.1, ?_⟩
  rcases h.2 with h0 | ⟨b, off, ha, hlt, hc⟩
  · exact .inl h0
  · have hb : w'.heap[b]? = w.heap[b]? := hg.block b hlt (fun e => hn _ _ _ ha e.symm)
    exact .inr ⟨b, off, ha, Nat.lt_of_lt_of_le hlt hg.size, fun i hi j v hv => by
      have := hc i hi j v hv
      simp only [World.cell?, hb] at this ⊢
      exact this⟩
theorem Thr.grew {w w' : World} {a : Option Addr} {n : Nat} (h : Thr w a n) (hg : w.grownBy w' none) : Thr w' a n := by
  rcases h with h0 | ⟨b, ha, hb, ht⟩
  · exact .inl h0
  · refine .inr ⟨b, ha, Nat.lt_of_lt_of_le hb hg.size, fun j hj => ?_⟩
    have hbl : w'.heap[b]? = w.heap[b]? := hg.block b hb (by simp)
    have q := ht j hj
    simp only [World.cell?, World.frozen?, hbl] at q ⊢
    exact q
/-- What is known along the way. -/
def IN (w W : World) (g : Nat) (a : Option Addr) (len : Nat) (xs : List Int) : Prop := Row .u8 5 W g (lent xs) ∧ Seg .u8 W (some ⟨g, 0, none⟩) len xs ∧ Seg .u8 W a len xs ∧ w.grownBy W none
theorem IN.new {w W W' g a len xs} (h : IN w W g a len xs) (hg : W.grownBy W' none) : IN w W' g a len xs :=
  ⟨(hg.block g (lt_of_block h.1) (by simp)).trans h.1, h.2.1.grew hg (by simp), h.2.2.1.grew hg (by simp), gb_trans h.2.2.2 hg⟩
/-- What both Decodes answer of bytes. -/
theorem dec_both (xs : List Int) (hx : Bytes xs) : ∃ (seq : Int) (n : Nat) (E : Int) (X : List Rwi), n ≤ 1048576 ∧
    (∀ (a : Option Addr) (len cap : Nat) (w : World), Seg .u8 w a len xs → len ≤ 140737488355328 → len ≤ cap → (a = none → cap = 0) → Cr.Tab w → Calls Tryd.prog 19 #[.slice a len cap] w fun r w' => ∃ sa, r = .returned (.tuple #[.agg #[.int .i64 seq, .slice sa n n], .int .i64 E]) ∧ Rws w' sa n X ∧ Thr w' sa n ∧ Frs w.heap.size sa ∧ w.grownBy w' none) ∧
    (∀ (a : Option Addr) (len cap : Nat) (w : World), Seg .u8 w a len xs → len ≤ 140737488355328 → len ≤ cap → cap ≤ 9223372036854775807 → Calls Tryd.prog 20 #[.slice a len cap] w fun r w' => ∃ ta tc, r = .returned (.tuple #[.agg #[.int .i64 seq, .slice ta n tc], .int .i64 E]) ∧ Rws w' ta n X ∧ Frs w.heap.size ta ∧ w.grownBy w' none) := by
  by_cases hD : ∃ s X, DOk xs s X
  · obtain ⟨s, X, hk⟩ := hD
    refine ⟨s, X.length, 0, X, hk.2.2.2.2.2.2.1, fun a len cap w h1 h2 h3 h4 h5 => ?_, fun a len cap w h1 h2 h3 h4 => ?_⟩
    · refine (idec_c a len cap xs w h1 hx h2 h3 h4 h5).mono ?_
      rintro r w' ⟨⟨b, n', s', X', p1, p2, p3, p4⟩ | ⟨e, p1, p2⟩, p5⟩
      · obtain ⟨rfl, rfl⟩ := dok_uniq hx hk p2
        obtain rfl : X.length = n' := p3.1
        exact ⟨_, p1, p3, .inr ⟨b, rfl, p4.2.1, p4.2.2.1⟩, fun b' o s z => by cases z; exact p4.1, below_gbI p5⟩
      · exact absurd hk ((dno_not p2).2 s X)
    · refine (jdec_c a len cap xs w h1 hx h2 h3 h4).mono ?_
      rintro r w' ⟨⟨b, n', c, s', X', p1, p2, p3, p4⟩ | ⟨e, p1, p2⟩, p5⟩
      · obtain ⟨rfl, rfl⟩ := dok_uniq hx hk p2
        obtain rfl : X.length = n' := p3.1
        exact ⟨_, _, p1, p3, p4, p5⟩
      · exact absurd hk ((dno_not p2).2 s X)
  · have hE : ∃ E, DNo xs E := by
      rcases Nat.lt_or_ge 268435456 xs.length with q | q
      · exact ⟨90, .inl ⟨q, rfl⟩⟩
      · rcases Nat.lt_or_ge xs.length 10 with q2 | q2
        · exact ⟨92, .inr (.inl ⟨q, .inl q2, rfl⟩)⟩
        · cases hm : mk4 xs with
          | false => exact ⟨92, .inr (.inl ⟨q, .inr hm, rfl⟩)⟩
          | true =>
            cases hh : Cr.holds xs with
            | false => exact ⟨93, .inr (.inr (.inl ⟨q, q2, hm, hh, rfl⟩))⟩
            | true => exact ⟨92, .inr (.inr (.inr ⟨q, q2, hm, hh, fun s Y z => hD ⟨s, Y, q, q2, hm, hh, z⟩, rfl⟩))⟩
    obtain ⟨E, hE⟩ := hE
    refine ⟨0, 0, E, [], by omega, fun a len cap w h1 h2 h3 h4 h5 => ?_, fun a len cap w h1 h2 h3 h4 => ?_⟩
    · refine (idec_c a len cap xs w h1 hx h2 h3 h4 h5).mono ?_
      rintro r w' ⟨⟨b, n', s', X', p1, p2, p3, p4⟩ | ⟨e, p1, p2⟩, p5⟩
      · exact absurd ⟨s', X', p2⟩ hD
      · obtain rfl := dno_uniq hE p2
        exact ⟨none, p1, ⟨rfl, .inl rfl⟩, .inl ⟨rfl, rfl⟩, fun b o s z => (by cases z), below_gbI p5⟩
    · refine (jdec_c a len cap xs w h1 hx h2 h3 h4).mono ?_
      rintro r w' ⟨⟨b, n', c, s', X', p1, p2, p3, p4⟩ | ⟨e, p1, p2⟩, p5⟩
      · exact absurd ⟨s', X', p2⟩ hD
      · obtain rfl := dno_uniq hE p2
        exact ⟨none, 0, p1, ⟨rfl, .inl rfl⟩, fun b o s z => (by cases z), p5⟩
end Go.Proofs.YtlmjgjimmbadeaaDoor

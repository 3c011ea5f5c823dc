/-
  A frame among those that were laid down: what Encode, Decode at its place and One of its bytes answer, and the three lists that they give. Condition: the table of package crc lies in memory.
-/
import Derived.Test.YtegbgmihcokblaaDoorFOe
import Derived.Test.YtegbgmihcokblaaDoorFCt
namespace Go.Proofs.YtegbgmihcokblaaDoor
set_option linter.unusedVariables false
open Go.RowKit

theorem list_at {α : Type} {L : List α} {q : Nat} {f : α} (h : L[q]? = some f) : L = L.take q ++ f :: L.drop (q + 1) := by
  obtain ⟨h1, h2⟩ := List.getElem?_eq_some_iff.1 h
  rw [← h2, ← List.drop_eq_getElem_cons h1, List.take_append_drop]
theorem fencs_cut (L : List FrM) (q : Nat) (f : FrM) (h : L[q]? = some f) : (fencs L).drop (fsz (L.take q)) = fenc f.t f.ys ++ fencs (L.drop (q + 1)) := by
  have e2 : fencs L = fencs (L.take q) ++ (fenc f.t f.ys ++ fencs (L.drop (q + 1))) := by
    conv => lhs; rw [list_at h]
    unfold fencs
    rw [List.flatMap_append, List.flatMap_cons]
  rw [e2, ← fencs_len, List.drop_left' rfl]
theorem fsz_cut (L : List FrM) (q : Nat) (f : FrM) (h : L[q]? = some f) : fsz (L.take (q + 1)) = fsz (L.take q) + (f.ys.length + 14) := by
  rw [List.take_add_one, h]
  unfold fsz
  simp
theorem fsz_in (L : List FrM) (q : Nat) (f : FrM) (h : L[q]? = some f) : fsz (L.take q) + (f.ys.length + 14) ≤ fsz L := by
  rw [← fsz_cut L q f h]
  exact fsz_take L (q + 1)
theorem keep_t {f : FrM} (h : fkeep 2000 f = true) : 1 ≤ f.t ∧ f.t ≤ 255 ∧ f.ys.length ≤ 2000 := by
  unfold fkeep fmay at h
  rw [Bool.and_eq_true] at h
  have h1 := of_decide_eq_true h.1
  exact ⟨h1.1, h1.2.1, of_decide_eq_true h.2⟩
theorem dec_f {f : FrM} (h : fkeep 2000 f = true) (b : List Int) : ftp (fenc f.t f.ys ++ b) = f.t ∧ fnn (fenc f.t f.ys ++ b) = f.ys.length + 14 ∧ fdec (fenc f.t f.ys ++ b) = 0 ∧ fbd (fenc f.t f.ys ++ b) = f.ys := by
  obtain ⟨k1, k2, k3⟩ := keep_t h
  obtain ⟨q1, q2, q3, q4⟩ := fdec_fenc f.t f.ys b k1 k2 (by omega)
  have q5 : fdec (fenc f.t f.ys ++ b) = 0 := q4 1048576 (by omega)
  unfold ftp fnn fbd
  rw [q5, q1, q2, q3]; exact ⟨rfl, rfl, rfl, rfl⟩
theorem one_f {f : FrM} (h : fkeep 2000 f = true) : ftp1 (fenc f.t f.ys) = f.t ∧ fone (fenc f.t f.ys) = 0 ∧ fbd1 (fenc f.t f.ys) = f.ys := by
  obtain ⟨k1, k2, k3⟩ := keep_t h
  obtain ⟨q1, q2, q3, q4⟩ := fdec_fenc f.t f.ys [] k1 k2 (by omega)
  rw [List.append_nil] at q1 q2 q3 q4
  have q5 : fdec (fenc f.t f.ys) = 0 := q4 1048576 (by omega)
  have q6 : fone (fenc f.t f.ys) = 0 := by
    unfold fone
    rw [q5, q1, fenc_length, if_neg (by omega)]
  unfold ftp1 fbd1
  rw [q6, q2, q3]; exact ⟨rfl, rfl, rfl⟩
theorem enc_k {W : World} {f : FrM} {ua : Option Addr} {m uc N : Nat} {t : Int} (hk : fkeep 2000 f = true) (hu : f.u = .slice ua m uc) (hm : m = f.ys.length) (hN : N = m + 14) (ht0 : t = f.t) (hf : FrB W f) (ht : Tab W) :
    Calls Tryd.prog 24 #[.agg #[.int .i64 t, .slice ua m uc]] W fun r w' => ∃ g c, r = .returned (.tuple #[.slice (some ⟨g, 0, none⟩) N c, .int .i64 0]) ∧ Own W.heap.size w' (.slice (some ⟨g, 0, none⟩) N c) N (fenc f.t f.ys) ∧ N ≤ c ∧ Below W.heap.size W w' := by
  obtain ⟨k1, k2, k3⟩ := keep_t hk
  obtain ⟨ua', uc', e, hs, hc, hn⟩ := hf.sg
  rw [hu, ← hm] at e
  cases e
  rw [← hm] at hs hc
  subst ht0
  have q : fee f.t m = 0 := by unfold fee; rw [if_neg (by omega), if_neg (by omega)]
  have q2 : feb f.t f.ys = fenc f.t f.ys := by unfold feb; rw [← hm, q]; rfl
  refine (encode_c f.t ua m uc f.ys W hn hs hf.bt (by omega) ht).mono ?_
  rintro r w' ⟨v, rfl, h1, h2⟩
  rw [q2, fenc_length, ← hm, ← hN] at h1
  obtain ⟨g, c, rfl, _, h3⟩ := h1.form (by omega)
  rw [q]
  exact ⟨g, c, rfl, h1, h3, h2⟩
theorem dec_k {W : World} {fb E fc p m N q : Nat} {t : Int} {S : List FrM} {f : FrM} (h : Own 0 W (.slice (some ⟨fb, 0, none⟩) E fc) E (fencs S)) (hq : S[q]? = some f) (hk : ∀ f ∈ S, fkeep 2000 f = true) (hb : ∀ f ∈ S, Bytes f.ys) (hp : p = fsz (S.take q)) (hm : m = f.ys.length) (hN : N = m + 14) (ht0 : t = f.t) (hfc : E ≤ fc) (hE : E ≤ 1073741824) (hES : E = fsz S) (ht : Tab W) :
    Calls Tryd.prog 28 #[.slice (cutB (some ⟨fb, 0, none⟩) fc p) (E - p) (fc - p)] W fun r w' => ∃ va vc, r = .returned (.tuple #[.agg #[.int .i64 t, .slice va m vc], .int .i64 (N : Int), .int .i64 0]) ∧ Own W.heap.size w' (.slice va m vc) m f.ys ∧ Below W.heap.size W w' := by
  obtain ⟨a', c', e, hs, _, _⟩ := h.seg
  cases e
  have hkf := hk f (List.mem_of_getElem? hq)
  have hpE : p ≤ E := by have := fsz_in S q f hq; omega
  have hs2 := seg_cutB hs p E hpE (Nat.le_refl _) hfc
  have e1 : ((fencs S).take E).drop p = fenc f.t f.ys ++ fencs (S.drop (q + 1)) := by
    rw [List.take_of_length_le (by rw [fencs_len]; omega), hp]
    exact fencs_cut S q f hq
  rw [e1] at hs2
  have hbs : Bytes (fenc f.t f.ys ++ fencs (S.drop (q + 1))) := by
    rw [← e1]
    exact bytes_sub (fencs_bytes 2000 S hk hb) (fun z hz => List.mem_of_mem_take (List.mem_of_mem_drop hz))
  refine (decode_c _ (E - p) (fc - p) _ W (by omega) hs2 hbs (by omega) ht).mono ?_
  obtain ⟨d1, d2, d3, d4⟩ := dec_f hkf (fencs (S.drop (q + 1)))
  rw [d1, d2, d3, d4]
  rintro r w' ⟨u, rfl, h1, h2⟩
  subst ht0 hN hm
  obtain ⟨va, vc, rfl, _, _, _⟩ := h1.seg
  exact ⟨va, vc, rfl, h1, h2⟩
theorem one_k {W : World} {g c m N : Nat} {t : Int} {f : FrM} (h : Own 0 W (.slice (some ⟨g, 0, none⟩) N c) N (fenc f.t f.ys)) (hk : fkeep 2000 f = true) (hb : Bytes f.ys) (hm : m = f.ys.length) (hN : N = m + 14) (ht0 : t = f.t) (hc : N ≤ c) (ht : Tab W) :
    Calls Tryd.prog 25 #[.slice (some ⟨g, 0, none⟩) N c] W fun r w' => ∃ va vc, r = .returned (.tuple #[.agg #[.int .i64 t, .slice va m vc], .int .i64 0]) ∧ Own W.heap.size w' (.slice va m vc) m f.ys ∧ Below W.heap.size W w' := by
  obtain ⟨a', c', e, hs, _, _⟩ := h.seg
  cases e
  obtain ⟨k1, k2, k3⟩ := keep_t hk
  refine (one_c _ N c _ W hc hs (fenc_bytes (by omega) (by omega) hb) (by omega) ht).mono ?_
  obtain ⟨d1, d3, d4⟩ := one_f hk
  rw [d1, d3, d4]
  rintro r w' ⟨u, rfl, h1, h2⟩
  subst ht0 hN hm
  obtain ⟨va, vc, rfl, _, _, _⟩ := h1.seg
  exact ⟨va, vc, rfl, h1, h2⟩
/-- A frame's variable that was made and filled. -/
theorem stored_below {w w2 : World} (h : (w.alloc (.cells #[.int .i64 0, .slice none 0 0] 42)).grownBy w2 (some w.heap.size)) : Below w.heap.size w w2 :=
  ((Below.refl _ _).alloc (Nat.le_refl _) _).grown h (by simp) (fun k hk => by cases hk; exact Nat.le_refl _)
theorem bk_range {T : TypeId} {w : World} {b : Nat} {x y : Value} (h : Bk T w b #[x, y]) : w.rangeAt b 0 [x, y] := fun i v hv => by
  rw [Nat.zero_add, h.cell i]
  simpa using hv
theorem three_sl (a b c : Option Addr) (l m n i j k : Nat) : ∀ u ∈ [Value.slice a l i, Value.slice b m j, Value.slice c n k], u.oneCell' = true := fun u hu => by
  simp only [List.mem_cons, List.not_mem_nil, or_false] at hu
  rcases hu with rfl | rfl | rfl <;> rfl
theorem own_len {B : Nat} {w : World} {v : Value} {n : Nat} {xs : List Int} (h : Own B w v n xs) : xs.length = n := by
  have := h.1
  simpa using this
/-- The three lists of a frame, all made behind what is held. -/
theorem three_of {B : Nat} {Av : Nat → Prop} {wr w7 w8 w9 w10 w11 W : World} {hv : Value} {H : List HdM} {x y z : Value} {N m : Nat} {zs ys : List Int} {t : Int}
    (h : Held B wr Av hv H) (hAv : ∀ k, Av k → k < wr.heap.size) (hB : B ≤ wr.heap.size)
    (h7 : Own wr.heap.size w7 x N zs) (b7 : Below wr.heap.size wr w7) (h8 : Own w7.heap.size w8 y m ys) (b8 : Below w7.heap.size w7 w8)
    (h9 : Bk 42 w9 w8.heap.size #[.int .i64 t, y]) (b9 : Below w8.heap.size w8 w9) (h10 : Own w9.heap.size w10 z m ys) (b10 : Below w9.heap.size w9 w10)
    (h11 : Bk 42 w11 w10.heap.size #[.int .i64 t, z]) (b11 : Below w10.heap.size w10 w11) (hW : w11.grownBy W none) (hN : N ≤ 1073741824) (hm : m ≤ 1073741824) :
    Below wr.heap.size wr W ∧ Bk 42 W w8.heap.size #[.int .i64 t, y] ∧ Bk 42 W w10.heap.size #[.int .i64 t, z] ∧ New B W Av hv H [⟨x, zs⟩, ⟨y, ys⟩, ⟨z, ys⟩] ∧ Own 0 W y m ys ∧ Own 0 W z m ys := by
  have s7 := b7.size
  have s8 := b8.size
  have s9 := b9.size
  have s10 := b10.size
  have s11 := b11.size
  have c11 : Below w10.heap.size w10 W := b11.trans ((gb_below hW).mono s11)
  have c10 : Below w9.heap.size w9 W := b10.trans (c11.mono s10)
  have c9 : Below w8.heap.size w8 W := b9.trans (c10.mono s9)
  have c8 : Below w7.heap.size w7 W := b8.trans (c9.mono s8)
  have c7 : Below wr.heap.size wr W := b7.trans (c8.mono s7)
  have ox := h7.below c8
  have oy := h8.below c9
  have oz := h10.below c11
  refine ⟨c7, h9.below c10 (lt_of_block h9), h11.below (gb_below hW) (lt_of_block h11), ?_, oy.base (Nat.zero_le _), oz.base (Nat.zero_le _)⟩
  refine new_three (wa := w7) (wb := w9) (wr := wr) h hAv hB s7 (by omega) ?_ ?_ ?_ ?_ ?_ ?_ ?_ ?_
  · show Own _ _ _ zs.length zs; rw [own_len h7]; exact ox
  · exact fun k e => (own_lt h7 k e).2
  · show Own _ _ _ ys.length ys; rw [own_len h8]; exact oy
  · exact fun k e => by have := (own_lt h8 k e).2; omega
  · show Own _ _ _ ys.length ys; rw [own_len h10]; exact oz
  · show zs.length ≤ _; rw [own_len h7]; exact hN
  · show ys.length ≤ _; rw [own_len h8]; exact hm
  · show ys.length ≤ _; rw [own_len h8]; exact hm
end Go.Proofs.YtegbgmihcokblaaDoor

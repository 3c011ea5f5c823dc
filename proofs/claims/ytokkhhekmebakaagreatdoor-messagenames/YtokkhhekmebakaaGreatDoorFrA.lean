/-
  A law for 'append(s, t...)' over bytes, s nil or in memory that the call made itself: what comes out reads as the one and then the other. It speaks of every program. Condition: both together take at most 2^47 bytes.
  What crc.Seal answers, called with whatever bytes: they, and the four bytes of their sum, in memory of its own. Condition: the table lies in memory as the program's text lays it; the bytes can be read, and are at most 2^47 - 4096.
  Plain mathematics for the laws of package frame: what the bytes of a frame are, and what is read of any bytes. No condition of its own.
  What frame.magic, told, begins, cut, Encode, Decode and One answer, called with whatever bytes. Condition: the table of package crc lies in memory as the program's text lays it; the bytes can be read, and are at most 2^47.
  Laws for variables of several cells in a block of their own. No condition of its own.
  What frame.cut, Encode, Decode and One answer, called with whatever bytes. Condition: the table of package crc lies in memory as the program's text lays it; the bytes can be read, and are at most 2^47.
  What frame.Encode answers, called with whatever frame: its bytes in memory of its own, or the refusal. Condition: the table of package crc lies in memory as the program's text lays it; the body can be read, and is at most 2^47.
  What frame.Decode and frame.One answer, called with whatever bytes. Condition: the table of package crc lies in memory as the program's text lays it; the bytes can be read, and are at most 2^47.
-/
import Derived.Test.YtokkhhekmebakaaGreatDoorCrA
import Derived.Below
import Derived.Laws.AppendOwnNone
import Derived.Test.YtokkhhekmebakaaGreatDoorRows
import Derived.Deep.RegionHeld3
import Derived.BigQuiet
import Derived.Deep.WholeRow
import Derived.Deep.MidRow
import Derived.Laws.CopyOwn
namespace Go.Proofs.YtokkhhekmebakaaGreatDoor.Cr
open Go.RowKit
set_option linter.unusedVariables false

/-- Bytes of one's own: nil, or a block from B on. -/
def Own (B : Nat) (w : World) (v : Value) (n : Nat) (xs : List Int) : Prop := w.ownsRow B 5 1 v n (xs.map (Value.int .u8))
theorem own_nil (B : Nat) (w : World) : Own B w (.slice none 0 0) 0 [] := ⟨rfl, .inl ⟨rfl, rfl⟩⟩
theorem Own.seg {B : Nat} {w : World} {v : Value} {n : Nat} {xs : List Int} (h : Own B w v n xs) : ∃ a cap, v = .slice a n cap ∧ Seg .u8 w a n xs ∧ (a = none → cap = 0) ∧ n ≤ cap := by
  have hlen : xs.length = n := by have := h.1; simpa using this
  rcases h.2 with ⟨rfl, rfl⟩ | ⟨g, cap, cur, rfl, hB, hg, hn, hm, hsz, htake⟩
  · exact ⟨none, 0, rfl, ⟨hlen, .inl rfl⟩, fun _ => rfl, Nat.le_refl _⟩
  · refine ⟨_, cap, rfl, ⟨hlen, ?_⟩, (fun h => by cases h), hn⟩
    refine .inr ⟨g, 0, rfl, lt_of_block hg, fun i hi => ?_⟩
    rw [Nat.zero_add, h.cellAt i (by omega)]
    simp only [List.getElem?_map, List.getElem?_eq_getElem (show i < xs.length by omega)]; rfl
theorem Own.form {B : Nat} {w : World} {v : Value} {n : Nat} {xs : List Int} (h : Own B w v n xs) (hn : 0 < n) : ∃ g cap, v = .slice (some ⟨g, 0, none⟩) n cap ∧ B ≤ g ∧ n ≤ cap := by
  rcases h.2 with ⟨rfl, rfl⟩ | ⟨g, cap, cur, rfl, hB, _, hc, _⟩
  · omega
  · exact ⟨g, cap, rfl, hB, hc⟩
theorem Own.cell {B : Nat} {w : World} {g n cap : Nat} {xs : List Int} (h : Own B w (.slice (some ⟨g, 0, none⟩) n cap) n xs) (i : Nat) (hi : i < n) : w.cell? ⟨g, i, none⟩ = some (.int .u8 (xs[i]?.getD 0)) ∧ w.frozen? ⟨g, i, none⟩ = false := by
  have hlen : xs.length = n := by have := h.1; simpa using this
  refine ⟨?_, ?_⟩
  · rw [h.cellAt i (by omega)]
    simp only [List.getElem?_map, List.getElem?_eq_getElem (show i < xs.length by omega)]; rfl
  · rcases h.2 with ⟨h', _⟩ | ⟨g', cap', cur, h', hB, hg, _⟩
    · simp at h'
    · simp only [Value.slice.injEq, Option.some.injEq, Addr.mk.injEq, and_true, true_and] at h'
      obtain ⟨rfl, rfl⟩ := h'
      exact frozen_of_row _ _ _ _ _ hg
theorem Own.set {B : Nat} {w : World} {g n cap : Nat} {xs : List Int} (h : Own B w (.slice (some ⟨g, 0, none⟩) n cap) n xs) (i : Nat) (hi : i < n) (y : Int) : Own B (w.setCell ⟨g, i, none⟩ (.int .u8 y)) (.slice (some ⟨g, 0, none⟩) n cap) n (xs.set i y) := by
  refine ⟨by have := h.1; simpa using this, .inr ?_⟩
  rcases h.2 with ⟨h', _⟩ | ⟨g', cap', cur, h', hB, hg, hn, hm, hsz, htake⟩
  · simp at h'
  · simp only [Value.slice.injEq, Option.some.injEq, Addr.mk.injEq, and_true, true_and] at h'
    obtain ⟨rfl, rfl⟩ := h'
    refine ⟨g, cap, cur.setIfInBounds i (.int .u8 y), rfl, hB, ?_, hn, hm, by simpa using hsz, ?_⟩
    · rw [heap_setCell_same w g i _ 5 _ hg]
    · rw [Array.toList_setIfInBounds, List.take_set, htake, List.map_set]
theorem Own.below {B : Nat} {w w' : World} {v : Value} {n : Nat} {xs : List Int} (h : Own B w v n xs) (hb : Below w.heap.size w w') : Own B w' v n xs := by
  refine ⟨h.1, ?_⟩
  rcases h.2 with h0 | ⟨g, cap, cur, rfl, hB, hg, r⟩
  · exact .inl h0
  · exact .inr ⟨g, cap, cur, rfl, hB, (hb.block g (lt_of_block hg)).trans hg, r⟩
theorem Own.base {B C : Nat} {w : World} {v : Value} {n : Nat} {xs : List Int} (h : Own B w v n xs) (hc : C ≤ B) : Own C w v n xs := by
  refine ⟨h.1, ?_⟩
  rcases h.2 with h0 | ⟨g, cap, cur, rfl, hB, r⟩
  · exact .inl h0
  · exact .inr ⟨g, cap, cur, rfl, Nat.le_trans hc hB, r⟩
theorem info_parts' {P : Program} {e : TypeId} {a : Option Value} {b c : Nat} (h : (P.info? e).map (fun i => (i.zero, i.size, i.bytes)) = some (a, b, c)) :
    ∃ i, P.info? e = some i ∧ i.zero = a ∧ i.size = b ∧ i.bytes = c := by
  obtain ⟨i, h1, h2⟩ := Option.map_eq_some_iff.1 h
  simp only [Prod.mk.injEq] at h2
  exact ⟨i, h1, h2.1, h2.2.1, h2.2.2⟩

theorem wpList_append_grow (w : World) {ops : Array Oper} {rest : List Oper} {o : Oper} {a : Act} {Q : Exit → Act → World → Prop}
    (hg : o.guard = none) (s x : Operand) (hop : o.op = Op.call { callee := Callee.builtin Builtin.append, args := #[s, x], argTypes := #[56, 56] })
    (B n : Nat) (v : Value) (xs : List Int) (hs : a.eval s = v) (hown : Own B w v n xs)
    (ao : Option Addr) (m c : Nat) (ys : List Int) (hx : a.eval x = .slice ao m c) (hao : ao = none → c = 0) (hy : Seg .u8 w ao m ys) (hb : n + m ≤ 140737488355328) (hbase : B ≤ w.heap.size)
    (hK : ∀ v' w', Own B w' v' (n + m) (xs ++ ys) → Below B w w' → wpList Tryz.prog ops Q rest (a.put o.dst v') w') :
    wpList Tryz.prog ops Q (o :: rest) a w := by
  obtain ⟨i, hi, hz, h4, h5⟩ := info_parts' Tryz.infoU8
  cases ao with
  | none =>
    have hm0 : m = 0 := by
      rcases hy.2 with h0 | ⟨_, _, h, _⟩
      · exact h0
      · cases h
    subst hm0
    obtain rfl : ys = [] := List.eq_nil_of_length_eq_zero hy.1
    have hc0 := hao rfl
    subst hc0
    refine wpList_append_own_none hg s x 56 hop B 5 i 1 Tryz.underlying56 hi v n (xs.map (Value.int .u8)) hs hown hx ?_
    exact hK v w (by simpa using hown) (Below.refl _ _)
  | some ad =>
    refine wpList_append_own w hg s x 56 hop B 5 i (.int .u8 0) 1 1 Tryz.underlying56 hi hz h4 h5 rfl (by decide) v n (xs.map (Value.int .u8)) hs hown ad m c (ys.map (Value.int .u8)) hx (by simp [hy.1]) (seg_news' hy ad rfl) ?_ (by unfold maxLen; omega) (by omega) hbase ?_
    · intro u hu; obtain ⟨z, _, rfl⟩ := List.mem_map.1 hu; rfl
    · intro v' w' hown' hgrow _
      refine hK v' w' (by unfold Own; rw [List.map_append]; exact hown') ((Below.refl _ _).grown hgrow hbase ?_)
      intro k hk
      rcases hown.2 with ⟨rfl, _⟩ | ⟨g, cap, cur, rfl, hB, _⟩
      · cases hk
      · cases hk; exact hB
end Go.Proofs.YtokkhhekmebakaaGreatDoor.Cr
namespace Go.Proofs.YtokkhhekmebakaaGreatDoor.Cr
set_option linter.unusedVariables false
open Go.RowKit

/-- Bytes with their sum behind them. -/
def sealed (xs : List Int) : List Int := xs ++ by4 (sum xs)

theorem made_facts {w w2 w3 : World} {C : Array Value} {T T' : TypeId} {b0 b1 b2 b3 : Int} {n : Nat}
    (hb2 : Below (w.alloc (.cells C T)).heap.size (w.alloc (.cells C T)) w2)
    (hown : w3.ownsRow (w2.alloc (.cells #[.int .u8 b0, .int .u8 b1, .int .u8 b2, .int .u8 b3] T')).heap.size 5 1 (.slice (some ⟨(w2.alloc (.cells #[.int .u8 b0, .int .u8 b1, .int .u8 b2, .int .u8 b3] T')).heap.size, 0, none⟩) 0 n) 0 [])
    (hgrow : (w2.alloc (.cells #[.int .u8 b0, .int .u8 b1, .int .u8 b2, .int .u8 b3] T')).grownBy w3 none) :
    Own (w2.heap.size + 1) w3 (.slice (some ⟨w2.heap.size + 1, 0, none⟩) 0 n) 0 [] ∧
      Seg .u8 w3 (some ⟨w2.heap.size, 0, none⟩) 4 [b0, b1, b2, b3] ∧ Below w.heap.size w w3 ∧ w2.heap.size + 1 ≤ w3.heap.size ∧ w.heap.size ≤ w2.heap.size + 1 := by
  have h1 : Below w.heap.size w w2 := ((Below.refl _ _).alloc (Nat.le_refl _) _).trans (hb2.mono (by simp))
  have h2 : Below (w2.alloc (.cells #[.int .u8 b0, .int .u8 b1, .int .u8 b2, .int .u8 b3] T')).heap.size (w2.alloc (.cells #[.int .u8 b0, .int .u8 b1, .int .u8 b2, .int .u8 b3] T')) w3 := (Below.refl _ _).grown hgrow (Nat.le_refl _) (fun k hk => by cases hk)
  have h3 : Below w.heap.size w (w2.alloc (.cells #[.int .u8 b0, .int .u8 b1, .int .u8 b2, .int .u8 b3] T')) := h1.alloc h1.size _
  have h4 := h2.size
  have h5 := h1.size
  simp only [World.size_alloc] at h4
  have hown' : Own (w2.heap.size + 1) w3 (.slice (some ⟨w2.heap.size + 1, 0, none⟩) 0 n) 0 [] := by
    rw [World.size_alloc] at hown; exact hown
  refine ⟨hown', ?_, h3.trans (h2.mono h3.size), h4, by omega⟩
  exact (seg_new w2 .u8 _ T' 4 [b0, b1, b2, b3] rfl rfl).below h2

set_option maxHeartbeats 1000000 in
theorem seal_c (a : Option Addr) (len cap : Nat) (xs : List Int) (w : World) (hn : a = none → cap = 0) (hs : Seg .u8 w a len xs) (hx : Bytes xs) (hl : len ≤ 140737488351232) (ht : Tab w) :
    Calls Tryz.prog 71 #[.slice a len cap] w fun e w' => ∃ v, e = .returned v ∧ Own w.heap.size w' v (len + 4) (sealed xs) ∧ Below w.heap.size w w' := by
  obtain ⟨i0, hi, hz0, hz1, hz2⟩ := info_parts Tryz.infoU8
  have HN : Hid (a = none → cap = 0) := hn
  have HS : Hid (Seg .u8 w a len xs) := hs
  have HX : Hid (Bytes xs) := hx
  have HT : Hid (Tab w) := ht
  clear hn hs hx ht
  obtain ⟨b0, b1, b2, b3, hA, hB⟩ := arr4_ex (sum xs)
  replace hA : Hid _ := hA
  replace hB : Hid _ := hB
  have HSE : Hid (sealed xs = xs ++ [b0, b1, b2, b3]) := by show _ = _; unfold sealed; rw [hB.out]
  go_enter Tryz.func71, Tryz.ntmps71
  go_wp2_with (first
    | (go_at_call 104; refine (sum_c _ 1 1 [xs] _ ?_ (HT.out.below ((Below.refl _ _).alloc (Nat.le_refl _) _)) (by omega)).mono ?_; exact segs_at _ _ rfl HS.out HX.out (by omega); rintro e w1 ⟨rfl, rfl⟩; rw [show [xs].flatten = xs from by simp])
    | (go_at_call 103; go_must (refine (laid_c _ _).mono ?_); rintro e w2 ⟨rfl, hb2⟩; rw [hA.out]; replace hb2 : Hid _ := hb2)
    | (at_make; go_must (refine wpList_make_own _ rfl _ _ 56 rfl _ 5 i0 (.int .u8 0) 1 Tryz.underlying56 hi hz0 hz1 _ _ _ (len + 4) rfl rfl (by omega) (by rw [hz2]; omega) (by unfold maxLen; omega) (Nat.le_refl _) ?_); intro w3 hown hgrow; have HF : Hid _ := made_facts hb2.out hown hgrow; clear hown hgrow)
    | (at_builtin; refine wpList_append_grow _ rfl _ _ rfl (w2.heap.size + 1) len _ xs rfl HO4.out.1 (some ⟨w2.heap.size, 0, none⟩) 4 4 [b0, b1, b2, b3] rfl (fun h => by cases h) HO4.out.2.1 (by omega) HO4.out.2.2.2 ?_; intro v5 w5 ho5 hb5; replace ho5 : Hid _ := ho5; replace hb5 : Hid _ := hb5)
    | (at_builtin; go_must (refine wpList_append_grow _ rfl _ _ rfl (w2.heap.size + 1) 0 _ [] rfl HF.out.1 a len cap xs rfl HN.out (HS.out.below HF.out.2.2.1) (by omega) HF.out.2.2.2.1 ?_); intro v4 w4 hown4 hb4; rw [Nat.zero_add, List.nil_append] at hown4; have HO4 : Hid (Own (w2.heap.size + 1) w4 v4 len xs ∧ Seg .u8 w4 (some ⟨w2.heap.size, 0, none⟩) 4 [b0, b1, b2, b3] ∧ Below w.heap.size w w4 ∧ w2.heap.size + 1 ≤ w4.heap.size) := ⟨hown4, HF.out.2.1.keep hb4 (by omega), HF.out.2.2.1.trans (hb4.mono HF.out.2.2.2.2), Nat.le_trans HF.out.2.2.2.1 hb4.size⟩; clear hown4 hb4))
  go_ret
  refine ⟨_, rfl, ?_, ?_⟩
  · rw [HSE.out]; exact Own.base ho5.out HF.out.2.2.2.2
  · exact HO4.out.2.2.1.trans (hb5.out.mono HF.out.2.2.2.2)

end Go.Proofs.YtokkhhekmebakaaGreatDoor.Cr
namespace Go.Proofs.YtokkhhekmebakaaGreatDoor.Cr
set_option linter.unusedVariables false
open Go.RowKit

/-- Have bytes the magic at their front, as far as they go? -/
def fmagic (xs : List Int) : Bool := (decide (xs.length < 1) || decide (xs[0]?.getD 0 = 72)) && (decide (xs.length < 2) || decide (xs[1]?.getD 0 = 87))
/-- The body's length that a head tells. -/
def flen (xs : List Int) : Nat := (xs[3]?.getD 0 + 256 * xs[4]?.getD 0 + 65536 * xs[5]?.getD 0).toNat
/-- Is the head one? -/
def fhead (xs : List Int) : Bool := holds (xs.take 10) && decide (xs[2]?.getD 0 ≠ 0)
/-- Why no frame of a body of at most so many bytes begins here, the sum aside. -/
def fbeg (most : Nat) (xs : List Int) : Nat :=
  if fmagic xs = false then 41 else if xs.length < 10 then 40 else if fhead xs = false then 42 else if most < flen xs then 43 else if xs.length < flen xs + 14 then 40 else 0
/-- Why no frame begins here. -/
def fmeet (most : Nat) (xs : List Int) : Nat := if fbeg most xs = 0 then (if holds (xs.take (flen xs + 14)) = true then 0 else 44) else fbeg most xs
def fdec (xs : List Int) : Nat := fmeet 1048576 xs
/-- The body of the frame at the front. -/
def fbody (xs : List Int) : List Int := (xs.drop 10).take (flen xs)
/-- A head's first six bytes. -/
def fsix (t : Int) (n : Int) : List Int := [72, 87, t, n % 256, n / 256 % 256, n / 65536 % 256]
/-- The bytes of a frame. -/
def fenc (t : Int) (body : List Int) : List Int := sealed (sealed (fsix t body.length) ++ body)

theorem holds_sealed (xs : List Int) : holds (sealed xs) = true := by
  unfold holds sealed
  have h4 : (by4 (sum xs)).length = 4 := rfl
  apply decide_eq_true
  rw [List.length_append, h4]
  have e : xs.length + 4 - 4 = xs.length := by omega
  rw [e]
  exact ⟨by omega, by rw [List.drop_left, List.take_left]⟩
theorem holds_is {xs : List Int} (h : holds xs = true) : 4 ≤ xs.length ∧ xs = sealed (xs.take (xs.length - 4)) := by
  unfold holds at h
  obtain ⟨h1, h2⟩ := of_decide_eq_true h
  refine ⟨h1, ?_⟩
  unfold sealed
  rw [← h2, List.take_append_drop]
theorem flen_nn {xs : List Int} (hx : Bytes xs) : ((flen xs : Nat) : Int) = xs[3]?.getD 0 + 256 * xs[4]?.getD 0 + 65536 * xs[5]?.getD 0 ∧ flen xs < 16777216 := by
  have h : ∀ i : Nat, (0 : Int) ≤ xs[i]?.getD 0 ∧ xs[i]?.getD 0 < (256 : Int) := fun i => by
    by_cases hi : i < xs.length
    · exact hx i hi
    · rw [List.getElem?_eq_none (by omega)]; exact ⟨by decide, by decide⟩
  have h3 := h 3
  have h4 := h 4
  have h5 := h 5
  unfold flen
  constructor <;> omega
theorem sealed_length (xs : List Int) : (sealed xs).length = xs.length + 4 := by unfold sealed; rw [List.length_append]; rfl
theorem sealed_bytes {xs : List Int} (h : Bytes xs) : Bytes (sealed xs) := bytes_of_mem (fun z hz => by
  unfold sealed at hz
  rcases List.mem_append.1 hz with h' | h'
  · exact h.mem z h'
  · exact by4_bytes _ z h')
theorem fsix_bytes {t n : Int} (h0 : 0 ≤ t) (h1 : t < 256) : Bytes (fsix t n) := bytes_of_mem (fun z hz => by
  unfold fsix at hz
  simp only [List.mem_cons, List.not_mem_nil, or_false] at hz
  rcases hz with rfl | rfl | rfl | rfl | rfl | rfl <;> omega)
theorem bytes_append {xs ys : List Int} (h : Bytes xs) (h' : Bytes ys) : Bytes (xs ++ ys) := bytes_of_mem (fun z hz => by
  rcases List.mem_append.1 hz with q | q
  · exact h.mem z q
  · exact h'.mem z q)
theorem fenc_length (t : Int) (body : List Int) : (fenc t body).length = body.length + 14 := by
  unfold fenc
  rw [sealed_length, List.length_append, sealed_length]
  show 6 + 4 + body.length + 4 = _
  omega
theorem fenc_bytes {t : Int} {body : List Int} (h0 : 0 ≤ t) (h1 : t < 256) (hb : Bytes body) : Bytes (fenc t body) := sealed_bytes (bytes_append (sealed_bytes (fsix_bytes h0 h1)) hb)
/-- A frame's bytes, the head's six first ones apart. -/
theorem fenc_form (t : Int) (body : List Int) : ∃ a b c d, sealed (fsix t body.length) = fsix t body.length ++ [a, b, c, d] ∧ fenc t body = fsix t body.length ++ ([a, b, c, d] ++ (body ++ by4 (sum (sealed (fsix t body.length) ++ body)))) := by
  refine ⟨_, _, _, _, rfl, ?_⟩
  unfold fenc
  conv => lhs; unfold sealed
  rw [show sealed (fsix t body.length) = fsix t body.length ++ by4 (sum (fsix t body.length)) from rfl, List.append_assoc, List.append_assoc]
  rfl
/-- There and back: what is read of a frame's bytes, whatever stands behind. -/
theorem fdec_fenc (t : Int) (body behind : List Int) (ht : 1 ≤ t) (ht' : t ≤ 255) (hl : body.length ≤ 1048576) :
    flen (fenc t body ++ behind) = body.length ∧ (fenc t body ++ behind)[2]?.getD 0 = t ∧ fbody (fenc t body ++ behind) = body ∧ (∀ most, body.length ≤ most → fmeet most (fenc t body ++ behind) = 0) := by
  obtain ⟨a, b, c, d, h1, h2⟩ := fenc_form t body
  have hlen := fenc_length t body
  have e2 : (fenc t body ++ behind)[2]?.getD 0 = t := by rw [h2]; rfl
  have ef : flen (fenc t body ++ behind) = body.length := by
    rw [h2]
    show ((body.length : Int) % 256 + 256 * ((body.length : Int) / 256 % 256) + 65536 * ((body.length : Int) / 65536 % 256)).toNat = _
    omega
  have e10 : (fenc t body ++ behind).take 10 = sealed (fsix t body.length) := by rw [h1, h2]; rfl
  have eall : (fenc t body ++ behind).take (body.length + 14) = fenc t body := by rw [← hlen, List.take_left]
  have eb : fbody (fenc t body ++ behind) = body := by
    unfold fbody
    rw [ef, h2]
    show ((body ++ by4 _) ++ behind).take body.length = body
    rw [List.append_assoc, List.take_left]
  refine ⟨ef, e2, eb, fun most hm => ?_⟩
  have em : fmagic (fenc t body ++ behind) = true := by
    unfold fmagic
    have q0 : (fenc t body ++ behind)[0]?.getD 0 = 72 := by rw [h2]; rfl
    have q1 : (fenc t body ++ behind)[1]?.getD 0 = 87 := by rw [h2]; rfl
    rw [q0, q1]
    simp
  have eh : fhead (fenc t body ++ behind) = true := by
    unfold fhead
    rw [e10, holds_sealed, e2, decide_eq_true (by omega)]
    rfl
  have eL : (fenc t body ++ behind).length = body.length + 14 + behind.length := by rw [List.length_append, hlen]
  have e0 : fbeg most (fenc t body ++ behind) = 0 := by
    unfold fbeg
    rw [em, eh, ef, eL, if_neg (by decide), if_neg (by omega), if_neg (by decide), if_neg (by omega), if_neg (by omega)]
  unfold fmeet
  rw [e0, if_pos rfl, ef, eall]
  unfold fenc
  rw [holds_sealed, if_pos rfl]
theorem fbeg_ok {most : Nat} {xs : List Int} (h : fbeg most xs = 0) : fmagic xs = true ∧ 10 ≤ xs.length ∧ fhead xs = true ∧ flen xs ≤ most ∧ flen xs + 14 ≤ xs.length := by
  unfold fbeg at h
  split at h
  · cases h
  split at h
  · cases h
  split at h
  · cases h
  split at h
  · cases h
  split at h
  · cases h
  rename_i h1 h2 h3 h4 h5
  exact ⟨by cases q : fmagic xs <;> simp_all, by omega, by cases q : fhead xs <;> simp_all, by omega, by omega⟩
theorem fmeet_ok {most : Nat} {xs : List Int} (h : fmeet most xs = 0) : fbeg most xs = 0 ∧ holds (xs.take (flen xs + 14)) = true := by
  unfold fmeet at h
  split at h
  · rename_i h0
    split at h
    · rename_i h1; exact ⟨h0, h1⟩
    · cases h
  · rename_i h0; exact absurd h h0
/-- What is read is what would be written. -/
theorem fenc_fdec {most : Nat} {xs : List Int} (hx : Bytes xs) (h : fmeet most xs = 0) : (1 : Int) ≤ xs[2]?.getD 0 ∧ xs[2]?.getD 0 ≤ (255 : Int) ∧ (fbody xs).length = flen xs ∧ fenc (xs[2]?.getD 0) (fbody xs) = xs.take (flen xs + 14) := by
  obtain ⟨h0, hh⟩ := fmeet_ok h
  obtain ⟨hm, h10, hd, hl, hlen⟩ := fbeg_ok h0
  have hn := flen_nn hx
  have hbl : (fbody xs).length = flen xs := by unfold fbody; rw [List.length_take, List.length_drop]; omega
  have b2 := hx 2 (by omega)
  have b3 := hx 3 (by omega)
  have b4 := hx 4 (by omega)
  have b5 := hx 5 (by omega)
  unfold fhead at hd
  rw [Bool.and_eq_true] at hd
  obtain ⟨hd1, hd2⟩ := hd
  have hd2 := of_decide_eq_true hd2
  have hd3 : xs[2]?.getD 0 ≠ (0 : Int) := hd2
  refine ⟨by omega, by omega, hbl, ?_⟩
  obtain ⟨_, k1⟩ := holds_is hd1
  obtain ⟨_, k2⟩ := holds_is hh
  rw [List.length_take, Nat.min_eq_left h10, List.take_take, show min (10 - 4) 10 = 6 from rfl] at k1
  rw [List.length_take, Nat.min_eq_left hlen, List.take_take, Nat.min_eq_left (by omega), show flen xs + 14 - 4 = flen xs + 10 from by omega] at k2
  have k3 : xs.take 6 = fsix (xs[2]?.getD 0) (fbody xs).length := by
    rw [hbl]
    match xs, h10, hm, hn, b3, b4, b5 with
    | x0 :: x1 :: x2 :: x3 :: x4 :: x5 :: r, _, hm, hn, b3, b4, b5 =>
      unfold fmagic at hm
      simp at hm b3 b4 b5
      have hn1 := hn.1
      simp at hn1
      unfold fsix
      have q3 : x3 = (flen (x0 :: x1 :: x2 :: x3 :: x4 :: x5 :: r) : Int) % 256 := by omega
      have q4 : x4 = (flen (x0 :: x1 :: x2 :: x3 :: x4 :: x5 :: r) : Int) / 256 % 256 := by omega
      have q5 : x5 = (flen (x0 :: x1 :: x2 :: x3 :: x4 :: x5 :: r) : Int) / 65536 % 256 := by omega
      have m2 : x1 = 87 := hm.2.resolve_left (by omega)
      rw [← q3, ← q4, ← q5, hm.1, m2]
      rfl
  unfold fenc
  rw [← k3, ← k1, k2]
  congr 1
  unfold fbody
  rw [show flen xs + 10 = 10 + flen xs from by omega, List.take_add]
/-- Of a beginning of what is read nothing is read: the bytes end too early. -/
theorem fbeg_part {most k : Nat} {xs : List Int} (h : fbeg most xs = 0) (hk : k < flen xs + 14) : fbeg most (xs.take k) = 40 := by
  obtain ⟨hm, h10, hd, hl, hlen⟩ := fbeg_ok h
  have hL : (xs.take k).length = k := by rw [List.length_take]; omega
  have hg : ∀ i, i < k → (xs.take k)[i]?.getD 0 = xs[i]?.getD 0 := fun i hi => by rw [List.getElem?_take_of_lt hi]
  have m' : fmagic (xs.take k) = true := by
    unfold fmagic at hm ⊢
    rw [hL]
    rw [Bool.and_eq_true, Bool.or_eq_true, Bool.or_eq_true, decide_eq_true_iff, decide_eq_true_iff, decide_eq_true_iff, decide_eq_true_iff] at hm ⊢
    refine ⟨?_, ?_⟩
    · by_cases q : k < 1
      · exact .inl q
      · rw [hg 0 (by omega)]; exact .inr (hm.1.resolve_left (by omega))
    · by_cases q : k < 2
      · exact .inl q
      · rw [hg 1 (by omega)]; exact .inr (hm.2.resolve_left (by omega))
  unfold fbeg
  rw [m', hL, if_neg (by decide)]
  by_cases q : k < 10
  · rw [if_pos q]
  · have d' : fhead (xs.take k) = true := by
      unfold fhead at hd ⊢
      rw [hg 2 (by omega), List.take_take, Nat.min_eq_left (by omega)]; exact hd
    have l' : flen (xs.take k) = flen xs := by unfold flen; rw [hg 3 (by omega), hg 4 (by omega), hg 5 (by omega)]
    rw [if_neg q, d', l', if_neg (by decide), if_neg (by omega), if_pos hk]

end Go.Proofs.YtokkhhekmebakaaGreatDoor.Cr
namespace Go.Proofs.YtokkhhekmebakaaGreatDoor.Cr
set_option linter.unusedVariables false
open Go.RowKit

/-- The first cells of bytes that can be read. -/
theorem Seg.cells {w : World} {a : Option Addr} {len : Nat} {xs : List Int} (h : Seg .u8 w a len xs) (h0 : 0 < len) : ∃ b off, a = some ⟨b, off, none⟩ ∧ b < w.heap.size ∧ ∀ i, i < len → w.cell? ⟨b, off + i, none⟩ = some (.int .u8 (xs[i]?.getD 0)) := by
  obtain ⟨b, off, h1, h2, h3⟩ := h.2.resolve_left (by omega)
  exact ⟨b, off, h1, h2, h3⟩
theorem belowDrew {B : Nat} {a w : World} (h : Below B a w) (n : Nat) : Below B a (w.drewN n) := ⟨h.os, h.tape, h.output, h.size, h.block⟩
theorem seg_len {w : World} {a : Option Addr} {len : Nat} {xs : List Int} (h : Seg .u8 w a len xs) : xs.length = len := h.1

set_option maxHeartbeats 1000000 in
theorem magic_c (a : Option Addr) (len cap : Nat) (xs : List Int) (w : World) (hs : Seg .u8 w a len xs) :
    Calls Tryz.prog 157 #[.slice a len cap] w fun e w' => e = .returned (.bool (fmagic xs)) ∧ w' = w := by
  have hlen := hs.1
  by_cases l0 : len = 0
  · have HF : Hid (fmagic xs = true) := by show _ = _; unfold fmagic; rw [hlen, l0]; rfl
    subst l0
    clear hlen hs
    go_enter Tryz.func157, Tryz.ntmps157
    go_wp2
    go_ret
    rw [HF.out]; exact ⟨rfl, rfl⟩
  · obtain ⟨b, off, rfl, hbw, hc⟩ := hs.cells (by omega)
    have c0 : w.cell? ⟨b, off, none⟩ = some (.int .u8 (xs[0]?.getD 0)) := hc 0 (by omega)
    have l1 : ¬ len < 1 := by omega
    obtain ⟨X0, hX0⟩ : ∃ X, X = xs[0]?.getD 0 := ⟨_, rfl⟩
    rw [← hX0] at c0
    by_cases h0 : X0 = 72
    · subst h0
      by_cases l2 : len < 2
      · have HF : Hid (fmagic xs = true) := by show _ = _; unfold fmagic; rw [hlen, ← hX0]; simp [l2]
        obtain rfl : len = 1 := by omega
        clear hlen hs hc hX0
        go_enter Tryz.func157, Tryz.ntmps157
        go_wp2
        go_ret
        rw [HF.out]; exact ⟨rfl, rfl⟩
      · have c1 : w.cell? ⟨b, off + 1, none⟩ = some (.int .u8 (xs[1]?.getD 0)) := hc 1 (by omega)
        obtain ⟨X1, hX1⟩ : ∃ X, X = xs[1]?.getD 0 := ⟨_, rfl⟩
        rw [← hX1] at c1
        have l3 : 1 < len := by omega
        by_cases h1 : X1 = 87
        · subst h1
          have HF : Hid (fmagic xs = true) := by show _ = _; unfold fmagic; rw [hlen, ← hX0, ← hX1]; simp
          clear hlen hs hc hX0 hX1
          go_enter Tryz.func157, Tryz.ntmps157
          go_wp2
          go_ret
          rw [HF.out]; exact ⟨rfl, rfl⟩
        · have HF : Hid (fmagic xs = false) := by show _ = _; unfold fmagic; rw [hlen, ← hX0, ← hX1]; simp [h1]; omega
          have q1 : (X1 == 87) = false := by simp [h1]
          clear hlen hs hc hX0 hX1
          go_enter Tryz.func157, Tryz.ntmps157
          go_wp2
          go_ret
          rw [HF.out]; exact ⟨congrArg (fun b => Ending.returned (Value.bool b)) (decide_eq_false (p := (len : Int) < 2) (by omega)), rfl⟩
    · have HF : Hid (fmagic xs = false) := by show _ = _; unfold fmagic; rw [hlen, ← hX0]; simp [h0]; omega
      have q0 : (X0 == 72) = false := by simp [h0]
      have l3 : 0 < len := by omega
      clear hlen hs hc hX0
      go_enter Tryz.func157, Tryz.ntmps157
      go_wp2
      go_ret
      rw [HF.out]; exact ⟨rfl, rfl⟩

set_option maxHeartbeats 1000000 in
theorem told_c (a : Option Addr) (len cap : Nat) (xs : List Int) (w : World) (hs : Seg .u8 w a len xs) (hx : Bytes xs) (hl : 10 ≤ len) :
    Calls Tryz.prog 106 #[.slice a len cap] w fun e w' => e = .returned (.int .i64 ((flen xs + 14 : Nat) : Int)) ∧ Below w.heap.size w w' := by
  have hlen := hs.1
  obtain ⟨b, off, rfl, hbw, hc⟩ := hs.cells (by omega)
  have c3 := hc 3 (by omega)
  have c4 := hc 4 (by omega)
  have c5 := hc 5 (by omega)
  have b3 := hx 3 (by omega)
  have b4 := hx 4 (by omega)
  have b5 := hx 5 (by omega)
  have HF : Hid (((flen xs : Nat) : Int) = xs[3]?.getD 0 + 256 * xs[4]?.getD 0 + 65536 * xs[5]?.getD 0) := (flen_nn hx).1
  obtain ⟨X3, hX3⟩ : ∃ X, X = xs[3]?.getD 0 := ⟨_, rfl⟩
  obtain ⟨X4, hX4⟩ : ∃ X, X = xs[4]?.getD 0 := ⟨_, rfl⟩
  obtain ⟨X5, hX5⟩ : ∃ X, X = xs[5]?.getD 0 := ⟨_, rfl⟩
  rw [← hX3] at c3 b3 HF
  rw [← hX4] at c4 b4 HF
  rw [← hX5] at c5 b5 HF
  clear hlen hs hc hX3 hX4 hX5 hx
  go_enter Tryz.func106, Tryz.ntmps106
  go_wp2
  go_quiet (fail)
  go_wp2
  go_ret
  refine ⟨ret_int ?_, belowDrew (Below.refl _ _) _⟩
  have := HF.out
  push_cast
  omega

set_option maxHeartbeats 2000000 in
theorem begins_c (a : Option Addr) (len cap : Nat) (xs : List Int) (most : Nat) (w : World) (hlc : len ≤ cap) (hs : Seg .u8 w a len xs) (hx : Bytes xs) (hl : len ≤ 140737488355328) (hm : most ≤ 1048576) (ht : Tab w) :
    Calls Tryz.prog 105 #[.slice a len cap, .int .i64 (most : Int)] w fun e w' => e = .returned (.int .i64 ((fbeg most xs : Nat) : Int)) ∧ Below w.heap.size w w' := by
  have HS : Hid (Seg .u8 w a len xs) := hs
  have HX : Hid (Bytes xs) := hx
  have HT : Hid (Tab w) := ht
  have HLN : Hid (xs.length = len) := hs.1
  cases q1 : fmagic xs with
  | false =>
    have HF : Hid (fbeg most xs = 41) := by show _ = _; unfold fbeg; rw [q1, if_pos rfl]
    clear hs hx ht
    go_enter Tryz.func105, Tryz.ntmps105
    go_wp2_with (go_at_call 157; go_must (refine (magic_c _ _ _ _ _ HS.out).mono ?_); rintro e w1 ⟨rfl, rfl⟩; rw [q1])
    go_ret
    rw [HF.out]; exact ⟨rfl, Below.refl _ _⟩
  | true =>
    by_cases l10 : len < 10
    · have HF : Hid (fbeg most xs = 40) := by show _ = _; unfold fbeg; rw [q1, HLN.out, if_neg (by decide), if_pos l10]
      clear hs hx ht
      go_enter Tryz.func105, Tryz.ntmps105
      go_wp2_with (go_at_call 157; go_must (refine (magic_c _ _ _ _ _ HS.out).mono ?_); rintro e w1 ⟨rfl, rfl⟩; rw [q1])
      go_ret
      rw [HF.out]; exact ⟨rfl, Below.refl _ _⟩
    · obtain ⟨b, off, rfl, hbw, hc⟩ := hs.cells (by omega)
      have HC2 : Hid (w.cell? ⟨b, off + 2, none⟩ = some (.int .u8 (xs[2]?.getD 0)) ∧ b < w.heap.size) := ⟨hc 2 (by omega), hbw⟩
      have HS10 : Hid (Seg .u8 w (some ⟨b, off, none⟩) 10 (xs.take 10)) := hs.take 10 (by omega)
      have HX10 : Hid (Bytes (xs.take 10)) := hx.take 10
      have l10' : 10 ≤ len := by omega
      have c10 : 10 ≤ cap := by omega
      clear hs hx ht hc hbw
      cases q2 : holds (xs.take 10) with
      | false =>
        have HF : Hid (fbeg most xs = 42) := by show _ = _; unfold fbeg fhead; rw [q1, q2, HLN.out, if_neg (by decide), if_neg l10]; rfl
        go_enter Tryz.func105, Tryz.ntmps105
        go_wp2_with (first
          | (go_at_call 157; go_must (refine (magic_c _ _ _ _ _ HS.out).mono ?_); rintro e w1 ⟨rfl, rfl⟩; rw [q1])
          | (go_at_call 107; go_must (refine (holds_c _ 10 _ _ _ (by omega) HS10.out HX10.out (by omega) HT.out).mono ?_); rintro e w2 ⟨rfl, hb2⟩; rw [q2]; replace hb2 : Hid _ := hb2))
        go_ret
        rw [HF.out]; exact ⟨rfl, hb2.out⟩
      | true =>
        by_cases q3 : xs[2]?.getD 0 = (0 : Int)
        · have HF : Hid (fbeg most xs = 42) := by show _ = _; unfold fbeg fhead; rw [q1, q2, q3, HLN.out, if_neg (by decide), if_neg l10]; rfl
          rw [q3] at HC2
          go_enter Tryz.func105, Tryz.ntmps105
          go_wp2_with (first
            | (go_at_call 157; go_must (refine (magic_c _ _ _ _ _ HS.out).mono ?_); rintro e w1 ⟨rfl, rfl⟩; rw [q1])
            | (go_at_call 107; go_must (refine (holds_c _ 10 _ _ _ (by omega) HS10.out HX10.out (by omega) HT.out).mono ?_); rintro e w2 ⟨rfl, hb2⟩; rw [q2]; have c2 : w2.cell? ⟨b, off + 2, none⟩ = some (.int .u8 0) := (hb2.cell (p := ⟨b, off + 2, none⟩) HC2.out.2).trans HC2.out.1; replace hb2 : Hid _ := hb2))
          go_ret
          rw [HF.out]; exact ⟨rfl, hb2.out⟩
        · obtain ⟨X2, hX2⟩ : ∃ X, X = xs[2]?.getD (0 : Int) := ⟨_, rfl⟩
          have q3' : (X2 == 0) = false := by rw [hX2]; simpa using q3
          have QH : Hid (fhead xs = true) := by show _ = _; unfold fhead; rw [q2, decide_eq_true q3]; rfl
          have HFL : Hid (flen xs < 16777216) := (flen_nn HX.out).2
          rw [← hX2] at HC2
          clear hX2 q3
          have hfl := HFL.out
          by_cases q4 : most < flen xs
          · have HF : Hid (fbeg most xs = 43) := by show _ = _; unfold fbeg; rw [q1, QH.out, HLN.out, if_neg (by decide), if_neg l10, if_neg (by decide), if_pos q4]
            obtain ⟨n, hn⟩ : ∃ n, n = flen xs := ⟨_, rfl⟩
            rw [← hn] at q4 hfl
            replace hn : Hid _ := hn
            go_enter Tryz.func105, Tryz.ntmps105
            go_wp2_with (first
              | (go_at_call 157; go_must (refine (magic_c _ _ _ _ _ HS.out).mono ?_); rintro e w1 ⟨rfl, rfl⟩; rw [q1])
              | (go_at_call 106; go_must (refine (told_c _ _ _ xs _ (HS.out.below hb2.out) HX.out l10').mono ?_); rintro e w3 ⟨rfl, hb3⟩; rw [← hn.out]; replace hb3 : Hid _ := hb3)
              | (go_at_call 107; go_must (refine (holds_c _ 10 _ _ _ (by omega) HS10.out HX10.out (by omega) HT.out).mono ?_); rintro e w2 ⟨rfl, hb2⟩; rw [q2]; have c2 : w2.cell? ⟨b, off + 2, none⟩ = some (.int .u8 X2) := (hb2.cell (p := ⟨b, off + 2, none⟩) HC2.out.2).trans HC2.out.1; replace hb2 : Hid _ := hb2))
            go_ret
            rw [HF.out]; exact ⟨rfl, hb2.out.trans (hb3.out.mono hb2.out.size)⟩
          · by_cases q5 : len < flen xs + 14
            · have HF : Hid (fbeg most xs = 40) := by show _ = _; unfold fbeg; rw [q1, QH.out, HLN.out, if_neg (by decide), if_neg l10, if_neg (by decide), if_neg q4, if_pos q5]
              obtain ⟨n, hn⟩ : ∃ n, n = flen xs := ⟨_, rfl⟩
              rw [← hn] at q4 hfl q5
              replace hn : Hid _ := hn
              go_enter Tryz.func105, Tryz.ntmps105
              go_wp2_with (first
                | (go_at_call 157; go_must (refine (magic_c _ _ _ _ _ HS.out).mono ?_); rintro e w1 ⟨rfl, rfl⟩; rw [q1])
                | (go_at_call 106; refine (told_c _ _ _ xs _ (HS.out.below (hb2.out.trans (hb3.out.mono hb2.out.size))) HX.out l10').mono ?_; rintro e w4 ⟨rfl, hb4⟩; rw [← hn.out]; replace hb4 : Hid _ := hb4)
                | (go_at_call 106; go_must (refine (told_c _ _ _ xs _ (HS.out.below hb2.out) HX.out l10').mono ?_); rintro e w3 ⟨rfl, hb3⟩; rw [← hn.out]; replace hb3 : Hid _ := hb3)
                | (go_at_call 107; go_must (refine (holds_c _ 10 _ _ _ (by omega) HS10.out HX10.out (by omega) HT.out).mono ?_); rintro e w2 ⟨rfl, hb2⟩; rw [q2]; have c2 : w2.cell? ⟨b, off + 2, none⟩ = some (.int .u8 X2) := (hb2.cell (p := ⟨b, off + 2, none⟩) HC2.out.2).trans HC2.out.1; replace hb2 : Hid _ := hb2))
              go_ret
              rw [HF.out]; exact ⟨rfl, (hb2.out.trans (hb3.out.mono hb2.out.size)).trans (hb4.out.mono (Nat.le_trans hb2.out.size hb3.out.size))⟩
            · have HF : Hid (fbeg most xs = 0) := by show _ = _; unfold fbeg; rw [q1, QH.out, HLN.out, if_neg (by decide), if_neg l10, if_neg (by decide), if_neg q4, if_neg q5]
              obtain ⟨n, hn⟩ : ∃ n, n = flen xs := ⟨_, rfl⟩
              rw [← hn] at q4 hfl q5
              replace hn : Hid _ := hn
              go_enter Tryz.func105, Tryz.ntmps105
              go_wp2_with (first
                | (go_at_call 157; go_must (refine (magic_c _ _ _ _ _ HS.out).mono ?_); rintro e w1 ⟨rfl, rfl⟩; rw [q1])
                | (go_at_call 106; refine (told_c _ _ _ xs _ (HS.out.below (hb2.out.trans (hb3.out.mono hb2.out.size))) HX.out l10').mono ?_; rintro e w4 ⟨rfl, hb4⟩; rw [← hn.out]; replace hb4 : Hid _ := hb4)
                | (go_at_call 106; go_must (refine (told_c _ _ _ xs _ (HS.out.below hb2.out) HX.out l10').mono ?_); rintro e w3 ⟨rfl, hb3⟩; rw [← hn.out]; replace hb3 : Hid _ := hb3)
                | (go_at_call 107; go_must (refine (holds_c _ 10 _ _ _ (by omega) HS10.out HX10.out (by omega) HT.out).mono ?_); rintro e w2 ⟨rfl, hb2⟩; rw [q2]; have c2 : w2.cell? ⟨b, off + 2, none⟩ = some (.int .u8 X2) := (hb2.cell (p := ⟨b, off + 2, none⟩) HC2.out.2).trans HC2.out.1; replace hb2 : Hid _ := hb2))
              go_ret
              rw [HF.out]; exact ⟨rfl, (hb2.out.trans (hb3.out.mono hb2.out.size)).trans (hb4.out.mono (Nat.le_trans hb2.out.size hb3.out.size))⟩

end Go.Proofs.YtokkhhekmebakaaGreatDoor.Cr
namespace Go.Proofs.YtokkhhekmebakaaGreatDoor.Cr
open Go.RowKit
set_option linter.unusedVariables false

theorem heap_new (w : World) (o : Obj) : (w.alloc o).heap[w.heap.size]? = some o := by
  show (w.heap.push _)[w.heap.size]? = _
  rw [Array.getElem?_push, if_pos rfl]
/-- A block that holds one value of so many cells. -/
def Bk (T : TypeId) (w : World) (b : Nat) (cs : Array Value) : Prop := w.heap[b]? = some (.cells cs T (0, 0))
theorem Bk.grew {T w w' b cs row} (h : Bk T w b cs) (hg : w.grownBy w' row) (hn : row ≠ some b) : Bk T w' b cs := (hg.block b (lt_of_block h) (fun e => hn e.symm)).trans h
theorem bk_load {T : TypeId} {d : TypeDesc} (hu : Tryz.prog.underlying T = some d) (hd : d.isRow = true) {n : Nat} (hi : (Tryz.prog.info? T).map (·.size) = some n) {w : World} {b : Nat} {cs : Array Value} (h : Bk T w b cs) (hl : cs.size = n) :
    (loadVar T ⟨b, 0, none⟩).run Tryz.prog w = .ok (.agg cs) w := by
  have := run_loadVar_mid (P := Tryz.prog) w b 0 T cs.toList d (fun j v hv => by rw [Nat.zero_add, cell_of_row w b j _ _ _ h]; simpa using hv) hu hd (by rw [hi, ← hl]; simp)
  simpa using this
theorem wpList_load_bk {ops : Array Oper} {rest : List Oper} {op : Oper} {a : Act} {w : World} {Q : Exit → Act → World → Prop} (T : TypeId) (hgd : op.guard = none) (x : Operand) (ho : op.op = .load T x)
    {d : TypeDesc} (hu : Tryz.prog.underlying T = some d) (hd : d.isRow = true) {n : Nat} (hi : (Tryz.prog.info? T).map (·.size) = some n) (b : Nat) (cs : Array Value) (hx : a.eval x = .pointer (some ⟨b, 0, none⟩)) (h : Bk T w b cs) (hl : cs.size = n)
    (K : wpList Tryz.prog ops Q rest (a.put op.dst (.agg cs)) w) : wpList Tryz.prog ops Q (op :: rest) a w :=
  wpList_load_mid hgd T x ho b 0 hx cs.toList d (fun j v hv => by rw [Nat.zero_add, cell_of_row w b j _ _ _ h]; simpa using hv) hu hd (by rw [hi, ← hl]; simp) (by simpa using K)
theorem wpList_load_bkG {ops : Array Oper} {rest : List Oper} {op : Oper} {a : Act} {w : World} {Q : Exit → Act → World → Prop} (T : TypeId) (hgd : Region.wanted op (yielded ops a.tmps) = true) (x : Operand) (ho : op.op = .load T x)
    {d : TypeDesc} (hu : Tryz.prog.underlying T = some d) (hd : d.isRow = true) {n : Nat} (hi : (Tryz.prog.info? T).map (·.size) = some n) (b : Nat) (cs : Array Value) (hx : a.eval x = .pointer (some ⟨b, 0, none⟩)) (h : Bk T w b cs) (hl : cs.size = n)
    (K : wpList Tryz.prog ops Q rest (a.put op.dst (.agg cs)) w) : wpList Tryz.prog ops Q (op :: rest) a w :=
  BigFrame.wpList_want hgd fun _ hK => wp_load_mid T x ho b 0 hx cs.toList d (fun j v hv => by rw [Nat.zero_add, cell_of_row w b j _ _ _ h]; simpa using hv) hu hd (by rw [hi, ← hl]; simp) (hK _ _ (by simpa using K))
theorem wpList_store_bk {ops : Array Oper} {rest : List Oper} {op : Oper} {a : Act} {w : World} {Q : Exit → Act → World → Prop} (T : TypeId) (hgd : op.guard = none) (x y : Operand) (ho : op.op = .store T x y)
    {n : Nat} (hi : (Tryz.prog.info? T).map (·.size) = some n) (b : Nat) (cs es : Array Value) (hx : a.eval x = .pointer (some ⟨b, 0, none⟩)) (hy : a.eval y = .agg es) (h : Bk T w b cs) (hl : cs.size = n) (hl2 : es.size = n) (h1 : es.all (·.oneCell') = true)
    (K : ∀ w', Bk T w' b es → w.grownBy w' (some b) → wpList Tryz.prog ops Q rest (a.put op.dst undef) w') : wpList Tryz.prog ops Q (op :: rest) a w := by
  have hst := run_storeVar_row (P := Tryz.prog) w b T T cs es h (by rw [hi, hl2]) (by rw [hl, hl2]) h1
  refine wpList_plain hgd fun K' hK => ?_
  unfold Oper.wp execOp
  simp only [ho, hx, hy, Instr.storeAt, Instr.sureAddr, Sem.run_bind, Sem.run_pure, Result.andThen_ok, hst]
  refine hK _ _ (K _ ?_ ?_)
  · unfold Bk World.setRow
    simp only [Array.getElem?_modify]
    rw [if_pos trivial, h]; rfl
  · exact ⟨rfl, rfl, rfl, by simp [World.setRow], fun k _ hk => setRow_other w b k _ (fun e => hk (by rw [e]))⟩
theorem blk_new (w : World) (T : TypeId) (cs : Array Value) : Bk T (w.alloc (.cells cs T)) w.heap.size cs ∧ w.grownBy (w.alloc (.cells cs T)) none := ⟨heap_new w _, World.grownBy_alloc _ _ _⟩
theorem Bk.cell {T w b cs} (h : Bk T w b cs) (i : Nat) : w.cell? ⟨b, i, none⟩ = cs[i]? := cell_of_row w b i cs T (0, 0) h
theorem Bk.below {T w w' b cs B} (h : Bk T w b cs) (hb : Below B w w') (hl : b < B) : Bk T w' b cs := (hb.block b hl).trans h
theorem Bk.set {T w b cs} (h : Bk T w b cs) (i : Nat) (v : Value) : Bk T (w.setCell ⟨b, i, none⟩ v) b (cs.setIfInBounds i v) := by
  unfold Bk at h ⊢
  simp only [World.setCell, Array.getElem?_modify]
  rw [if_pos trivial, h]; rfl
/-- What is answered lies in a variable of several cells, and maybe in others. -/
theorem results_cell1 {fn : Func} {p : Tmp} {ty : TypeId} (h : fn.results = #[.cell p ty]) (tmps : Array Value) (P : Program) (w : World) (ad : Addr) (v : Value)
    (hp : tmps.getD p undef = .pointer (some ad)) (hl : (loadVar ty ad).run P w = .ok v w) : (results fn tmps).run P w = .ok v w := by
  have hp' : tmps[p]?.getD undef = .pointer (some ad) := by simpa using hp
  simp only [results, h]
  simp [hp', asAddr, hl]
theorem results_cell2 {fn : Func} {p q : Tmp} {ty : TypeId} (h : fn.results = #[.cell p ty, .tmp q]) (tmps : Array Value) (P : Program) (w : World) (ad : Addr) (v v2 : Value)
    (hp : tmps.getD p undef = .pointer (some ad)) (h2 : tmps.getD q undef = v2) (hl : (loadVar ty ad).run P w = .ok v w) : (results fn tmps).run P w = .ok (.tuple #[v, v2]) w := by
  have hp' : tmps[p]?.getD undef = .pointer (some ad) := by simpa using hp
  have h2' : tmps[q]?.getD undef = v2 := by simpa using h2
  simp only [results, h]
  simp [hp', h2', asAddr, hl]
theorem results_cell3 {fn : Func} {p q r : Tmp} {ty : TypeId} (h : fn.results = #[.cell p ty, .tmp q, .tmp r]) (tmps : Array Value) (P : Program) (w : World) (ad : Addr) (v v2 v3 : Value)
    (hp : tmps.getD p undef = .pointer (some ad)) (h2 : tmps.getD q undef = v2) (h3 : tmps.getD r undef = v3) (hl : (loadVar ty ad).run P w = .ok v w) : (results fn tmps).run P w = .ok (.tuple #[v, v2, v3]) w := by
  have hp' : tmps[p]?.getD undef = .pointer (some ad) := by simpa using hp
  have h2' : tmps[q]?.getD undef = v2 := by simpa using h2
  have h3' : tmps[r]?.getD undef = v3 := by simpa using h3
  simp only [results, h]
  simp [hp', h2', h3', asAddr, hl]
end Go.Proofs.YtokkhhekmebakaaGreatDoor.Cr
namespace Go.Proofs.YtokkhhekmebakaaGreatDoor.Cr
set_option linter.unusedVariables false
open Go.RowKit

/-- The type, the count of bytes and the body that Decode tells. -/
def ftp (xs : List Int) : Int := if fdec xs = 0 then xs[2]?.getD 0 else 0
def fnn (xs : List Int) : Nat := if fdec xs = 0 then flen xs + 14 else 0
def fbd (xs : List Int) : List Int := if fdec xs = 0 then fbody xs else []

theorem made_row {w0 w1 : World} {n : Nat} (hown : w1.ownsRow w0.heap.size 5 1 (.slice (some ⟨w0.heap.size, 0, none⟩) n n) n (madeCells (Value.int .u8 0).cells (n * 1)).toList) : Row .u8 5 w1 w0.heap.size (List.replicate n 0) :=
  row_of_own _ hown (by rw [List.map_replicate]; simpa [Value.cells] using toList_madeCells_one (.int .u8 0) n)
theorem splice_all (n : Nat) (xs : List Int) (h : xs.length = n) : splice ((List.replicate n (0 : Int)).map (Value.int .u8)) 0 (xs.map (Value.int .u8)) = xs.map (Value.int .u8) := by
  simp [splice, h]
/-- A row is bytes of one's own. -/
theorem Row.own {w : World} {B g n : Nat} {xs : List Int} (h : Row .u8 5 w g xs) (hn : xs.length = n) (hB : B ≤ g) (hm : n ≤ maxLen) : Own B w (.slice (some ⟨g, 0, none⟩) n n) n xs := by
  refine ⟨by simp [hn], .inr ⟨g, n, _, rfl, hB, h, Nat.le_refl _, hm, by simp [hn], by rw [Nat.mul_one, List.take_of_length_le (by simp [hn])]⟩⟩
theorem Tryz.sizeU8 : (Tryz.prog.info? 5).map (·.size) = some 1 := by kernel_rfl
theorem u8s_one (l : List Int) : ∀ v ∈ l.map (Value.int .u8), v.oneCell' = true := by
  intro v hv
  obtain ⟨z, _, rfl⟩ := List.mem_map.1 hv
  rfl

theorem made_cut {w W0 w1 : World} {N n : Nat} (h0 : Bk 96 W0 N #[Value.int IntKind.i64 0, Value.slice none 0 0]) (hb : Below N w W0) (hs : W0.heap.size = N + 1) (hown : w1.ownsRow W0.heap.size 5 1 (.slice (some ⟨W0.heap.size, 0, none⟩) n n) n (madeCells (Value.int .u8 0).cells (n * 1)).toList) (hg : W0.grownBy w1 none) :
    Row .u8 5 w1 (N + 1) (List.replicate n 0) ∧ Bk 96 w1 N #[Value.int IntKind.i64 0, Value.slice none 0 0] ∧ Below N w w1 := by
  refine ⟨by rw [← hs]; exact made_row hown, h0.grew hg (by simp), hb.grown hg (by omega) (fun k hk => by cases hk)⟩

theorem copied_cut {w w1 w2 : World} {N n : Nat} {ys : List Int} (h : Row .u8 5 w1 (N + 1) (List.replicate n 0) ∧ Bk 96 w1 N #[Value.int IntKind.i64 0, Value.slice none 0 0] ∧ Below N w w1)
    (hg : w2.heap[N + 1]? = some (.cells (splice ((List.replicate n (0 : Int)).map (Value.int .u8)) 0 (ys.map (Value.int .u8))).toArray 5 (0, 0))) (hb : Below (N + 1) w1 w2) (hl : ys.length = n) :
    Row .u8 5 w2 (N + 1) ys ∧ Bk 96 w2 N #[Value.int IntKind.i64 0, Value.slice none 0 0] ∧ Below N w w2 := by
  rw [splice_all n ys hl] at hg
  exact ⟨hg, h.2.1.below hb (by omega), h.2.2.trans (hb.mono (by omega))⟩
theorem stored_cut {w w2 w3 : World} {N n : Nat} {ys : List Int} {cs : Array Value} (h3 : Bk 96 w3 N cs) (h : Row .u8 5 w2 (N + 1) ys ∧ Bk 96 w2 N #[Value.int IntKind.i64 0, Value.slice none 0 0] ∧ Below N w w2) (hg : w2.grownBy w3 (some N)) (hl : ys.length = n) (hm : n ≤ 1048576) :
    Bk 96 w3 N cs ∧ Own N w3 (.slice (some ⟨N + 1, 0, none⟩) n n) n ys ∧ Below N w w3 := by
  have hr : Row .u8 5 w3 (N + 1) ys := (hg.block (N + 1) (lt_of_block h.1) (fun e => by simp at e)).trans h.1
  exact ⟨h3, hr.own hl (by omega) (by unfold maxLen; omega), h.2.2.grown hg (Nat.le_of_lt (lt_of_block h.2.1)) (fun k hk => by cases hk; omega)⟩
theorem Tryz.infoFrame : (Tryz.prog.info? 96).map (·.size) = some 2 := by kernel_rfl

set_option maxHeartbeats 1000000 in
theorem cut_c (a : Option Addr) (n cap : Nat) (xs : List Int) (w : World) (hs : Seg .u8 w a (n + 14) xs) (hx : Bytes xs) (hl : n ≤ 1048576) (hlc : n + 14 ≤ cap) :
    Calls Tryz.prog 108 #[.slice a (n + 14) cap] w fun e w' => ∃ u, e = .returned (.agg #[.int .i64 (xs[2]?.getD 0), u]) ∧ Own w.heap.size w' u n ((xs.drop 10).take n) ∧ Below w.heap.size w w' := by
  obtain ⟨i0, hi, hz0, hz1, hz2⟩ := info_parts Tryz.infoU8
  obtain ⟨b, off, rfl, hbw, hc⟩ := hs.cells (by omega)
  have HC2 : Hid (w.cell? ⟨b, off + 2, none⟩ = some (.int .u8 (xs[2]?.getD 0)) ∧ b < w.heap.size) := ⟨hc 2 (by omega), hbw⟩
  have HS : Hid (Seg .u8 w (some ⟨b, off + 10, none⟩) n ((xs.drop 10).take n)) := by
    have := (hs.drop 10 (by omega) (by omega)).take n (by omega)
    exact this
  have b2 := hx 2 (by have := hs.1; omega)
  obtain ⟨X2, hX2⟩ : ∃ X, X = xs[2]?.getD (0 : Int) := ⟨_, rfl⟩
  rw [← hX2] at HC2 b2 ⊢
  obtain ⟨ys, hys⟩ : ∃ ys, ys = (xs.drop 10).take n := ⟨_, rfl⟩
  rw [← hys] at HS ⊢
  clear hs hx hc hbw hX2 hys
  have HSL : Hid (ys.length = n) := HS.out.1
  have HL : Hid (n ≤ 1048576) := hl
  obtain ⟨N, hN⟩ : ∃ N, N = w.heap.size := ⟨_, rfl⟩
  by_cases hn : n = 0
  · subst hn
    go_enter Tryz.func108, Tryz.ntmps108
    go_wp2_with (first
      | (at_make; rw [← hN]; generalize hW0 : World.alloc w _ = W0; have H0 : Hid (Bk 96 W0 N #[Value.int IntKind.i64 0, Value.slice none 0 0] ∧ Below N w W0 ∧ W0.heap.size = N + 1) := by (rw [← hW0, hN]; exact ⟨heap_new w _, (Below.refl _ _).alloc (Nat.le_refl _) _, by simp⟩)
         have HNW : Hid (N = w.heap.size) := hN
         clear hW0 hN
         go_must (refine wpList_make_full _ rfl _ _ 56 rfl W0.heap.size 5 i0 (.int .u8 0) 1 Tryz.underlying56 hi hz0 hz1 _ _ _ _ 0 rfl rfl (by omega) (by omega) (by rw [hz2]; omega) (by unfold maxLen; omega) (Nat.le_refl _) ?_)
         intro w1 hown hgrow; have H1 : Hid (Row .u8 5 w1 (N + 1) (List.replicate 0 0) ∧ Bk 96 w1 N #[Value.int IntKind.i64 0, Value.slice none 0 0] ∧ Below N w w1) := made_cut H0.out.1 H0.out.2.1 H0.out.2.2 hown hgrow; rw [H0.out.2.2] at hown ⊢; clear hown hgrow)
      | (refine wpList_copy_splice rfl (.tmp 16) (.tmp 17) 56 56 rfl 5 Tryz.underlying56 Tryz.sizeU8 _ _ _ _ _ _ rfl rfl (N + 1) 0 ((List.replicate 0 (0 : Int)).map (Value.int .u8)) 5 H1.out.1 (ys.map (Value.int .u8)) (by rw [List.length_map, HSL.out]; first | (show _ = min _ _; omega) | simp) (fun hp => by (rw [List.length_map, HSL.out] at hp; omega)) (by rw [List.length_map, List.length_map, List.length_replicate, HSL.out]; omega) (u8s_one ys) (N + 1) w1 (Below.refl _ _) (Nat.le_refl _) ?_; intro w2 hg2 hb2; have H2 : Hid (Row .u8 5 w2 (N + 1) ys ∧ Bk 96 w2 N #[Value.int IntKind.i64 0, Value.slice none 0 0] ∧ Below N w w2) := copied_cut H1.out hg2.out hb2 HSL.out; clear hg2 hb2; have c2 : w2.cell? ⟨b, off + 2, none⟩ = some (.int .u8 X2) := (H2.out.2.2.cell (p := ⟨b, off + 2, none⟩) (by rw [HNW.out]; exact HC2.out.2)).trans HC2.out.1)
      | (refine wpList_store_bk 96 rfl (.tmp 2) (.tmp 24) rfl Tryz.infoFrame N _ _ rfl rfl H2.out.2.1 rfl rfl (by simp [Value.oneCell']) ?_; intro w3 h3 h3g; have H3 : Hid (Bk 96 w3 N #[.int .i64 X2, .slice (some ⟨N + 1, 0, none⟩) 0 0] ∧ Own N w3 (.slice (some ⟨N + 1, 0, none⟩) 0 0) 0 ys ∧ Below N w w3) := stored_cut h3 H2.out h3g HSL.out HL.out; clear h3 h3g))
    refine bodyPost_ret (results_cell1 Tryz.results108 _ _ _ ⟨N, 0, none⟩ _ rfl (bk_load Tryz.underlying96 rfl Tryz.infoFrame H3.out.1 rfl)) rfl ?_
    rw [← HNW.out]
    exact ⟨_, rfl, H3.out.2.1, H3.out.2.2⟩
  · go_enter Tryz.func108, Tryz.ntmps108
    have j1 : n + 14 - 4 - 10 = n := by omega
    go_wp2_with (first
      | (at_make; rw [← hN]; generalize hW0 : World.alloc w _ = W0; have H0 : Hid (Bk 96 W0 N #[Value.int IntKind.i64 0, Value.slice none 0 0] ∧ Below N w W0 ∧ W0.heap.size = N + 1) := by (rw [← hW0, hN]; exact ⟨heap_new w _, (Below.refl _ _).alloc (Nat.le_refl _) _, by simp⟩)
         have HNW : Hid (N = w.heap.size) := hN
         clear hW0 hN
         go_must (refine wpList_make_full _ rfl _ _ 56 rfl W0.heap.size 5 i0 (.int .u8 0) 1 Tryz.underlying56 hi hz0 hz1 _ _ _ _ n rfl rfl (by omega) (by omega) (by rw [hz2]; omega) (by unfold maxLen; omega) (Nat.le_refl _) ?_)
         intro w1 hown hgrow; have H1 : Hid (Row .u8 5 w1 (N + 1) (List.replicate n 0) ∧ Bk 96 w1 N #[Value.int IntKind.i64 0, Value.slice none 0 0] ∧ Below N w w1) := made_cut H0.out.1 H0.out.2.1 H0.out.2.2 hown hgrow; rw [H0.out.2.2] at hown ⊢; clear hown hgrow)
      | (refine wpList_copy_splice rfl (.tmp 16) (.tmp 17) 56 56 rfl 5 Tryz.underlying56 Tryz.sizeU8 _ _ _ _ _ _ rfl rfl (N + 1) 0 ((List.replicate n (0 : Int)).map (Value.int .u8)) 5 H1.out.1 (ys.map (Value.int .u8)) (by rw [List.length_map, HSL.out]; first | (show _ = min _ _; omega) | simp) (fun hp => ⟨rfl, _, rfl, seg_news' (HS.out.below (HNW.out ▸ H1.out.2.2)) _ rfl⟩) (by rw [List.length_map, List.length_map, List.length_replicate, HSL.out]; omega) (u8s_one ys) (N + 1) w1 (Below.refl _ _) (Nat.le_refl _) ?_; intro w2 hg2 hb2; have H2 : Hid (Row .u8 5 w2 (N + 1) ys ∧ Bk 96 w2 N #[Value.int IntKind.i64 0, Value.slice none 0 0] ∧ Below N w w2) := copied_cut H1.out hg2.out hb2 HSL.out; clear hg2 hb2; have c2 : w2.cell? ⟨b, off + 2, none⟩ = some (.int .u8 X2) := (H2.out.2.2.cell (p := ⟨b, off + 2, none⟩) (by rw [HNW.out]; exact HC2.out.2)).trans HC2.out.1)
      | (refine wpList_store_bk 96 rfl (.tmp 2) (.tmp 24) rfl Tryz.infoFrame N _ _ rfl rfl H2.out.2.1 rfl rfl (by simp [Value.oneCell']) ?_; intro w3 h3 h3g; have H3 : Hid (Bk 96 w3 N #[.int .i64 X2, .slice (some ⟨N + 1, 0, none⟩) n n] ∧ Own N w3 (.slice (some ⟨N + 1, 0, none⟩) n n) n ys ∧ Below N w w3) := stored_cut h3 H2.out h3g HSL.out HL.out; clear h3 h3g))
    refine bodyPost_ret (results_cell1 Tryz.results108 _ _ _ ⟨N, 0, none⟩ _ rfl (bk_load Tryz.underlying96 rfl Tryz.infoFrame H3.out.1 rfl)) rfl ?_
    rw [← HNW.out]
    exact ⟨_, rfl, H3.out.2.1, H3.out.2.2⟩
end Go.Proofs.YtokkhhekmebakaaGreatDoor.Cr
namespace Go.Proofs.YtokkhhekmebakaaGreatDoor.Cr
set_option linter.unusedVariables false
open Go.RowKit

/-- Encode's error, and its bytes. -/
def fee (t : Int) (n : Nat) : Int := if t < 1 ∨ 255 < t then 42 else if 1048576 < n then 43 else 0
def feb (t : Int) (body : List Int) : List Int := if fee t body.length = 0 then fenc t body else []

set_option maxHeartbeats 1000000 in
theorem encode_c (t : Int) (a : Option Addr) (len cap : Nat) (xs : List Int) (w : World) (hn : a = none → cap = 0) (hs : Seg .u8 w a len xs) (hx : Bytes xs) (hl : len ≤ 140737488355328) (ht : Tab w) :
    Calls Tryz.prog 38 #[.agg #[.int .i64 t, .slice a len cap]] w fun e w' => ∃ v, e = .returned (.tuple #[v, .int .i64 (fee t len)]) ∧ Own w.heap.size w' v (feb t xs).length (feb t xs) ∧ Below w.heap.size w w' := by
  have hlen := hs.1
  by_cases ht0 : t < 1 ∨ 255 < t
  · have HF : Hid (fee t len = 42) := by show _ = _; unfold fee; rw [if_pos ht0]
    have HB : Hid (feb t xs = []) := by show _ = _; unfold feb fee; rw [if_pos ht0]; rfl
    rw [HF.out, HB.out]
    clear hs hx ht hlen HF HB
    rcases ht0 with h1 | h1
    · go_enter Tryz.func38, Tryz.ntmps38
      go_wp2
      go_ret2
      exact ⟨_, rfl, own_nil _ _, (Below.refl _ _).alloc (Nat.le_refl _) _⟩
    · have h2 : ¬ t < 1 := by omega
      go_enter Tryz.func38, Tryz.ntmps38
      go_wp2
      go_ret2
      exact ⟨_, rfl, own_nil _ _, (Below.refl _ _).alloc (Nat.le_refl _) _⟩
  · have t1 : ¬ t < 1 := by omega
    have t2 : ¬ 255 < t := by omega
    by_cases hl1 : 1048576 < len
    · have HF : Hid (fee t len = 43) := by show _ = _; unfold fee; rw [if_neg ht0, if_pos hl1]
      have HB : Hid (feb t xs = []) := by show _ = _; unfold feb fee; rw [hlen, if_neg ht0, if_pos hl1]; rfl
      rw [HF.out, HB.out]
      clear hs hx ht hlen HF HB ht0
      go_enter Tryz.func38, Tryz.ntmps38
      go_wp2
      go_ret2
      exact ⟨_, rfl, own_nil _ _, (Below.refl _ _).alloc (Nat.le_refl _) _⟩
    · have HF : Hid (fee t len = 0) := by show _ = _; unfold fee; rw [if_neg ht0, if_neg hl1]
      have HB : Hid (feb t xs = fenc t xs) := by show _ = _; unfold feb fee; rw [hlen, if_neg ht0, if_neg hl1]; rfl
      have HLN : Hid (xs.length = len) := hlen
      have HS : Hid (Seg .u8 w a len xs) := hs
      have HX : Hid (Bytes xs) := hx
      have HT : Hid (Tab w) := ht
      have HNA : Hid (a = none → cap = 0) := hn
      rw [HF.out, HB.out]
      clear hs hx ht hlen HF HB ht0 hn
      have e1 : t % 256 = t := by omega
      go_enter Tryz.func38, Tryz.ntmps38
      go_wp2_with fail
      have HSX : Hid (#[Value.int IntKind.u8 72, Value.int IntKind.u8 87, Value.int IntKind.u8 t, Value.int IntKind.u8 ((len : Int) % 256), Value.int IntKind.u8 ((len : Int) / 256 % 256), Value.int IntKind.u8 ((len : Int) / 65536)] = ((fsix t len).map (Value.int .u8)).toArray) := by
        have : (len : Int) / 65536 % 256 = (len : Int) / 65536 := by omega
        show _ = _
        unfold fsix
        rw [this]; rfl
      have HB6 : Hid (Bytes (fsix t len)) := fsix_bytes (by omega) (by omega)
      obtain ⟨N, hN⟩ : ∃ N, N = w.heap.size := ⟨_, rfl⟩
      rw [← hN]
      generalize hW1 : World.alloc (World.alloc w _) _ = W1
      have H1 : Hid (Seg .u8 W1 (some ⟨N + 1, 0, none⟩) 6 (fsix t len) ∧ Below N w W1 ∧ W1.cell? ⟨N, 1, none⟩ = some (.slice a len cap) ∧ W1.heap.size = N + 2) := by
        rw [← hW1, hN, HSX.out]
        refine ⟨seg_at _ _ .u8 _ 5 6 (fsix t len) (by simp) rfl rfl, ((Below.refl _ _).alloc (Nat.le_refl _) _).alloc (by simp) _, ?_, by simp⟩
        rw [World.cell?_alloc_past _ _ _ (by simp), World.cell?_alloc_new]; rfl
      have HNW : Hid (N = w.heap.size) := hN
      clear hW1 hN HSX
      refine (seal_c (some ⟨N + 1, 0, none⟩) 6 6 (fsix t len) W1 (fun h => by cases h) H1.out.1 HB6.out (by omega) (HT.out.below (HNW.out ▸ H1.out.2.1))).mono ?_
      rintro e w2 ⟨v2, rfl, ho2, hb2⟩
      obtain ⟨g2, k2, rfl, hg2, hk2⟩ := ho2.form (by omega)
      have H2 : Hid (Own W1.heap.size w2 (.slice (some ⟨g2, 0, none⟩) 10 k2) 10 (sealed (fsix t len)) ∧ Below N w w2 ∧ W1.heap.size ≤ w2.heap.size) := ⟨ho2, H1.out.2.1.trans (hb2.mono (by rw [H1.out.2.2.2]; omega)), hb2.size⟩
      have c1 : w2.cell? ⟨N, 1, none⟩ = some (.slice a len cap) := (hb2.cell (p := ⟨N, 1, none⟩) (by rw [H1.out.2.2.2]; show N < N + 2; omega)).trans H1.out.2.2.1
      have HN2 : Hid (N ≤ W1.heap.size) := by rw [H1.out.2.2.2]; show N ≤ N + 2; omega
      clear ho2 hb2 H1 hg2
      have hl3 : len ≤ 1048576 := by omega
      go_wp2_with (first
        | (at_builtin; go_must (refine wpList_append_grow _ rfl _ _ rfl W1.heap.size 10 _ (sealed (fsix t len)) rfl H2.out.1 a len cap xs rfl HNA.out (HS.out.below (HNW.out ▸ H2.out.2.1)) (by omega) H2.out.2.2 ?_); intro v3 w3 ho3 hb3; obtain ⟨g3, k3, rfl, hg3, hk3⟩ := ho3.form (by omega); have H3 : Hid (Own W1.heap.size w3 (.slice (some ⟨g3, 0, none⟩) (10 + len) k3) (10 + len) (sealed (fsix t len) ++ xs) ∧ Below N w w3) := ⟨ho3, H2.out.2.1.trans (hb3.mono HN2.out)⟩; clear ho3 hb3 hg3)
        | (go_at_call 71; obtain ⟨a3, c3, he3, hs3, _, _⟩ := H3.out.1.seg; cases he3; go_must (refine (seal_c (some ⟨g3, 0, none⟩) (10 + len) k3 (sealed (fsix t len) ++ xs) w3 (fun h => by cases h) hs3 (bytes_append (sealed_bytes HB6.out) HX.out) (by omega) (HT.out.below (HNW.out ▸ H3.out.2))).mono ?_); rintro e w4 ⟨v4, rfl, ho4, hb4⟩; have H4 : Hid (Own N w4 v4 (fenc t xs).length (fenc t xs) ∧ Below N w w4) := ⟨by rw [fenc_length, HLN.out]; have := ho4.base (HNW.out ▸ H3.out.2).size; rw [← HNW.out, show 10 + len + 4 = len + 14 from by omega] at this; unfold fenc; rw [HLN.out]; exact this, H3.out.2.trans (hb4.mono (Nat.le_trans (Nat.le_of_eq HNW.out) (HNW.out ▸ H3.out.2).size))⟩; clear ho4 hb4 hs3))
      go_ret2
      rw [← HNW.out]
      exact ⟨_, rfl, H4.out.1, H4.out.2⟩
end Go.Proofs.YtokkhhekmebakaaGreatDoor.Cr
namespace Go.Proofs.YtokkhhekmebakaaGreatDoor.Cr
set_option linter.unusedVariables false
open Go.RowKit

/-- Where a result of Decode's kind lies: a variable of two cells. -/
theorem fr_new (w : World) : Bk 96 (w.alloc (.cells #[.int .i64 0, .slice none 0 0] 96)) w.heap.size #[.int .i64 0, .slice none 0 0] ∧ Below w.heap.size w (w.alloc (.cells #[.int .i64 0, .slice none 0 0] 96)) := ⟨heap_new w _, (Below.refl _ _).alloc (Nat.le_refl _) _⟩

theorem own_one {B : Nat} {w : World} {u : Value} {n : Nat} {xs : List Int} (X : Int) (h : Own B w u n xs) : #[Value.int .i64 X, u].all (·.oneCell') = true := by
  rcases h.2 with ⟨rfl, _⟩ | ⟨g, cap, cur, rfl, _⟩ <;> simp [Value.oneCell']
theorem Own.store {B N : Nat} {w w' : World} {u : Value} {n : Nat} {xs : List Int} (h : Own B w u n xs) (hg : w.grownBy w' (some N)) (hN : N < B) : Own N w' u n xs := by
  have h' := h.base (Nat.le_of_lt hN)
  refine ⟨h'.1, ?_⟩
  rcases h.2 with h0 | ⟨g, cap, cur, e, hB, hgb, r⟩
  · exact .inl h0
  · exact .inr ⟨g, cap, cur, e, by omega, (hg.block g (lt_of_block hgb) (fun e => by cases e; omega)).trans hgb, r⟩

set_option maxHeartbeats 2000000 in
theorem decode_c (a : Option Addr) (len cap : Nat) (xs : List Int) (w : World) (hlc : len ≤ cap) (hs : Seg .u8 w a len xs) (hx : Bytes xs) (hl : len ≤ 140737488355328) (ht : Tab w) :
    Calls Tryz.prog 72 #[.slice a len cap] w fun e w' => ∃ u, e = .returned (.tuple #[.agg #[.int .i64 (ftp xs), u], .int .i64 ((fnn xs : Nat) : Int), .int .i64 ((fdec xs : Nat) : Int)]) ∧ Own w.heap.size w' u (fbd xs).length (fbd xs) ∧ Below w.heap.size w w' := by
  have hlen := hs.1
  have HS : Hid (Seg .u8 w a len xs) := hs
  have HX : Hid (Bytes xs) := hx
  have HT : Hid (Tab w) := ht
  obtain ⟨N, hN⟩ : ∃ N, N = w.heap.size := ⟨_, rfl⟩
  by_cases h0 : fbeg 1048576 xs = 0
  · obtain ⟨q1, q2, q3, q4, q5⟩ := fbeg_ok h0
    rw [hlen] at q2 q5
    have HS2 : Hid (Seg .u8 w a (flen xs + 14) (xs.take (flen xs + 14))) := hs.take _ q5
    have HX2 : Hid (Bytes (xs.take (flen xs + 14))) := hx.take _
    have HBD : Hid (((xs.take (flen xs + 14)).drop 10).take (flen xs) = fbody xs) := by
      show _ = _
      unfold fbody
      rw [List.drop_take, List.take_take, Nat.min_eq_left (by omega)]
    have HX22 : Hid ((xs.take (flen xs + 14))[2]?.getD 0 = xs[2]?.getD 0) := by show _ = _; rw [List.getElem?_take_of_lt (by omega)]
    have HBL : Hid ((fbody xs).length = flen xs) := by show _ = _; unfold fbody; rw [List.length_take, List.length_drop, hlen]; omega
    obtain ⟨n, hn⟩ : ∃ n, n = flen xs := ⟨_, rfl⟩
    have HTO : Hid (∀ w', Below w.heap.size w w' → Calls Tryz.prog 106 #[.slice a len cap] w' fun e w'' => e = .returned (.int .i64 ((n + 14 : Nat) : Int)) ∧ Below w'.heap.size w' w'') := fun w' hb => by rw [hn]; exact told_c a len cap xs w' (HS.out.below hb) HX.out q2
    rw [← hn] at HS2 HX2 HBD HX22 HBL q4 q5
    have HFN : Hid (flen xs = n) := hn.symm
    cases q6 : holds (xs.take (n + 14)) with
    | false =>
      have HF : Hid (fdec xs = 44) := by show _ = _; unfold fdec fmeet; rw [h0, if_pos rfl, HFN.out, q6]; rfl
      have HR : Hid (ftp xs = 0 ∧ fnn xs = 0 ∧ fbd xs = []) := by unfold ftp fnn fbd; rw [HF.out]; exact ⟨rfl, rfl, rfl⟩
      rw [HF.out, HR.out.1, HR.out.2.1, HR.out.2.2]
      clear hs hx ht hlen HF HR hn
      go_enter Tryz.func72, Tryz.ntmps72
      go_wp2_with (first
        | (go_at_call 105; rw [← hN]; generalize hW0 : World.alloc w _ = W0; have H0 : Hid (Bk 96 W0 N #[.int .i64 0, .slice none 0 0] ∧ Below N w W0 ∧ W0.heap.size = N + 1) := by (rw [← hW0, hN]; exact ⟨(fr_new w).1, (fr_new w).2, by simp⟩)
           have HNW : Hid (N = w.heap.size) := hN
           clear hW0 hN
           go_must (refine (begins_c a len cap xs 1048576 W0 hlc (HS.out.below (HNW.out ▸ H0.out.2.1)) HX.out hl (by omega) (HT.out.below (HNW.out ▸ H0.out.2.1))).mono ?_); rintro e w1 ⟨rfl, hb1⟩; rw [h0]; have H1 : Hid (Bk 96 w1 N #[.int .i64 0, .slice none 0 0] ∧ Below N w w1) := ⟨H0.out.1.below hb1 (by rw [H0.out.2.2]; omega), H0.out.2.1.trans (hb1.mono (by rw [H0.out.2.2]; omega))⟩; clear hb1)
        | (go_at_call 106; go_must (refine (HTO.out w1 (HNW.out ▸ H1.out.2)).mono ?_); rintro e w2 ⟨rfl, hb2⟩; have H2 : Hid (Bk 96 w2 N #[.int .i64 0, .slice none 0 0] ∧ Below N w w2) := ⟨H1.out.1.below hb2 (lt_of_block H1.out.1), H1.out.2.trans (hb2.mono (Nat.le_of_lt (lt_of_block H1.out.1)))⟩; clear hb2)
        | (go_at_call 107; go_must (refine (holds_c a (n + 14) cap (xs.take (n + 14)) w2 (by omega) (HS2.out.below (HNW.out ▸ H2.out.2)) HX2.out (by omega) (HT.out.below (HNW.out ▸ H2.out.2))).mono ?_); rintro e w3 ⟨rfl, hb3⟩; rw [q6]; have H3 : Hid (Bk 96 w3 N #[.int .i64 0, .slice none 0 0] ∧ Below N w w3) := ⟨H2.out.1.below hb3 (lt_of_block H2.out.1), H2.out.2.trans (hb3.mono (Nat.le_of_lt (lt_of_block H2.out.1)))⟩; clear hb3)
        | (refine wpList_store_bk 96 rfl _ _ rfl Tryz.infoFrame N _ _ rfl rfl H3.out.1 rfl rfl (by simp [Value.oneCell']) ?_; intro w4 h4 h4g; have H4 : Hid (Bk 96 w4 N #[.int .i64 0, .slice none 0 0] ∧ Below N w w4) := ⟨h4, H3.out.2.grown h4g (Nat.le_of_lt (lt_of_block H3.out.1)) (fun k hk => by cases hk; omega)⟩; clear h4 h4g))
      refine bodyPost_ret (results_cell3 Tryz.results72 _ _ _ ⟨N, 0, none⟩ _ _ _ rfl rfl rfl (bk_load Tryz.underlying96 rfl Tryz.infoFrame H4.out.1 rfl)) rfl ?_
      rw [← HNW.out]
      exact ⟨_, rfl, own_nil _ _, H4.out.2⟩
    | true =>
      have HF : Hid (fdec xs = 0) := by show _ = _; unfold fdec fmeet; rw [h0, if_pos rfl, HFN.out, q6]; rfl
      have HR : Hid (ftp xs = xs[2]?.getD 0 ∧ fnn xs = n + 14 ∧ fbd xs = fbody xs) := by unfold ftp fnn fbd; rw [HF.out, HFN.out]; exact ⟨rfl, rfl, rfl⟩
      rw [HF.out, HR.out.1, HR.out.2.1, HR.out.2.2, HBL.out]
      clear hs hx ht hlen HF HR hn
      obtain ⟨X2, hX2⟩ : ∃ X, X = xs[2]?.getD (0 : Int) := ⟨_, rfl⟩
      rw [← hX2] at HX22 ⊢
      clear hX2
      go_enter Tryz.func72, Tryz.ntmps72
      go_wp2_with (first
        | (go_at_call 105; rw [← hN]; generalize hW0 : World.alloc w _ = W0; have H0 : Hid (Bk 96 W0 N #[.int .i64 0, .slice none 0 0] ∧ Below N w W0 ∧ W0.heap.size = N + 1) := by (rw [← hW0, hN]; exact ⟨(fr_new w).1, (fr_new w).2, by simp⟩)
           have HNW : Hid (N = w.heap.size) := hN
           clear hW0 hN
           go_must (refine (begins_c a len cap xs 1048576 W0 hlc (HS.out.below (HNW.out ▸ H0.out.2.1)) HX.out hl (by omega) (HT.out.below (HNW.out ▸ H0.out.2.1))).mono ?_); rintro e w1 ⟨rfl, hb1⟩; rw [h0]; have H1 : Hid (Bk 96 w1 N #[.int .i64 0, .slice none 0 0] ∧ Below N w w1) := ⟨H0.out.1.below hb1 (by rw [H0.out.2.2]; omega), H0.out.2.1.trans (hb1.mono (by rw [H0.out.2.2]; omega))⟩; clear hb1)
        | (go_at_call 106; go_must (refine (HTO.out w1 (HNW.out ▸ H1.out.2)).mono ?_); rintro e w2 ⟨rfl, hb2⟩; have H2 : Hid (Bk 96 w2 N #[.int .i64 0, .slice none 0 0] ∧ Below N w w2) := ⟨H1.out.1.below hb2 (lt_of_block H1.out.1), H1.out.2.trans (hb2.mono (Nat.le_of_lt (lt_of_block H1.out.1)))⟩; clear hb2)
        | (go_at_call 107; go_must (refine (holds_c a (n + 14) cap (xs.take (n + 14)) w2 (by omega) (HS2.out.below (HNW.out ▸ H2.out.2)) HX2.out (by omega) (HT.out.below (HNW.out ▸ H2.out.2))).mono ?_); rintro e w3 ⟨rfl, hb3⟩; rw [q6]; have H3 : Hid (Bk 96 w3 N #[.int .i64 0, .slice none 0 0] ∧ Below N w w3) := ⟨H2.out.1.below hb3 (lt_of_block H2.out.1), H2.out.2.trans (hb3.mono (Nat.le_of_lt (lt_of_block H2.out.1)))⟩; clear hb3)
        | (go_at_call 108; go_must (refine (cut_c a n cap (xs.take (n + 14)) w3 (HS2.out.below (HNW.out ▸ H3.out.2)) HX2.out q4 (by omega)).mono ?_); rintro e w5 ⟨u, rfl, hu5, hb5⟩; rw [HX22.out]; rw [HBD.out] at hu5; have H5 : Hid (Bk 96 w5 N #[.int .i64 0, .slice none 0 0] ∧ Below N w w5 ∧ Own w3.heap.size w5 u n (fbody xs) ∧ N < w3.heap.size) := ⟨H3.out.1.below hb5 (lt_of_block H3.out.1), H3.out.2.trans (hb5.mono (Nat.le_of_lt (lt_of_block H3.out.1))), hu5, lt_of_block H3.out.1⟩; clear hb5 hu5)
        | (refine wpList_store_bk 96 rfl _ _ rfl Tryz.infoFrame N _ _ rfl rfl H5.out.1 rfl rfl (own_one X2 H5.out.2.2.1) ?_; intro w4 h4 h4g; have H4 : Hid (Bk 96 w4 N #[.int .i64 X2, u] ∧ Below N w w4 ∧ Own N w4 u n (fbody xs)) := ⟨h4, H5.out.2.1.grown h4g (Nat.le_of_lt (lt_of_block H5.out.1)) (fun k hk => by cases hk; omega), Own.store H5.out.2.2.1 h4g H5.out.2.2.2⟩; clear h4 h4g))
      refine bodyPost_ret (results_cell3 Tryz.results72 _ _ _ ⟨N, 0, none⟩ _ _ _ rfl rfl rfl (bk_load Tryz.underlying96 rfl Tryz.infoFrame H4.out.1 rfl)) rfl ?_
      rw [← HNW.out]
      exact ⟨_, rfl, H4.out.2.2, H4.out.2.1⟩
  · have HF : Hid (fdec xs = fbeg 1048576 xs) := by show _ = _; unfold fdec fmeet; rw [if_neg h0]
    have HR : Hid (ftp xs = 0 ∧ fnn xs = 0 ∧ fbd xs = []) := by unfold ftp fnn fbd; rw [HF.out, if_neg h0, if_neg h0, if_neg h0]; exact ⟨rfl, rfl, rfl⟩
    rw [HF.out, HR.out.1, HR.out.2.1, HR.out.2.2]
    clear hs hx ht hlen HF HR
    obtain ⟨E, hE⟩ : ∃ E : Nat, E = fbeg 1048576 xs := ⟨_, rfl⟩
    rw [← hE] at h0 ⊢
    replace hE : Hid _ := hE
    have q0 : (((E : Nat) : Int) == 0) = false := by simp; omega
    have q0' : (((E : Nat) : Int) != 0) = true := by simp; omega
    go_enter Tryz.func72, Tryz.ntmps72
    go_wp2_with (first
        | (go_at_call 105; rw [← hN]; generalize hW0 : World.alloc w _ = W0; have H0 : Hid (Bk 96 W0 N #[.int .i64 0, .slice none 0 0] ∧ Below N w W0 ∧ W0.heap.size = N + 1) := by (rw [← hW0, hN]; exact ⟨(fr_new w).1, (fr_new w).2, by simp⟩)
           have HNW : Hid (N = w.heap.size) := hN
           clear hW0 hN
           go_must (refine (begins_c a len cap xs 1048576 W0 hlc (HS.out.below (HNW.out ▸ H0.out.2.1)) HX.out hl (by omega) (HT.out.below (HNW.out ▸ H0.out.2.1))).mono ?_); rintro e w1 ⟨rfl, hb1⟩; rw [← hE.out]; have H1 : Hid (Bk 96 w1 N #[.int .i64 0, .slice none 0 0] ∧ Below N w w1) := ⟨H0.out.1.below hb1 (by rw [H0.out.2.2]; omega), H0.out.2.1.trans (hb1.mono (by rw [H0.out.2.2]; omega))⟩; clear hb1)
        | (refine wpList_store_bk 96 rfl _ _ rfl Tryz.infoFrame N _ _ rfl rfl H1.out.1 rfl rfl (by simp [Value.oneCell']) ?_; intro w4 h4 h4g; have H4 : Hid (Bk 96 w4 N #[.int .i64 0, .slice none 0 0] ∧ Below N w w4) := ⟨h4, H1.out.2.grown h4g (Nat.le_of_lt (lt_of_block H1.out.1)) (fun k hk => by cases hk; omega)⟩; clear h4 h4g))
    refine bodyPost_ret (results_cell3 Tryz.results72 _ _ _ ⟨N, 0, none⟩ _ _ _ rfl rfl rfl (bk_load Tryz.underlying96 rfl Tryz.infoFrame H4.out.1 rfl)) rfl ?_
    rw [← HNW.out]
    exact ⟨_, rfl, own_nil _ _, H4.out.2⟩

/-- One's error. -/
def fone (xs : List Int) : Nat := if fdec xs = 0 ∧ flen xs + 14 < xs.length then 45 else fdec xs
def ftp1 (xs : List Int) : Int := if fone xs = 0 then xs[2]?.getD 0 else 0
def fbd1 (xs : List Int) : List Int := if fone xs = 0 then fbody xs else []
theorem fone_ok {xs : List Int} (h : fone xs = 0) : fdec xs = 0 ∧ xs.length = flen xs + 14 := by
  unfold fone at h
  split at h
  · cases h
  · rename_i h'
    have := fbeg_ok (fmeet_ok (most := 1048576) h).1
    exact ⟨h, by omega⟩

theorem one_mid {w w1 w2 : World} {N B n : Nat} {u : Value} {ys : List Int} {cs : Array Value} (h1 : Bk 96 w1 N #[.int .i64 0, .slice none 0 0]) (hb : Below N w w1) (hu : Own B w1 u n ys) (h2 : Bk 96 w2 w1.heap.size cs) (hg : (w1.alloc (.cells #[.int .i64 0, .slice none 0 0] 96)).grownBy w2 (some w1.heap.size)) :
    Bk 96 w2 w1.heap.size cs ∧ Bk 96 w2 N #[.int .i64 0, .slice none 0 0] ∧ Below N w w2 ∧ Own B w2 u n ys := by
  have hl := lt_of_block h1
  have hB : Below w1.heap.size w1 w2 := ((Below.refl _ _).alloc (Nat.le_refl _) _).grown hg (by simp) (fun k hk => by cases hk; exact Nat.le_refl _)
  exact ⟨h2, h1.below hB hl, hb.trans (hB.mono (Nat.le_of_lt hl)), hu.below hB⟩

set_option maxHeartbeats 2000000 in
theorem one_c (a : Option Addr) (len cap : Nat) (xs : List Int) (w : World) (hlc : len ≤ cap) (hs : Seg .u8 w a len xs) (hx : Bytes xs) (hl : len ≤ 140737488355328) (ht : Tab w) :
    Calls Tryz.prog 41 #[.slice a len cap] w fun e w' => ∃ u, e = .returned (.tuple #[.agg #[.int .i64 (ftp1 xs), u], .int .i64 ((fone xs : Nat) : Int)]) ∧ Own w.heap.size w' u (fbd1 xs).length (fbd1 xs) ∧ Below w.heap.size w w' := by
  have hlen := hs.1
  have HDC := fun w' (hb : Below w.heap.size w w') => decode_c a len cap xs w' hlc (hs.below hb) hx hl (ht.below hb)
  replace HDC : Hid (∀ w', _ → _) := HDC
  have HNN : Hid (fdec xs = 0 → fnn xs = flen xs + 14 ∧ ftp xs = xs[2]?.getD 0 ∧ fbd xs = fbody xs) := fun h => by unfold fnn ftp fbd; rw [h]; exact ⟨rfl, rfl, rfl⟩
  have HNO : Hid (fdec xs ≠ 0 → ftp xs = 0 ∧ fbd xs = []) := fun h => by unfold ftp fbd; rw [if_neg h, if_neg h]; exact ⟨rfl, rfl⟩
  obtain ⟨N, hN⟩ : ∃ N, N = w.heap.size := ⟨_, rfl⟩
  by_cases h0 : fdec xs = 0 ∧ flen xs + 14 < xs.length
  · have HF : Hid (fone xs = 45 ∧ ftp1 xs = 0 ∧ fbd1 xs = []) := by
      have : fone xs = 45 := by unfold fone; rw [if_pos h0]
      unfold ftp1 fbd1; rw [this]; exact ⟨rfl, rfl, rfl⟩
    rw [HF.out.1, HF.out.2.1, HF.out.2.2]
    rw [h0.1, (HNN.out h0.1).1] at HDC
    have h1 := h0.2
    rw [hlen] at h1
    clear h0 HF HNN HNO hlen
    clear hs hx ht
    go_enter Tryz.func41, Tryz.ntmps41
    go_wp2_with fail
    rw [← hN]
    generalize hW0 : World.alloc w _ = W0
    have H0 : Hid (Bk 96 W0 N #[.int .i64 0, .slice none 0 0] ∧ Below N w W0 ∧ W0.heap.size = N + 1) := by rw [← hW0, hN]; exact ⟨(fr_new w).1, (fr_new w).2, by simp⟩
    have HNW : Hid (N = w.heap.size) := hN
    clear hW0 hN
    refine (HDC.out W0 (HNW.out ▸ H0.out.2.1)).mono ?_
    rintro e w1 ⟨u, rfl, hu, hb1⟩
    have H1 : Hid (Bk 96 w1 N #[.int .i64 0, .slice none 0 0] ∧ Below N w w1 ∧ N < W0.heap.size ∧ Own W0.heap.size w1 u (fbd xs).length (fbd xs)) := ⟨H0.out.1.below hb1 (by rw [H0.out.2.2]; omega), H0.out.2.1.trans (hb1.mono (by rw [H0.out.2.2]; omega)), by rw [H0.out.2.2]; omega, hu⟩
    clear hu hb1 H0 HDC
    go_wp2_with (first
      | (refine wpList_store_bk 96 rfl (.tmp 4) (.tmp 10) rfl Tryz.infoFrame w1.heap.size _ _ rfl rfl (heap_new w1 _) rfl rfl (own_one _ H1.out.2.2.2) ?_; intro w2 h2 h2g; have H2 : Hid (Bk 96 w2 w1.heap.size #[.int .i64 (ftp xs), u] ∧ Bk 96 w2 N #[.int .i64 0, .slice none 0 0] ∧ Below N w w2 ∧ Own W0.heap.size w2 u (fbd xs).length (fbd xs)) := one_mid H1.out.1 H1.out.2.1 H1.out.2.2.2 h2 h2g; clear h2 h2g)
      | (refine wpList_store_bk 96 rfl (.tmp 2) _ rfl Tryz.infoFrame N _ _ rfl rfl H2.out.2.1 rfl rfl (by simp [Value.oneCell']) ?_; intro w4 h4 h4g; have H4 : Hid (Bk 96 w4 N #[.int .i64 0, .slice none 0 0] ∧ Below N w w4) := ⟨h4, H2.out.2.2.1.grown h4g (Nat.le_of_lt (lt_of_block H2.out.2.1)) (fun k hk => by cases hk; omega)⟩; clear h4 h4g))
    refine bodyPost_ret (results_cell2 Tryz.results41 _ _ _ ⟨N, 0, none⟩ _ _ rfl rfl (bk_load Tryz.underlying96 rfl Tryz.infoFrame H4.out.1 rfl)) rfl ?_
    rw [← HNW.out]
    exact ⟨_, rfl, own_nil _ _, H4.out.2⟩
  · have HF : Hid (fone xs = fdec xs ∧ ftp1 xs = ftp xs ∧ fbd1 xs = fbd xs) := by
      have : fone xs = fdec xs := by unfold fone; rw [if_neg h0]
      unfold ftp1 fbd1; rw [this]; exact ⟨rfl, rfl, rfl⟩
    rw [HF.out.1, HF.out.2.1, HF.out.2.2]
    obtain ⟨TP, hTP⟩ : ∃ T, T = ftp xs := ⟨_, rfl⟩
    rw [← hTP] at HDC ⊢
    by_cases h1 : fdec xs = 0
    · rw [h1, (HNN.out h1).1] at HDC
      rw [h1]
      have h2 : ¬ flen xs + 14 < len := by rw [← hlen]; exact fun q => h0 ⟨h1, q⟩
      clear h0 HF HNN HNO hlen hTP
      clear hs hx ht
      go_enter Tryz.func41, Tryz.ntmps41
      go_wp2_with fail
      rw [← hN]
      generalize hW0 : World.alloc w _ = W0
      have H0 : Hid (Bk 96 W0 N #[.int .i64 0, .slice none 0 0] ∧ Below N w W0 ∧ W0.heap.size = N + 1) := by rw [← hW0, hN]; exact ⟨(fr_new w).1, (fr_new w).2, by simp⟩
      have HNW : Hid (N = w.heap.size) := hN
      clear hW0 hN
      refine (HDC.out W0 (HNW.out ▸ H0.out.2.1)).mono ?_
      rintro e w1 ⟨u, rfl, hu, hb1⟩
      have H1 : Hid (Bk 96 w1 N #[.int .i64 0, .slice none 0 0] ∧ Below N w w1 ∧ N < W0.heap.size ∧ Own W0.heap.size w1 u (fbd xs).length (fbd xs)) := ⟨H0.out.1.below hb1 (by rw [H0.out.2.2]; omega), H0.out.2.1.trans (hb1.mono (by rw [H0.out.2.2]; omega)), by rw [H0.out.2.2]; omega, hu⟩
      clear hu hb1 H0 HDC
      go_wp2_with (first
        | (refine wpList_store_bk 96 rfl (.tmp 4) (.tmp 10) rfl Tryz.infoFrame w1.heap.size _ _ rfl rfl (heap_new w1 _) rfl rfl (own_one _ H1.out.2.2.2) ?_; intro w2 h2 h2g; have H2 : Hid (Bk 96 w2 w1.heap.size #[.int .i64 TP, u] ∧ Bk 96 w2 N #[.int .i64 0, .slice none 0 0] ∧ Below N w w2 ∧ Own W0.heap.size w2 u (fbd xs).length (fbd xs)) := one_mid H1.out.1 H1.out.2.1 H1.out.2.2.2 h2 h2g; clear h2 h2g)
        | (refine wpList_load_bk 96 rfl (.tmp 4) rfl Tryz.underlying96 rfl Tryz.infoFrame w1.heap.size _ rfl H2.out.1 rfl ?_)
        | (refine wpList_store_bk 96 rfl (.tmp 2) _ rfl Tryz.infoFrame N _ _ rfl rfl H2.out.2.1 rfl rfl (own_one _ H2.out.2.2.2) ?_; intro w4 h4 h4g; have H4 : Hid (Bk 96 w4 N #[.int .i64 TP, u] ∧ Below N w w4 ∧ Own N w4 u (fbd xs).length (fbd xs)) := ⟨h4, H2.out.2.2.1.grown h4g (Nat.le_of_lt (lt_of_block H2.out.2.1)) (fun k hk => by cases hk; omega), Own.store H2.out.2.2.2 h4g H1.out.2.2.1⟩; clear h4 h4g))
      refine bodyPost_ret (results_cell2 Tryz.results41 _ _ _ ⟨N, 0, none⟩ _ _ rfl rfl (bk_load Tryz.underlying96 rfl Tryz.infoFrame H4.out.1 rfl)) rfl ?_
      rw [← HNW.out]
      exact ⟨_, rfl, H4.out.2.2, H4.out.2.1⟩
    · obtain ⟨E, hE⟩ : ∃ E : Nat, E = fdec xs := ⟨_, rfl⟩
      rw [← hE] at h1 HDC ⊢
      have q0 : (((E : Nat) : Int) == 0) = false := by simp; omega
      clear h0 HF HNN HNO hlen hTP hE
      clear hs hx ht
      go_enter Tryz.func41, Tryz.ntmps41
      go_wp2_with fail
      rw [← hN]
      generalize hW0 : World.alloc w _ = W0
      have H0 : Hid (Bk 96 W0 N #[.int .i64 0, .slice none 0 0] ∧ Below N w W0 ∧ W0.heap.size = N + 1) := by rw [← hW0, hN]; exact ⟨(fr_new w).1, (fr_new w).2, by simp⟩
      have HNW : Hid (N = w.heap.size) := hN
      clear hW0 hN
      refine (HDC.out W0 (HNW.out ▸ H0.out.2.1)).mono ?_
      rintro e w1 ⟨u, rfl, hu, hb1⟩
      have H1 : Hid (Bk 96 w1 N #[.int .i64 0, .slice none 0 0] ∧ Below N w w1 ∧ N < W0.heap.size ∧ Own W0.heap.size w1 u (fbd xs).length (fbd xs)) := ⟨H0.out.1.below hb1 (by rw [H0.out.2.2]; omega), H0.out.2.1.trans (hb1.mono (by rw [H0.out.2.2]; omega)), by rw [H0.out.2.2]; omega, hu⟩
      clear hu hb1 H0 HDC
      go_wp2_with (first
        | (refine wpList_store_bk 96 rfl (.tmp 4) (.tmp 10) rfl Tryz.infoFrame w1.heap.size _ _ rfl rfl (heap_new w1 _) rfl rfl (own_one _ H1.out.2.2.2) ?_; intro w2 h2 h2g; have H2 : Hid (Bk 96 w2 w1.heap.size #[.int .i64 TP, u] ∧ Bk 96 w2 N #[.int .i64 0, .slice none 0 0] ∧ Below N w w2 ∧ Own W0.heap.size w2 u (fbd xs).length (fbd xs)) := one_mid H1.out.1 H1.out.2.1 H1.out.2.2.2 h2 h2g; clear h2 h2g)
        | (refine wpList_load_bk 96 rfl (.tmp 4) rfl Tryz.underlying96 rfl Tryz.infoFrame w1.heap.size _ rfl H2.out.1 rfl ?_)
        | (refine wpList_store_bk 96 rfl (.tmp 2) _ rfl Tryz.infoFrame N _ _ rfl rfl H2.out.2.1 rfl rfl (own_one _ H2.out.2.2.2) ?_; intro w4 h4 h4g; have H4 : Hid (Bk 96 w4 N #[.int .i64 TP, u] ∧ Below N w w4 ∧ Own N w4 u (fbd xs).length (fbd xs)) := ⟨h4, H2.out.2.2.1.grown h4g (Nat.le_of_lt (lt_of_block H2.out.2.1)) (fun k hk => by cases hk; omega), Own.store H2.out.2.2.2 h4g H1.out.2.2.1⟩; clear h4 h4g))
      refine bodyPost_ret (results_cell2 Tryz.results41 _ _ _ ⟨N, 0, none⟩ _ _ rfl rfl (bk_load Tryz.underlying96 rfl Tryz.infoFrame H4.out.1 rfl)) rfl ?_
      rw [← HNW.out]
      exact ⟨_, rfl, H4.out.2.2, H4.out.2.1⟩
end Go.Proofs.YtokkhhekmebakaaGreatDoor.Cr

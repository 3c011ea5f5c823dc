/-
  What leb.Encode answers, called with whatever numbers of 64 bits: their bytes one behind the other, in new memory that is just so large. Condition: the slice can be read, and holds at most 2^40 numbers.
-/
import Derived.Test.YtekefbbjocekiaaEnc
import Derived.Test.YtekefbbjocekiaaRow
namespace Go.Proofs.Ytekefbbjocekiaa
open Go.RowKit
set_option linter.unusedVariables false

theorem encs_length (xs : List Int) (h : Bits64 xs) : (encs xs).length = szs xs := by
  induction xs with
  | nil => rfl
  | cons v l ih =>
    have hv := h 0 (by simp)
    simp at hv
    have hl : Bits64 l := fun i hi => by have := h (i + 1) (by simp; omega); simpa using this
    simp only [encs, szs, List.length_append, ih hl]
    rw [enc_length v.toNat (by omega), Int.toNat_of_nonneg hv.1]
theorem encs_take_le (xs : List Int) (k : Nat) : (encs (xs.take k)).length ≤ (encs xs).length := by
  induction xs generalizing k with
  | nil => simp
  | cons v l ih =>
    cases k with
    | zero => simp [encs]
    | succ k => simp only [List.take_succ_cons, encs, List.length_append]; have := ih k; omega
theorem or_128 (V : Int) : bits .or .u8 (V % 256) 128 = V % 128 + 128 := by
  have h : ∀ x : Fin 256, bits .or .u8 ((x.val : Nat) : Int) 128 = ((x.val % 128 + 128 : Nat) : Int) := by decide +kernel
  have := h ⟨(V % 256).toNat, by omega⟩
  rw [show (V % 256) = ((V % 256).toNat : Int) from by omega, this]
  simp only
  omega
theorem one_new (w : World) (T : TypeId) (u : Value) : ∀ (j : Nat) (v : Value), [u][j]? = some v → (w.alloc (.cells #[u] T)).cell? ((⟨w.heap.size, 0, none⟩ : Addr).add j) = some v := by
  intro j v hj
  match j, hj with
  | 0, hj => simp at hj; subst hj; simp [Addr.add]
theorem one_one (k : IntKind) (x : Int) : ∀ u ∈ [Value.int k x], u.oneCell' = true := by
  intro u hu; simp at hu; subst hu; rfl

/-- The row that is being filled: its first bytes are L, it has room for n. -/
def Filling (w : World) (B g n m : Nat) (L : List Int) : Prop := m = L.length ∧ w.ownsRow B 5 1 (.slice (some ⟨g, 0, none⟩) m n) m (L.map (Value.int .u8))
theorem Filling.push {w1 : World} {B g n m : Nat} {L : List Int} {x : Int} (hm : m = L.length) (h : w1.ownsRow B 5 1 (.slice (some ⟨g, 0, none⟩) (m + 1) n) (m + 1) (L.map (Value.int .u8) ++ [.int .u8 x])) : Filling w1 B g n (m + 1) (L ++ [x]) :=
  ⟨by simp [hm], by rw [List.map_append]; exact h⟩

set_option maxHeartbeats 1000000 in
theorem encode_c (a : Option Addr) (len cap : Nat) (xs : List Int) (w : World) (h : Seg .u64 w a len xs) (hx : Bits64 xs) (hl : len ≤ 1099511627776) :
    Calls Try.prog 57 #[.slice a len cap] w fun e w' => ∃ g n, e = .returned (.slice (some ⟨g, 0, none⟩) n n) ∧ n = (encs xs).length ∧ w.heap.size ≤ g ∧ Row .u8 5 w' g (encs xs) ∧ Below w.heap.size w w' := by
  obtain ⟨i0, hi, hz0, hz1, hz2⟩ := info_parts Try.infoU8
  have HS : Hid (Seg .u64 w a len xs) := h
  have HX : Hid (Bits64 xs) := hx
  have HE := encs_length xs hx
  have hsz := szs_le xs
  rw [h.1] at hsz
  clear h hx
  go_enter Try.func57, Try.ntmps57
  go_wp2_with (first
    | (go_at_call 59; go_must (refine (size_c a len cap xs w HS.out HX.out (by omega)).mono ?_); rintro e w' ⟨rfl, rfl⟩)
    | (at_make; go_must (refine wpList_make_own _ rfl _ _ 49 rfl w'.heap.size 5 i0 (.int .u8 0) 1 Try.underlying49 hi hz0 hz1 _ _ _ (szs xs) rfl rfl rfl (by rw [hz2]; omega) (by unfold maxLen; omega) (Nat.le_refl _) ?_); intro w1 hown hgrow))
  obtain ⟨g, hg⟩ : ∃ g, g = w'.heap.size := ⟨_, rfl⟩
  obtain ⟨n, hn⟩ : ∃ n, n = szs xs := ⟨_, rfl⟩
  rw [← hg, ← hn] at hown
  rw [← hg, ← hn]
  have HN : Hid (n = (encs xs).length) := by show _ = _; omega
  have hn2 : n ≤ 10995116277760 := by omega
  have hfl : Filling w1 g g n 0 (encs (xs.take 0)) := ⟨rfl, hown⟩
  have hbel : Below w'.heap.size w' w1 := (Below.refl _ _).grown hgrow (Nat.le_refl _) (fun k hk => by cases hk)
  have HG : Hid (g = w'.heap.size) := hg
  clear hown hgrow hg hn HE hsz
  go_loopw [3, 11] (fun b i wr => ∃ k m : Nat, k ≤ len ∧ i = .int .i64 k ∧ b = .slice (some ⟨g, 0, none⟩) m n ∧ Filling wr g g n m (encs (xs.take k)) ∧ Below w'.heap.size w' wr) (fun _ i _ => len - (intOf i).toNat)
  case atStart => exact ⟨0, 0, Nat.zero_le _, rfl, rfl, hfl, hbel⟩
  case round =>
    obtain ⟨k, m, hk, rfl, rfl, hf, hb⟩ := hrel
    clear hfl hbel
    have HF : Hid (Filling wr g g n m (encs (xs.take k))) := hf
    have HB : Hid (Below w'.heap.size w' wr) := hb
    clear hf hb
    by_cases hlt : k < len
    · rcases HS.out.2 with h0 | ⟨b, off, rfl, hbw, hc⟩
      · omega
      · have hcell : wr.cell? ⟨b, off + k, none⟩ = some (.int .u64 (xs[k]?.getD 0)) := (HB.out.cell (p := ⟨b, off + k, none⟩) hbw).trans (hc k hlt)
        have hxk := HX.out k (by rw [HS.out.1]; exact hlt)
        obtain ⟨V0, hV0⟩ : ∃ V : Int, xs[k]?.getD 0 = V := ⟨_, rfl⟩
        rw [hV0] at hcell hxk
        have HV : Hid (encs (xs.take (k + 1)) = encs (xs.take k) ++ enc V0.toNat) := by
          show _ = _
          rw [take_snoc xs k (by rw [HS.out.1]; exact hlt), encs_snoc, hV0]
        have HM : Hid ((encs (xs.take (k + 1))).length ≤ n) := by show _ ≤ _; rw [HN.out]; exact encs_take_le xs (k + 1)
        clear hc hV0
        go_wp2
        go_loopw [3, 5] (fun b v wr2 => ∃ (V : Int) (m2 : Nat) (D : List Int), v = .int .u64 V ∧ (0 ≤ V ∧ V < 18446744073709551616) ∧ b = .slice (some ⟨g, 0, none⟩) m2 n ∧ enc V0.toNat = D ++ enc V.toNat ∧ Filling wr2 g g n m2 (encs (xs.take k) ++ D) ∧ Below w'.heap.size w' wr2) (fun _ v _ => (intOf v).toNat)
        case atStart => exact ⟨V0, m, [], rfl, hxk, rfl, rfl, by rw [List.append_nil]; exact HF.out, HB.out⟩
        case round =>
          obtain ⟨V, m2, D, rfl, hV, rfl, hD, hf2, hb2⟩ := hrel
          have HD : Hid (enc V0.toNat = D ++ enc V.toNat) := hD
          have HF2 : Hid (Filling wr g g n m2 (encs (xs.take k) ++ D)) := hf2
          have HB2 : Hid (Below w'.heap.size w' wr) := hb2
          have hroom : m2 + 1 ≤ n := by
            have h1 := HM.out
            have h2 := enc_pos V.toNat
            have h3 := hf2.1
            rw [HV.out, hD] at h1
            simp only [List.length_append] at h1 h3
            omega
          clear hD hf2 hb2 hcell
          by_cases h128 : 128 ≤ V
          · have hor := or_128 V
            go_wp2_with (at_builtin; go_must (refine wpList_append_fits _ rfl (.tmp 19) (.tmp 23) 49 rfl g 5 i0 1 Try.underlying49 hi hz1 g m2 n _ rfl (HF2.out.2.alloc _) ⟨wr.heap.size, 0, none⟩ 1 1 [.int .u8 (V % 128 + 128)] rfl rfl (one_new wr _ _) (one_one _ _) hroom ?_); intro w2 hown hgrow)
            have HF3 : Hid (Filling w2 g g n (m2 + 1) ((encs (xs.take k) ++ D) ++ [V % 128 + 128])) := Filling.push HF2.out.1 hown
            have HB3 : Hid (Below w'.heap.size w' w2) := (HB2.out.alloc HB2.out.size _).grown hgrow (by have := HB2.out.size; simp; omega) (fun k hk => by cases hk; rw [HG.out]; exact Nat.le_refl _)
            clear hown hgrow
            go_wp2
            go_roundw
            case rel =>
              go_light
              refine ⟨V / 128, m2 + 1, D ++ [V % 128 + 128], rfl, by omega, rfl, ?_, by rw [← List.append_assoc]; exact HF3.out, HB3.out⟩
              rw [HD.out, enc_big (by omega), List.append_assoc]
              rw [show V.toNat / 128 = (V / 128).toNat from by omega, show ((V.toNat % 128 + 128 : Nat) : Int) = V % 128 + 128 from by omega]
              rfl
            case measure => simp [intOf]; omega
          · have hm : V % 256 = V := by omega
            go_wp2_with (at_builtin; go_must (refine wpList_append_fits _ rfl (.tmp 25) (.tmp 28) 49 rfl g 5 i0 1 Try.underlying49 hi hz1 g m2 n _ rfl (HF2.out.2.alloc _) ⟨wr.heap.size, 0, none⟩ 1 1 [.int .u8 V] rfl rfl (one_new wr _ _) (one_one _ _) hroom ?_); intro w2 hown hgrow)
            have HF3 : Hid (Filling w2 g g n (m2 + 1) (encs (xs.take (k + 1)))) := by
              have := Filling.push HF2.out.1 hown
              show Filling _ _ _ _ _ _
              rw [HV.out, HD.out, enc_small (by omega), ← List.append_assoc, Int.toNat_of_nonneg hV.1]
              exact this
            have HB3 : Hid (Below w'.heap.size w' w2) := (HB2.out.alloc HB2.out.size _).grown hgrow (by have := HB2.out.size; simp; omega) (fun k hk => by cases hk; rw [HG.out]; exact Nat.le_refl _)
            clear hown hgrow
            go_wp2
            go_roundw
            case rel => exact ⟨k + 1, m2 + 1, by omega, by go_num, rfl, HF3.out, HB3.out⟩
            case measure => simp [intOf]; omega
    · obtain rfl : k = len := by omega
      have ht : xs.take k = xs := List.take_of_length_le (by rw [HS.out.1]; exact Nat.le_refl _)
      have HF3 : Hid (Filling wr g g n m (encs xs)) := by have := HF.out; rw [ht] at this; exact this
      have HM : Hid (m = n) := by show _ = _; rw [HF3.out.1, HN.out]
      clear ht
      go_wp2
      go_ret
      go_light
      refine ⟨g, n, by rw [HM.out]; rfl, HN.out, by rw [HG.out]; exact Nat.le_refl _, ?_, HB.out⟩
      have h2 := HF3.out.2
      rw [HM.out] at h2
      exact row_of_own (encs xs) h2 rfl
end Go.Proofs.Ytekefbbjocekiaa

/-
  Which blocks may have changed from one world to another. No condition of its own.
  Plain mathematics for the laws of package leb: a number's bytes, how many they are, that reading undoes writing and writing undoes reading. No condition of its own; it imports nothing of the program.
  What leb.Encode answers, called with whatever numbers of 64 bits: their bytes one behind the other, in new memory that is just so large. Condition: the slice can be read, and holds at most 2^40 numbers.
  A law for 'append(s, t...)' over bytes, s in memory that the call made itself: whatever room there is, what comes out reads as the one and then the other. It speaks of every program. Condition: both together take at most 2^47 bytes.
  What the document's Bytes answers of a number of 64 bits: its bytes, in memory of their own. No condition of its own.
  What the document's Same answers of whatever two lists of bytes: whether they are alike. Condition: both can be read.
  The document's Writer in memory, as plain data, and what its lay, Fail, Uint, Int, Flag, Text answer. Condition: what is laid down takes at most 2^47 bytes.
  A string's bytes as a row of cells. No condition of its own.
  What the document's Writer's Int, Flag, Text and Bytes answer. Condition: what is laid down takes at most 2^47 bytes.
  Lists of texts as plain data: how many bytes two texts begin with alike; what shared answers, the program's and the document's. No condition of its own.
-/
import Derived.Test.YtfnfkcafjfhnlaaFa
import Derived.ArgAppend
import Derived.Laws.BytesArg
import Derived.Laws.IdiomStrings
import Derived.BigQuiet
import Derived.Deep.QuietTactic
namespace Go.Proofs.Ytfnfkcafjfhnlaa
open Go.RowKit
set_option linter.unusedVariables false

/-- Which blocks may have changed. -/
structure Gr (G : Nat → Prop) (w w' : World) : Prop where
  os : w'.os = w.os
  tape : w'.tape = w.tape
  output : w'.output = w.output
  size : w.heap.size ≤ w'.heap.size
  block : ∀ k, k < w.heap.size → ¬ G k → w'.heap[k]? = w.heap[k]?
theorem Gr.refl (G : Nat → Prop) (w : World) : Gr G w w := ⟨rfl, rfl, rfl, Nat.le_refl _, fun _ _ _ => rfl⟩
theorem Gr.trans {G a b c} (h : Gr G a b) (k : Gr G b c) : Gr G a c :=
  ⟨k.os.trans h.os, k.tape.trans h.tape, k.output.trans h.output, Nat.le_trans h.size k.size, fun i hi hn => (k.block i (Nat.lt_of_lt_of_le hi h.size) hn).trans (h.block i hi hn)⟩
theorem Gr.of {G : Nat → Prop} {a b : World} {row : Option Nat} (h : a.grownBy b row) (hr : ∀ k, row = some k → G k ∨ a.heap.size ≤ k) : Gr G a b :=
  ⟨h.os, h.tape, h.output, h.size, fun i hi hn => h.block i hi (fun e => by rcases hr i e.symm with h | h; exact hn h; omega)⟩
theorem Gr.wide {G G' : Nat → Prop} {a b : World} (h : Gr G a b) (hw : ∀ k, k < a.heap.size → G k → G' k) : Gr G' a b :=
  ⟨h.os, h.tape, h.output, h.size, fun i hi hn => h.block i hi (fun e => hn (hw i hi e))⟩
theorem Gr.drewN {G : Nat → Prop} {a b : World} (h : Gr G a b) (n : Nat) : Gr G a (b.drewN n) := h.trans (Gr.of (gb_drewN (World.grownBy.refl b none) n) (by simp))
theorem Gr.alloc {G : Nat → Prop} {a b : World} (h : Gr G a b) (o : Obj) : Gr G a (b.alloc o) := h.trans (Gr.of (World.grownBy_alloc b o none) (by simp))
theorem Gr.below {G : Nat → Prop} {B : Nat} {w0 a b : World} (h0 : Below B w0 a) (h : Gr G a b) (hG : ∀ k, G k → B ≤ k) (hB : B ≤ a.heap.size) : Below B w0 b :=
  h0.trans ⟨h.os, h.tape, h.output, h.size, fun k hk => h.block k (by omega) (fun g => by have := hG k g; omega)⟩
theorem Seg.gr {k : IntKind} {G : Nat → Prop} {w w' : World} {a : Option Addr} {len : Nat} {xs : List Int} (h : Seg k w a len xs) (hg : Gr G w w') (ho : ∀ k, G k → Off a k) : Seg k w' a len xs := by
  refine ⟨h.1, ?_⟩
  rcases h.2 with h0 | ⟨b, off, ha, hw, hc⟩
  · exact .inl h0
  · exact .inr ⟨b, off, ha, Nat.lt_of_lt_of_le hw hg.size, fun i hi => (World.cell?_of_block (w := w) (w' := w') (a := ⟨b, off + i, none⟩) (hg.block b hw (fun e => ho b e _ _ _ ha rfl))).trans (hc i hi)⟩
end Go.Proofs.Ytfnfkcafjfhnlaa
namespace Go.Proofs.Ytfnfkcafjfhnlaa
set_option linter.unusedVariables false

/-- A number's bytes. -/
def enc (v : Nat) : List Int := if h : v < 128 then [(v : Int)] else ((v % 128 + 128 : Nat) : Int) :: enc (v / 128)
theorem enc_small {v : Nat} (h : v < 128) : enc v = [(v : Int)] := by rw [enc, dif_pos h]
theorem enc_big {v : Nat} (h : 128 ≤ v) : enc v = ((v % 128 + 128 : Nat) : Int) :: enc (v / 128) := by rw [enc, dif_neg (by omega)]
/-- Several numbers' bytes. -/
def encs : List Int → List Int
  | [] => []
  | v :: l => enc v.toNat ++ encs l
theorem encs_snoc (l : List Int) (v : Int) : encs (l ++ [v]) = encs l ++ enc v.toNat := by
  induction l with
  | nil => simp [encs]
  | cons x l ih => simp [encs, ih]

theorem st_div (c v : Int) : st (128 * c) v = st c (v / 128) := by
  unfold st; split <;> split <;> omega
theorem sz_step (v : Int) (h : 128 ≤ v) (h2 : v < 18446744073709551616) : sz v = 1 + sz (v / 128) := by
  unfold sz
  have a1 := st_div 128 v
  have a2 := st_div 16384 v
  have a3 := st_div 2097152 v
  have a4 := st_div 268435456 v
  have a5 := st_div 34359738368 v
  have a6 := st_div 4398046511104 v
  have a7 := st_div 562949953421312 v
  have a8 := st_div 72057594037927936 v
  have a9 : st 9223372036854775808 (v / 128) = 0 := st_no (by omega)
  have a0 : st 128 v = 1 := st_yes h
  simp only [Int.reduceMul] at a1 a2 a3 a4 a5 a6 a7 a8
  omega
theorem enc_length (v : Nat) (h : v < 18446744073709551616) : (enc v).length = sz v := by
  induction v using Nat.strongRecOn with
  | ind v ih =>
    by_cases h1 : v < 128
    · rw [enc_small h1, sz_1 v (by omega)]; rfl
    · rw [enc_big (by omega), List.length_cons, ih (v / 128) (by omega) (by omega), sz_step v (by omega) (by omega)]
      rw [show ((v : Int) / 128) = ((v / 128 : Nat) : Int) from by omega]; omega
theorem enc_pos (v : Nat) : 1 ≤ (enc v).length := by
  by_cases h : v < 128
  · rw [enc_small h]; simp
  · rw [enc_big (by omega)]; simp
theorem enc_bytes (v : Nat) : ∀ c ∈ enc v, 0 ≤ c ∧ c < 256 := by
  induction v using Nat.strongRecOn with
  | ind v ih =>
    by_cases h1 : v < 128
    · rw [enc_small h1]; simp; omega
    · rw [enc_big (by omega)]
      intro c hc
      rcases List.mem_cons.1 hc with rfl | hc
      · omega
      · exact ih (v / 128) (by omega) c hc
theorem bytes_of_mem {l : List Int} (h : ∀ c ∈ l, 0 ≤ c ∧ c < 256) : Bytes l := fun i hi => by
  have := h l[i] (List.getElem_mem hi)
  simpa [hi] using this
theorem encs_bytes (l : List Int) : ∀ c ∈ encs l, 0 ≤ c ∧ c < 256 := by
  induction l with
  | nil => simp [encs]
  | cons x l ih =>
    intro c hc
    simp only [encs, List.mem_append] at hc
    rcases hc with hc | hc
    · exact enc_bytes _ c hc
    · exact ih c hc
theorem val_enc (v : Nat) : val (enc v) = v := by
  induction v using Nat.strongRecOn with
  | ind v ih =>
    by_cases h1 : v < 128
    · rw [enc_small h1]; simp [val]; omega
    · rw [enc_big (by omega), val, ih (v / 128) (by omega)]; omega
/-- All bytes but the last go on; the last one does not, and is not 0 behind another one. -/
theorem enc_form (v : Nat) (rest : List Int) : (∀ j, j + 1 < (enc v).length → 128 ≤ (enc v ++ rest)[j]?.getD 0) ∧ (0 ≤ (enc v ++ rest)[(enc v).length - 1]?.getD 0 ∧ (enc v ++ rest)[(enc v).length - 1]?.getD 0 < 128) ∧ (1 < (enc v).length → (enc v ++ rest)[(enc v).length - 1]?.getD 0 ≠ 0) := by
  induction v using Nat.strongRecOn with
  | ind v ih =>
    by_cases h1 : v < 128
    · rw [enc_small h1]; simp; omega
    · obtain ⟨a, b, c⟩ := ih (v / 128) (by omega)
      have hp := enc_pos (v / 128)
      rw [enc_big (by omega)]
      have e : ((((v % 128 + 128 : Nat) : Int) :: enc (v / 128)).length - 1) = ((enc (v / 128)).length - 1) + 1 := by simp; omega
      rw [e]
      refine ⟨fun j hj => ?_, ?_, fun _ => ?_⟩
      · cases j with
        | zero => simp; omega
        | succ j => simpa using a j (by simp at hj; omega)
      · simpa using b
      · by_cases h2 : 1 < (enc (v / 128)).length
        · simpa using c h2
        · have hs : v / 128 < 128 := by
            rcases Nat.lt_or_ge (v / 128) 128 with h | h
            · exact h
            · rw [enc_big h] at h2
              have := enc_pos (v / 128 / 128)
              simp at h2; simp [h2] at this
          rw [enc_small hs]
          simp; omega
theorem take_enc (v : Nat) (rest : List Int) : (enc v ++ rest).take ((enc v).length - 1 + 1) = enc v := by
  have := enc_pos v
  rw [show (enc v).length - 1 + 1 = (enc v).length from by omega, List.take_left']
  rfl
/-- What is written is read, whatever stands behind. -/
theorem rd_enc (v : Nat) (h : v < 18446744073709551616) (rest : List Int) : rd (enc v ++ rest) = ((v : Int), ((enc v).length : Int), 0) := by
  obtain ⟨a, b, c⟩ := enc_form v rest
  have hp := enc_pos v
  have hl := enc_length v h
  have hs := sz_bd v
  have ht := take_enc v rest
  have := rd_ok (enc v ++ rest) ((enc v).length - 1) (fun j hj => a j (by omega)) (by simp; omega) (by omega) b.2 (fun h9 => ?_) (fun h0 => c (by omega))
  · rw [this, ht, val_enc]
    rw [show (((enc v).length - 1 : Nat) : Int) + 1 = (enc v).length from by omega]
  · -- the tenth byte
    have e1 : val ((enc v ++ rest).take ((enc v).length - 1 + 1)) = v := by rw [ht]; exact val_enc v
    rw [take_snoc _ _ (by simp; omega), val_snoc] at e1
    have hn := val_nonneg ((enc v ++ rest).take ((enc v).length - 1))
    have hl2 : ((enc v ++ rest).take ((enc v).length - 1)).length = 9 := by simp; omega
    rw [hl2, Int.emod_eq_of_lt b.1 b.2] at e1
    have e2 : (2 : Int) ^ (7 * 9) = 9223372036854775808 := by decide
    rw [e2] at e1
    omega
theorem val_pos (xs : List Int) (k : Nat) (hk : k < xs.length) (h0 : 0 < xs[k]?.getD 0) (h1 : xs[k]?.getD 0 < 128) : 1 ≤ val (xs.take (k + 1)) := by
  rw [take_snoc xs k hk, val_snoc, Int.emod_eq_of_lt (by omega) h1]
  have := val_nonneg (xs.take k)
  have hp := pow_pos2 (7 * (xs.take k).length)
  have : 0 < 2 ^ (7 * (xs.take k).length) * xs[k]?.getD 0 := Int.mul_pos hp h0
  omega
/-- What is read is written. -/
theorem enc_val : ∀ (k : Nat) (xs : List Int), k < xs.length → (∀ j, j < k → 128 ≤ xs[j]?.getD 0 ∧ xs[j]?.getD 0 < 256) → 0 ≤ xs[k]?.getD 0 → xs[k]?.getD 0 < 128 → (0 < k → xs[k]?.getD 0 ≠ 0) →
    enc (val (xs.take (k + 1))).toNat = xs.take (k + 1)
  | 0, c :: l, _, _, h0, h1, _ => by
    simp at h0 h1
    simp [val]
    rw [show (c % 128).toNat = c.toNat from by omega, enc_small (by omega)]
    simp; omega
  | k + 1, c :: l, hk, h, h0, h1, h2 => by
    have hc := h 0 (by omega)
    simp at hc hk h0 h1
    have h2' := h2 (by omega)
    simp at h2'
    have hv := val_pos l k hk (by omega) h1
    have ih := enc_val k l hk (fun j hj => by have := h (j + 1) (by omega); simpa using this) h0 h1 (fun _ => h2')
    rw [List.take_succ_cons, val]
    have e : (c % 128 + 128 * val (l.take (k + 1))).toNat = (c % 128).toNat + 128 * (val (l.take (k + 1))).toNat := by omega
    rw [e, enc_big (by omega)]
    rw [show ((c % 128).toNat + 128 * (val (l.take (k + 1))).toNat) / 128 = (val (l.take (k + 1))).toNat from by omega, ih]
    congr 1
    omega
theorem rd_back (xs : List Int) (hx : Bytes xs) (h : (rd xs).2.2 = 0) : 1 ≤ (rd xs).2.1 ∧ (rd xs).2.1 ≤ xs.length ∧ enc (rd xs).1.toNat = xs.take (rd xs).2.1.toNat := by
  have hle : lead xs ≤ xs.length := by
    clear hx h
    induction xs with
    | nil => simp [lead]
    | cons c l ih => simp only [lead, List.length_cons]; split <;> omega
  have hat : ∀ j, (j < lead xs → 128 ≤ xs[j]?.getD 0) ∧ (j = lead xs → j < xs.length → xs[j]?.getD 0 < 128) := by
    clear hx h hle
    induction xs with
    | nil => intro j; simp [lead]
    | cons c l ih =>
      intro j
      simp only [lead, List.length_cons]
      by_cases hc : 128 ≤ c
      · rw [if_pos hc]
        cases j with
        | zero => exact ⟨fun _ => by simpa using hc, fun h => by omega⟩
        | succ j => have := ih j; exact ⟨fun h => by simpa using this.1 (by omega), fun h h' => by simpa using this.2 (by omega) (by omega)⟩
      · rw [if_neg hc]
        exact ⟨fun h => by omega, fun h _ => by subst h; simp; omega⟩
  unfold rd at h ⊢
  split at h
  · simp at h
  · rename_i n1
    rw [if_neg n1]
    split at h
    · simp at h
    · rename_i n2
      rw [if_neg n2]
      split at h
      · simp at h
      · rename_i n3
        rw [if_neg n3]
        have hlt : lead xs < xs.length := by omega
        have hb := hx _ hlt
        refine ⟨by simp only; omega, by simp only; omega, ?_⟩
        have := enc_val (lead xs) xs hlt (fun j hj => ⟨(hat j).1 hj, (hx j (by omega)).2⟩) hb.1 ((hat _).2 rfl hlt) (fun h0 h1 => n3 ⟨h0, h1⟩)
        simp only
        rw [this]
        congr 1
theorem rd_zero (xs : List Int) (h : (rd xs).2.2 ≠ 0) : (rd xs).1 = 0 ∧ (rd xs).2.1 = 0 := by
  unfold rd at h ⊢
  split
  · simp
  · split
    · simp
    · split
      · simp
      · rename_i n1 n2 n3; rw [if_neg n1, if_neg n2, if_neg n3] at h; simp at h
/-- No number's bytes begin another one's. -/
theorem enc_prefix (v w : Nat) (hv : v < 18446744073709551616) (hw : w < 18446744073709551616) (rest : List Int) (h : enc w = enc v ++ rest) : v = w := by
  have a := rd_enc v hv rest
  have b := rd_enc w hw []
  rw [List.append_nil, h, a] at b
  have := congrArg Prod.fst b
  simp at this
  omega
theorem encs_inj : ∀ (l m : List Int), (∀ v ∈ l, 0 ≤ v ∧ v < 18446744073709551616) → (∀ v ∈ m, 0 ≤ v ∧ v < 18446744073709551616) → encs l = encs m → l = m
  | [], [], _, _, _ => rfl
  | [], w :: m, _, _, h => by
    have := congrArg List.length h
    simp only [encs, List.length_append, List.length_nil] at this
    have hp := enc_pos w.toNat
    omega
  | v :: l, [], _, _, h => by
    have := congrArg List.length h
    simp only [encs, List.length_append, List.length_nil] at this
    have hp := enc_pos v.toNat
    omega
  | v :: l, w :: m, hl, hm, h => by
    simp only [encs] at h
    have hv := hl v (by simp)
    have hw := hm w (by simp)
    have a := rd_enc v.toNat (by omega) (encs l)
    have b := rd_enc w.toNat (by omega) (encs m)
    rw [h, b] at a
    have e := congrArg Prod.fst a
    simp at e
    have e2 : v = w := by omega
    subst e2
    rw [encs_inj l m (fun x hx => hl x (by simp [hx])) (fun x hx => hm x (by simp [hx])) (List.append_cancel_left h)]
end Go.Proofs.Ytfnfkcafjfhnlaa
namespace Go.Proofs.Ytfnfkcafjfhnlaa
open Go.RowKit
set_option linter.unusedVariables false

theorem encs_length (xs : List Int) (h : Bits64 xs) : (encs xs).length = szs xs := by
  induction xs with
  | nil => rfl
  | cons v l ih =>
    have hv := h 0 (by simp)
    simp at hv
    have hl : Bits64 l := fun i hi => by have := h (i + 1) (by simp; omega); simpa using this
    simp only [encs, szs, List.length_append, ih hl]
    rw [enc_length v.toNat (by omega), Int.toNat_of_nonneg hv.1]
theorem encs_take_le (xs : List Int) (k : Nat) : (encs (xs.take k)).length ≤ (encs xs).length := by
  induction xs generalizing k with
  | nil => simp
  | cons v l ih =>
    cases k with
    | zero => simp [encs]
    | succ k => simp only [List.take_succ_cons, encs, List.length_append]; have := ih k; omega
theorem or_128 (V : Int) : bits .or .u8 (V % 256) 128 = V % 128 + 128 := by
  have h : ∀ x : Fin 256, bits .or .u8 ((x.val : Nat) : Int) 128 = ((x.val % 128 + 128 : Nat) : Int) := by decide +kernel
  have := h ⟨(V % 256).toNat, by omega⟩
  rw [show (V % 256) = ((V % 256).toNat : Int) from by omega, this]
  simp only
  omega
theorem one_new (w : World) (T : TypeId) (u : Value) : ∀ (j : Nat) (v : Value), [u][j]? = some v → (w.alloc (.cells #[u] T)).cell? ((⟨w.heap.size, 0, none⟩ : Addr).add j) = some v := by
  intro j v hj
  match j, hj with
  | 0, hj => simp at hj; subst hj; simp [Addr.add]
theorem one_one (k : IntKind) (x : Int) : ∀ u ∈ [Value.int k x], u.oneCell' = true := by
  intro u hu; simp at hu; subst hu; rfl

/-- The row that is being filled: its first bytes are L, it has room for n. -/
def Filling (w : World) (B g n m : Nat) (L : List Int) : Prop := m = L.length ∧ w.ownsRow B 5 1 (.slice (some ⟨g, 0, none⟩) m n) m (L.map (Value.int .u8))
theorem Filling.push {w1 : World} {B g n m : Nat} {L : List Int} {x : Int} (hm : m = L.length) (h : w1.ownsRow B 5 1 (.slice (some ⟨g, 0, none⟩) (m + 1) n) (m + 1) (L.map (Value.int .u8) ++ [.int .u8 x])) : Filling w1 B g n (m + 1) (L ++ [x]) :=
  ⟨by simp [hm], by rw [List.map_append]; exact h⟩

set_option maxHeartbeats 1000000 in
theorem encode_c (a : Option Addr) (len cap : Nat) (xs : List Int) (w : World) (h : Seg .u64 w a len xs) (hx : Bits64 xs) (hl : len ≤ 1099511627776) :
    Calls Try.prog 60 #[.slice a len cap] w fun e w' => ∃ g n, e = .returned (.slice (some ⟨g, 0, none⟩) n n) ∧ n = (encs xs).length ∧ w.heap.size ≤ g ∧ Row .u8 5 w' g (encs xs) ∧ Below w.heap.size w w' := by
  obtain ⟨i0, hi, hz0, hz1, hz2⟩ := info_parts Try.infoU8
  have HS : Hid (Seg .u64 w a len xs) := h
  have HX : Hid (Bits64 xs) := hx
  have HE := encs_length xs hx
  have hsz := szs_le xs
  rw [h.1] at hsz
  clear h hx
  go_enter Try.func60, Try.ntmps60
  go_wp2_with (first
    | (go_at_call 82; go_must (refine (size_c a len cap xs w HS.out HX.out (by omega)).mono ?_); rintro e w' ⟨rfl, rfl⟩)
    | (at_make; go_must (refine wpList_make_own _ rfl _ _ 22 rfl w'.heap.size 5 i0 (.int .u8 0) 1 Try.underlying22 hi hz0 hz1 _ _ _ (szs xs) rfl rfl rfl (by rw [hz2]; omega) (by unfold maxLen; omega) (Nat.le_refl _) ?_); intro w1 hown hgrow))
  obtain ⟨g, hg⟩ : ∃ g, g = w'.heap.size := ⟨_, rfl⟩
  obtain ⟨n, hn⟩ : ∃ n, n = szs xs := ⟨_, rfl⟩
  rw [← hg, ← hn] at hown
  rw [← hg, ← hn]
  have HN : Hid (n = (encs xs).length) := by show _ = _; omega
  have hn2 : n ≤ 10995116277760 := by omega
  have hfl : Filling w1 g g n 0 (encs (xs.take 0)) := ⟨rfl, hown⟩
  have hbel : Below w'.heap.size w' w1 := (Below.refl _ _).grown hgrow (Nat.le_refl _) (fun k hk => by cases hk)
  have HG : Hid (g = w'.heap.size) := hg
  clear hown hgrow hg hn HE hsz
  go_loopw [3, 11] (fun b i wr => ∃ k m : Nat, k ≤ len ∧ i = .int .i64 k ∧ b = .slice (some ⟨g, 0, none⟩) m n ∧ Filling wr g g n m (encs (xs.take k)) ∧ Below w'.heap.size w' wr) (fun _ i _ => len - (intOf i).toNat)
  case atStart => exact ⟨0, 0, Nat.zero_le _, rfl, rfl, hfl, hbel⟩
  case round =>
    obtain ⟨k, m, hk, rfl, rfl, hf, hb⟩ := hrel
    clear hfl hbel
    have HF : Hid (Filling wr g g n m (encs (xs.take k))) := hf
    have HB : Hid (Below w'.heap.size w' wr) := hb
    clear hf hb
    by_cases hlt : k < len
    · rcases HS.out.2 with h0 | ⟨b, off, rfl, hbw, hc⟩
      · omega
      · have hcell : wr.cell? ⟨b, off + k, none⟩ = some (.int .u64 (xs[k]?.getD 0)) := (HB.out.cell (p := ⟨b, off + k, none⟩) hbw).trans (hc k hlt)
        have hxk := HX.out k (by rw [HS.out.1]; exact hlt)
        obtain ⟨V0, hV0⟩ : ∃ V : Int, xs[k]?.getD 0 = V := ⟨_, rfl⟩
        rw [hV0] at hcell hxk
        have HV : Hid (encs (xs.take (k + 1)) = encs (xs.take k) ++ enc V0.toNat) := by
          show _ = _
          rw [take_snoc xs k (by rw [HS.out.1]; exact hlt), encs_snoc, hV0]
        have HM : Hid ((encs (xs.take (k + 1))).length ≤ n) := by show _ ≤ _; rw [HN.out]; exact encs_take_le xs (k + 1)
        clear hc hV0
        go_wp2
        go_loopw [3, 5] (fun b v wr2 => ∃ (V : Int) (m2 : Nat) (D : List Int), v = .int .u64 V ∧ (0 ≤ V ∧ V < 18446744073709551616) ∧ b = .slice (some ⟨g, 0, none⟩) m2 n ∧ enc V0.toNat = D ++ enc V.toNat ∧ Filling wr2 g g n m2 (encs (xs.take k) ++ D) ∧ Below w'.heap.size w' wr2) (fun _ v _ => (intOf v).toNat)
        case atStart => exact ⟨V0, m, [], rfl, hxk, rfl, rfl, by rw [List.append_nil]; exact HF.out, HB.out⟩
        case round =>
          obtain ⟨V, m2, D, rfl, hV, rfl, hD, hf2, hb2⟩ := hrel
          have HD : Hid (enc V0.toNat = D ++ enc V.toNat) := hD
          have HF2 : Hid (Filling wr g g n m2 (encs (xs.take k) ++ D)) := hf2
          have HB2 : Hid (Below w'.heap.size w' wr) := hb2
          have hroom : m2 + 1 ≤ n := by
            have h1 := HM.out
            have h2 := enc_pos V.toNat
            have h3 := hf2.1
            rw [HV.out, hD] at h1
            simp only [List.length_append] at h1 h3
            omega
          clear hD hf2 hb2 hcell
          by_cases h128 : 128 ≤ V
          · have hor := or_128 V
            go_wp2_with (at_builtin; go_must (refine wpList_append_fits _ rfl (.tmp 19) (.tmp 23) 22 rfl g 5 i0 1 Try.underlying22 hi hz1 g m2 n _ rfl (HF2.out.2.alloc _) ⟨wr.heap.size, 0, none⟩ 1 1 [.int .u8 (V % 128 + 128)] rfl rfl (one_new wr _ _) (one_one _ _) hroom ?_); intro w2 hown hgrow)
            have HF3 : Hid (Filling w2 g g n (m2 + 1) ((encs (xs.take k) ++ D) ++ [V % 128 + 128])) := Filling.push HF2.out.1 hown
            have HB3 : Hid (Below w'.heap.size w' w2) := (HB2.out.alloc HB2.out.size _).grown hgrow (by have := HB2.out.size; simp; omega) (fun k hk => by cases hk; rw [HG.out]; exact Nat.le_refl _)
            clear hown hgrow
            go_wp2
            go_roundw
            case rel =>
              go_light
              refine ⟨V / 128, m2 + 1, D ++ [V % 128 + 128], rfl, by omega, rfl, ?_, by rw [← List.append_assoc]; exact HF3.out, HB3.out⟩
              rw [HD.out, enc_big (by omega), List.append_assoc]
              rw [show V.toNat / 128 = (V / 128).toNat from by omega, show ((V.toNat % 128 + 128 : Nat) : Int) = V % 128 + 128 from by omega]
              rfl
            case measure => simp [intOf]; omega
          · have hm : V % 256 = V := by omega
            go_wp2_with (at_builtin; go_must (refine wpList_append_fits _ rfl (.tmp 25) (.tmp 28) 22 rfl g 5 i0 1 Try.underlying22 hi hz1 g m2 n _ rfl (HF2.out.2.alloc _) ⟨wr.heap.size, 0, none⟩ 1 1 [.int .u8 V] rfl rfl (one_new wr _ _) (one_one _ _) hroom ?_); intro w2 hown hgrow)
            have HF3 : Hid (Filling w2 g g n (m2 + 1) (encs (xs.take (k + 1)))) := by
              have := Filling.push HF2.out.1 hown
              show Filling _ _ _ _ _ _
              rw [HV.out, HD.out, enc_small (by omega), ← List.append_assoc, Int.toNat_of_nonneg hV.1]
              exact this
            have HB3 : Hid (Below w'.heap.size w' w2) := (HB2.out.alloc HB2.out.size _).grown hgrow (by have := HB2.out.size; simp; omega) (fun k hk => by cases hk; rw [HG.out]; exact Nat.le_refl _)
            clear hown hgrow
            go_wp2
            go_roundw
            case rel => exact ⟨k + 1, m2 + 1, by omega, by go_num, rfl, HF3.out, HB3.out⟩
            case measure => simp [intOf]; omega
    · obtain rfl : k = len := by omega
      have ht : xs.take k = xs := List.take_of_length_le (by rw [HS.out.1]; exact Nat.le_refl _)
      have HF3 : Hid (Filling wr g g n m (encs xs)) := by have := HF.out; rw [ht] at this; exact this
      have HM : Hid (m = n) := by show _ = _; rw [HF3.out.1, HN.out]
      clear ht
      go_wp2
      go_ret
      go_light
      refine ⟨g, n, by rw [HM.out]; rfl, HN.out, by rw [HG.out]; exact Nat.le_refl _, ?_, HB.out⟩
      have h2 := HF3.out.2
      rw [HM.out] at h2
      exact row_of_own (encs xs) h2 rfl
end Go.Proofs.Ytfnfkcafjfhnlaa
namespace Go.Proofs.Ytfnfkcafjfhnlaa
open Go.RowKit
set_option linter.unusedVariables false

/-- Memory of one's own: block b begins with these bytes, and 'cap' places of it may be written. -/
structure Mine (w : World) (B b n cap : Nat) (xs : List Int) : Prop where
  len : xs.length = n
  le : n ≤ cap
  max : cap ≤ maxLen
  lo : B ≤ b
  lt : b < w.heap.size
  cell : ∀ i, i < n → w.cell? ⟨b, i, none⟩ = some (.int .u8 (xs[i]?.getD 0))
  there : ∀ i, i < cap → (w.cell? ⟨b, i, none⟩).isSome = true
  free : ∀ i, i < cap → w.frozen? ⟨b, i, none⟩ = false
theorem Mine.seg {w B b n cap xs} (h : Mine w B b n cap xs) : Seg .u8 w (some ⟨b, 0, none⟩) n xs :=
  ⟨h.len, .inr ⟨b, 0, rfl, h.lt, fun i hi => by rw [Nat.zero_add]; exact h.cell i hi⟩⟩

theorem below_setCells {B b : Nat} {w0 : World} (hB : B ≤ b) : ∀ (vs : List Value) (o : Nat) (w : World), Below B w0 w → Below B w0 (w.setCells b o vs)
  | [], _, _, h => h
  | v :: r, o, w, h => by rw [World.setCells]; exact below_setCells hB r (o + 1) _ (h.setCell hB v)
theorem size_setCells (b : Nat) : ∀ (vs : List Value) (o : Nat) (w : World), (w.setCells b o vs).heap.size = w.heap.size
  | [], _, _ => rfl
  | v :: r, o, w => by rw [World.setCells, size_setCells b r]; simp

theorem seg_news {k : IntKind} {w : World} {a : Option Addr} {m : Nat} {ys : List Int} (h : Seg k w a m ys) (ad : Addr) (ha : a = some ad) : ∀ j u, (ys.map (Value.int k))[j]? = some u → w.cell? (ad.add j) = some u := by
  intro j u hj
  have hjl : j < ys.length := by
    rcases Nat.lt_or_ge j ys.length with h' | h'
    · exact h'
    · rw [List.getElem?_eq_none (by simpa using h')] at hj; cases hj
  rcases h.2 with h0 | ⟨b, off, hb, _, hc⟩
  · rw [h.1] at hjl; omega
  · rw [hb] at ha; cases ha
    rw [Go.WideShapes.add_plain, hc j (by rw [← h.1]; exact hjl), ← hj]
    simp [hjl]

theorem wpList_append_mine {P : Program} (w : World) {ops : Array Oper} {rest : List Oper} {o : Oper} {a : Act} {Q : Exit → Act → World → Prop}
    (hg : o.guard = none) (s x : Operand) (t : TypeId) (hop : o.op = Op.call { callee := Callee.builtin Builtin.append, args := #[s, x], argTypes := #[t, t] })
    (e : TypeId) (i : TypeInfo) (h1 : P.underlying t = some (.slice e)) (h2 : P.info? e = some i) (h3 : i.zero = some (.int .u8 0)) (h4 : i.size = 1) (h5 : i.bytes = 1)
    (B b n cap : Nat) (xs : List Int) (hs : a.eval s = .slice (some ⟨b, 0, none⟩) n cap) (hm : Mine w B b n cap xs)
    (ao : Option Addr) (m c : Nat) (ys : List Int) (hx : a.eval x = .slice ao m c) (hao : ao = none → c = 0) (hy : Seg .u8 w ao m ys) (hb : n + m ≤ 140737488355328)
    (hK : ∀ b' cap' w', Mine w' B b' (n + m) cap' (xs ++ ys) → Below B w w' → wpList P ops Q rest (a.put o.dst (.slice (some ⟨b', 0, none⟩) (n + m) cap')) w') :
    wpList P ops Q (o :: rest) a w := by
  cases ao with
  | none =>
    have hm0 : m = 0 := by
      rcases hy.2 with h0 | ⟨_, _, h, _⟩
      · exact h0
      · cases h
    subst hm0
    obtain rfl : ys = [] := List.eq_nil_of_length_eq_zero hy.1
    have hc0 := hao rfl
    subst hc0
    refine wpList_plain hg fun K hK' => ?_
    have hrun : (Builtin.append_ #[t, t] o.type #[.slice (some ⟨b, 0, none⟩) n cap, .slice none 0 0]).run P w = .ok (.slice (some ⟨b, 0, none⟩) n cap) w := by
      simp [Builtin.append_, run_underlying h1, sizeOf, typeInfo, h2, Builtin.lenOf, Builtin.firstCells, hm.le, storeCells]
    unfold Oper.wp
    simp [execOp, hop, resolve, invoke, builtin, hs, hx, hrun, Result.andThen]
    have := hK b cap w (by simpa using hm) (Below.refl _ _)
    exact hK' _ _ (by simpa using this)
  | some ad =>
    refine wpList_append_arg w hg s x t hop e i (.int .u8 0) 1 1 h1 h2 h3 h4 h5 rfl (by decide) b 0 n cap (xs.map (Value.int .u8)) hs (by simp [hm.len]) ?_ ad m c (ys.map (Value.int .u8)) hx (by simp [hy.1]) (seg_news hy ad rfl) ?_ ?_ (by unfold maxLen; omega) (by omega) ?_ ?_
    · intro j u hj
      have := seg_news hm.seg ⟨b, 0, none⟩ rfl j u hj
      rwa [Go.WideShapes.add_plain] at this
    · intro u hu; obtain ⟨z, _, rfl⟩ := List.mem_map.1 hu; rfl
    · intro hr j hj
      simp only [List.length_map, hy.1] at hj
      exact ⟨by rw [show 0 + n * 1 + j = n + j from by omega]; exact hm.there _ (by omega), by rw [show 0 + n * 1 + j = n + j from by omega]; exact hm.free _ (by omega)⟩
    · intro hr
      refine hK b cap _ ?_ (below_setCells hm.lo _ _ _ (Below.refl _ _))
      have hlen : (ys.map (Value.int .u8)).length = m := by simp [hy.1]
      have hin := World.cell?_setCells_in b (ys.map (Value.int .u8)) (0 + n * 1) w (fun j hj => by rw [show 0 + n * 1 + j = n + j from by omega]; exact hm.there _ (by omega))
      refine ⟨by simp [hm.len, hy.1], hr, hm.max, hm.lo, by rw [size_setCells]; exact hm.lt, fun i hi => ?_, fun i hi => ?_, fun i hi => ?_⟩
      · by_cases hin' : i < n
        · rw [World.cell?_setCells_out b _ _ _ _ (fun _ _ => .inl (by simp; omega)), hm.cell i hin', List.getElem?_append_left (by rw [hm.len]; exact hin')]
        · have := hin (i - n) (by omega)
          rw [show 0 + n * 1 + (i - n) = i from by omega] at this
          rw [this, List.getElem?_append_right (by rw [hm.len]; omega), hm.len]
          have hj : i - n < ys.length := by rw [hy.1]; omega
          simp [hj]
      · by_cases hin' : i < n
        · rw [World.cell?_setCells_out b _ _ _ _ (fun _ _ => .inl (by simp; omega))]; exact hm.there i hi
        · by_cases h2 : i < n + m
          · have := hin (i - n) (by omega)
            rw [show 0 + n * 1 + (i - n) = i from by omega] at this
            rw [this]; rfl
          · rw [World.cell?_setCells_out b _ _ _ _ (fun _ _ => .inr (by simp only [hlen]; omega))]; exact hm.there i hi
      · rw [World.frozen?_setCells]; exact hm.free i hi
    · intro hc v' w' hown hgrow
      rcases hown.2 with ⟨_, h0⟩ | ⟨g, cap', cur, rfl, hg', hh, hn, hcm, hsz, htake⟩
      · omega
      · refine hK g cap' w' ?_ ((Below.refl _ _).grown hgrow (Nat.le_trans hm.lo (Nat.le_of_lt hm.lt)) (fun k hk => by cases hk))
        have hlt := lt_of_block hh
        have hc2 : ∀ i, w'.cell? ⟨g, i, none⟩ = cur[i]? := fun i => cell_of_row w' g i cur e (0, 0) hh
        refine ⟨by simp [hm.len, hy.1], hn, hcm, Nat.le_trans (Nat.le_trans hm.lo (Nat.le_of_lt hm.lt)) hg', hlt, fun i hi => ?_, fun i hi => ?_, fun i hi => frozen_of_row w' g i cur e hh⟩
        · rw [hown.cellAt i (by omega), ← List.map_append]
          have : i < (xs ++ ys).length := by simp [hm.len, hy.1]; omega
          simp only [List.getElem?_map, List.getElem?_eq_getElem this]; rfl
        · rw [hc2]; simp; omega
end Go.Proofs.Ytfnfkcafjfhnlaa
namespace Go.Proofs.Ytfnfkcafjfhnlaa
open Go.RowKit
set_option linter.unusedVariables false

/-- A literal of bytes is one's own. -/
theorem mine_new (w : World) (x : Int) (B : Nat) (hB : B ≤ w.heap.size) : Mine (w.alloc (.cells #[.int .u8 x] 5)) B w.heap.size 1 1 [x] := by
  have hc : ∀ i, (w.alloc (.cells #[.int .u8 x] 5)).cell? ⟨w.heap.size, i, none⟩ = (#[Value.int .u8 x] : Array Value)[i]? := fun i => World.cell?_alloc_new w _ _ i
  refine ⟨rfl, Nat.le_refl _, by unfold maxLen; omega, hB, by simp, fun i hi => ?_, fun i hi => ?_, fun i hi => ?_⟩
  · obtain rfl : i = 0 := by omega
    rw [hc]; rfl
  · obtain rfl : i = 0 := by omega
    rw [hc]; rfl
  · exact frozen_of_row _ _ _ _ _ (heap_alloc_new w _)

theorem Mine.keep {w w' : World} {B b n cap k : Nat} {xs : List Int} (h : Mine w B b n cap xs) (hb : Below k w w') (hk : b < k) : Mine w' B b n cap xs :=
  ⟨h.len, h.le, h.max, h.lo, Nat.lt_of_lt_of_le h.lt hb.size, fun i hi => (hb.cell (p := ⟨b, i, none⟩) hk).trans (h.cell i hi), fun i hi => by rw [hb.cell (p := ⟨b, i, none⟩) hk]; exact h.there i hi, fun i hi => (hb.frozen (p := ⟨b, i, none⟩) hk).trans (h.free i hi)⟩

set_option maxHeartbeats 400000 in
theorem bytes_c (V : Int) (h0 : 0 ≤ V) (h1 : V < 18446744073709551616) (w : World) :
    Calls Try.prog 84 #[.int .u64 V] w fun e w' => ∃ g n cap, e = .returned (.slice (some ⟨g, 0, none⟩) n cap) ∧ Mine w' w.heap.size g n cap (enc V.toNat) ∧ Below w.heap.size w w' := by
  obtain ⟨N, hN⟩ : ∃ N, V.toNat = N := ⟨_, rfl⟩
  induction N using Nat.strongRecOn generalizing V w with
  | ind N ih =>
    by_cases hs : V < 128
    · have HE : Hid (enc V.toNat = [V]) := by show _ = _; rw [enc_small (by omega), Int.toNat_of_nonneg h0]
      clear ih hN
      have hm : V % 256 = V := by omega
      go_enter Try.func84, Try.ntmps84
      go_wp2
      go_ret
      refine ⟨w.heap.size, 1, 1, rfl, ?_, (Below.refl _ _).alloc (Nat.le_refl _) _⟩
      rw [HE.out]
      exact mine_new w V _ (Nat.le_refl _)
    · have HE : Hid (enc V.toNat = [V % 128 + 128] ++ enc (V / 128).toNat) := by
        show _ = _
        rw [enc_big (by omega), show ((V.toNat % 128 + 128 : Nat) : Int) = V % 128 + 128 from by omega, show V.toNat / 128 = (V / 128).toNat from by omega]
        rfl
      have IH : Hid (∀ w : World, Calls Try.prog 84 #[.int .u64 (V / 128)] w fun e w' => ∃ g n cap, e = .returned (.slice (some ⟨g, 0, none⟩) n cap) ∧ Mine w' w.heap.size g n cap (enc (V / 128).toNat) ∧ Below w.heap.size w w') :=
        fun w => ih (V / 128).toNat (by omega) (V / 128) (by omega) (by omega) w rfl
      have HLN : Hid ((enc (V / 128).toNat).length ≤ 10) := by show _ ≤ _; rw [enc_length _ (by omega)]; exact (sz_bd _).2
      obtain ⟨i0, hi, hz0, hz1, hz2⟩ := info_parts Try.infoU8
      clear ih hN
      go_enter Try.func84, Try.ntmps84
      go_wp2_with fail
      refine (IH.out _).mono ?_
      rintro e w1 ⟨g, n, cap, rfl, hm, hb⟩
      have HM : Hid (Mine w1 (w.heap.size + 1) g n cap (enc (V / 128).toNat)) := by simp at hm; exact hm
      have HB : Hid (Below (w.heap.size + 1) (w.alloc (.cells #[.int .u8 (V % 128 + 128)] 5)) w1) := by simp at hb; exact hb
      have HM0 : Hid (Mine w1 w.heap.size w.heap.size 1 1 [V % 128 + 128]) := (mine_new w _ _ (Nat.le_refl _)).keep HB.out (by omega)
      have hn : n ≤ 10 := by rw [← hm.len]; exact HLN.out
      clear hm hb
      go_wp2_with (at_builtin; go_must (refine wpList_append_mine _ rfl _ _ 22 rfl 5 i0 Try.underlying22 hi hz0 hz1 hz2 w.heap.size w.heap.size 1 1 [V % 128 + 128] rfl HM0.out (some ⟨g, 0, none⟩) n cap (enc (V / 128).toNat) rfl (fun h => by cases h) HM.out.seg (by omega) ?_); intro g4 c4 w4 hm4 hb4)
      have HM4 : Hid (Mine w4 w.heap.size g4 (1 + n) c4 (enc V.toNat)) := by show Mine _ _ _ _ _ _; rw [HE.out]; exact hm4
      have HB4 : Hid (Below w.heap.size w w4) := (((Below.refl _ w).alloc (Nat.le_refl _) _).trans (HB.out.mono (by omega))).trans hb4
      clear hm4 hb4
      go_wp2
      go_ret
      exact ⟨g4, 1 + n, c4, rfl, HM4.out, HB4.out⟩
end Go.Proofs.Ytfnfkcafjfhnlaa
namespace Go.Proofs.Ytfnfkcafjfhnlaa
open Go.RowKit
set_option linter.unusedVariables false

/-- A slice of bytes as a string. -/
theorem seg_string {P : Program} {w : World} {a : Option Addr} {len : Nat} {xs : List Int} (src dst e : TypeId) (cap : Nat) (h : Seg .u8 w a len xs) (hs : P.underlying src = some (.slice e)) (he : P.underlying e = some (.int .u8)) (hd : P.underlying dst = some .string) :
    (convert src dst (.slice a len cap)).run P w = .ok (.string (strOfNums xs)) w := by
  rcases h.2 with rfl | ⟨b, off, rfl, _, hc⟩
  · obtain rfl : xs = [] := List.eq_nil_of_length_eq_zero h.1
    cases a with
    | none => exact run_convert_bytes_nil w src e hs he 0 cap dst hd
    | some ad =>
      rw [run_convert_bytes_string w src dst e _ 0 cap hs he hd, run_bytesToString w ad 0 cap [] (run_loadCells_list (P := P) w ad [] (fun j v hj => by simp at hj))]
      rfl
  · exact run_convert_bytes_arg w src e hs he b off len cap xs h.1 (fun i hi => by rw [hc i hi]; simp) dst hd
theorem strOfNums_inj {xs ys : List Int} (hx : Bytes xs) (hy : Bytes ys) (h : strOfNums xs = strOfNums ys) : xs = ys := by
  have h1 : xs.map (fun n => UInt8.ofNat n.toNat) = ys.map (fun n => UInt8.ofNat n.toNat) := by
    rw [← strOfNums_data, ← strOfNums_data, h]
  have hl : xs.length = ys.length := by simpa using congrArg List.length h1
  apply List.ext_getElem hl
  intro i i1 i2
  have h2 := congrArg (fun l => l[i]?) h1
  simp [i1, i2] at h2
  have a := hx i i1
  have b := hy i i2
  simp [i1] at a
  simp [i2] at b
  have h3 := congrArg UInt8.toNat h2
  simp [UInt8.toNat_ofNat'] at h3
  omega
theorem str_eq {xs ys : List Int} (hx : Bytes xs) (hy : Bytes ys) : ((strOfNums xs).toList == (strOfNums ys).toList) = decide (xs = ys) := by
  by_cases h : xs = ys
  · subst h; simp
  · have : (strOfNums xs).toList ≠ (strOfNums ys).toList := fun e => h (strOfNums_inj hx hy (by
      rw [ByteArray.toList_eq, ByteArray.toList_eq] at e
      exact Go.WideShapes.bytes_inj e))
    simp [h, this]

theorem same_c (a b : Option Addr) (la ca lb cb : Nat) (xs ys : List Int) (w : World) (h1 : Seg .u8 w a la xs) (h2 : Seg .u8 w b lb ys) (hx : Bytes xs) (hy : Bytes ys) :
    Calls Try.prog 31 #[.slice a la ca, .slice b lb cb] w fun e w' => e = .returned (.bool (decide (xs = ys))) ∧ w' = w := by
  have r1 := seg_string (P := Try.prog) 22 9 5 ca h1 Try.underlying22 Try.underlying5 Try.underlying9
  have r2 := seg_string (P := Try.prog) 22 9 5 cb h2 Try.underlying22 Try.underlying5 Try.underlying9
  have HE : Hid (((strOfNums xs).toList == (strOfNums ys).toList) = decide (xs = ys)) := str_eq hx hy
  clear h1 h2 hx hy
  go_enter Try.func31, Try.ntmps31
  go_wp2
  go_ret
  exact ⟨by rw [← HE.out]; rfl, rfl⟩
end Go.Proofs.Ytfnfkcafjfhnlaa
namespace Go.Proofs.Ytfnfkcafjfhnlaa
open Go.RowKit
set_option linter.unusedVariables false

/-- The document's Writer's block. -/
def Xwr (w : World) (g : Nat) (v : Value) (e : Int) : Prop := w.heap[g]? = some (.cells #[v, .int .i64 e] 51 (0, 0))
theorem Xwr.c0 {w g v e} (h : Xwr w g v e) : w.cell? ⟨g, 0, none⟩ = some v := by rw [cell_of_row w g 0 _ _ _ h]; rfl
theorem Xwr.c1 {w g v e} (h : Xwr w g v e) : w.cell? ⟨g, 1, none⟩ = some (.int .i64 e) := by rw [cell_of_row w g 1 _ _ _ h]; rfl
theorem Xwr.free {w g v e} (h : Xwr w g v e) (i : Nat) : w.frozen? ⟨g, i, none⟩ = false := frozen_of_row w g i _ _ h
theorem Xwr.setV {w g v e} (h : Xwr w g v e) (x : Value) : Xwr (w.setCell ⟨g, 0, none⟩ x) g x e := by
  unfold Xwr; rw [heap_setCell_same w g 0 _ _ _ h]; rfl
theorem Xwr.setE {w g v e} (h : Xwr w g v e) (x : Int) : Xwr (w.setCell ⟨g, 1, none⟩ (.int .i64 x)) g v x := by
  unfold Xwr; rw [heap_setCell_same w g 1 _ _ _ h]; rfl
/-- The document's Writer as plain data: what was laid down, the first error; F: the block that its bytes lie in. -/
structure XW (B : Nat) (w : World) (g : Nat) (v : Value) (ys : List Int) (e : Int) (F : Option Nat) : Prop where
  blk : Xwr w g v e
  own : Own B w v ys.length ys
  fb : v.ownBlock = F
  off : F ≠ some g
  bytes : Bytes ys
  base : B ≤ w.heap.size
/-- What is laid down behind what was, if there is no error yet. -/
def wadd (e : Int) (ys zs : List Int) : List Int := if e = 0 then ys ++ zs else ys
/-- The first error stays. -/
def ferr (e x : Int) : Int := if e = 0 then x else e
/-- What a call of it comes to. -/
def XGoes (B : Nat) (w : World) (g : Nat) (F : Option Nat) (w' : World) (ys' : List Int) (e' : Int) : Prop :=
  ∃ v' F', XW B w' g v' ys' e' F' ∧ Gr (fun k => k = g ∨ F = some k) w w' ∧ (F' = F ∨ ∃ k, F' = some k ∧ w.heap.size ≤ k)
theorem XW.stay {B w g v ys e F} (h : XW B w g v ys e F) : XGoes B w g F w ys e := ⟨v, F, h, Gr.refl _ _, .inl rfl⟩
theorem XW.gr {G : Nat → Prop} {B w w' g v ys e F} (h : XW B w g v ys e F) (hg : Gr G w w') (h1 : ¬ G g) (h2 : ∀ k, F = some k → ¬ G k) : XW B w' g v ys e F := by
  refine ⟨(hg.block g (lt_of_block h.blk) h1).trans h.blk, ⟨h.own.1, ?_⟩, h.fb, h.off, h.bytes, Nat.le_trans h.base hg.size⟩
  rcases h.own.2 with h0 | ⟨b, cap, cur, rfl, hB, hgb, r⟩
  · exact .inl h0
  · exact .inr ⟨b, cap, cur, rfl, hB, (hg.block b (lt_of_block hgb) (h2 b (by rw [← h.fb]; rfl))).trans hgb, r⟩
theorem XW.new {B w w' g v ys e F} (h : XW B w g v ys e F) (hg : w.grownBy w' none) : XW B w' g v ys e F := h.gr (G := fun _ => False) (Gr.of hg (by simp)) (by simp) (by simp)
theorem XGoes.then {B w g F w1 w2 ys1 e1 ys2 e2} (h : XGoes B w g F w1 ys1 e1) (k : ∀ v F', XW B w1 g v ys1 e1 F' → XGoes B w1 g F' w2 ys2 e2) : XGoes B w g F w2 ys2 e2 := by
  obtain ⟨v, F1, h1, g1, f1⟩ := h
  obtain ⟨v2, F2, h2, g2, f2⟩ := k v F1 h1
  refine ⟨v2, F2, h2, ?_, ?_⟩
  · refine ⟨g2.os.trans g1.os, g2.tape.trans g1.tape, g2.output.trans g1.output, Nat.le_trans g1.size g2.size, fun i hi hn => ?_⟩
    refine (g2.block i (Nat.lt_of_lt_of_le hi g1.size) ?_).trans (g1.block i hi hn)
    rintro (h | h)
    · exact hn (.inl h)
    · rcases f1 with f1 | ⟨k', f1, hk⟩
      · exact hn (.inr (by rw [← f1]; exact h))
      · rw [f1] at h; cases h; omega
  · rcases f2 with rfl | ⟨k', f2, hk⟩
    · exact f1
    · exact .inr ⟨k', f2, Nat.le_trans g1.size hk⟩
/-- One step of it, laid open. -/
def XStep (B : Nat) (w : World) (g : Nat) (F : Option Nat) (w' : World) (v' : Value) (ys' : List Int) (e' : Int) (F' : Option Nat) : Prop :=
  XW B w' g v' ys' e' F' ∧ Gr (fun k => k = g ∨ F = some k) w w' ∧ (F' = F ∨ ∃ k, F' = some k ∧ w.heap.size ≤ k)
theorem XStep.seq {B w g F w1 v1 ys1 e1 F1 w2 ys2 e2} (h : XStep B w g F w1 v1 ys1 e1 F1) (k : XGoes B w1 g F1 w2 ys2 e2) : XGoes B w g F w2 ys2 e2 := by
  obtain ⟨h1, g1, f1⟩ := h
  obtain ⟨v2, F2, h2, g2, f2⟩ := k
  refine ⟨v2, F2, h2, ?_, ?_⟩
  · refine ⟨g2.os.trans g1.os, g2.tape.trans g1.tape, g2.output.trans g1.output, Nat.le_trans g1.size g2.size, fun i hi hn => ?_⟩
    refine (g2.block i (Nat.lt_of_lt_of_le hi g1.size) ?_).trans (g1.block i hi hn)
    rintro (h | h)
    · exact hn (.inl h)
    · rcases f1 with f1 | ⟨k', f1, hk⟩
      · exact hn (.inr (by rw [← f1]; exact h))
      · rw [f1] at h; cases h; omega
  · rcases f2 with rfl | ⟨k', f2, hk⟩
    · exact f1
    · exact .inr ⟨k', f2, Nat.le_trans g1.size hk⟩
theorem XGoes.pre {B w w0 g F w1 ys1 e1} (hg : w0.grownBy w none) (h : XGoes B w g F w1 ys1 e1) : XGoes B w0 g F w1 ys1 e1 := by
  obtain ⟨v, F1, h1, g1, f1⟩ := h
  refine ⟨v, F1, h1, (Gr.of hg (by simp)).trans g1, ?_⟩
  rcases f1 with f1 | ⟨k, f1, hk⟩
  · exact .inl f1
  · exact .inr ⟨k, f1, Nat.le_trans hg.size hk⟩

set_option maxRecDepth 20000 in
theorem xlay_c (B g : Nat) (v : Value) (ys : List Int) (e : Int) (F : Option Nat) (ao : Option Addr) (m c : Nat) (zs : List Int) (w : World) (h : XW B w g v ys e F) (hs : Seg .u8 w ao m zs) (hz : Bytes zs) (hao : ao = none → c = 0) (hb : ys.length + m ≤ 140737488355328) :
    Calls Try.prog 83 #[.pointer (some ⟨g, 0, none⟩), .slice ao m c] w fun r w' => r = .returned (.tuple #[]) ∧ XGoes B w g F w' (wadd e ys zs) e := by
  have HW : Hid (XW B w g v ys e F) := h
  obtain ⟨va, vc, rfl, _⟩ := h.own.seg
  have c0 := h.blk.c0
  have c1 := h.blk.c1
  by_cases he : e = 0
  · subst he
    have HS : Hid (Seg .u8 w ao m zs) := hs
    have HZ : Hid (Bytes zs) := hz
    have HAO : Hid (ao = none → c = 0) := hao
    have HB : Hid (ys.length + m ≤ 140737488355328) := hb
    have HML : Hid (zs.length = m) := hs.1
    clear h hs hz hao hb
    go_enter Try.func83, Try.ntmps83
    go_wp2_with (at_builtin; go_must (refine wpList_append_apart _ rfl (.tmp 13) (.tmp 14) rfl B ys.length (.slice va ys.length vc) ys rfl HW.out.own ao m c zs rfl HAO.out HS.out HB.out HW.out.base ?_); go_loud (intro v' w1 hown hgr hat; obtain ⟨a', cap', rfl, hsg, _⟩ := hown.seg; have H1 : Hid (Own B w1 (.slice a' (ys.length + m) cap') (ys.length + m) (ys ++ zs) ∧ w.grownBy w1 F ∧ ((Value.slice a' (ys.length + m) cap').ownBlock = F ∨ (Value.slice a' (ys.length + m) cap').ownBlock = some w.heap.size)) := (by rw [← HW.out.fb]; exact ⟨hown, hgr, hat⟩); have hblk : Xwr w1 g (.slice va ys.length vc) 0 := (hgr.block g (lt_of_block HW.out.blk) (by rw [HW.out.fb]; exact fun e => HW.out.off e.symm)).trans HW.out.blk; have HK : Hid (Xwr w1 g (.slice va ys.length vc) 0) := hblk; have d0 := hblk.c0; have f0 := hblk.free 0; clear hblk hown hgr hat hsg c0 c1))
    go_end0
    refine ⟨rfl, .slice a' (ys.length + m) cap', (Value.slice a' (ys.length + m) cap').ownBlock, ⟨HK.out.setV _, ?_, rfl, ?_, ?_, ?_⟩, ?_, ?_⟩
    · have hl : (ys ++ zs).length = ys.length + m := by rw [List.length_append, HML.out]
      have := H1.out.1.grown (grownBy_cell w1 g 0 (.slice a' (ys.length + m) cap')) (fun b hb e => by
        rw [← hb] at e
        rcases H1.out.2.2 with h | h
        · rw [h] at e; exact HW.out.off e.symm
        · rw [h] at e; cases e; exact absurd (lt_of_block HW.out.blk) (Nat.lt_irrefl _))
      rw [show wadd 0 ys zs = ys ++ zs from rfl, hl]; exact this
    · intro e
      rcases H1.out.2.2 with h | h
      · rw [h] at e; exact HW.out.off e
      · rw [h] at e; cases e; exact absurd (lt_of_block HW.out.blk) (Nat.lt_irrefl _)
    · rw [show wadd 0 ys zs = ys ++ zs from rfl]
      intro i hi
      rw [List.length_append] at hi
      by_cases h1 : i < ys.length
      · rw [List.getElem?_append_left h1]; exact HW.out.bytes i h1
      · rw [List.getElem?_append_right (by omega)]; exact HZ.out _ (by omega)
    · exact Nat.le_trans HW.out.base (Nat.le_trans H1.out.2.1.size (grownBy_cell w1 g 0 (.slice a' (ys.length + m) cap')).size)
    · exact (Gr.of H1.out.2.1 (fun k hk => .inl (.inr hk))).trans (Gr.of (grownBy_cell w1 g 0 _) (fun k hk => by cases hk; exact .inl (.inl rfl)))
    · rcases H1.out.2.2 with h | h
      · exact .inl h
      · exact .inr ⟨_, h, Nat.le_refl _⟩
  · have hbq : (e == 0) = false := by simp [he]
    have HE : Hid (wadd e ys zs = ys) := by show _ = _; rw [wadd, if_neg he]
    rw [HE.out]
    clear h hs hz hao hb he HE
    go_enter Try.func83, Try.ntmps83
    go_wp2
    go_end0
    exact ⟨rfl, HW.out.stay⟩

theorem xwfail_c (B g : Nat) (v : Value) (ys : List Int) (e x : Int) (F : Option Nat) (w : World) (h : XW B w g v ys e F) :
    Calls Try.prog 70 #[.pointer (some ⟨g, 0, none⟩), .int .i64 x] w fun r w' => r = .returned (.tuple #[]) ∧ XGoes B w g F w' ys (ferr e x) := by
  have HW : Hid (XW B w g v ys e F) := h
  have c1 := h.blk.c1
  have f1 := h.blk.free 1
  clear h
  by_cases he : e = 0
  · subst he
    go_enter Try.func70, Try.ntmps70
    go_wp2
    go_end0
    have hg := grownBy_cell w g 1 (.int .i64 x)
    refine ⟨rfl, v, F, ⟨HW.out.blk.setE x, HW.out.own.grown hg (fun b hb e => by rw [HW.out.fb] at hb; rw [← e] at hb; exact HW.out.off hb), HW.out.fb, HW.out.off, HW.out.bytes, Nat.le_trans HW.out.base hg.size⟩, Gr.of hg (fun k hk => by cases hk; exact .inl (.inl rfl)), .inl rfl⟩
  · have hbq : (e == 0) = false := by simp [he]
    have HE : Hid (ferr e x = e) := by show _ = _; rw [ferr, if_neg he]
    rw [HE.out]
    clear he HE
    go_enter Try.func70, Try.ntmps70
    go_wp2
    go_end0
    exact ⟨rfl, HW.out.stay⟩

set_option maxRecDepth 20000 in
theorem xwuint_c (B g : Nat) (v : Value) (ys : List Int) (e V : Int) (F : Option Nat) (w : World) (h : XW B w g v ys e F) (h0 : 0 ≤ V) (h1 : V < 18446744073709551616) (hb : ys.length + 10 ≤ 140737488355328) :
    Calls Try.prog 61 #[.pointer (some ⟨g, 0, none⟩), .int .u64 V] w fun r w' => r = .returned (.tuple #[]) ∧ XGoes B w g F w' (wadd e ys (enc V.toNat)) e := by
  have HW : Hid (XW B w g v ys e F) := h
  have HB : Hid (ys.length + 10 ≤ 140737488355328) := hb
  have HC : Hid (Calls Try.prog 84 #[.int .u64 V] w fun e w' => ∃ g n cap, e = .returned (.slice (some ⟨g, 0, none⟩) n cap) ∧ Mine w' w.heap.size g n cap (enc V.toNat) ∧ Below w.heap.size w w') := bytes_c V h0 h1 w
  have HEL : Hid ((enc V.toNat).length ≤ 10) := by
    show _ ≤ _
    rw [enc_length _ (by omega)]
    exact (sz_bd _).2
  obtain ⟨zs, hzs⟩ : ∃ zs, zs = enc V.toNat := ⟨_, rfl⟩
  rw [← hzs] at HC HEL ⊢
  have HZ : Hid (Bytes zs) := by rw [hzs]; exact bytes_of_mem (enc_bytes _)
  clear h hb h0 h1 hzs
  go_enter Try.func61, Try.ntmps61
  go_wp2_with fail
  refine HC.out.mono ?_
  rintro r w1 ⟨g1, n1, cap1, rfl, hm, hbl⟩
  have H1 : Hid (Mine w1 w.heap.size g1 n1 cap1 zs ∧ Below w.heap.size w w1) := ⟨hm, hbl⟩
  clear hm hbl
  go_wp2_with fail
  refine (xlay_c B g v ys e F _ n1 cap1 zs w1 (HW.out.new (grownBy_below H1.out.2 _)) H1.out.1.seg HZ.out (fun h => by cases h) ?_).mono ?_
  · have := H1.out.1.len; have := HEL.out; have := HB.out; omega
  · rintro r w2 ⟨rfl, h2⟩
    have H2 : Hid (XGoes B w g F w2 (wadd e ys zs) e) := XGoes.pre (grownBy_below H1.out.2 _) h2
    clear h2
    go_wp2
    go_end0
    exact ⟨rfl, H2.out⟩
end Go.Proofs.Ytfnfkcafjfhnlaa
namespace Go.Proofs.Ytfnfkcafjfhnlaa
open Go.RowKit
set_option linter.unusedVariables false

theorem bytesRow_size (s : ByteArray) (cap : Nat) (h : s.size ≤ cap) : (bytesRow s cap).size = cap := by
  unfold bytesRow
  rw [Array.size_append, Array.size_map, Array.size_replicate]
  have e : s.data.size = s.size := rfl
  omega
theorem strOfNums_at (xs : List Int) (hx : Bytes xs) (cap i : Nat) (hi : i < xs.length) : (bytesRow (strOfNums xs) cap)[i]? = some (.int .u8 (xs[i]?.getD 0)) := by
  rw [bytesRow_at _ _ _ (by simpa [strOfNums] using hi)]
  have := hx i hi
  simp [hi] at this
  simp [strOfNums, hi, UInt8.toNat_ofNat']
  omega

end Go.Proofs.Ytfnfkcafjfhnlaa
namespace Go.Proofs.Ytfnfkcafjfhnlaa
open Go.RowKit
set_option linter.unusedVariables false

/-- The error of a number that does not fit. -/
def wie (v most : Int) : Int := if v < 0 ∨ most < 0 then 1 else if most < v then 31 else 0
/-- The error of a text that does not fit. -/
def wte (n : Nat) (most : Int) : Int := if most < 0 then 1 else if most < n then 31 else 0
/-- A yes or no as a byte. -/
def fb (f : Bool) : Int := if f then 1 else 0
/-- A text's bytes. -/
def sb (s : ByteArray) : List Int := s.data.toList.map fun c => (c.toNat : Int)
theorem sb_length (s : ByteArray) : (sb s).length = s.size := by simp [sb]
theorem sb_bytes (s : ByteArray) : Bytes (sb s) := bytes_of_mem (fun c hc => by
  obtain ⟨u, _, rfl⟩ := List.mem_map.1 hc
  have := u.toNat_lt
  omega)
theorem str_sb (s : ByteArray) : strOfNums (sb s) = s := by
  have h : (strOfNums (sb s)).data.toList = s.data.toList := by
    rw [strOfNums_data]
    simp only [sb, List.map_map]
    conv => rhs; rw [← List.map_id s.data.toList]
    apply List.map_congr_left
    intro u _
    simp
  cases s with
  | mk d =>
    have h2 : (strOfNums (sb ⟨d⟩)).data = d := by
      apply Array.ext'
      exact h
    cases h3 : strOfNums (sb ⟨d⟩)
    rw [h3] at h2
    rw [← h2]
theorem wadd_err {e : Int} (he : e ≠ 0) (ys zs : List Int) : wadd e ys zs = ys := by rw [wadd, if_neg he]
theorem ferr_zero (e : Int) : ferr e 0 = e := by unfold ferr; split <;> omega

theorem wrap_u64_bd (x : Int) : 0 ≤ IntKind.u64.wrap x ∧ IntKind.u64.wrap x < 18446744073709551616 := by
  rw [IntKind.wrap_u64]; omega
set_option maxRecDepth 20000 in
theorem xwint_c (B g : Nat) (v : Value) (ys : List Int) (e x most : Int) (F : Option Nat) (w : World) (h : XW B w g v ys e F) (hx : x ≤ 9223372036854775807) (hx0 : -9223372036854775808 ≤ x) (hb : ys.length + 10 ≤ 140737488355328) :
    Calls Try.prog 63 #[.pointer (some ⟨g, 0, none⟩), .int .i64 x, .int .i64 most] w fun r w' => r = .returned (.tuple #[]) ∧ XGoes B w g F w' (wadd (ferr e (wie x most)) ys (enc x.toNat)) (ferr e (wie x most)) := by
  have HW : Hid (XW B w g v ys e F) := h
  obtain ⟨E, hE⟩ : ∃ E, E = wie x most := ⟨_, rfl⟩
  rw [← hE]
  have HU : Hid (∀ (v : Value) (F : Option Nat) (V : Int) (w : World), XW B w g v ys (ferr e E) F → 0 ≤ V → V < 18446744073709551616 → (E = 0 → V = x) → Calls Try.prog 61 #[.pointer (some ⟨g, 0, none⟩), .int .u64 V] w fun r w' => r = .returned (.tuple #[]) ∧ XGoes B w g F w' (wadd (ferr e E) ys (enc x.toNat)) (ferr e E)) := by
    intro v F V w h h0 h1 hV
    refine (xwuint_c B g v ys (ferr e E) V F w h h0 h1 hb).mono (fun _ _ ⟨a, b⟩ => ⟨a, ?_⟩)
    by_cases h2 : ferr e E = 0
    · have : E = 0 := by
        unfold ferr at h2
        split at h2
        · exact h2
        · contradiction
      rw [hV this] at b; exact b
    · rw [wadd_err h2] at b ⊢; exact b
  have HF : Hid (∀ w v F, XW B w g v ys e F → Calls Try.prog 70 #[.pointer (some ⟨g, 0, none⟩), .int .i64 E] w fun r w' => r = .returned (.tuple #[]) ∧ XGoes B w g F w' ys (ferr e E)) := fun w v F h => xwfail_c B g v ys e E F w h
  obtain ⟨E1, hE1⟩ : ∃ E1, E1 = ferr e E := ⟨_, rfl⟩
  obtain ⟨Y1, hY1⟩ : ∃ Y1, Y1 = wadd (ferr e E) ys (enc x.toNat) := ⟨_, rfl⟩
  rw [← hY1, ← hE1] at HU ⊢
  rw [← hE1] at HF
  have HE0 : Hid (E = 0 → E1 = e) := fun h => by rw [hE1, h, ferr_zero]
  clear h hb hE1 hY1
  by_cases h0 : x < 0 ∨ most < 0
  · obtain rfl : E = 1 := by rw [hE, wie, if_pos h0]
    clear hE HE0
    by_cases h1 : x < 0
    · clear h0
      go_enter Try.func63, Try.ntmps63
      go_wp2_with fail
      refine (HF.out w v F HW.out).mono ?_
      rintro r w1 ⟨rfl, v1, F1, hw1⟩
      have H1 : Hid (XStep B w g F w1 v1 ys E1 F1) := hw1
      clear hw1
      go_wp2_with fail
      refine (HU.out v1 F1 _ w1 H1.out.1 ?_ ?_ (fun h => by cases h)).mono ?_
      · exact (wrap_u64_bd x).1
      · exact (wrap_u64_bd x).2
      · rintro r w2 ⟨rfl, h2⟩
        have H2 : Hid (XGoes B w g F w2 Y1 E1) := H1.out.seq h2
        clear h2
        go_wp2
        go_end0
        exact ⟨rfl, H2.out⟩
    · have hx1 : 0 ≤ x := by omega
      have hm1 : most < 0 := by omega
      clear h0 h1
      go_enter Try.func63, Try.ntmps63
      go_wp2_with fail
      refine (HF.out w v F HW.out).mono ?_
      rintro r w1 ⟨rfl, v1, F1, hw1⟩
      have H1 : Hid (XStep B w g F w1 v1 ys E1 F1) := hw1
      clear hw1
      go_wp2_with fail
      refine (HU.out v1 F1 _ w1 H1.out.1 ?_ ?_ (fun h => by cases h)).mono ?_
      · omega
      · omega
      · rintro r w2 ⟨rfl, h2⟩
        have H2 : Hid (XGoes B w g F w2 Y1 E1) := H1.out.seq h2
        clear h2
        go_wp2
        go_end0
        exact ⟨rfl, H2.out⟩
  · have hx1 : 0 ≤ x := by omega
    have hm1 : 0 ≤ most := by omega
    by_cases h2 : most < x
    · obtain rfl : E = 31 := by rw [hE, wie, if_neg h0, if_pos h2]
      clear hE HE0 h0
      go_enter Try.func63, Try.ntmps63
      go_wp2_with fail
      refine (HF.out w v F HW.out).mono ?_
      rintro r w1 ⟨rfl, v1, F1, hw1⟩
      have H1 : Hid (XStep B w g F w1 v1 ys E1 F1) := hw1
      clear hw1
      go_wp2_with fail
      refine (HU.out v1 F1 _ w1 H1.out.1 ?_ ?_ (fun h => by cases h)).mono ?_
      · omega
      · omega
      · rintro r w2 ⟨rfl, h2⟩
        have H2 : Hid (XGoes B w g F w2 Y1 E1) := H1.out.seq h2
        clear h2
        go_wp2
        go_end0
        exact ⟨rfl, H2.out⟩
    · obtain rfl : E = 0 := by rw [hE, wie, if_neg h0, if_neg h2]
      obtain rfl := HE0.out rfl
      have hd : decide (most < x) = false := by simp; omega
      clear hE HE0 h0
      go_enter Try.func63, Try.ntmps63
      go_wp2_with fail
      refine (HU.out v F _ w HW.out ?_ ?_ (fun _ => ?_)).mono ?_
      · omega
      · omega
      · omega
      · rintro r w2 ⟨rfl, h2⟩
        have H2 : Hid (XGoes B w g F w2 Y1 E1) := h2
        clear h2
        go_wp2
        go_end0
        exact ⟨rfl, H2.out⟩

set_option maxRecDepth 20000 in
theorem xwflag_c (B g : Nat) (v : Value) (ys : List Int) (e : Int) (f : Bool) (F : Option Nat) (w : World) (h : XW B w g v ys e F) (hb : ys.length + 10 ≤ 140737488355328) :
    Calls Try.prog 65 #[.pointer (some ⟨g, 0, none⟩), .bool f] w fun r w' => r = .returned (.tuple #[]) ∧ XGoes B w g F w' (wadd e ys [fb f]) e := by
  have HW : Hid (XW B w g v ys e F) := h
  have HB : Hid (ys.length + 1 ≤ 140737488355328) := by show _ ≤ _; omega
  clear h hb
  cases f with
  | true =>
    go_enter Try.func65, Try.ntmps65
    go_wp2_with fail
    refine (xlay_c B g v ys e F _ 1 1 [1] _ (HW.out.new (World.grownBy_alloc _ _ _)) ?_ ?_ (fun h => by cases h) HB.out).mono ?_
    · exact seg_new _ _ _ _ _ _ rfl rfl
    · intro i hi; simp at hi; subst hi; decide
    · rintro r w2 ⟨rfl, h2⟩
      have H2 : Hid (XGoes B w g F w2 (wadd e ys [1]) e) := XGoes.pre (World.grownBy_alloc _ _ _) h2
      clear h2
      go_wp2
      go_end0
      exact ⟨rfl, H2.out⟩
  | false =>
    go_enter Try.func65, Try.ntmps65
    go_wp2_with fail
    refine (xlay_c B g v ys e F _ 1 1 [0] _ (HW.out.new (World.grownBy_alloc _ _ _)) ?_ ?_ (fun h => by cases h) HB.out).mono ?_
    · exact seg_new _ _ _ _ _ _ rfl rfl
    · intro i hi; simp at hi; subst hi; decide
    · rintro r w2 ⟨rfl, h2⟩
      have H2 : Hid (XGoes B w g F w2 (wadd e ys [0]) e) := XGoes.pre (World.grownBy_alloc _ _ _) h2
      clear h2
      go_wp2
      go_end0
      exact ⟨rfl, H2.out⟩
end Go.Proofs.Ytfnfkcafjfhnlaa
namespace Go.Proofs.Ytfnfkcafjfhnlaa
open Go.RowKit
set_option linter.unusedVariables false

/-- How many bytes two lists begin with alike. -/
def lc : List UInt8 → List UInt8 → Nat
  | x :: a, y :: b => if x = y then lc a b + 1 else 0
  | _, _ => 0
theorem lc_le : ∀ a b : List UInt8, lc a b ≤ a.length ∧ lc a b ≤ b.length
  | [], b => by simp [lc]
  | x :: a, [] => by simp [lc]
  | x :: a, y :: b => by
    have := lc_le a b
    unfold lc
    split
    · simp; omega
    · simp
theorem lc_cons {a b : List UInt8} {k : Nat} (ha : k < a.length) (hb : k < b.length) : lc (a.drop k) (b.drop k) = if a[k] = b[k] then lc (a.drop (k + 1)) (b.drop (k + 1)) + 1 else 0 := by
  rw [List.drop_eq_getElem_cons ha, List.drop_eq_getElem_cons hb]
  rfl
theorem lc_end {a b : List UInt8} {k : Nat} (h : a.length ≤ k ∨ b.length ≤ k) : lc (a.drop k) (b.drop k) = 0 := by
  rcases h with h | h
  · rw [List.drop_eq_nil_of_le h]; simp [lc]
  · rw [List.drop_eq_nil_of_le h]
    cases a.drop k <;> simp [lc]
theorem drew_add (w : World) (n m : Nat) : (w.drewN n).drewN m = w.drewN (n + m) := by simp [World.drewN, Nat.add_assoc]
def lcs (s t : ByteArray) : Nat := lc s.data.toList t.data.toList
set_option maxRecDepth 20000 in
set_option maxHeartbeats 1000000 in
theorem shared_c (s t : ByteArray) (hs : s.size ≤ 1125899906842624) (ht : t.size ≤ 1125899906842624) (w : World) : Calls Try.prog 74 #[.string s, .string t] w fun r w' => r = .returned (.int .i64 (lcs s t : Int)) ∧ ∃ n, w' = w.drewN n := by
  obtain ⟨m, hm⟩ : ∃ m, m = min s.size t.size := ⟨_, rfl⟩
  have HM : Hid (m = min s.size t.size) := hm
  have hm1 : m ≤ s.size := by rw [hm]; exact Nat.min_le_left _ _
  have hm2 : m ≤ t.size := by rw [hm]; exact Nat.min_le_right _ _
  have hm3 : s.size ≤ m ∨ t.size ≤ m := by
    rw [hm]
    rcases Nat.le_total s.size t.size with h | h
    · exact .inl (by rw [Nat.min_eq_left h]; exact Nat.le_refl _)
    · exact .inr (by rw [Nat.min_eq_right h]; exact Nat.le_refl _)
  clear hm
  go_enter Try.func74, Try.ntmps74
  go_wp2
  go_loopw [5] (fun i wr => ∃ k n : Nat, k ≤ m ∧ i = .int .i64 k ∧ wr = w.drewN n ∧ Hid (lcs s t = k + lc (s.data.toList.drop k) (t.data.toList.drop k))) (fun i _ => m - (intOf i).toNat)
  case atStart => exact ⟨0, 0, Nat.zero_le _, rfl, rfl, by show _ = _; simp [lcs]⟩
  case round =>
    obtain ⟨k, n, hk, rfl, rfl, HE⟩ := hrel
    by_cases hlt : k < m
    · have hk1 : k < s.size := by omega
      have hk2 : k < t.size := by omega
      have hk0 : (0 : Int) ≤ (k : Int) := by omega
      have HL1 : Hid (k < s.data.toList.length) := by show _ < _; simpa using hk1
      have HL2 : Hid (k < t.data.toList.length) := by show _ < _; simpa using hk2
      have HC : Hid (lc (s.data.toList.drop k) (t.data.toList.drop k) = if s[k] = t[k] then lc (s.data.toList.drop (k + 1)) (t.data.toList.drop (k + 1)) + 1 else 0) := lc_cons HL1.out HL2.out
      by_cases hq : s[k] = t[k]
      · have he : ((s[k].toNat : Int) == (t[k].toNat : Int)) = true := by rw [hq]; simp
        have HN : Hid (lcs s t = (k + 1) + lc (s.data.toList.drop (k + 1)) (t.data.toList.drop (k + 1))) := by
          show _ = _
          rw [HE.out, HC.out, if_pos hq]; omega
        clear HE
        by_cases hmi : (t.size : Int) < (s.size : Int)
        all_goals
          go_wp2
          go_quiet (fail)
          go_wp2
          go_roundw
          case rel => exact ⟨k + 1, _, by omega, by go_num, rfl, HN⟩
          case measure => simp [intOf]; omega
      · have he : ((s[k].toNat : Int) == (t[k].toNat : Int)) = false := by
          have : s[k].toNat ≠ t[k].toNat := fun e => hq (UInt8.toNat_inj.1 e)
          simp; omega
        have HN : Hid (lcs s t = k) := by
          show _ = _
          rw [HE.out, HC.out, if_neg hq]; omega
        clear HE hq HC
        by_cases hmi : (t.size : Int) < (s.size : Int)
        all_goals
          go_wp2
          go_quiet (fail)
          go_wp2
          go_ret
          exact ⟨ret_int (by rw [HN.out]), n + nq, drew_add w n nq⟩
    · have HN : Hid (lcs s t = k) := by
        show _ = _
        rw [HE.out, lc_end (by simp; omega)]; omega
      clear HE
      by_cases hmi : (t.size : Int) < (s.size : Int)
      · have hx : decide (k < t.size) = false := by simp; omega
        go_wp2
        go_quiet (fail)
        go_wp2
        go_ret
        exact ⟨ret_int (by rw [HN.out]), n + nq, drew_add w n nq⟩
      · have hx : decide (k < s.size) = false := by simp; omega
        go_wp2
        go_quiet (fail)
        go_wp2
        go_ret
        exact ⟨ret_int (by rw [HN.out]), n + nq, drew_add w n nq⟩
set_option maxRecDepth 20000 in
set_option maxHeartbeats 1000000 in
theorem xshared_c (s t : ByteArray) (hs : s.size ≤ 1125899906842624) (ht : t.size ≤ 1125899906842624) (w : World) : Calls Try.prog 75 #[.string s, .string t] w fun r w' => r = .returned (.int .i64 (lcs s t : Int)) ∧ ∃ n, w' = w.drewN n := by
  obtain ⟨m, hm⟩ : ∃ m, m = min s.size t.size := ⟨_, rfl⟩
  have HM : Hid (m = min s.size t.size) := hm
  have hm1 : m ≤ s.size := by rw [hm]; exact Nat.min_le_left _ _
  have hm2 : m ≤ t.size := by rw [hm]; exact Nat.min_le_right _ _
  have hm3 : s.size ≤ m ∨ t.size ≤ m := by
    rw [hm]
    rcases Nat.le_total s.size t.size with h | h
    · exact .inl (by rw [Nat.min_eq_left h]; exact Nat.le_refl _)
    · exact .inr (by rw [Nat.min_eq_right h]; exact Nat.le_refl _)
  clear hm
  go_enter Try.func75, Try.ntmps75
  go_wp2
  go_loopw [5] (fun i wr => ∃ k n : Nat, k ≤ m ∧ i = .int .i64 k ∧ wr = w.drewN n ∧ Hid (lcs s t = k + lc (s.data.toList.drop k) (t.data.toList.drop k))) (fun i _ => m - (intOf i).toNat)
  case atStart => exact ⟨0, 0, Nat.zero_le _, rfl, rfl, by show _ = _; simp [lcs]⟩
  case round =>
    obtain ⟨k, n, hk, rfl, rfl, HE⟩ := hrel
    by_cases hlt : k < m
    · have hk1 : k < s.size := by omega
      have hk2 : k < t.size := by omega
      have hk0 : (0 : Int) ≤ (k : Int) := by omega
      have HL1 : Hid (k < s.data.toList.length) := by show _ < _; simpa using hk1
      have HL2 : Hid (k < t.data.toList.length) := by show _ < _; simpa using hk2
      have HC : Hid (lc (s.data.toList.drop k) (t.data.toList.drop k) = if s[k] = t[k] then lc (s.data.toList.drop (k + 1)) (t.data.toList.drop (k + 1)) + 1 else 0) := lc_cons HL1.out HL2.out
      by_cases hq : s[k] = t[k]
      · have he : ((s[k].toNat : Int) == (t[k].toNat : Int)) = true := by rw [hq]; simp
        have HN : Hid (lcs s t = (k + 1) + lc (s.data.toList.drop (k + 1)) (t.data.toList.drop (k + 1))) := by
          show _ = _
          rw [HE.out, HC.out, if_pos hq]; omega
        clear HE
        go_wp2
        go_quiet (fail)
        go_wp2
        go_roundw
        case rel => exact ⟨k + 1, _, by omega, by go_num, rfl, HN⟩
        case measure => simp [intOf]; omega
      · have he : ((s[k].toNat : Int) == (t[k].toNat : Int)) = false := by
          have : s[k].toNat ≠ t[k].toNat := fun e => hq (UInt8.toNat_inj.1 e)
          simp; omega
        have HN : Hid (lcs s t = k) := by
          show _ = _
          rw [HE.out, HC.out, if_neg hq]; omega
        clear HE hq HC
        go_wp2
        go_quiet (fail)
        go_wp2
        go_ret
        exact ⟨ret_int (by rw [HN.out]), n + nq, drew_add w n nq⟩
    · have HN : Hid (lcs s t = k) := by
        show _ = _
        rw [HE.out, lc_end (by simp; omega)]; omega
      clear HE
      by_cases hmi : k < s.size
      · have hx : decide (k < t.size) = false := by simp; omega
        go_wp2
        go_quiet (fail)
        go_wp2
        go_ret
        exact ⟨ret_int (by rw [HN.out]), n + nq, drew_add w n nq⟩
      · have hx : decide (k < s.size) = false := by simp; omega
        go_wp2
        go_quiet (fail)
        go_wp2
        go_ret
        exact ⟨ret_int (by rw [HN.out]), n + nq, drew_add w n nq⟩
theorem lcs_none (s : ByteArray) : lcs ByteArray.empty s = 0 := by simp [lcs, lc]
end Go.Proofs.Ytfnfkcafjfhnlaa

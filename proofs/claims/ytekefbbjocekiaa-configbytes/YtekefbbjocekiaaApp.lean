/-
  A law for 'append(s, t...)' over bytes, s in memory that the call made itself: whatever room there is, what comes out reads as the one and then the other. It speaks of every program. Condition: both together take at most 2^47 bytes.
-/
import Derived.Test.YtekefbbjocekiaaRow
import Derived.ArgAppend
namespace Go.Proofs.Ytekefbbjocekiaa
open Go.RowKit
set_option linter.unusedVariables false

/-- Memory of one's own: block b begins with these bytes, and 'cap' places of it may be written. -/
structure Mine (w : World) (B b n cap : Nat) (xs : List Int) : Prop where
  len : xs.length = n
  le : n ≤ cap
  max : cap ≤ maxLen
  lo : B ≤ b
  lt : b < w.heap.size
  cell : ∀ i, i < n → w.cell? ⟨b, i, none⟩ = some (.int .u8 (xs[i]?.getD 0))
  there : ∀ i, i < cap → (w.cell? ⟨b, i, none⟩).isSome = true
  free : ∀ i, i < cap → w.frozen? ⟨b, i, none⟩ = false
theorem Mine.keep {w w' : World} {B b n cap k : Nat} {xs : List Int} (h : Mine w B b n cap xs) (hb : Below k w w') (hk : b < k) : Mine w' B b n cap xs :=
  ⟨h.len, h.le, h.max, h.lo, Nat.lt_of_lt_of_le h.lt hb.size, fun i hi => (hb.cell (p := ⟨b, i, none⟩) hk).trans (h.cell i hi), fun i hi => by rw [hb.cell (p := ⟨b, i, none⟩) hk]; exact h.there i hi, fun i hi => (hb.frozen (p := ⟨b, i, none⟩) hk).trans (h.free i hi)⟩
theorem Mine.seg {w B b n cap xs} (h : Mine w B b n cap xs) : Seg .u8 w (some ⟨b, 0, none⟩) n xs :=
  ⟨h.len, .inr ⟨b, 0, rfl, h.lt, fun i hi => by rw [Nat.zero_add]; exact h.cell i hi⟩⟩

theorem below_setCells {B b : Nat} {w0 : World} (hB : B ≤ b) : ∀ (vs : List Value) (o : Nat) (w : World), Below B w0 w → Below B w0 (w.setCells b o vs)
  | [], _, _, h => h
  | v :: r, o, w, h => by rw [World.setCells]; exact below_setCells hB r (o + 1) _ (h.setCell hB v)
theorem size_setCells (b : Nat) : ∀ (vs : List Value) (o : Nat) (w : World), (w.setCells b o vs).heap.size = w.heap.size
  | [], _, _ => rfl
  | v :: r, o, w => by rw [World.setCells, size_setCells b r]; simp

theorem seg_news {k : IntKind} {w : World} {a : Option Addr} {m : Nat} {ys : List Int} (h : Seg k w a m ys) (ad : Addr) (ha : a = some ad) : ∀ j u, (ys.map (Value.int k))[j]? = some u → w.cell? (ad.add j) = some u := by
  intro j u hj
  have hjl : j < ys.length := by
    rcases Nat.lt_or_ge j ys.length with h' | h'
    · exact h'
    · rw [List.getElem?_eq_none (by simpa using h')] at hj; cases hj
  rcases h.2 with h0 | ⟨b, off, hb, _, hc⟩
  · rw [h.1] at hjl; omega
  · rw [hb] at ha; cases ha
    rw [Go.WideShapes.add_plain, hc j (by rw [← h.1]; exact hjl), ← hj]
    simp [hjl]

theorem wpList_append_mine {P : Program} (w : World) {ops : Array Oper} {rest : List Oper} {o : Oper} {a : Act} {Q : Exit → Act → World → Prop}
    (hg : o.guard = none) (s x : Operand) (t : TypeId) (hop : o.op = Op.call { callee := Callee.builtin Builtin.append, args := #[s, x], argTypes := #[t, t] })
    (e : TypeId) (i : TypeInfo) (h1 : P.underlying t = some (.slice e)) (h2 : P.info? e = some i) (h3 : i.zero = some (.int .u8 0)) (h4 : i.size = 1) (h5 : i.bytes = 1)
    (B b n cap : Nat) (xs : List Int) (hs : a.eval s = .slice (some ⟨b, 0, none⟩) n cap) (hm : Mine w B b n cap xs)
    (ao : Option Addr) (m c : Nat) (ys : List Int) (hx : a.eval x = .slice ao m c) (hao : ao = none → c = 0) (hy : Seg .u8 w ao m ys) (hb : n + m ≤ 140737488355328)
    (hK : ∀ b' cap' w', Mine w' B b' (n + m) cap' (xs ++ ys) → Below B w w' → wpList P ops Q rest (a.put o.dst (.slice (some ⟨b', 0, none⟩) (n + m) cap')) w') :
    wpList P ops Q (o :: rest) a w := by
  cases ao with
  | none =>
    have hm0 : m = 0 := by
      rcases hy.2 with h0 | ⟨_, _, h, _⟩
      · exact h0
      · cases h
    subst hm0
    obtain rfl : ys = [] := List.eq_nil_of_length_eq_zero hy.1
    have hc0 := hao rfl
    subst hc0
    refine wpList_plain hg fun K hK' => ?_
    have hrun : (Builtin.append_ #[t, t] o.type #[.slice (some ⟨b, 0, none⟩) n cap, .slice none 0 0]).run P w = .ok (.slice (some ⟨b, 0, none⟩) n cap) w := by
      simp [Builtin.append_, run_underlying h1, sizeOf, typeInfo, h2, Builtin.lenOf, Builtin.firstCells, hm.le, storeCells]
    unfold Oper.wp
    simp [execOp, hop, resolve, invoke, builtin, hs, hx, hrun, Result.andThen]
    have := hK b cap w (by simpa using hm) (Below.refl _ _)
    exact hK' _ _ (by simpa using this)
  | some ad =>
    refine wpList_append_arg w hg s x t hop e i (.int .u8 0) 1 1 h1 h2 h3 h4 h5 rfl (by decide) b 0 n cap (xs.map (Value.int .u8)) hs (by simp [hm.len]) ?_ ad m c (ys.map (Value.int .u8)) hx (by simp [hy.1]) (seg_news hy ad rfl) ?_ ?_ (by unfold maxLen; omega) (by omega) ?_ ?_
    · intro j u hj
      have := seg_news hm.seg ⟨b, 0, none⟩ rfl j u hj
      rwa [Go.WideShapes.add_plain] at this
    · intro u hu; obtain ⟨z, _, rfl⟩ := List.mem_map.1 hu; rfl
    · intro hr j hj
      simp only [List.length_map, hy.1] at hj
      exact ⟨by rw [show 0 + n * 1 + j = n + j from by omega]; exact hm.there _ (by omega), by rw [show 0 + n * 1 + j = n + j from by omega]; exact hm.free _ (by omega)⟩
    · intro hr
      refine hK b cap _ ?_ (below_setCells hm.lo _ _ _ (Below.refl _ _))
      have hlen : (ys.map (Value.int .u8)).length = m := by simp [hy.1]
      have hin := World.cell?_setCells_in b (ys.map (Value.int .u8)) (0 + n * 1) w (fun j hj => by rw [show 0 + n * 1 + j = n + j from by omega]; exact hm.there _ (by omega))
      refine ⟨by simp [hm.len, hy.1], hr, hm.max, hm.lo, by rw [size_setCells]; exact hm.lt, fun i hi => ?_, fun i hi => ?_, fun i hi => ?_⟩
      · by_cases hin' : i < n
        · rw [World.cell?_setCells_out b _ _ _ _ (fun _ _ => .inl (by simp; omega)), hm.cell i hin', List.getElem?_append_left (by rw [hm.len]; exact hin')]
        · have := hin (i - n) (by omega)
          rw [show 0 + n * 1 + (i - n) = i from by omega] at this
          rw [this, List.getElem?_append_right (by rw [hm.len]; omega), hm.len]
          have hj : i - n < ys.length := by rw [hy.1]; omega
          simp [hj]
      · by_cases hin' : i < n
        · rw [World.cell?_setCells_out b _ _ _ _ (fun _ _ => .inl (by simp; omega))]; exact hm.there i hi
        · by_cases h2 : i < n + m
          · have := hin (i - n) (by omega)
            rw [show 0 + n * 1 + (i - n) = i from by omega] at this
            rw [this]; rfl
          · rw [World.cell?_setCells_out b _ _ _ _ (fun _ _ => .inr (by simp only [hlen]; omega))]; exact hm.there i hi
      · rw [World.frozen?_setCells]; exact hm.free i hi
    · intro hc v' w' hown hgrow
      rcases hown.2 with ⟨_, h0⟩ | ⟨g, cap', cur, rfl, hg', hh, hn, hcm, hsz, htake⟩
      · omega
      · refine hK g cap' w' ?_ ((Below.refl _ _).grown hgrow (Nat.le_trans hm.lo (Nat.le_of_lt hm.lt)) (fun k hk => by cases hk))
        have hlt := lt_of_block hh
        have hc2 : ∀ i, w'.cell? ⟨g, i, none⟩ = cur[i]? := fun i => cell_of_row w' g i cur e (0, 0) hh
        refine ⟨by simp [hm.len, hy.1], hn, hcm, Nat.le_trans (Nat.le_trans hm.lo (Nat.le_of_lt hm.lt)) hg', hlt, fun i hi => ?_, fun i hi => ?_, fun i hi => frozen_of_row w' g i cur e hh⟩
        · rw [hown.cellAt i (by omega), ← List.map_append]
          have : i < (xs ++ ys).length := by simp [hm.len, hy.1]; omega
          simp only [List.getElem?_map, List.getElem?_eq_getElem this]; rfl
        · rw [hc2]; simp; omega
end Go.Proofs.Ytekefbbjocekiaa

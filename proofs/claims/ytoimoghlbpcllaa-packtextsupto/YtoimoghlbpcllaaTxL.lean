/-
  The law's lend and same over texts; texts that came in. Condition of lend: at most 2^20 texts.
-/
import Derived.Test.YtoimoghlbpcllaaTxO
namespace Go.Proofs.Ytoimoghlbpcllaa
open Go.RowKit
set_option linter.unusedVariables false

theorem below_dN {B : Nat} {w w' : World} (h : Below B w w') : ∀ n, Below B w (w'.drewN n)
  | 0 => h
  | n + 1 => by
    have := (below_dN h n).drew
    exact this
/-- What two appends came to, as lend and the law make them. -/
def Lent (w w' : World) (v : Value) (n : Nat) (X : List ByteArray) : Prop := SOwn w.heap.size w' v n X ∧ Below w.heap.size w w'
set_option maxRecDepth 20000 in
set_option maxHeartbeats 1000000 in
theorem lendS_c (a : Option Addr) (n cap : Nat) (X : List ByteArray) (w : World) (h : StrS w a n X) (hn : n ≤ 1048576) (hao : a = none → cap = 0) :
    Calls Try.prog 28 #[.slice a n cap] w fun r w' => ∃ g C, r = .returned (.tuple #[.slice (some ⟨g, 0, none⟩) (n + 2) C, .slice (some ⟨g, 0, none⟩) n C]) ∧ w.heap.size ≤ g ∧ StrS w' (some ⟨g, 0, none⟩) (n + 2) (X ++ [sX, sY]) ∧ Below w.heap.size w w' := by
  have HS : Hid (StrS w a n X) := h
  have HA : Hid (a = none → cap = 0) := hao
  clear h hao
  go_enter Try.func28, Try.ntmps28
  go_wp2_with (first
    | ((fail_if_success (have z := H1)); at_builtin; go_must (refine wpList_catS rfl (.tmp 5) (.tmp 6) rfl w.heap.size 0 _ [] rfl (sown_none w) a n cap X rfl HA.out (HS.out.below ((Below.refl _ _).alloc (Nat.le_refl _) _)) (by omega) (by simp) ?_); intro v1 w1 h1 h2; rw [Nat.zero_add] at h1; have H1 : Hid (Lent w w1 v1 n X) := ⟨h1, ((Below.refl _ _).alloc (Nat.le_refl _) _).trans h2⟩; obtain ⟨a1, c1, rfl, _⟩ := h1.str; clear h1 h2)
    | (have z := H1; clear z; at_builtin; go_must (refine wpList_catS rfl (.tmp 7) (.tmp 8) rfl w.heap.size n _ X rfl (H1.out.1.gb (World.grownBy_alloc w1 _ none)) (some ⟨w1.heap.size, 0, none⟩) 2 2 [sX, sY] rfl (fun h => by cases h) (strs_lit w1) (by omega) (by have := H1.out.2.size; simp; omega) ?_); intro v2 w2 h1 h2; have H2 : Hid (Lent w w2 v2 (n + 2) (X ++ [sX, sY])) := ⟨h1, H1.out.2.trans (((Below.refl _ _).alloc H1.out.2.size _).trans h2)⟩; obtain ⟨g, C, rfl, hg, hC⟩ := h1.form (by omega); have HG : Hid (w.heap.size ≤ g ∧ n + 2 ≤ C) := ⟨hg, hC⟩; clear h1 h2 hg hC))
  have hC1 : (n : Int) ≤ (C : Int) := by have := HG.out.2; omega
  have hC2 : n ≤ C := by have := HG.out.2; omega
  have hC0 : (0 : Int) ≤ (n : Int) := by omega
  go_quiet (fail)
  go_wp2
  go_ret2
  obtain ⟨a2, c2, e2, hs2, _⟩ := H2.out.1.str
  cases e2
  exact ⟨g, C, rfl, HG.out.1, hs2.below (below_dN (Below.refl _ _) _), below_dN H2.out.2 _⟩
theorem StrS.at' {w a n X} (h : StrS w a n X) (i : Nat) (hi : i < n) : ∃ b off, a = some ⟨b, off, none⟩ ∧ w.cell? ⟨b, off + i, none⟩ = some (.string (X[i]?.getD ByteArray.empty)) := by
  rcases h.2 with h0 | ⟨b, off, ha, _, hc⟩
  · omega
  · exact ⟨b, off, ha, hc i hi⟩
set_option maxRecDepth 20000 in
set_option maxHeartbeats 1000000 in
theorem sameS_c (a b : Option Addr) (n ca cb : Nat) (X : List ByteArray) (w : World) (h1 : StrS w a n X) (h2 : StrS w b n X) (hn : n ≤ 1125899906842624) :
    Calls Try.prog 31 #[.slice a n ca, .slice b n cb] w fun r w' => r = .returned (.bool true) ∧ Below w.heap.size w w' := by
  have HA : Hid (StrS w a n X) := h1
  have HB : Hid (StrS w b n X) := h2
  clear h1 h2
  go_enter Try.func31, Try.ntmps31
  go_wp2
  go_loopw [13] (fun i wr => ∃ k : Nat, k ≤ n ∧ i = .int .i64 k ∧ Hid (Below w.heap.size w wr)) (fun i _ => n - (intOf i).toNat)
  case atStart => exact ⟨0, Nat.zero_le _, rfl, Below.refl _ _⟩
  case round =>
    obtain ⟨k, hk, rfl, hr⟩ := hrel
    by_cases hlt : k < n
    · obtain ⟨b1, o1, rfl, c1⟩ := (HA.out.below hr.out).at' k hlt
      obtain ⟨b2, o2, rfl, c2⟩ := (HB.out.below hr.out).at' k hlt
      generalize X[k]?.getD ByteArray.empty = s at c1 c2
      have hi1 : (k : Int) < n := by omega
      have hi0 : (0 : Int) ≤ (k : Int) := by omega
      go_wp2
      go_quiet (fail)
      go_wp2
      go_roundw
      case rel => exact ⟨k + 1, by omega, by go_num, below_dN hr.out _⟩
      case measure => simp [intOf]; omega
    · obtain rfl : k = n := by omega
      have hge : ¬ (k : Int) < k := by omega
      go_wp2
      go_ret
      exact ⟨rfl, hr.out⟩
theorem tsz_cons (x : ByteArray) (l : List ByteArray) : ∀ k, tsz (x :: l) (k + 1) = x.size + tsz l k
  | 0 => by simp [tsz, at']
  | k + 1 => by
    have := tsz_cons x l k
    show tsz (x :: l) (k + 1) + (at' (x :: l) (k + 1)).size = x.size + (tsz l k + (at' l k).size)
    rw [this]
    simp [at']
    omega
theorem tsz_bulk {H : Type} : ∀ (l : List ByteArray) (k : Nat), tsz l k + l.length ≤ Rows.uptoBulkAll (l.map fun s => (DataW.lit (.string s.data.toList) : DataW H))
  | [], k => by
    have : ∀ k, tsz [] k = 0 := fun k => by
      induction k with
      | zero => rfl
      | succ k ih => show tsz [] k + (at' [] k).size = 0; rw [ih]; simp [at']
    rw [this k]; simp
  | x :: l, 0 => by
    have := tsz_bulk (H := H) l 0
    simp only [List.map_cons, Rows.uptoBulkAll, Rows.uptoBulk, List.length_cons, tsz] at this ⊢
    omega
  | x :: l, k + 1 => by
    have := tsz_bulk (H := H) l k
    rw [tsz_cons]
    simp only [List.map_cons, Rows.uptoBulkAll, Rows.uptoBulk, List.length_cons] at this ⊢
    have e : x.data.toList.length = x.size := by simp
    omega
theorem texts_open {H : Type} {enc : TypeId × Value → H} {w : World} {v : Value} {d : DataW H} {p : List MemPlace} (sa : Option Addr) (sl sc : Nat) (hv : v = .slice sa sl sc)
    (h : DataW.Trod enc Try.prog w 0 (fun _ => true) true 61 v d p) : ∃ a n cap X, v = .slice a n cap ∧ StrS w a n X ∧ n ≤ cap ∧ cap ≤ maxLen ∧ (a = none → cap = 0) ∧ ∀ k, tsz X k + n ≤ Rows.uptoBulk d := by
  obtain ⟨fuel, hf⟩ := h
  subst hv
  rcases Go.Deep.open_strs Try.underlying61 Try.underlying9 (by kernel_rfl) hf with ⟨hcs, hx⟩ | ⟨a, len, cap, m, Sx, hcs, _, hlc, hcm, hm, hx, hr⟩
  · simp [Value.cells] at hcs
    obtain ⟨rfl, rfl, rfl⟩ := hcs
    refine ⟨none, 0, 0, [], rfl, ⟨rfl, .inl rfl⟩, Nat.le_refl _, Nat.zero_le _, fun _ => rfl, fun k => ?_⟩
    have := tsz_bulk (H := H) [] k
    simp [Rows.uptoBulkAll] at this ⊢
    omega
  · simp [Value.cells] at hcs
    obtain ⟨rfl, rfl, rfl⟩ := hcs
    simp only [if_true] at hm
    rw [hm] at hr hx
    have hd : d = _ := congrArg Prod.fst hx
    refine ⟨some a, sl, sc, (List.range sl).map Sx, rfl, ⟨by simp, ?_⟩, hlc, hcm, (fun h => by cases h), fun k => ?_⟩
    · by_cases h0 : sl = 0
      · exact .inl h0
      · right
        obtain ⟨b, off, spot⟩ := a
        have c0 := (hr 0 (by omega)).1
        have hspot : spot = none := by simpa [Addr.add] using World.cell?_spot c0
        subst hspot
        rw [Go.WideShapes.add_plain] at c0
        refine ⟨b, off, rfl, ?_, fun j hj => ?_⟩
        · rcases Nat.lt_or_ge b w.heap.size with h1 | h1
          · exact h1
          · simp [World.cell?, h1] at c0
        · have g0 := (hr j (by omega)).1
          rw [Go.WideShapes.add_plain] at g0
          rw [g0]
          simp [hj]
    · rw [hd]
      simp only [Rows.uptoBulk]
      have := tsz_bulk (H := H) ((List.range sl).map Sx) k
      simp only [List.length_map, List.length_range, List.map_map] at this
      have e : (List.map ((fun s => (DataW.lit (.string s.data.toList) : DataW H)) ∘ Sx) (List.range sl)) = List.map (fun i => DataW.lit (Lit.string (Sx i).data.toList)) (List.range sl) := rfl
      rw [e] at this
      omega
end Go.Proofs.Ytoimoghlbpcllaa

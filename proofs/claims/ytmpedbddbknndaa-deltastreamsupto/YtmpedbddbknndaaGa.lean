/-
  What delta's Split answers of bytes: updates whose stream is a beginning of them, up to where none follows. Condition: at most 2^36 bytes.
  Updates that came in: what a law is told of a list of them. No condition of its own.
  Lists of updates as rows of cells. No condition of its own.
-/
import Derived.Test.YtmpedbddbknndaaDSt
import Derived.Deep.AppendLies
namespace Go.Proofs.Ytmpedbddbknndaa.Dl
open Go.RowKit
set_option linter.unusedVariables false

/-- Updates one behind the other, in memory of one's own. -/
def UOwn (B : Nat) (w : World) (v : Value) (X : List Upd) : Prop := w.ownsRow B 26 7 v X.length (X.flatMap Upd.cells)
theorem infoU7 : (Try.prog.info? 26).map (fun i => (i.zero, i.size, i.bytes)) = some (some (.agg noUpd), 7, 72) := by kernel_rfl
theorem uown_nil (B : Nat) (w : World) : UOwn B w (.slice none 0 0) [] := ⟨rfl, .inl ⟨rfl, rfl⟩⟩
theorem UOwn.gb {B : Nat} {w w' : World} {v : Value} {X : List Upd} {row : Option Nat} (h : UOwn B w v X) (hg : w.grownBy w' row) (hr : ∀ k, row = some k → k < B) : UOwn B w' v X := by
  refine ⟨h.1, ?_⟩
  rcases h.2 with q | ⟨g, cap, cur, q1, q2, q3, q4⟩
  · exact .inl q
  · exact .inr ⟨g, cap, cur, q1, q2, (hg.block g (lt_of_block q3) (fun e => by have := hr g e.symm; omega)).trans q3, q4⟩
theorem UOwn.lo {B : Nat} {w : World} {v : Value} {X : List Upd} (h : UOwn B w v X) : ∀ g, v.ownBlock = some g → B ≤ g := by
  intro g hg
  rcases h.2 with ⟨rfl, _⟩ | ⟨g', cap, cur, rfl, hB, _⟩
  · cases hg
  · cases hg; exact hB
/-- One update appended. -/
theorem wpList_upd {ops : Array Oper} {rest : List Oper} {o : Oper} {a : Act} {w0 : World} {Q : Exit → Act → World → Prop} (hgd : o.guard = none) (s x : Operand)
    (ho : o.op = .call { callee := .builtin .append, args := #[s, x], argTypes := #[45, 45] }) (B : Nat) (v : Value) (X : List Upd) (u : Upd) (hs : a.eval s = v) (hown : UOwn B w0 v X)
    (hx : a.eval x = .slice (some ⟨w0.heap.size, 0, none⟩) 1 1) (hn : X.length ≤ 68719476736) (hB : B ≤ w0.heap.size)
    (h : ∀ v' w', UOwn B w' v' (X ++ [u]) → w0.grownBy w' v.ownBlock → (v'.ownBlock = v.ownBlock ∨ ∃ g, v'.ownBlock = some g ∧ w0.heap.size ≤ g) → wpList Try.prog ops Q rest (a.put o.dst v') w') :
    wpList Try.prog ops Q (o :: rest) a (w0.alloc (.cells u.cells.toArray 26)) := by
  obtain ⟨i, hi, hz, h4, h5⟩ := info_parts infoU7
  have ho' : UOwn B (w0.alloc (.cells u.cells.toArray 26)) v X := hown.gb (gb_alloc _ _) (fun k hk => by cases hk)
  refine wpList_append_lies _ hgd s x 45 ho B 26 i (.agg noUpd) 7 72 Try.underlying45 hi hz h4 h5 rfl (by omega) v X.length _ hs ho' ⟨w0.heap.size, 0, none⟩ 1 1 u.cells hx rfl (World.news_of_block (heap_new w0 _)) (by intro z hz; simp [Upd.cells] at hz; rcases hz with rfl | rfl | rfl | rfl | rfl | rfl | rfl <;> rfl) (by omega) (by unfold maxLen; omega) (by omega) (Nat.le_trans hB (gb_alloc w0 _).size) _ rfl ?_
  intro g cap w' k1 k2 k3 k4
  refine h _ w' ?_ (gb_trans (gb_wide (gb_alloc w0 _) _) k2) ?_
  · unfold UOwn
    rw [List.length_append, List.flatMap_append]
    simpa using k1
  · rcases k3 with e | e
    · exact .inl e.symm
    · exact .inr ⟨g, rfl, by rw [e]; exact (gb_alloc w0 _).size⟩
end Go.Proofs.Ytmpedbddbknndaa.Dl
namespace Go.Proofs.Ytmpedbddbknndaa.Dl
set_option linter.unusedVariables false
open Go.RowKit Go.WideShapes Go.ChangeShapes

theorem add_plainD (b off k : Nat) : Addr.add ⟨b, off, none⟩ k = ⟨b, off + k, none⟩ := by simp [Addr.add]
theorem block_of_cellD {w : World} {a : Addr} {v : Value} (h : w.cell? a = some v) : a.block < w.heap.size := by
  rcases Nat.lt_or_ge a.block w.heap.size with h' | h'
  · exact h'
  · simp [World.cell?, h'] at h
theorem upAt_map (F : Nat → Upd) (n i : Nat) (hi : i < n) : upAt ((List.range n).map F) i = F i := by
  unfold upAt
  simp [hi]
set_option maxRecDepth 20000 in
theorem upds_open {H : Type} {enc : TypeId × Value → H} {w : World} {v : Value} {d : DataW H} {p : List MemPlace} (sa : Option Addr) (sl sc : Nat) (hv : v = .slice sa sl sc)
    (h : DataW.Trod enc Try.prog w 0 (fun _ => true) true 45 v d p) : ∃ a n cap X, v = .slice a n cap ∧ Upds w a n X ∧ (∀ i, i < n → (upAt X i).ok) ∧ n ≤ cap ∧ cap ≤ maxLen ∧ (a = none → cap = 0) := by
  obtain ⟨fuel, hf⟩ := h
  subst hv
  rcases Go.Deep.open_slice Try.underlying45 hf with ⟨hcs, hx⟩ | ⟨a, len, cap, m, n, D, Pl, hcs, _, hlc, hcm, hm, hx, hr⟩
  · simp [Value.cells] at hcs
    obtain ⟨rfl, rfl, rfl⟩ := hcs
    exact ⟨none, 0, 0, [], rfl, ⟨rfl, .inl rfl⟩, fun i hi => by omega, Nat.le_refl _, Nat.zero_le _, fun _ => rfl⟩
  · simp [Value.cells] at hcs
    obtain ⟨rfl, rfl, rfl⟩ := hcs
    have zo : Try.prog.cellsOf 26 = 7 := by kernel_rfl
    simp only [if_true] at hm
    rw [hm] at hr hx
    have hop2 : ∀ i, i < sc → ∃ o : Upd, w.cells? 0 (a.add (i * 7)) 7 = some o.cells ∧ o.ok := by
      intro i hi
      obtain ⟨cs', h1, h2⟩ := hr i hi
      rw [zo] at h1
      obtain ⟨o, e, ho⟩ := upd_open h2
      exact ⟨o, by rw [h1, e], ho⟩
    have hex : ∃ F : Nat → Upd, ∀ i, i < sc → w.cells? 0 (a.add (i * 7)) 7 = some (F i).cells ∧ (F i).ok := by
      refine ⟨fun i => if h : i < sc then Classical.choose (hop2 i h) else zUpd, fun i hi => ?_⟩
      simp only [hi, dif_pos]
      exact Classical.choose_spec (hop2 i hi)
    obtain ⟨F, hF⟩ := hex
    refine ⟨some a, sl, sc, (List.range sl).map F, rfl, ⟨by simp, ?_⟩, fun i hi => by rw [upAt_map F sl i hi]; exact (hF i (by omega)).2, hlc, hcm, (fun h => by cases h)⟩
    by_cases h0 : sl = 0
    · exact .inl h0
    · right
      obtain ⟨b, off, spot⟩ := a
      have c0 := (World.cells?_some (hF 0 (by omega)).1).2.2 0 (by omega)
      have hlen := Upd.cells_length (F 0)
      rw [List.getElem?_eq_getElem (by omega)] at c0
      have hspot : spot = none := by simpa [Addr.add] using World.cell?_spot c0
      subst hspot
      refine ⟨b, off, rfl, by have := block_of_cellD c0; simpa [Addr.add] using this, fun i hi => ?_⟩
      rw [upAt_map F sl i hi]
      intro j v hv
      have hj : j < 7 := by
        have := (List.getElem?_eq_some_iff.1 hv).1
        rw [Upd.cells_length] at this
        exact this
      have := (World.cells?_some (hF i (by omega)).1).2.2 j hj
      rw [add_plainD, add_plainD, hv] at this
      exact this
end Go.Proofs.Ytmpedbddbknndaa.Dl
namespace Go.Proofs.Ytmpedbddbknndaa.Dl
open Go.RowKit
set_option linter.unusedVariables false
theorem take_more (X : List Upd) (k : Nat) (h : k < X.length) : X.take (k + 1) = X.take k ++ [upAt X k] := by
  rw [List.take_add_one]
  unfold upAt
  rw [List.getElem?_eq_getElem h]
  rfl
theorem fm : ∀ (X : List Upd) (j : Nat), (X.flatMap Upd.cells)[j]? = X[j / 7]?.bind (fun u => u.cells[j % 7]?)
  | [], j => by simp
  | u :: X, j => by
    rw [List.flatMap_cons]
    rcases Nat.lt_or_ge j 7 with h | h
    · rw [List.getElem?_append_left (by rw [Upd.cells_length]; exact h), show j / 7 = 0 by omega, show j % 7 = j by omega]
      simp
    · rw [List.getElem?_append_right (by rw [Upd.cells_length]; exact h), Upd.cells_length, fm X (j - 7), show j / 7 = (j - 7) / 7 + 1 by omega, show j % 7 = (j - 7) % 7 by omega]
      simp
theorem fm_len : ∀ (X : List Upd), (X.flatMap Upd.cells).length = X.length * 7
  | [] => by simp
  | u :: X => by rw [List.flatMap_cons, List.length_append, Upd.cells_length, fm_len X, List.length_cons]; omega
theorem fm_one (X : List Upd) : ∀ z ∈ X.flatMap Upd.cells, z.oneCell' = true := by
  intro z hz
  obtain ⟨u, _, hz⟩ := List.mem_flatMap.1 hz
  simp [Upd.cells] at hz
  rcases hz with rfl | rfl | rfl | rfl | rfl | rfl | rfl <;> rfl
theorem upds_news {w : World} {ad : Addr} {n : Nat} {X : List Upd} (h : Upds w (some ad) n X) : ∀ j u, (X.flatMap Upd.cells)[j]? = some u → w.cell? (ad.add j) = some u := by
  intro j v hv
  rw [fm] at hv
  cases hx : X[j / 7]? with
  | none => rw [hx] at hv; cases hv
  | some u =>
    rw [hx] at hv
    have hlt : j / 7 < n := by
      rw [← h.1]
      exact (List.getElem?_eq_some_iff.1 hx).1
    rcases h.2 with z | ⟨b, off, ha, hb, hc⟩
    · omega
    · cases ha
      have := hc (j / 7) hlt (j % 7) v (by unfold upAt; rw [hx]; exact hv)
      rw [add_plainD]
      have e : off + j / 7 * 7 + j % 7 = off + j := by omega
      rw [e] at this
      exact this
/-- What is owned can be read. -/
theorem own_row7 {w : World} {B : Nat} {T : TypeId} {g n cap : Nat} {X : List Upd} (h : w.ownsRow B T 7 (.slice (some ⟨g, 0, none⟩) n cap) n (X.flatMap Upd.cells)) (i : Nat) (u : Upd) (hi : X[i]? = some u) : w.rangeAt g (i * 7) u.cells := by
  intro j v hv
  have hj : j < 7 := (List.getElem?_eq_some_iff.1 hv).1
  have hk : (X.flatMap Upd.cells)[i * 7 + j]? = some v := by
    rw [fm, show (i * 7 + j) / 7 = i by omega, show (i * 7 + j) % 7 = j by omega, hi]
    exact hv
  rcases h.2 with ⟨q, _⟩ | ⟨g', cap', cur, q, hB, hg, hn, hm, hsz, htake⟩
  · cases q
  · cases q
    rw [cell_of_row w g _ _ _ _ hg]
    rw [← htake] at hk
    have hjl : i * 7 + j < n * 7 := by
      rcases Nat.lt_or_ge (i * 7 + j) (n * 7) with h | h
      · exact h
      · rw [List.getElem?_eq_none (by rw [List.length_take]; omega)] at hk; cases hk
    rw [List.getElem?_take_of_lt hjl] at hk
    simpa using hk
theorem own_upds {w : World} {B : Nat} {T : TypeId} {v : Value} {X : List Upd} (h : w.ownsRow B T 7 v X.length (X.flatMap Upd.cells)) : ∃ a cap, v = .slice a X.length cap ∧ Upds w a X.length X := by
  rcases h.2 with ⟨q, e⟩ | ⟨g, cap, cur, q, hB, hg, hn, hm, hsz, htake⟩
  · exact ⟨none, 0, by rw [q, e], rfl, .inl e⟩
  · subst q
    refine ⟨_, cap, rfl, rfl, .inr ⟨g, 0, rfl, lt_of_block hg, fun i hi => ?_⟩⟩
    have := own_row7 h i (upAt X i) (by unfold upAt; rw [List.getElem?_eq_getElem hi]; rfl)
    rw [Nat.zero_add]
    exact this
end Go.Proofs.Ytmpedbddbknndaa.Dl

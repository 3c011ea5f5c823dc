/-
  What delta's Split answers of bytes: updates whose stream is a beginning of them, up to where none follows. Condition: at most 2^36 bytes.
  Updates that came in: what a law is told of a list of them. No condition of its own.
  Lists of updates as rows of cells. No condition of its own.
  Streams of updates, taken apart, as plain data: the updates that stand one behind the other at the front of some bytes, and where they end, are told by these bytes alone. No condition of its own.
  What delta's Split answers of bytes: the updates at their front, and where these end. Condition: at most 2^36 bytes.
-/
import Derived.Test.YtmpedbddbknndaaDSt
import Derived.Deep.AppendLies
import Derived.Test.YtmpedbddbknndaaWSb
namespace Go.Proofs.Ytmpedbddbknndaa.Dl
open Go.RowKit
set_option linter.unusedVariables false

/-- Updates one behind the other, in memory of one's own. -/
def UOwn (B : Nat) (w : World) (v : Value) (X : List Upd) : Prop := w.ownsRow B 26 7 v X.length (X.flatMap Upd.cells)
theorem infoU7 : (Try.prog.info? 26).map (fun i => (i.zero, i.size, i.bytes)) = some (some (.agg noUpd), 7, 72) := by kernel_rfl
theorem uown_nil (B : Nat) (w : World) : UOwn B w (.slice none 0 0) [] := ⟨rfl, .inl ⟨rfl, rfl⟩⟩
theorem UOwn.gb {B : Nat} {w w' : World} {v : Value} {X : List Upd} {row : Option Nat} (h : UOwn B w v X) (hg : w.grownBy w' row) (hr : ∀ k, row = some k → k < B) : UOwn B w' v X := by
  refine ⟨h.1, ?_⟩
  rcases h.2 with q | ⟨g, cap, cur, q1, q2, q3, q4⟩
  · exact .inl q
  · exact .inr ⟨g, cap, cur, q1, q2, (hg.block g (lt_of_block q3) (fun e => by have := hr g e.symm; omega)).trans q3, q4⟩
theorem UOwn.lo {B : Nat} {w : World} {v : Value} {X : List Upd} (h : UOwn B w v X) : ∀ g, v.ownBlock = some g → B ≤ g := by
  intro g hg
  rcases h.2 with ⟨rfl, _⟩ | ⟨g', cap, cur, rfl, hB, _⟩
  · cases hg
  · cases hg; exact hB
/-- One update appended. -/
theorem wpList_upd {ops : Array Oper} {rest : List Oper} {o : Oper} {a : Act} {w0 : World} {Q : Exit → Act → World → Prop} (hgd : o.guard = none) (s x : Operand)
    (ho : o.op = .call { callee := .builtin .append, args := #[s, x], argTypes := #[45, 45] }) (B : Nat) (v : Value) (X : List Upd) (u : Upd) (hs : a.eval s = v) (hown : UOwn B w0 v X)
    (hx : a.eval x = .slice (some ⟨w0.heap.size, 0, none⟩) 1 1) (hn : X.length ≤ 68719476736) (hB : B ≤ w0.heap.size)
    (h : ∀ v' w', UOwn B w' v' (X ++ [u]) → w0.grownBy w' v.ownBlock → (v'.ownBlock = v.ownBlock ∨ ∃ g, v'.ownBlock = some g ∧ w0.heap.size ≤ g) → wpList Try.prog ops Q rest (a.put o.dst v') w') :
    wpList Try.prog ops Q (o :: rest) a (w0.alloc (.cells u.cells.toArray 26)) := by
  obtain ⟨i, hi, hz, h4, h5⟩ := info_parts infoU7
  have ho' : UOwn B (w0.alloc (.cells u.cells.toArray 26)) v X := hown.gb (gb_alloc _ _) (fun k hk => by cases hk)
  refine wpList_append_lies _ hgd s x 45 ho B 26 i (.agg noUpd) 7 72 Try.underlying45 hi hz h4 h5 rfl (by omega) v X.length _ hs ho' ⟨w0.heap.size, 0, none⟩ 1 1 u.cells hx rfl (World.news_of_block (heap_new w0 _)) (by intro z hz; simp [Upd.cells] at hz; rcases hz with rfl | rfl | rfl | rfl | rfl | rfl | rfl <;> rfl) (by omega) (by unfold maxLen; omega) (by omega) (Nat.le_trans hB (gb_alloc w0 _).size) _ rfl ?_
  intro g cap w' k1 k2 k3 k4
  refine h _ w' ?_ (gb_trans (gb_wide (gb_alloc w0 _) _) k2) ?_
  · unfold UOwn
    rw [List.length_append, List.flatMap_append]
    simpa using k1
  · rcases k3 with e | e
    · exact .inl e.symm
    · exact .inr ⟨g, rfl, by rw [e]; exact (gb_alloc w0 _).size⟩
end Go.Proofs.Ytmpedbddbknndaa.Dl
namespace Go.Proofs.Ytmpedbddbknndaa.Dl
set_option linter.unusedVariables false
open Go.RowKit Go.WideShapes Go.ChangeShapes

theorem add_plainD (b off k : Nat) : Addr.add ⟨b, off, none⟩ k = ⟨b, off + k, none⟩ := by simp [Addr.add]
theorem block_of_cellD {w : World} {a : Addr} {v : Value} (h : w.cell? a = some v) : a.block < w.heap.size := by
  rcases Nat.lt_or_ge a.block w.heap.size with h' | h'
  · exact h'
  · simp [World.cell?, h'] at h
theorem upAt_map (F : Nat → Upd) (n i : Nat) (hi : i < n) : upAt ((List.range n).map F) i = F i := by
  unfold upAt
  simp [hi]
set_option maxRecDepth 20000 in
theorem upds_open {H : Type} {enc : TypeId × Value → H} {w : World} {v : Value} {d : DataW H} {p : List MemPlace} (sa : Option Addr) (sl sc : Nat) (hv : v = .slice sa sl sc)
    (h : DataW.Trod enc Try.prog w 0 (fun _ => true) true 45 v d p) : ∃ a n cap X, v = .slice a n cap ∧ Upds w a n X ∧ (∀ i, i < n → (upAt X i).ok) ∧ n ≤ cap ∧ cap ≤ maxLen ∧ (a = none → cap = 0) := by
  obtain ⟨fuel, hf⟩ := h
  subst hv
  rcases Go.Deep.open_slice Try.underlying45 hf with ⟨hcs, hx⟩ | ⟨a, len, cap, m, n, D, Pl, hcs, _, hlc, hcm, hm, hx, hr⟩
  · simp [Value.cells] at hcs
    obtain ⟨rfl, rfl, rfl⟩ := hcs
    exact ⟨none, 0, 0, [], rfl, ⟨rfl, .inl rfl⟩, fun i hi => by omega, Nat.le_refl _, Nat.zero_le _, fun _ => rfl⟩
  · simp [Value.cells] at hcs
    obtain ⟨rfl, rfl, rfl⟩ := hcs
    have zo : Try.prog.cellsOf 26 = 7 := by kernel_rfl
    simp only [if_true] at hm
    rw [hm] at hr hx
    have hop2 : ∀ i, i < sc → ∃ o : Upd, w.cells? 0 (a.add (i * 7)) 7 = some o.cells ∧ o.ok := by
      intro i hi
      obtain ⟨cs', h1, h2⟩ := hr i hi
      rw [zo] at h1
      obtain ⟨o, e, ho⟩ := upd_open h2
      exact ⟨o, by rw [h1, e], ho⟩
    have hex : ∃ F : Nat → Upd, ∀ i, i < sc → w.cells? 0 (a.add (i * 7)) 7 = some (F i).cells ∧ (F i).ok := by
      refine ⟨fun i => if h : i < sc then Classical.choose (hop2 i h) else zUpd, fun i hi => ?_⟩
      simp only [hi, dif_pos]
      exact Classical.choose_spec (hop2 i hi)
    obtain ⟨F, hF⟩ := hex
    refine ⟨some a, sl, sc, (List.range sl).map F, rfl, ⟨by simp, ?_⟩, fun i hi => by rw [upAt_map F sl i hi]; exact (hF i (by omega)).2, hlc, hcm, (fun h => by cases h)⟩
    by_cases h0 : sl = 0
    · exact .inl h0
    · right
      obtain ⟨b, off, spot⟩ := a
      have c0 := (World.cells?_some (hF 0 (by omega)).1).2.2 0 (by omega)
      have hlen := Upd.cells_length (F 0)
      rw [List.getElem?_eq_getElem (by omega)] at c0
      have hspot : spot = none := by simpa [Addr.add] using World.cell?_spot c0
      subst hspot
      refine ⟨b, off, rfl, by have := block_of_cellD c0; simpa [Addr.add] using this, fun i hi => ?_⟩
      rw [upAt_map F sl i hi]
      intro j v hv
      have hj : j < 7 := by
        have := (List.getElem?_eq_some_iff.1 hv).1
        rw [Upd.cells_length] at this
        exact this
      have := (World.cells?_some (hF i (by omega)).1).2.2 j hj
      rw [add_plainD, add_plainD, hv] at this
      exact this
end Go.Proofs.Ytmpedbddbknndaa.Dl
namespace Go.Proofs.Ytmpedbddbknndaa.Dl
open Go.RowKit
set_option linter.unusedVariables false
theorem take_more (X : List Upd) (k : Nat) (h : k < X.length) : X.take (k + 1) = X.take k ++ [upAt X k] := by
  rw [List.take_add_one]
  unfold upAt
  rw [List.getElem?_eq_getElem h]
  rfl
theorem fm : ∀ (X : List Upd) (j : Nat), (X.flatMap Upd.cells)[j]? = X[j / 7]?.bind (fun u => u.cells[j % 7]?)
  | [], j => by simp
  | u :: X, j => by
    rw [List.flatMap_cons]
    rcases Nat.lt_or_ge j 7 with h | h
    · rw [List.getElem?_append_left (by rw [Upd.cells_length]; exact h), show j / 7 = 0 by omega, show j % 7 = j by omega]
      simp
    · rw [List.getElem?_append_right (by rw [Upd.cells_length]; exact h), Upd.cells_length, fm X (j - 7), show j / 7 = (j - 7) / 7 + 1 by omega, show j % 7 = (j - 7) % 7 by omega]
      simp
theorem fm_len : ∀ (X : List Upd), (X.flatMap Upd.cells).length = X.length * 7
  | [] => by simp
  | u :: X => by rw [List.flatMap_cons, List.length_append, Upd.cells_length, fm_len X, List.length_cons]; omega
theorem fm_one (X : List Upd) : ∀ z ∈ X.flatMap Upd.cells, z.oneCell' = true := by
  intro z hz
  obtain ⟨u, _, hz⟩ := List.mem_flatMap.1 hz
  simp [Upd.cells] at hz
  rcases hz with rfl | rfl | rfl | rfl | rfl | rfl | rfl <;> rfl
theorem upds_news {w : World} {ad : Addr} {n : Nat} {X : List Upd} (h : Upds w (some ad) n X) : ∀ j u, (X.flatMap Upd.cells)[j]? = some u → w.cell? (ad.add j) = some u := by
  intro j v hv
  rw [fm] at hv
  cases hx : X[j / 7]? with
  | none => rw [hx] at hv; cases hv
  | some u =>
    rw [hx] at hv
    have hlt : j / 7 < n := by
      rw [← h.1]
      exact (List.getElem?_eq_some_iff.1 hx).1
    rcases h.2 with z | ⟨b, off, ha, hb, hc⟩
    · omega
    · cases ha
      have := hc (j / 7) hlt (j % 7) v (by unfold upAt; rw [hx]; exact hv)
      rw [add_plainD]
      have e : off + j / 7 * 7 + j % 7 = off + j := by omega
      rw [e] at this
      exact this
/-- What is owned can be read. -/
theorem own_row7 {w : World} {B : Nat} {T : TypeId} {g n cap : Nat} {X : List Upd} (h : w.ownsRow B T 7 (.slice (some ⟨g, 0, none⟩) n cap) n (X.flatMap Upd.cells)) (i : Nat) (u : Upd) (hi : X[i]? = some u) : w.rangeAt g (i * 7) u.cells := by
  intro j v hv
  have hj : j < 7 := (List.getElem?_eq_some_iff.1 hv).1
  have hk : (X.flatMap Upd.cells)[i * 7 + j]? = some v := by
    rw [fm, show (i * 7 + j) / 7 = i by omega, show (i * 7 + j) % 7 = j by omega, hi]
    exact hv
  rcases h.2 with ⟨q, _⟩ | ⟨g', cap', cur, q, hB, hg, hn, hm, hsz, htake⟩
  · cases q
  · cases q
    rw [cell_of_row w g _ _ _ _ hg]
    rw [← htake] at hk
    have hjl : i * 7 + j < n * 7 := by
      rcases Nat.lt_or_ge (i * 7 + j) (n * 7) with h | h
      · exact h
      · rw [List.getElem?_eq_none (by rw [List.length_take]; omega)] at hk; cases hk
    rw [List.getElem?_take_of_lt hjl] at hk
    simpa using hk
theorem own_upds {w : World} {B : Nat} {T : TypeId} {v : Value} {X : List Upd} (h : w.ownsRow B T 7 v X.length (X.flatMap Upd.cells)) : ∃ a cap, v = .slice a X.length cap ∧ Upds w a X.length X := by
  rcases h.2 with ⟨q, e⟩ | ⟨g, cap, cur, q, hB, hg, hn, hm, hsz, htake⟩
  · exact ⟨none, 0, by rw [q, e], rfl, .inl e⟩
  · subst q
    refine ⟨_, cap, rfl, rfl, .inr ⟨g, 0, rfl, lt_of_block hg, fun i hi => ?_⟩⟩
    have := own_row7 h i (upAt X i) (by unfold upAt; rw [List.getElem?_eq_getElem hi]; rfl)
    rw [Nat.zero_add]
    exact this
end Go.Proofs.Ytmpedbddbknndaa.Dl
namespace Go.Proofs.Ytmpedbddbknndaa.Dl
open Go.RowKit
set_option linter.unusedVariables false

/-- No update stands at the front. -/
def NoU (R : List Int) : Prop := ∀ u rest, Upd.err u = 0 → R ≠ one u ++ rest
/-- What Split comes to. -/
structure SplitIs (xs : List Int) (L : List Upd) (p : Nat) : Prop where
  le : p ≤ xs.length
  pre : xs.take p = L.flatMap one
  ok : ∀ u ∈ L, Upd.err u = 0
  no : NoU (xs.drop p)
theorem one_pos (u : Upd) : 0 < (one u).length := by
  unfold one
  rw [List.length_append]
  have := enc_pos u.bytes.length
  omega
theorem noU_nil : NoU [] := fun u rest hu h => by
  have := congrArg List.length h
  rw [List.length_append] at this
  have := one_pos u
  simp at *
  omega
theorem stB_take (X : List Upd) : ∀ k, k ≤ X.length → stB X k = (X.take k).flatMap one
  | 0, _ => by simp [stB]
  | k + 1, h => by
    show stB X k ++ one (upAt X k) = _
    rw [stB_take X k (by omega), take_more X k (by omega), List.flatMap_append]
    simp
theorem stB_full (X : List Upd) : stB X X.length = X.flatMap one := by
  rw [stB_take X X.length (Nat.le_refl _), List.take_length]
theorem stE_full (X : List Upd) (h : ∀ u ∈ X, Upd.err u = 0) : ∀ k, k ≤ X.length → stE X k = 0
  | 0, _ => rfl
  | k + 1, hk => by
    show (if stE X k ≠ 0 then stE X k else (upAt X k).err) = 0
    rw [stE_full X h k (by omega), if_neg (by simp)]
    refine h _ ?_
    unfold upAt
    rw [List.getElem?_eq_getElem (by omega)]
    exact List.getElem_mem _
theorem stZ_full (X : List Upd) (h : ∀ u ∈ X, Upd.err u = 0) : stZ X X.length = X.flatMap one := by
  unfold stZ
  rw [if_pos (stE_full X h _ (Nat.le_refl _)), stB_full]
theorem one_inj {u v : Upd} {r s : List Int} (hu : u.err = 0) (hv : v.err = 0) (h : one u ++ r = one v ++ s) : u = v ∧ r = s := by
  have lu : u.bytes.length ≤ 66640 := updB_len hu
  have lv : v.bytes.length ≤ 66640 := updB_len hv
  unfold one at h
  rw [List.append_assoc, List.append_assoc] at h
  have e1 := rd_enc u.bytes.length (by omega) (u.bytes ++ r)
  have e2 := rd_enc v.bytes.length (by omega) (v.bytes ++ s)
  rw [h, e2] at e1
  have hl : u.bytes.length = v.bytes.length := by
    have := congrArg Prod.fst e1
    simp at this
    omega
  rw [hl] at h
  have h2 := List.append_cancel_left h
  obtain ⟨h3, h4⟩ := List.append_inj h2 hl
  have t1 := (there u hu).2
  have t2 := (there v hv).2
  rw [h3, t2] at t1
  exact ⟨t1.symm, h4⟩
theorem parts_uniq : ∀ (L M : List Upd) (R S : List Int), (∀ u ∈ L, Upd.err u = 0) → (∀ u ∈ M, Upd.err u = 0) → NoU R → NoU S → L.flatMap one ++ R = M.flatMap one ++ S → L = M
  | [], [], _, _, _, _, _, _, _ => rfl
  | [], v :: M, R, S, _, hM, hR, _, h => by
    exfalso
    rw [List.flatMap_nil, List.nil_append, List.flatMap_cons, List.append_assoc] at h
    exact hR v _ (hM v (by simp)) h
  | u :: L, [], R, S, hL, _, _, hS, h => by
    exfalso
    rw [List.flatMap_nil, List.nil_append, List.flatMap_cons, List.append_assoc] at h
    exact hS u _ (hL u (by simp)) h.symm
  | u :: L, v :: M, R, S, hL, hM, hR, hS, h => by
    rw [List.flatMap_cons, List.flatMap_cons, List.append_assoc, List.append_assoc] at h
    obtain ⟨rfl, h2⟩ := one_inj (hL u (by simp)) (hM v (by simp)) h
    rw [parts_uniq L M R S (fun x hx => hL x (List.mem_cons_of_mem _ hx)) (fun x hx => hM x (List.mem_cons_of_mem _ hx)) hR hS h2]
theorem SplitIs.whole {xs : List Int} {L : List Upd} {p : Nat} (h : SplitIs xs L p) : xs = L.flatMap one ++ xs.drop p := by
  rw [← h.pre, List.take_append_drop]
theorem SplitIs.len {xs : List Int} {L : List Upd} {p : Nat} (h : SplitIs xs L p) : p = (L.flatMap one).length := by
  rw [← h.pre, List.length_take]
  have := h.le
  omega
theorem SplitIs.uniq {xs : List Int} {L M : List Upd} {p q : Nat} (h : SplitIs xs L p) (k : SplitIs xs M q) : L = M ∧ p = q := by
  have e : L = M := parts_uniq L M _ _ h.ok k.ok h.no k.no (h.whole.symm.trans k.whole)
  exact ⟨e, by rw [h.len, k.len, e]⟩
theorem split_of (X : List Upd) (h : ∀ u ∈ X, Upd.err u = 0) : SplitIs (X.flatMap one) X (X.flatMap one).length :=
  ⟨Nat.le_refl _, List.take_length, h, by rw [List.drop_length]; exact noU_nil⟩
theorem part_pre : ∀ (P S : List Upd) (R T : List Int), (∀ u ∈ P, Upd.err u = 0) → (∀ u ∈ S, Upd.err u = 0) → NoU R → P.flatMap one ++ (R ++ T) = S.flatMap one → P.length ≤ S.length ∧ S.take P.length = P ∧ ∀ u, S[P.length]? = some u → R.length < (one u).length
  | [], S, R, T, _, hS, hR, h => by
    refine ⟨Nat.zero_le _, rfl, fun u hu => ?_⟩
    cases S with
    | nil => cases hu
    | cons v S =>
      simp at hu
      subst hu
      rcases Nat.lt_or_ge R.length (one v).length with q | q
      · exact q
      · exfalso
        rw [List.flatMap_nil, List.nil_append, List.flatMap_cons] at h
        have e := congrArg (List.take (one v).length) h
        rw [List.take_append_of_le_length q, List.take_left] at e
        refine hR v (R.drop (one v).length) (hS v (by simp)) ?_
        conv => lhs; rw [← List.take_append_drop (one v).length R]
        rw [e]
  | u :: P, [], R, T, _, _, _, h => by
    exfalso
    have e := congrArg List.length h
    rw [List.flatMap_cons, List.flatMap_nil, List.append_assoc, List.length_append, List.length_nil] at e
    have := one_pos u
    omega
  | u :: P, v :: S, R, T, hP, hS, hR, h => by
    rw [List.flatMap_cons, List.flatMap_cons, List.append_assoc] at h
    obtain ⟨rfl, h2⟩ := one_inj (hP u (by simp)) (hS v (by simp)) h
    obtain ⟨k1, k2, k3⟩ := part_pre P S R T (fun x hx => hP x (List.mem_cons_of_mem _ hx)) (fun x hx => hS x (List.mem_cons_of_mem _ hx)) hR h2
    exact ⟨by simp; omega, by rw [List.length_cons, List.take_succ_cons, k2], fun x hx => k3 x (by simpa using hx)⟩

/-- The text at a place, and where it ends. -/
theorem dok_nil : dok [] = false := by decide +kernel
theorem bytesU (u : Upd) : Bytes u.bytes := bytesD u
theorem sp_go {xs : List Int} (hx : Bytes xs) {p : Nat} (hp : p ≤ xs.length) {most : Int} (h : dok (rt xs p most).1 = true) :
    (rt xs p most).2.2 = 0 ∧ (rt xs p most).2.1 ≤ xs.length ∧ p < (rt xs p most).2.1 ∧ (dupd (rt xs p most).1).err = 0 ∧ xs.take (rt xs p most).2.1 = xs.take p ++ one (dupd (rt xs p most).1) := by
  obtain ⟨b1, b2, b3, b4, b5⟩ := rt_bd hx p hp most
  have e0 : (rt xs p most).2.2 = 0 := by
    rcases Decidable.em ((rt xs p most).2.2 = 0) with q | q
    · exact q
    · rw [(b4 q).1, dok_nil] at h; cases h
  obtain ⟨a1, a2⟩ := again b5 h
  have a3 := (rt_again hx p most e0).1
  have e1 : one (dupd (rt xs p most).1) = enc (rt xs p most).1.length ++ (rt xs p most).1 := by unfold one; rw [a2]
  refine ⟨e0, b1, ?_, a1, by rw [a3, e1]⟩
  have := congrArg List.length a3
  rw [← e1, List.length_append, List.length_take, List.length_take] at this
  have := one_pos (dupd (rt xs p most).1)
  omega
theorem sp_no {xs : List Int} (hx : Bytes xs) {p : Nat} (hp : p ≤ xs.length) (hl : xs.length ≤ 140737488355328) (h : dok (rt xs p (xs.length : Int)).1 = false) : NoU (xs.drop p) := by
  intro u rest hu e
  have hs : (strOfNums u.bytes).size = u.bytes.length := size_strOfNums _
  have e2 : xs.drop p = (enc (strOfNums u.bytes).size ++ sb (strOfNums u.bytes)) ++ rest := by
    rw [hs, sb_strOfNums _ (bytesU u)]
    exact e
  have hle : (strOfNums u.bytes).size ≤ xs.length := by
    have := congrArg List.length e2
    rw [List.length_drop, List.length_append, List.length_append, sb_length] at this
    omega
  have r := rt_lay xs p (strOfNums u.bytes) xs.length (by omega) (by omega) rest e2
  rw [r] at h
  simp only [sb_strOfNums _ (bytesU u), (there u hu).1] at h
  cases h
end Go.Proofs.Ytmpedbddbknndaa.Dl
namespace Go.Proofs.Ytmpedbddbknndaa.Dl
open Go.RowKit
set_option linter.unusedVariables false

theorem UOwn.low {B C : Nat} {w : World} {v : Value} {X : List Upd} (h : UOwn B w v X) (hb : C ≤ B) : UOwn C w v X := by
  refine ⟨h.1, ?_⟩
  rcases h.2 with q | ⟨g, cap, cur, q1, q2, q3⟩
  · exact .inl q
  · exact .inr ⟨g, cap, cur, q1, Nat.le_trans hb q2, q3⟩
/-- A reader, and updates of one's own behind it. -/
structure SI (B D : Nat) (w W : World) (g : Nat) (a : Option Addr) (len cap : Nat) (xs : List Int) (e : Int) (p : Nat) (v : Value) (L : List Upd) : Prop where
  rs : RS W g a len cap xs e p
  own : UOwn D W v L
  bel : Below B w W
  hi : D ≤ W.heap.size
  lt : g < D
  ge : B ≤ g
  off : ∀ b o s, a = some ⟨b, o, s⟩ → b < D
theorem SI.moves {B D w W W' g a len cap xs e p e' p' v L} (h : SI B D w W g a len cap xs e p v L) (hr : RS W' g a len cap xs e' p') (hg : W.grownBy W' (some g)) : SI B D w W' g a len cap xs e' p' v L :=
  ⟨hr, h.own.gb hg (fun k hk => by cases hk; exact h.lt), h.bel.trans ((Below.refl B W).grown hg (by have := h.hi; have := h.lt; have := h.ge; omega) (fun k hk => by cases hk; exact h.ge)), Nat.le_trans h.hi hg.size, h.lt, h.ge, h.off⟩
theorem SI.new {B D w W W' g a len cap xs e p v L} (h : SI B D w W g a len cap xs e p v L) (hg : W.grownBy W' none) : SI B D w W' g a len cap xs e p v L := h.moves (h.rs.new hg) (gb_wide hg _)
theorem SI.app {B D w W W' g a len cap xs e p v v' L L'} (h : SI B D w W g a len cap xs e p v L) (ho : UOwn D W' v' L') (hg : W.grownBy W' v.ownBlock) : SI B D w W' g a len cap xs e p v' L' := by
  have hlo := h.own.lo
  have hB : B ≤ W.heap.size := by have := h.hi; have := h.lt; have := h.ge; omega
  refine ⟨h.rs.other hg (fun q => by have := hlo _ q; have := h.lt; omega) (fun k hk b o s q e => by subst e; have := hlo _ hk; have := h.off _ _ _ q; omega), ho, h.bel.trans ((Below.refl B W).grown hg hB (fun k hk => by have := hlo k hk; have := h.lt; have := h.ge; omega)), Nat.le_trans h.hi hg.size, h.lt, h.ge, h.off⟩
theorem seg_takeQ {w : World} {a : Option Addr} {len : Nat} {xs : List Int} (h : Seg .u8 w a len xs) (n : Nat) (hn : n ≤ len) : Seg .u8 w a n (xs.take n) := by
  refine ⟨by simp [h.1]; omega, ?_⟩
  rcases h.2 with h0 | ⟨b, off, ha, hw, hc⟩
  · exact .inl (by omega)
  · exact .inr ⟨b, off, ha, hw, fun i hi => by rw [hc i (by omega), List.getElem?_take_of_lt hi]⟩
theorem own_keepQ {B : Nat} {w w' : World} {v : Value} {n : Nat} {xs : List Int} (h : Own B w v n xs) (hg : w.grownBy w' none) : Own B w' v n xs := by
  refine ⟨h.1, ?_⟩
  rcases h.2 with q | ⟨g, cap, cur, q1, q2, q3, q4⟩
  · exact .inl q
  · exact .inr ⟨g, cap, cur, q1, q2, (hg.block g (lt_of_block q3) (by simp)).trans q3, q4⟩
theorem own_below {B : Nat} {w w' : World} {v : Value} {n : Nat} {xs : List Int} (h : Own B w v n xs) (hg : Below w.heap.size w w') : Own B w' v n xs := own_keepQ h (below_gb hg)
theorem flat_len : ∀ L : List Upd, L.length ≤ (L.flatMap one).length
  | [] => Nat.zero_le _
  | u :: L => by
    rw [List.flatMap_cons, List.length_append, List.length_cons]
    have := flat_len L
    have := one_pos u
    omega
theorem SplitIs.few {xs : List Int} {L : List Upd} {p : Nat} (h : SplitIs xs L p) : L.length ≤ p := by
  rw [h.len]
  exact flat_len L
/-- The stream of what Split took. -/
theorem stream_of (a : Option Addr) (cap : Nat) (xs : List Int) (L : List Upd) (p : Nat) (w : World) (h : SplitIs xs L p) (hu : Upds w a L.length L) (hn : L.length ≤ 1073741824) :
    Calls Try.prog 15 #[.slice a L.length cap] w fun r w' => ∃ va vc, r = .returned (.tuple #[.slice va p vc, .int .i64 0]) ∧ Own w.heap.size w' (.slice va p vc) p (xs.take p) ∧ w.grownBy w' none := by
  have e1 : stE L L.length = 0 := stE_full L h.ok _ (Nat.le_refl _)
  have e2 : stZ L L.length = xs.take p := by rw [stZ_full L h.ok, h.pre]
  have e3 : (stZ L L.length).length = p := by rw [e2, List.length_take]; have := h.le; omega
  have k := stream_c a L.length cap L w hu hn
  rw [e1, e3, e2] at k
  exact k.mono fun r w' ⟨va, vc, k1, k2, k3⟩ => ⟨va, vc, k1, k2, below_gb k3⟩
theorem slice_hd (a : Option Addr) (len cap h : Nat) (hc : h ≤ cap) (W : World) : (Instr.slice 27 (.slice a len cap) none (some (.int .i64 (h : Int))) none).run Try.prog W = .ok (.slice a h cap) W := by
  obtain ⟨i0, hi, hz0, hz1, hz2⟩ := info_parts Try.infoU8
  have hel : Try.prog.elem 27 = 5 := by simp [Program.elem]
  rw [run_slice_h W 27 a len cap (by rw [hel]; exact Try.underlying27) .i64 h (by omega) (by omega)]
  rw [hel]
  have ea : ∀ (a : Option Addr), Option.map (fun x => x.add 0) a = a := fun a => by cases a <;> simp [Addr.add]
  simp [sizeOf, typeInfo, hi, sliced, hz1, ea]
set_option maxRecDepth 20000 in
set_option maxHeartbeats 2000000 in
theorem split_c (a : Option Addr) (len cap : Nat) (xs : List Int) (w : World) (h : Seg .u8 w a len xs) (hx : Bytes xs) (hl : len ≤ 68719476736) (hnz : a = none → cap = 0) :
    Calls Try.prog 19 #[.slice a len cap] w fun r w' => ∃ v L p, r = .returned (.tuple #[v, .int .i64 ((p : Nat) : Int)]) ∧ SplitIs xs L p ∧ UOwn w.heap.size w' v L ∧ Below w.heap.size w w' := by
  have hlen : xs.length = len := h.1
  have HS : Hid (Calls Try.prog 35 #[.slice a len cap] w fun r w' => ∃ g a' cap', r = .returned (.pointer (some ⟨g, 0, none⟩)) ∧ RS w' g a' len cap' xs 0 0 ∧ w.heap.size ≤ g ∧ (∀ b o s, a' = some ⟨b, o, s⟩ → w.heap.size ≤ b ∧ b < w'.heap.size) ∧ w.grownBy w' none) := new_c2 a len cap xs w h hx (by omega) hnz
  obtain ⟨B, hB⟩ : ∃ B, B = w.heap.size := ⟨_, rfl⟩
  have HBW : Hid (B = w.heap.size ∧ Bytes xs ∧ xs.length = len ∧ len ≤ 68719476736) := ⟨hB, hx, hlen, hl⟩
  clear h hx hnz hlen
  go_enter Try.func19, Try.ntmps19
  rw [← hB]
  clear hB
  go_wp2_with fail
  refine (Calls.mono HS.out ?_)
  rintro r w2 ⟨g, a', cap', rfl, h1, h2, h3, h4⟩
  obtain ⟨D, hD⟩ : ∃ D, D = w2.heap.size := ⟨_, rfl⟩
  have H0 : Hid (SI B D w w2 g a' len cap' xs 0 0 (.slice none 0 0) []) := ⟨h1, uown_nil _ _, by rw [HBW.out.1]; exact gb_below h4, by omega, by rw [hD]; exact lt_of_block h1.rdr, by have := HBW.out.1; omega, fun b o s q => by rw [hD]; exact (h3 b o s q).2⟩
  clear h1 h2 h3 h4 hD
  go_wp2_with fail
  go_loopw [4, 5] (fun v i wr => ∃ (p : Nat) (bv : Value) (L : List Upd), v = bv ∧ i = .int .i64 (p : Int) ∧ Hid (SI B D w wr g a' len cap' xs 0 p bv L ∧ xs.take p = L.flatMap one ∧ (∀ u ∈ L, Upd.err u = 0) ∧ L.length ≤ p)) (fun _ i _ => len - (intOf i).toNat)
  case atStart => exact ⟨0, _, [], rfl, rfl, H0.out, by simp, by simp, by simp⟩
  case round =>
    obtain ⟨p, bv, L, hbv, rfl, hr⟩ := hrel
    obtain rfl := hbv.symm
    clear H0
    have hple : p ≤ len := hr.out.1.rs.le
    obtain ⟨d, hd⟩ : ∃ d, d = len - p := ⟨_, rfl⟩
    have HLE : Hid (∀ W bv L, SI B D w W g a' len cap' xs 0 p bv L → Calls Try.prog 38 #[.pointer (some ⟨g, 0, none⟩)] W fun r w' => r = .returned (.int .i64 (d : Int)) ∧ SI B D w w' g a' len cap' xs 0 p bv L) := fun W bv L hs => by
      rw [hd]
      exact (left_r g a' len cap' xs 0 p W hs.rs).mono fun r w' ⟨k1, k2, k3⟩ => ⟨k1, hs.moves k2 k3⟩
    by_cases hlt : p < len
    · have hd0 : (0 : Int) < (d : Int) := by omega
      obtain ⟨T, hT⟩ : ∃ T, T = (rt xs p (len : Int)).1 := ⟨_, rfl⟩
      have hbd := rt_bd HBW.out.2.1 p (by rw [HBW.out.2.2.1]; exact hple) (len : Int)
      have hTL : T.length ≤ 68719476736 := by rw [hT]; have := hbd.2.2.1; have := HBW.out.2.2; omega
      have hTB : Bytes T := by rw [hT]; exact hbd.2.2.2.2
      obtain ⟨S, hS⟩ : ∃ S, S = strOfNums T := ⟨_, rfl⟩
      obtain ⟨z, hz⟩ : ∃ z, z = T.length := ⟨_, rfl⟩
      have HSS : Hid (S.size = z ∧ sb S = T ∧ z ≤ 68719476736) := ⟨by rw [hS, size_strOfNums, hz], by rw [hS]; exact sb_strOfNums _ hTB, by omega⟩
      cases hdk : dok T with
      | true =>
        obtain ⟨s1, s2, s3, s4, s5⟩ := sp_go HBW.out.2.1 (by rw [HBW.out.2.2.1]; exact hple) (by rw [← hT]; exact hdk)
        obtain ⟨q, hq⟩ : ∃ q, q = (rt xs p (len : Int)).2.1 := ⟨_, rfl⟩
        obtain ⟨u, hu⟩ : ∃ u, u = dupd T := ⟨_, rfl⟩
        rw [← hT, ← hu] at s4 s5
        rw [← hq] at s2 s3 s5
        have HG : Hid (q ≤ len ∧ p < q ∧ u.err = 0 ∧ xs.take q = (L ++ [u]).flatMap one) := ⟨by rw [← HBW.out.2.2.1]; exact s2, s3, s4, by rw [s5, hr.out.2.1, List.flatMap_append]; simp⟩
        have HT1 : Hid (∀ W bv L, SI B D w W g a' len cap' xs 0 p bv L → Calls Try.prog 39 #[.pointer (some ⟨g, 0, none⟩), .int .i64 (len : Int)] W fun r w' => r = .returned (.string S) ∧ SI B D w w' g a' len cap' xs 0 q bv L) := fun W bv L hs => by
          have k := text_ok g a' len cap' xs p (len : Int) W hs.rs (by omega)
          rw [← hT, s1, ← hq, ← hS] at k
          exact k.mono fun r w' ⟨k1, k2, k3⟩ => ⟨k1, hs.moves k2 k3⟩
        obtain ⟨q1, c1, m1, kd, key, val, ver⟩ := u
        have HDE : Hid (∀ W C b, Seg .u8 W (some ⟨b, 0, none⟩) z T → Calls Try.prog 13 #[.slice (some ⟨b, 0, none⟩) z C] W fun r w' => r = .returned (.tuple #[.agg #[.int .i64 q1, .int .i64 c1, .int .i64 m1, .int .i64 kd, .string key, .string val, .int .i64 ver], .int .i64 0]) ∧ W.grownBy w' none) := fun W C b hs => by
          have k := decode_c (some ⟨b, 0, none⟩) z C T W hs hTB (by omega) (fun e => by cases e)
          rw [show dres T = #[.int .i64 q1, .int .i64 c1, .int .i64 m1, .int .i64 kd, .string key, .string val, .int .i64 ver] from by unfold dres; rw [if_pos hdk, ← hu]; rfl, show derr T = 0 from by unfold derr; rw [if_pos hdk]] at k
          exact k.mono fun r w' ⟨k1, k2⟩ => ⟨k1, below_gb k2⟩
        have hLn : L.length ≤ 68719476736 := by have := hr.out.2.2.2; omega
        have HL : Hid (L.length ≤ p) := hr.out.2.2.2
        have HOK : Hid (∀ u ∈ L, Upd.err u = 0) := hr.out.2.2.1
        have HR1 : Hid (SI B D w wr g a' len cap' xs 0 p bv L) := hr.out.1
        clear hr hT hbd hTB hS hz hdk s1 s2 s3 s4 s5 hq hu hd hTL
        go_wp2_with (first
          | (go_at_call 38; go_must (refine (Calls.mono (HLE.out _ _ _ HR1.out) ?_)); rintro r w3 ⟨rfl, h3⟩; have H3 : Hid (SI B D w w3 g a' len cap' xs 0 p bv L) := h3; clear h3)
          | (have z := H3; clear z; go_at_call 39; go_must (refine (Calls.mono (HT1.out _ _ _ H3.out) ?_)); rintro r w4 ⟨rfl, h4⟩; obtain ⟨W5, C, hcv, hM5, hB5⟩ := str_bytes S w4 (by have := HSS.out; omega); rw [HSS.out.1] at hcv hM5; rw [HSS.out.2.1] at hM5; have H5 : Hid (SI B D w W5 g a' len cap' xs 0 q bv L ∧ Seg .u8 W5 (some ⟨w4.heap.size, 0, none⟩) z T) := ⟨h4.new (below_gb hB5), hM5.seg⟩; clear h4 hM5 hB5)
          | (have z := H5; clear z; go_at_call 13; go_must (refine (Calls.mono (HDE.out _ _ _ H5.out.2) ?_)); rintro r w6 ⟨rfl, h6⟩; have H6 : Hid (SI B D w (w6.alloc (.cells #[.int .i64 q1, .int .i64 c1, .int .i64 m1, .int .i64 kd, .string key, .string val, .int .i64 ver] 26)) g a' len cap' xs 0 q bv L ∧ Bk 26 (w6.alloc (.cells #[.int .i64 q1, .int .i64 c1, .int .i64 m1, .int .i64 kd, .string key, .string val, .int .i64 ver] 26)) w6.heap.size #[.int .i64 q1, .int .i64 c1, .int .i64 m1, .int .i64 kd, .string key, .string val, .int .i64 ver]) := ⟨(H5.out.1.new h6).new (gb_alloc _ _), (blk_new _ _ _).1⟩; clear h6)
          | (have z := H6; clear z; (fail_if_success (have z := H7)); refine wpList_load_bk 26 rfl (.tmp 7) rfl Try.underlying26 rfl infoUpd w6.heap.size _ rfl H6.out.2 rfl ?_)
          | (have z := H6; clear z; (fail_if_success (have z := H7)); at_builtin; go_must (refine wpList_upd rfl (.tmp 25) (.tmp 27) rfl D bv L ⟨q1, c1, m1, kd, key, val, ver⟩ rfl H6.out.1.own (by rw [World.size_alloc]; rfl) hLn H6.out.1.hi ?_); intro v7 w7 ho hg _; have H7 : Hid (SI B D w w7 g a' len cap' xs 0 q v7 (L ++ [⟨q1, c1, m1, kd, key, val, ver⟩])) := H6.out.1.app ho hg; clear ho hg)
          | (have z := H7; clear z; go_at_call 40; go_must (refine (at_c g 0 _ _ _ H7.out.rs.rdr).mono ?_); rintro r wq ⟨rfl, hq⟩; obtain rfl := hq.symm))
        go_roundw
        case rel => exact ⟨q, v7, _, rfl, rfl, H7.out, HG.out.2.2.2, fun u hu => by rcases List.mem_append.1 hu with z | z; exact HOK.out u z; simp at z; subst z; exact HG.out.2.2.1, by have := HL.out; have := HG.out.2.1; simp; omega⟩
        case measure => have := HG.out; simp [intOf]; omega
      | false =>
        have HN : Hid (SplitIs xs L p) := ⟨by rw [HBW.out.2.2.1]; exact hple, hr.out.2.1, hr.out.2.2.1, sp_no HBW.out.2.1 (by rw [HBW.out.2.2.1]; exact hple) (by have := HBW.out.2.2; omega) (by rw [HBW.out.2.2.1, ← hT]; exact hdk)⟩
        obtain ⟨e, he⟩ : ∃ e, e = (rt xs p (len : Int)).2.2 := ⟨_, rfl⟩
        obtain ⟨q, hq⟩ : ∃ q, q = (rt xs p (len : Int)).2.1 := ⟨_, rfl⟩
        have HT1 : Hid (∀ W bv L, SI B D w W g a' len cap' xs 0 p bv L → Calls Try.prog 39 #[.pointer (some ⟨g, 0, none⟩), .int .i64 (len : Int)] W fun r w' => r = .returned (.string S) ∧ SI B D w w' g a' len cap' xs e q bv L) := fun W bv L hs => by
          have k := text_ok g a' len cap' xs p (len : Int) W hs.rs (by omega)
          rw [← hT, ← he, ← hq, ← hS] at k
          exact k.mono fun r w' ⟨k1, k2, k3⟩ => ⟨k1, hs.moves k2 k3⟩
        have HDE : Hid (∀ W C b, Seg .u8 W (some ⟨b, 0, none⟩) z T → Calls Try.prog 13 #[.slice (some ⟨b, 0, none⟩) z C] W fun r w' => r = .returned (.tuple #[.agg #[.int .i64 0, .int .i64 0, .int .i64 0, .int .i64 0, .string { data := #[] }, .string { data := #[] }, .int .i64 0], .int .i64 86]) ∧ W.grownBy w' none) := fun W C b hs => by
          have k := decode_c (some ⟨b, 0, none⟩) z C T W hs hTB (by omega) (fun e => by cases e)
          rw [show dres T = #[.int .i64 0, .int .i64 0, .int .i64 0, .int .i64 0, .string { data := #[] }, .string { data := #[] }, .int .i64 0] from by unfold dres; rw [if_neg (by rw [hdk]; decide)]; rfl, show derr T = 86 from by unfold derr; rw [if_neg (by rw [hdk]; decide)]] at k
          exact k.mono fun r w' ⟨k1, k2⟩ => ⟨k1, below_gb k2⟩
        have HR1 : Hid (SI B D w wr g a' len cap' xs 0 p bv L) := hr.out.1
        clear hr hT hbd hTB hS hz hdk hq he hd hTL
        go_wp2_with (first
          | (go_at_call 38; go_must (refine (Calls.mono (HLE.out _ _ _ HR1.out) ?_)); rintro r w3 ⟨rfl, h3⟩; have H3 : Hid (SI B D w w3 g a' len cap' xs 0 p bv L) := h3; clear h3)
          | (have z := H3; clear z; go_at_call 39; go_must (refine (Calls.mono (HT1.out _ _ _ H3.out) ?_)); rintro r w4 ⟨rfl, h4⟩; obtain ⟨W5, C, hcv, hM5, hB5⟩ := str_bytes S w4 (by have := HSS.out; omega); rw [HSS.out.1] at hcv hM5; rw [HSS.out.2.1] at hM5; have H5 : Hid (SI B D w W5 g a' len cap' xs e q bv L ∧ Seg .u8 W5 (some ⟨w4.heap.size, 0, none⟩) z T) := ⟨h4.new (below_gb hB5), hM5.seg⟩; clear h4 hM5 hB5)
          | (have z := H5; clear z; go_at_call 13; go_must (refine (Calls.mono (HDE.out _ _ _ H5.out.2) ?_)); rintro r w6 ⟨rfl, h6⟩; have H6 : Hid (SI B D w (w6.alloc (.cells #[.int .i64 0, .int .i64 0, .int .i64 0, .int .i64 0, .string { data := #[] }, .string { data := #[] }, .int .i64 0] 26)) g a' len cap' xs e q bv L) := (H5.out.1.new h6).new (gb_alloc _ _); clear h6))
        go_ret2
        exact ⟨bv, L, p, rfl, HN.out, H6.out.own.low (by have := H6.out.lt; have := H6.out.ge; omega), H6.out.bel⟩
    · obtain rfl : p = len := by omega
      have hd0 : d = 0 := by omega
      subst hd0
      have HN : Hid (SplitIs xs L p) := ⟨by rw [HBW.out.2.2.1]; exact hple, hr.out.2.1, hr.out.2.2.1, by rw [List.drop_of_length_le (by rw [HBW.out.2.2.1]; exact Nat.le_refl _)]; exact noU_nil⟩
      have HR1 : Hid (SI B D w wr g a' p cap' xs 0 p bv L) := hr.out.1
      clear hr hd
      go_wp2_with (first
        | (go_at_call 38; go_must (refine (Calls.mono (HLE.out _ _ _ HR1.out) ?_)); rintro r w3 ⟨rfl, h3⟩; have H3 : Hid (SI B D w w3 g a' p cap' xs 0 p bv L) := h3; clear h3))
      go_ret2
      exact ⟨bv, L, p, rfl, HN.out, H3.out.own.low (by have := H3.out.lt; have := H3.out.ge; omega), H3.out.bel⟩
end Go.Proofs.Ytmpedbddbknndaa.Dl

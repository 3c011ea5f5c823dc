/-
  Lists of ranges and of numbers that are collected, each in a block of its own; the rows that hold them. No condition of its own.
-/
import Derived.Test.YtdjcokepeifojaaNFd
import Derived.Test.YtdjcokepeifojaaNSi
import Derived.Test.YtdjcokepeifojaaNBk
import Derived.Test.YtdjcokepeifojaaNAw
import Derived.Test.YtdjcokepeifojaaNWh
namespace Go.Proofs.Ytdjcokepeifojaa
set_option linter.unusedVariables false
open Go.RowKit

/-- append of a literal of m elements to a list of one's own. -/
theorem wpList_litN {ops : Array Oper} {rest : List Oper} {o : Oper} {a : Act} {w : World} {Q : Exit → Act → World → Prop} (hgd : o.guard = none) (s x : Operand) (t : TypeId)
    (ho : o.op = .call { callee := .builtin .append, args := #[s, x], argTypes := #[t, t] })
    (base : Nat) (e : TypeId) (z : Value) (size bytes m : Nat) (hm : 0 < m) (ht : Try.prog.underlying t = some (.slice e)) (hi : (Try.prog.info? e).map (fun i => (i.zero, i.size, i.bytes)) = some (some z, size, bytes)) (hzs : z.cells.size = size) (hsz : 0 < size)
    (w0 : World) (cs : Array Value) (hw : w = w0.alloc (.cells cs e)) (v : Value) (n : Nat) (xs : List Value) (hs : a.eval s = v) (hown : w0.ownsRow base e size v n xs)
    (hx : a.eval x = .slice (some ⟨w0.heap.size, 0, none⟩) m m) (hl : cs.size = m * size) (h1 : ∀ u ∈ cs.toList, u.oneCell' = true)
    (h63 : n + m ≤ maxLen) (hbytes : (n + m) * bytes ≤ 140737488355328) (hbase : base ≤ w0.heap.size)
    (h : ∀ g cap w', w'.ownsRow base e size (.slice (some ⟨g, 0, none⟩) (n + m) cap) (n + m) (xs ++ cs.toList) → w0.grownBy w' v.ownBlock → (v.ownBlock = some g ∨ w0.heap.size ≤ g) → wpList Try.prog ops Q rest (a.put o.dst (.slice (some ⟨g, 0, none⟩) (n + m) cap)) w') :
    wpList Try.prog ops Q (o :: rest) a w := by
  subst hw
  obtain ⟨i, hi, hz, h4, h5⟩ := info_parts' hi
  have ho' := own_gb hown (gb_alloc w0 (.cells cs e))
  refine wpList_append_lies _ hgd s x t ho base e i z size bytes ht hi hz h4 h5 hzs hsz v n xs hs ho' ⟨w0.heap.size, 0, none⟩ m m cs.toList hx (by rw [Array.length_toList, hl]) (World.news_of_block (heap_new w0 _)) h1 hm h63 hbytes (Nat.le_trans hbase (gb_alloc w0 _).size) _ rfl ?_
  intro g cap w' k1 k2 k3 k4
  exact h g cap w' k1 (gb_trans (gb_wide (gb_alloc w0 _) _) k2) (k3.imp id (fun e => by rw [e]; exact (gb_alloc w0 _).size))

/-- A list that is collected. -/
structure Ent where
  v : Value
  n : Nat
  xs : List Value
/-- Lists H of ranges and N of numbers, and two rows hv and nv: no two in one block. -/
structure Hb (B : Nat) (w : World) (hv nv : Value) (H N : List Ent) : Prop where
  h : ∀ e ∈ H, w.ownsRow B 39 2 e.v e.n e.xs
  n : ∀ e ∈ N, w.ownsRow B 3 1 e.v e.n e.xs
  hh : ∃ k xs, w.ownsRow B 24 1 hv k xs
  nn : ∃ k xs, w.ownsRow B 22 1 nv k xs
  ap : (hv :: nv :: (H ++ N).map (·.v)).Pairwise Ndis
  sz : B ≤ w.heap.size
theorem Hb.lt {B w hv nv H N} (h : Hb B w hv nv H N) : ∀ v ∈ hv :: nv :: (H ++ N).map (·.v), ∀ g, v.ownBlock = some g → B ≤ g ∧ g < w.heap.size := fun v hm g hg => by
  rcases List.mem_cons.1 hm with rfl | hm
  · obtain ⟨k, xs, o⟩ := h.hh; exact own_lo o g hg
  rcases List.mem_cons.1 hm with rfl | hm
  · obtain ⟨k, xs, o⟩ := h.nn; exact own_lo o g hg
  obtain ⟨e, he, rfl⟩ := List.mem_map.1 hm
  rcases List.mem_append.1 he with he | he
  · exact own_lo (h.h e he) g hg
  · exact own_lo (h.n e he) g hg
theorem Hb.gb {B w w' hv nv H N} (h : Hb B w hv nv H N) (hg : w.grownBy w' none) : Hb B w' hv nv H N :=
  ⟨fun e he => own_gb (h.h e he) hg, fun e he => own_gb (h.n e he) hg, by obtain ⟨k, xs, o⟩ := h.hh; exact ⟨k, xs, own_gb o hg⟩, by obtain ⟨k, xs, o⟩ := h.nn; exact ⟨k, xs, own_gb o hg⟩, h.ap, Nat.le_trans h.sz hg.size⟩
theorem own_base' {w : World} {B B' : Nat} {e : TypeId} {size : Nat} {v : Value} {n : Nat} {xs : List Value} (h : w.ownsRow B e size v n xs) (hb : B' ≤ B) : w.ownsRow B' e size v n xs := by
  refine ⟨h.1, ?_⟩
  rcases h.2 with h0 | ⟨g, cap, cur, rfl, hB, r⟩
  · exact .inl h0
  · exact .inr ⟨g, cap, cur, rfl, Nat.le_trans hb hB, r⟩
theorem getD_at {α : Type} (l : List α) (i : Nat) (h : i < l.length) (d : α) : l.getD i d = l[i] := by
  rw [List.getD_eq_getElem?_getD, List.getElem?_eq_getElem h]; rfl
theorem ndis_far {a b : Value} {n : Nat} (ha : ∀ g, a.ownBlock = some g → g < n) (hb : ∀ g, b.ownBlock = some g → n ≤ g) : Ndis a b := fun k e z => by
  have := ha k e; have := hb k z; omega
theorem pw_ins {A C : List Value} {v : Value} (h : (A ++ C).Pairwise Ndis) (hv : ∀ u ∈ A ++ C, Ndis u v) : (A ++ v :: C).Pairwise Ndis := by
  rw [List.pairwise_append] at h ⊢
  refine ⟨h.1, List.pairwise_cons.2 ⟨fun u hu => ndis_symm (hv u (List.mem_append.2 (.inr hu))), h.2.1⟩, fun x hx y hy => ?_⟩
  rcases List.mem_cons.1 hy with rfl | hy
  · exact hv x (List.mem_append.2 (.inl hx))
  · exact h.2.2 x hx y hy
/-- One more list of ranges, in a new block, put between A and C. -/
theorem Hb.insH {B w w' hv nv N} {A C : List Ent} {e : Ent} (h : Hb B w hv nv (A ++ C) N) (hg : w.grownBy w' none) (ho : w'.ownsRow w.heap.size 39 2 e.v e.n e.xs) : Hb B w' hv nv (A ++ e :: C) N := by
  have h' := h.gb hg
  refine ⟨fun x hx => ?_, h'.n, h'.hh, h'.nn, ?_, h'.sz⟩
  · rcases List.mem_append.1 hx with q | q
    · exact h'.h x (List.mem_append.2 (.inl q))
    rcases List.mem_cons.1 q with rfl | q
    · exact own_base' ho h.sz
    · exact h'.h x (List.mem_append.2 (.inr q))
  · have := pw_ins (A := hv :: nv :: A.map (·.v)) (C := (C ++ N).map (·.v)) (v := e.v) (by have := h.ap; simpa [List.map_append, List.append_assoc] using this) (fun u hu => ndis_far (n := w.heap.size) (fun g hg => (h.lt u (by simpa [List.map_append, List.append_assoc] using hu) g hg).2) (fun g hg => (own_lo ho g hg).1))
    simpa [List.map_append, List.append_assoc] using this
/-- One more list of numbers, in a new block, at the end. -/
theorem Hb.addN {B w w' hv nv H N} {e : Ent} (h : Hb B w hv nv H N) (hg : w.grownBy w' none) (ho : w'.ownsRow w.heap.size 3 1 e.v e.n e.xs) : Hb B w' hv nv H (N ++ [e]) := by
  have h' := h.gb hg
  refine ⟨h'.h, fun x hx => ?_, h'.hh, h'.nn, ?_, h'.sz⟩
  · rcases List.mem_append.1 hx with q | q
    · exact h'.n x q
    · obtain rfl := List.mem_singleton.1 q
      exact own_base' ho h.sz
  · have := pw_ins (A := hv :: nv :: (H ++ N).map (·.v)) (C := []) (v := e.v) (by have := h.ap; simpa using this) (fun u hu => ndis_far (n := w.heap.size) (fun g hg => (h.lt u (by simpa using hu) g hg).2) (fun g hg => (own_lo ho g hg).1))
    simpa [List.map_append, List.append_assoc] using this
/-- The row of the lists of ranges has grown. -/
theorem Hb.rowH {B w w' hv hv' nv H N k xs} (h : Hb B w hv nv H N) (hg : w.grownBy w' hv.ownBlock) (ho : w'.ownsRow B 24 1 hv' k xs) (hat : hv'.ownBlock = hv.ownBlock ∨ ∃ g, hv'.ownBlock = some g ∧ w.heap.size ≤ g) : Hb B w' hv' nv H N := by
  obtain ⟨p1, p2⟩ := List.pairwise_cons.1 h.ap
  refine ⟨fun e he => own_gro (h.h e he) hg (fun g e1 e2 => p1 e.v (by simp only [List.mem_cons, List.map_append, List.mem_append]; exact .inr (.inl (List.mem_map.2 ⟨e, he, rfl⟩))) g e2 e1), fun e he => own_gro (h.n e he) hg (fun g e1 e2 => p1 e.v (by simp only [List.mem_cons, List.map_append, List.mem_append]; exact .inr (.inr (List.mem_map.2 ⟨e, he, rfl⟩))) g e2 e1), ⟨k, xs, ho⟩, ?_, ?_, Nat.le_trans h.sz hg.size⟩
  · obtain ⟨k, xs, o⟩ := h.nn
    exact ⟨k, xs, own_gro o hg (fun g e1 e2 => p1 nv (by simp) g e2 e1)⟩
  · refine List.pairwise_cons.2 ⟨fun v hv2 => ndis_symm (ndis_new (ndis_symm (p1 v hv2)) (fun g e => (h.lt v (List.mem_cons.2 (.inr hv2)) g e).2) hat), p2⟩
theorem Hb.rowN {B w w' hv nv nv' H N k xs} (h : Hb B w hv nv H N) (hg : w.grownBy w' nv.ownBlock) (ho : w'.ownsRow B 22 1 nv' k xs) (hat : nv'.ownBlock = nv.ownBlock ∨ ∃ g, nv'.ownBlock = some g ∧ w.heap.size ≤ g) : Hb B w' hv nv' H N := by
  obtain ⟨p1, p2⟩ := List.pairwise_cons.1 h.ap
  obtain ⟨q1, q2⟩ := List.pairwise_cons.1 p2
  refine ⟨fun e he => own_gro (h.h e he) hg (fun g e1 e2 => q1 e.v (by simp only [List.map_append, List.mem_append]; exact .inl (List.mem_map.2 ⟨e, he, rfl⟩)) g e2 e1), fun e he => own_gro (h.n e he) hg (fun g e1 e2 => q1 e.v (by simp only [List.map_append, List.mem_append]; exact .inr (List.mem_map.2 ⟨e, he, rfl⟩)) g e2 e1), ?_, ⟨k, xs, ho⟩, ?_, Nat.le_trans h.sz hg.size⟩
  · obtain ⟨k, xs, o⟩ := h.hh
    exact ⟨k, xs, own_gro o hg (fun g e1 e2 => p1 nv (by simp) g e1 e2)⟩
  · refine List.pairwise_cons.2 ⟨fun v hv2 => ?_, List.pairwise_cons.2 ⟨fun v hv2 => ndis_symm (ndis_new (ndis_symm (q1 v hv2)) (fun g e => (h.lt v (List.mem_cons.2 (.inr (List.mem_cons.2 (.inr hv2)))) g e).2) hat), q2⟩⟩
    rcases List.mem_cons.1 hv2 with rfl | hv2
    · exact ndis_new (p1 nv (by simp)) (fun g e => (h.lt hv (by simp) g e).2) hat
    · exact p1 v (List.mem_cons.2 (.inr hv2))
/-- Rows of all of them, beside a list in a block of its own: apart can be asked. -/
theorem Hb.ap_of {B w hv nv H N} {F : Nat → Prop} (h : Hb B w hv nv H N) (hh : w.ownsRow B 24 1 hv H.length (H.map (·.v))) (hn : w.ownsRow B 22 1 nv N.length (N.map (·.v))) (hF : ∀ k, F k → k < w.heap.size) (hF2 : ∀ v ∈ hv :: nv :: (H ++ N).map (·.v), ∀ k, F k → v.ownBlock ≠ some k) :
    Ap F B w w hv nv nilV nilV H.length N.length 0 0 (fun q => ((H ++ N).getD q ⟨nilV, 0, []⟩).v) (fun q => ((H ++ N).getD q ⟨nilV, 0, []⟩).v) (fun q => ((H ++ N).getD q ⟨nilV, 0, []⟩).n) (fun q => ((H ++ N).getD q ⟨nilV, 0, []⟩).n) (fun q => ((H ++ N).getD q ⟨nilV, 0, []⟩).xs) (fun q => ((H ++ N).getD q ⟨nilV, 0, []⟩).xs) := by
  obtain ⟨p1, p2⟩ := List.pairwise_cons.1 h.ap
  obtain ⟨q1, q2⟩ := List.pairwise_cons.1 p2
  have own : ∀ i, i < H.length + N.length → w.ownsRow B (tyE H.length i) (tyS H.length i) ((H ++ N).getD i ⟨nilV, 0, []⟩).v ((H ++ N).getD i ⟨nilV, 0, []⟩).n ((H ++ N).getD i ⟨nilV, 0, []⟩).xs := fun i hi => by
    by_cases hlt : i < H.length
    · rw [show tyE H.length i = 39 from if_pos hlt, show tyS H.length i = 2 from if_pos hlt]
      have e : (H ++ N).getD i ⟨nilV, 0, []⟩ = H[i] := by rw [getD_at _ _ (by rw [List.length_append]; omega), List.getElem_append_left hlt]
      rw [e]; exact h.h _ (List.getElem_mem hlt)
    · rw [show tyE H.length i = 3 from if_neg hlt, show tyS H.length i = 1 from if_neg hlt]
      have e : (H ++ N).getD i ⟨nilV, 0, []⟩ = N[i - H.length]'(by omega) := by
        rw [getD_at _ _ (by rw [List.length_append]; omega), List.getElem_append_right (Nat.le_of_not_lt hlt)]
      rw [e]; exact h.n _ (List.getElem_mem _)
  have mem : ∀ i, i < H.length + N.length → ((H ++ N).getD i ⟨nilV, 0, []⟩).v ∈ (H ++ N).map (·.v) := fun i hi => by
    have hl : i < (H ++ N).length := by rw [List.length_append]; omega
    have e : (H ++ N).getD i ⟨nilV, 0, []⟩ = (H ++ N)[i] := getD_at _ _ hl _
    rw [e]; exact List.mem_map.2 ⟨_, List.getElem_mem hl, rfl⟩
  have dis : ∀ i j, i < H.length + N.length → j < H.length + N.length → i ≠ j → Ndis ((H ++ N).getD i ⟨nilV, 0, []⟩).v ((H ++ N).getD j ⟨nilV, 0, []⟩).v := by
    have lt : ∀ i j, j < H.length + N.length → i < j → Ndis ((H ++ N).getD i ⟨nilV, 0, []⟩).v ((H ++ N).getD j ⟨nilV, 0, []⟩).v := fun i j hj hij => by
      have hl : j < ((H ++ N).map (·.v)).length := by rw [List.length_map, List.length_append]; omega
      have := List.pairwise_iff_getElem.1 q2 i j (by omega) hl hij
      simp only [List.getElem_map] at this
      have hl2 : j < (H ++ N).length := by rw [List.length_append]; omega
      have e : (H ++ N).getD j ⟨nilV, 0, []⟩ = (H ++ N)[j] := getD_at _ _ hl2 _
      have e2 : (H ++ N).getD i ⟨nilV, 0, []⟩ = (H ++ N)[i]'(by omega) := getD_at _ _ (by omega) _
      rw [e, e2]; exact this
    intro i j hi hj hij
    rcases Nat.lt_or_ge i j with k | k
    · exact lt i j hj k
    · exact ndis_symm (lt j i hi (by omega))
  refine ⟨⟨own, own, fun i j g hi hj hij hb => ?_, fun i g hi hb z => ?_⟩, ?_, ?_, own_none _ _ _ _, own_none _ _ _ _, ?_, Below.refl _ _, h.sz, Nat.zero_le _, fun k hk => ⟨rfl, hF k hk⟩, fun k hk => ⟨hF2 _ (by simp) k hk, hF2 _ (by simp) k hk, (fun z => by cases z), (fun z => by cases z)⟩⟩
  · have := dis i j hi hj hij g (hb.elim id id)
    exact ⟨this, this⟩
  · have hb := hb.elim id id
    rcases z with z | z | z | z | z
    · exact p1 _ (List.mem_cons.2 (.inr (mem i hi))) g z hb
    · exact q1 _ (mem i hi) g z hb
    · cases z
    · cases z
    · exact hF2 _ (List.mem_cons.2 (.inr (List.mem_cons.2 (.inr (mem i hi))))) g z hb
  · rw [show (List.range H.length).map (fun q => ((H ++ N).getD q ⟨nilV, 0, []⟩).v) = H.map (·.v) from by
      apply List.ext_getElem
      · simp
      · intro i h1 h2
        have : i < H.length := by simpa using h2
        simp [List.getElem?_append_left this, this]]
    exact hh
  · rw [show (List.range N.length).map (fun q => ((H ++ N).getD (H.length + q) ⟨nilV, 0, []⟩).v) = N.map (·.v) from by
      apply List.ext_getElem
      · simp
      · intro i h1 h2
        have : i < N.length := by simpa using h2
        simp [this]]
    exact hn
  · exact four_ap ⟨p1 _ (by simp), (fun k _ z => by cases z), (fun k _ z => by cases z), (fun k _ z => by cases z), (fun k _ z => by cases z), (fun k e _ => by cases e)⟩
def kT : ByteArray := ⟨#[107]⟩
def qT : ByteArray := ⟨#[113]⟩
theorem kq_has (X : List Rg) : lHas ((kT, qT) :: X) kT = true := by
  have : rHas (kT, qT) kT = true := by decide +kernel
  simp [lHas, this]
theorem kq_bmt (X : List Rg) : 0 < (bmt 2 ((kT, qT) :: X)).length := by
  have h : (107 : Int) ∈ bmt 2 ((kT, qT) :: X) := by
    unfold bmt
    rw [mt_mem]
    refine ⟨107, by decide +kernel, ?_, rfl⟩
    rw [tch_iff]
    refine ⟨kT, ?_, kq_has X⟩
    have := of_has 2 (by omega) (by omega) kT 107 (by decide +kernel)
    exact this.trans (by decide +kernel)
  exact List.length_pos_of_mem h
theorem bmt_le (X : List Rg) : (bmt 2 X).length ≤ 256 := by
  have := mt_len 2 X (nbk 2).toNat
  have e : (nbk 2).toNat = 256 := by decide +kernel
  rw [e] at this
  unfold bmt
  exact (show (2 : Int).toNat = 2 from rfl) ▸ (e.symm ▸ this)
theorem own3_some {R : List Rg} {X : List Int} (h : ∀ t, lHas R t = decide (bkt t 2 ∈ X)) (hX : (3 : Int) ∈ X) : 0 < R.length := by
  cases R with
  | nil =>
    have := h ⟨#[3]⟩
    rw [show bkt ⟨#[3]⟩ 2 = 3 from by decide +kernel] at this
    simp [lHas, hX] at this
  | cons => simp
/-- The normal form of a list. -/
noncomputable def nfm (X : List Rg) : List Rg := open Classical in if h : ∃ R : List Rg, Nrm R ∧ (∀ t, lHas R t = lHas X t) ∧ R.length ≤ 2 * X.length + 1 then Classical.choose h else []
theorem nfm_is {X R : List Rg} (h1 : Nrm R) (h2 : ∀ t, lHas R t = lHas X t) (h3 : R.length ≤ 2 * X.length + 1) : R = nfm X := by
  have h : ∃ R : List Rg, Nrm R ∧ (∀ t, lHas R t = lHas X t) ∧ R.length ≤ 2 * X.length + 1 := ⟨R, h1, h2, h3⟩
  unfold nfm
  rw [dif_pos h]
  have := Classical.choose_spec h
  exact Nrm.uniq h1 this.1 fun t => by rw [h2, this.2.1]
end Go.Proofs.Ytdjcokepeifojaa

/-
  What disk's list, Files and Left answer: the files by rising names, in memory of their own. Condition: a disk's bounds.
-/
import Derived.Test.YteoohgjoffpmkaaKFs
import Derived.Test.YteoohgjoffpmkaaKNt
import Derived.Deep.AppendLies
namespace Go.Proofs.Yteoohgjoffpmkaa
open Go.RowKit Go.Maps Go.Sort
set_option linter.unusedVariables false

/-- append of a literal of one element. -/
theorem wpList_oneK {ops : Array Oper} {rest : List Oper} {o : Oper} {a : Act} {w : World} {Q : Exit → Act → World → Prop} (hgd : o.guard = none) (s x : Operand) (t : TypeId)
    (ho : o.op = .call { callee := .builtin .append, args := #[s, x], argTypes := #[t, t] })
    (e : TypeId) (z : Value) (size bytes : Nat) (ht : Try.prog.underlying t = some (.slice e)) (hi : (Try.prog.info? e).map (fun i => (i.zero, i.size, i.bytes)) = some (some z, size, bytes)) (hzs : z.cells.size = size) (hsz : 0 < size)
    (w0 : World) (cs : Array Value) (hw : w = w0.alloc (.cells cs e)) (v : Value) (n : Nat) (xs : List Value) (hs : a.eval s = v) (hown : w0.ownsRow 0 e size v n xs)
    (hx : a.eval x = .slice (some ⟨w0.heap.size, 0, none⟩) 1 1) (hl : cs.size = size) (h1 : ∀ u ∈ cs.toList, u.oneCell' = true)
    (h63 : n + 1 ≤ maxLen) (hbytes : (n + 1) * bytes ≤ 140737488355328)
    (h : ∀ g cap w', w'.ownsRow 0 e size (.slice (some ⟨g, 0, none⟩) (n + 1) cap) (n + 1) (xs ++ cs.toList) → w0.grownBy w' v.ownBlock → (v.ownBlock = some g ∨ w0.heap.size ≤ g) → wpList Try.prog ops Q rest (a.put o.dst (.slice (some ⟨g, 0, none⟩) (n + 1) cap)) w') :
    wpList Try.prog ops Q (o :: rest) a w := by
  subst hw
  obtain ⟨i, hi, hz, h4, h5⟩ := info_parts' hi
  have hga := World.grownBy_alloc w0 (.cells cs e) none
  have ho' := own_gr hown (Gr.of (G := fun _ => False) hga (by simp)) (fun _ _ z => z)
  refine wpList_append_lies _ hgd s x t ho 0 e i z size bytes ht hi hz h4 h5 hzs hsz v n xs hs ho' ⟨w0.heap.size, 0, none⟩ 1 1 cs.toList hx (by rw [Array.length_toList, hl]; omega) (World.news_of_block (heap_new w0 _)) h1 (by omega) h63 hbytes (Nat.zero_le _) _ rfl ?_
  intro g cap w' k1 k2 k3 k4
  exact h g cap w' k1 (gb_trans (gb_wide hga _) k2) (k3.imp id (fun e => by rw [e]; exact hga.size))
theorem own_uniq {w : World} {B C : Nat} {T : TypeId} {sz : Nat} {v : Value} {n : Nat} {xs ys : List Value} (h : w.ownsRow B T sz v n xs) (k : w.ownsRow C T sz v n ys) : xs = ys := by
  rcases h.2 with ⟨rfl, h0⟩ | ⟨g, cap, cur, rfl, hB, hg, hn, hm, hsz, htake⟩
  · have e1 := h.1
    have e2 := k.1
    rw [h0] at e1 e2
    have f1 : xs = [] := List.eq_nil_of_length_eq_zero (by simpa using e1)
    have f2 : ys = [] := List.eq_nil_of_length_eq_zero (by simpa using e2)
    rw [f1, f2]
  · rcases k.2 with ⟨e, _⟩ | ⟨g', cap', cur', e, hB', hg', hn', hm', hsz', htake'⟩
    · cases e
    · cases e
      rw [hg] at hg'
      cases hg'
      rw [← htake, ← htake']
theorem own_base_a2 {w : World} {B C : Nat} {e : TypeId} {size : Nat} {v : Value} {n : Nat} {xs : List Value} (h : w.ownsRow B e size v n xs) (hc : C ≤ B) : w.ownsRow C e size v n xs := by
  refine ⟨h.1, ?_⟩
  rcases h.2 with h0 | ⟨g, cap, cur, rfl, hB, r⟩
  · exact .inl h0
  · exact .inr ⟨g, cap, cur, rfl, Nat.le_trans hc hB, r⟩
/-- A row of texts that is read. -/
theorem own_texts {w : World} {B : Nat} {v : Value} {ls : List (List UInt8)} (h : w.ownsRow B 9 1 v ls.length (ls.map encStr)) : ∃ a c, v = .slice a ls.length c ∧ ∀ i l, ls[i]? = some l → ∃ g, a = some ⟨g, 0, none⟩ ∧ w.cell? ⟨g, i, none⟩ = some (.string ⟨l.toArray⟩) := by
  rcases h.2 with ⟨rfl, h0⟩ | ⟨g, cap, cur, rfl, hB, hg, hn, hm, hsz, htake⟩
  · refine ⟨none, 0, by rw [h0], fun i l hi => ?_⟩
    have : ls = [] := List.eq_nil_of_length_eq_zero h0
    subst this
    simp at hi
  · refine ⟨_, cap, rfl, fun i l hi => ⟨g, rfl, ?_⟩⟩
    have hj : i < ls.length := (List.getElem?_eq_some_iff.1 hi).1
    rw [cell_of_row w g i _ _ _ hg]
    have hu : (ls.map encStr)[i]? = some (encStr l) := by rw [List.getElem?_map, hi]; rfl
    rw [← htake, List.getElem?_take_of_lt (by omega)] at hu
    have := hu
    simp at this
    simpa using this
theorem infoFil : (Try.prog.info? 59).map (fun i => (i.zero, i.size, i.bytes)) = some (some (.agg #[.string .empty, .slice none 0 0]), 2, 40) := by kernel_rfl
/-- Between two rounds. -/
def LsI (w : World) (nv : Value) (ls : List (List UInt8)) (T : List (ByteArray × List Int)) (j : Nat) (v : Value) (wr : World) : Prop :=
  ∃ L, FiL (fun k => w.heap.size ≤ k ∧ nv.ownBlock ≠ some k) wr v L ∧ L.map FiM.p = T.take j ∧ Below w.heap.size w wr ∧ wr.ownsRow w.heap.size 9 1 nv ls.length (ls.map encStr)
theorem LsI.step {w : World} {nv : Value} {ls T j v wr x1 x2} {f : FiM} {v' : Value} (h : LsI w nv ls T j v wr) (hw : w.heap.size ≤ wr.heap.size) (hT : T[j]? = some f.p) (hb : Below wr.heap.size wr x1) (ho : Own wr.heap.size x1 f.u f.ys.length f.ys) (hby : Bytes f.ys)
    (hown : ∀ L, FiL (fun k => w.heap.size ≤ k ∧ nv.ownBlock ≠ some k) wr v L → L.map FiM.p = T.take j → x2.ownsRow 0 59 2 v' (L.length + 1) (flK L ++ [.string f.s, f.u])) (hg : x1.grownBy x2 v.ownBlock) (hv : ∀ k, v'.ownBlock = some k → (v.ownBlock = some k ∨ x1.heap.size ≤ k)) : LsI w nv ls T (j + 1) v' x2 := by
  obtain ⟨L, h1, h2, h3, h4⟩ := h
  have hs := hb.size
  have q := fil_app h1 (gb_of hb) ho hby hg (hown L h1 h2) hv
  have hG2 : Gr (fun k => v.ownBlock = some k) x1 x2 := Gr.of hg (fun k hk => .inl hk)
  have h5 : x1.ownsRow w.heap.size 9 1 nv ls.length (ls.map encStr) := own_gr h4 (Gr.ofB (G := fun _ => False) hb) (fun _ _ z => z)
  have h6 := own_gr h5 hG2 (fun k hk e => (h1.fv k e).2 hk)
  refine ⟨L ++ [f], q.weak (fun k hk z => ?_), ?_, ?_, h6⟩
  · rcases z with z | z
    · exact z
    · refine ⟨by omega, fun e => ?_⟩
      have := (own_lt h4 k e).2; omega
  · rw [List.map_append, h2]
    have hj : j < T.length := (List.getElem?_eq_some_iff.1 hT).1
    rw [List.take_add_one, hT]; rfl
  · have hb0 : Below w.heap.size w x1 := h3.trans (hb.mono hw)
    refine hb0.trans ⟨hg.os, hg.tape, hg.output, hg.size, fun k hk => hg.block k (by omega) (fun e => ?_)⟩
    have := (h1.fv k e.symm).1; omega
set_option maxRecDepth 20000 in
set_option maxHeartbeats 2000000 in
theorem list_c {O : Nat → Prop} {V F n} (b : Nat) (w : World) (h : Fl O w b V F) (ht : Tot F n) (hn : n ≤ 67108864) (hbd : bnd F) :
    Calls Try.prog 57 #[.map (some b)] w fun r w' => ∃ v L, r = .returned v ∧ Lst F (L.map FiM.p) ∧ FiL (fun k => w.heap.size ≤ k) w' v L ∧ Below w.heap.size w w' := by
  obtain ⟨D, hD1, hD2, hD3, hD4⟩ := fl_owns h ht hn (fun s xs hs => (hbd s xs hs).2)
  obtain ⟨es, c, hmb, hst, hk, hV⟩ := h.mp
  have hln := len_mapK w b c es hmb
  obtain ⟨m, hm⟩ : ∃ m, m = es.size := ⟨_, rfl⟩
  have hml : m ≤ 67108864 := by
    obtain ⟨es', c', hmb', _, hsz, _⟩ := hD1
    rw [hmb] at hmb'
    cases hmb'
    rw [hm]; exact hsz
  rw [← hm] at hln
  have HF : Hid (Fl O w b V F ∧ bnd F) := ⟨h, hbd⟩
  have HML : Hid (m ≤ 67108864) := hml
  have HNM : Hid (∀ W, Below w.heap.size w W → Calls Try.prog 64 #[.map (some b)] W fun e w' => ∃ (v : Value) (ss : List (List UInt8)), e = .returned v ∧ ss.Perm (strKeys D) ∧
      w'.ownsRow W.heap.size 9 1 v ss.length ((ss.mergeSort (fun x y => decide (x ≤ y))).map encStr) ∧ (v = .slice none 0 0 ↔ ss = []) ∧ Below W.heap.size W w') := by
    show ∀ W, _
    intro W hW
    refine names_own b 67108864 D rdU W ?_ (by unfold maxLen; omega) (by omega)
    obtain ⟨es', c', q1, q2⟩ := hD1
    exact ⟨es', c', (hW.block b h.mp.lt).trans q1, q2⟩
  have hkl : (strKeys D).length ≤ 67108864 := by
    obtain ⟨es2, e, _⟩ := hD1.keysOf
    rw [e] at hD2 ⊢
    rw [Maps.size_eq] at hD2
    show (es2.map _).length ≤ _
    rw [List.length_map]; exact hD2
  have HKD : Hid (∀ ss : List (List UInt8), ss.Perm (strKeys D) → ∃ (ls : List (List UInt8)) (T : List (ByteArray × List Int)), ls = ss.mergeSort (fun x y => decide (x ≤ y)) ∧ ls.length = ss.length ∧ T = rowsF F ls ∧ Lst F T ∧ T.length = ls.length ∧ ls.length ≤ 67108864 ∧ ∀ (j : Nat) (l : List UInt8), ls[j]? = some l → ∃ xs, F ⟨l.toArray⟩ = some xs ∧ T[j]? = some (⟨l.toArray⟩, xs)) := by
    show ∀ ss, _
    intro ss hp
    have hL := rowsF_lst hp hD3 hD4
    have hlen : (ss.mergeSort (fun x y => decide (x ≤ y))).length = ss.length := (List.mergeSort_perm _ _).length_eq
    refine ⟨_, _, rfl, hlen, rfl, hL, by simp [rowsF], by rw [hlen, hp.length_eq]; exact hkl, fun j l hj => ?_⟩
    have e : (rowsF F (ss.mergeSort (fun x y => decide (x ≤ y))))[j]? = some ((⟨l.toArray⟩ : ByteArray), (F ⟨l.toArray⟩).getD []) := by
      unfold rowsF
      rw [List.getElem?_map, hj]; rfl
    exact ⟨_, (hL.1.2 _ _).2 (List.mem_of_getElem? e), e⟩
  obtain ⟨i0, hi0, hz0, hs0, hb0⟩ := info_parts' infoFil
  clear h ht hn hbd hD1 hD2 hD3 hD4 hmb hst hk hV hm hml hkl
  go_enter Try.func57, Try.ntmps57
  go_wp2_with (first
    | (at_make; go_must (refine wpList_make_own _ rfl _ _ 22 rfl w.heap.size 59 i0 (.agg #[.string .empty, .slice none 0 0]) 2 Try.underlying22 hi0 hz0 hs0 _ _ _ m rfl rfl rfl (by have := HML.out; rw [hb0]; omega) (by have := HML.out; unfold maxLen; omega) (Nat.le_refl _) ?_); intro w1 hown hgrow; have H1 : Hid (w1.ownsRow w.heap.size 59 2 (.slice (some ⟨w.heap.size, 0, none⟩) 0 m) 0 [] ∧ Below w.heap.size w w1) := ⟨hown, gbK_below hgrow⟩; clear hown hgrow)
    | (go_at_call 64; go_must (refine (Calls.mono (HNM.out _ H1.out.2) ?_)); rintro r w2 ⟨nv, ss, rfl, k1, k2, k3, k4⟩; obtain ⟨ls, T, e1, e2, e3, e4, e5, e6, e7⟩ := HKD.out ss k1; rw [← e1, ← e2] at k2; obtain ⟨na, nc, hnv, hcl⟩ := own_texts (w := w2) (ls := ls) k2; have H2 : Hid (w2.ownsRow w1.heap.size 9 1 nv ls.length (ls.map encStr) ∧ Below w1.heap.size w1 w2) := ⟨k2, k4⟩; have HT : Hid (Lst F T ∧ T.length = ls.length ∧ ls.length ≤ 67108864 ∧ ∀ (j : Nat) (l : List UInt8), ls[j]? = some l → ∃ xs, F ⟨l.toArray⟩ = some xs ∧ T[j]? = some (⟨l.toArray⟩, xs)) := ⟨e4, e5, e6, e7⟩; have HC : Hid (∀ (i : Nat) (l : List UInt8), ls[i]? = some l → ∃ g, na = some ⟨g, 0, none⟩ ∧ w2.cell? ⟨g, i, none⟩ = some (.string ⟨l.toArray⟩)) := hcl; subst hnv; clear k1 k2 k3 k4 e1 e2 e3 e4 e5 e6 e7 hcl))
  obtain ⟨n, hn⟩ : ∃ n, n = ls.length := ⟨_, rfl⟩
  have HN : Hid (n = ls.length ∧ n ≤ 67108864) := ⟨hn, by rw [hn]; exact HT.out.2.2.1⟩
  have H3 : Hid (LsI w (.slice na ls.length nc) ls T 0 (.slice (some ⟨w.heap.size, 0, none⟩) 0 m) w2) := by
    have hs : w.heap.size < w1.heap.size := (own_lt H1.out.1 w.heap.size rfl).2
    refine ⟨[], ⟨?_, ?_, ?_, List.Pairwise.nil⟩, rfl, H1.out.2.trans (H2.out.2.mono (by omega)), own_base_a2 H2.out.1 (by omega)⟩
    · exact own_gr (own_base0 H1.out.1) (Gr.ofB (G := fun _ => False) H2.out.2) (fun _ _ z => z)
    · intro k hk
      cases hk
      refine ⟨Nat.le_refl _, fun e => ?_⟩
      have q : w1.heap.size ≤ w.heap.size := (own_lt H2.out.1 _ e).1
      omega
    · intro f hf
      cases hf
  rw [← hn] at H3 ⊢
  have HNB : Hid (∀ k, (Value.slice na n nc).ownBlock = some k → w1.heap.size ≤ k ∧ k < w2.heap.size) := by
    show ∀ k, _
    intro k hk
    rw [hn] at hk
    exact own_lt H2.out.1 k hk
  have HB2 : Hid (Below w1.heap.size w1 w2 ∧ w.heap.size < w1.heap.size) := ⟨H2.out.2, (own_lt H1.out.1 w.heap.size rfl).2⟩
  have hnb : n ≤ 67108864 := HN.out.2
  clear hn H1 H2
  go_loopw [3, 12] (fun v i wr => ∃ j : Nat, j ≤ n ∧ i = .int .i64 j ∧ Hid (LsI w (.slice na n nc) ls T j v wr) ∧ Hid (Below w2.heap.size w2 wr ∨ True)) (fun _ i _ => n - (intOf i).toNat)
  case atStart => exact ⟨0, Nat.zero_le _, rfl, H3, .inr trivial⟩
  case round =>
    obtain ⟨j, hj, rfl, HI, _⟩ := hrel
    clear H3
    by_cases hlt : j < n
    · obtain ⟨l, hl⟩ : ∃ l, ls[j]? = some l := ⟨_, List.getElem?_eq_getElem (by have := HN.out.1; omega)⟩
      obtain ⟨g, hna, _⟩ := HC.out j l hl
      obtain ⟨xs, hxs, hTj⟩ := HT.out.2.2.2 j l hl
      obtain ⟨L, hL1, hL2, hL3, hL4⟩ := HI.out
      rw [HN.out.1] at hL4
      obtain ⟨na', nc', hnv', hcl'⟩ := own_texts hL4
      cases hnv'
      obtain ⟨g', hg', hc'⟩ := hcl' j l hl
      have hgg : g' = g := by rw [hna] at hg'; cases hg'; rfl
      subst hgg
      have hF2 : Fl O wr b V F := HF.out.1.gr (G := fun _ => False) (Gr.ofB (G := fun _ => False) hL3) (fun _ _ z => z)
      obtain ⟨u, hu1, hu2, hu3⟩ := hF2.value hxs
      obtain ⟨ua, uc, hu4, hu5, hu6, _⟩ := hu2.seg
      have hlk := mps_look Try.underlying76 Try.underlying9 hF2.mp (.slice none 0 0) (hz_u8s wr) ⟨l.toArray⟩ false
      rw [if_neg (by simp), hu1, Option.getD_some, hu4] at hlk
      have hxl := (HF.out.2 _ xs hxs).1
      have HCL : Hid (Calls Try.prog 39 #[.slice ua xs.length uc] wr fun r w' => ∃ a' c', r = .returned (.slice a' xs.length c') ∧ Own wr.heap.size w' (.slice a' xs.length c') xs.length xs ∧ Below wr.heap.size wr w') := kclone_c ua xs.length uc xs wr hu5 (by omega) hu6
      obtain ⟨S, hS⟩ : ∃ S, S = (⟨l.toArray⟩ : ByteArray) := ⟨_, rfl⟩
      rw [← hS] at hlk hc' hTj
      obtain ⟨q, hq⟩ : ∃ q, q = xs.length := ⟨_, rfl⟩
      rw [← hq] at hlk HCL
      have HST : Hid (∀ x1 x2 a' c' v', Below wr.heap.size wr x1 → Own wr.heap.size x1 (.slice a' q c') q xs → (∀ L, FiL (fun k => w.heap.size ≤ k ∧ (Value.slice na n nc).ownBlock ≠ some k) wr u3 L → L.map FiM.p = T.take j → x2.ownsRow 0 59 2 v' (L.length + 1) (flK L ++ [.string S, .slice a' q c'])) → x1.grownBy x2 u3.ownBlock → (∀ k, v'.ownBlock = some k → (u3.ownBlock = some k ∨ x1.heap.size ≤ k)) → LsI w (.slice na n nc) ls T (j + 1) v' x2) := by
        show ∀ x1, _
        intro x1 x2 a' c' v' z1 z2 z3 z4 z5
        subst hq
        have := HI.out.step (f := ⟨S, xs, .slice a' xs.length c'⟩) (v' := v') (x1 := x1) (x2 := x2) hL3.size hTj z1 z2 hu3
        rw [HN.out.1] at this z3
        rw [HN.out.1]
        exact this z3 z4 z5
      have HLL : Hid (L.length = j ∧ FiL (fun k => w.heap.size ≤ k ∧ (Value.slice na n nc).ownBlock ≠ some k) wr u3 L ∧ L.map FiM.p = T.take j) := by
        refine ⟨?_, hL1, hL2⟩
        have := congrArg List.length hL2
        rw [List.length_map, List.length_take, HT.out.2.1] at this
        have := HN.out.1; omega
      have i1 : (0 : Int) ≤ (j : Int) := by omega
      have i2 : (j : Int) < (n : Int) := by omega
      have HNA : Hid _ := hna
      have HJ : Hid (j < n) := hlt
      clear hL1 hL2 hL3 hL4 hcl' hg' hF2 hu1 hu2 hu3 hu4 hu5 hu6 hxl hxs hTj hl hS hq HI
      subst hna
      go_wp2_with (first
        | (go_at_call 39; go_must (refine (Calls.mono HCL.out ?_)); rintro r x1 ⟨a', c', rfl, z1, z2⟩; have H4 : Hid (Own wr.heap.size x1 (.slice a' q c') q xs ∧ Below wr.heap.size wr x1) := ⟨z1, z2⟩; clear z1 z2)
        | (at_builtin; go_must (refine wpList_oneK rfl (.tmp 16) (.tmp 23) 22 rfl 59 (.agg #[.string .empty, .slice none 0 0]) 2 40 Try.underlying22 infoFil rfl (by decide) x1 #[.string S, .slice a' q c'] rfl u3 j (flK L) rfl (by have := own_gr HLL.out.2.1.own (Gr.ofB (G := fun _ => False) H4.out.2) (fun _ _ z => z); rw [HLL.out.1] at this; exact this) rfl rfl (by intro u hu; simp at hu; rcases hu with rfl | rfl <;> rfl) (by have := HN.out.2; have := HJ.out; unfold maxLen; omega) (by have := HN.out.2; have := HJ.out; omega) ?_); intro g5 c5 x2 y1 y2 y3; have H5 : Hid (LsI w (.slice (some ⟨g', 0, none⟩) n nc) ls T (j + 1) (.slice (some ⟨g5, 0, none⟩) (j + 1) c5) x2) := HST.out x1 x2 a' c' _ H4.out.2 H4.out.1 (fun L' l1 l2 => by
            have e1 : L'.length = j := by
              have := congrArg List.length l2
              rw [← HLL.out.2.2] at this
              simpa [HLL.out.1] using this
            have e2 : flK L' = flK L := by
              have o1 := l1.own
              have o2 := HLL.out.2.1.own
              rw [e1] at o1
              rw [HLL.out.1] at o2
              exact own_uniq o1 o2
            rw [e1, e2]; exact y1) y2 (fun k hk => by cases hk; exact y3); clear y1 y2 y3))
      go_roundw
      case rel => exact ⟨j + 1, by omega, by go_num, H5, .inr trivial⟩
      case measure => simp [intOf]; omega
    · obtain rfl : j = n := by omega
      obtain ⟨L, hL1, hL2, hL3, _⟩ := HI.out
      have HL : Hid (FiL (fun k => w.heap.size ≤ k) wr u3 L ∧ Lst F (L.map FiM.p) ∧ Below w.heap.size w wr) := ⟨hL1.weak (fun k _ z => z.1), by rw [hL2, List.take_of_length_le (by rw [HT.out.2.1]; have := HN.out.1; omega)]; exact HT.out.1, hL3⟩
      clear hL1 hL2 hL3 HI
      go_wp2
      go_ret
      exact ⟨_, L, rfl, HL.out.2.1, HL.out.1, HL.out.2.2⟩
set_option maxRecDepth 20000 in
/-- What Files answers. -/
theorem filesA_c {G : Nat → Prop} (w : World) (g : Nat) (D : Dk) (h : DkM G w g D) (hd : Dok D) :
    Calls Try.prog 20 #[.pointer (some ⟨g, 0, none⟩)] w fun r w' => ∃ v L, r = .returned v ∧ Lst D.seen (L.map FiM.p) ∧ FiL (fun k => w.heap.size ≤ k) w' v L ∧ Below w.heap.size w w' := by
  have HM : Hid (Calls Try.prog 53 #[.pointer (some ⟨g, 0, none⟩)] w fun r w' => r = .returned (.bool true) ∧ w' = w) := made_m h
  obtain ⟨s, l, st, V, U, vs, Os, Ol, Od, hi, hG⟩ := h
  obtain ⟨n, ht1, ht2⟩ := hd.tot
  have hr := hd.room
  have HL : Hid _ := list_c s w hi.seen ht1 (by omega) hd.bnd
  have c2 : w.cell? ⟨g, 2, none⟩ = some (.map (some s)) := Bk.cell hi.bk 2
  clear hi hG hd ht1 ht2 hr
  go_enter Try.func20, Try.ntmps20
  go_wp2_with (first
    | (go_at_call 53; go_must (refine (Calls.mono HM.out ?_)); rintro r wq ⟨rfl, hq⟩; obtain rfl := hq.symm; clear hq)
    | (go_at_call 57; go_must (refine (Calls.mono HL.out ?_)); rintro r w1 ⟨v, L, rfl, k1, k2, k3⟩; have H1 : Hid (Lst D.seen (L.map FiM.p) ∧ FiL (fun k => w.heap.size ≤ k) w1 v L ∧ Below w.heap.size w w1) := ⟨k1, k2, k3⟩; clear k1 k2 k3))
  go_ret
  exact ⟨v, L, rfl, H1.out⟩
set_option maxRecDepth 20000 in
set_option maxHeartbeats 1000000 in
/-- What Left answers. -/
theorem leftA_c {G : Nat → Prop} (keep : Int) (w : World) (g : Nat) (D : Dk) (h : DkM G w g D) (hd : Dok D) (hk1 : -9223372036854775808 ≤ keep) (hk2 : keep ≤ 9223372036854775807) (hm : Dsm D) :
    Calls Try.prog 22 #[.pointer (some ⟨g, 0, none⟩), .int .i64 keep] w fun r w' => ∃ v L, r = .returned v ∧ Lst (sfirst D.last D.steps keep.toNat) (L.map FiM.p) ∧ FiL (fun k => w.heap.size ≤ k) w' v L ∧ Below w.heap.size w w' := by
  have HM : Hid (Calls Try.prog 53 #[.pointer (some ⟨g, 0, none⟩)] w fun r w' => r = .returned (.bool true) ∧ w' = w) := made_m h
  obtain ⟨s, l, st, V, U, vs, Os, Ol, Od, hi, hG⟩ := h
  have c3 : w.cell? ⟨g, 3, none⟩ = some (.map (some l)) := Bk.cell hi.bk 3
  have HC : Hid _ := copiedA_c l w hi.last (show bnd D.last from hd.bn.now)
  have hgl := lt_of_block hi.bk
  have HDF : Hid (∀ w1 m, w.heap.size ≤ m → Below w.heap.size w w1 → (∃ V', Fl (fun k => w.heap.size ≤ k ∧ k < w1.heap.size) w1 m V' D.last) → w1.cell? ⟨g, 4, none⟩ = some st ∧ Calls Try.prog 58 #[.map (some m), st, .int .i64 keep] w1 fun r w' => r = .returned (.tuple #[]) ∧ Below w.heap.size w w' ∧ ∃ V' O', Fl O' w' m V' (sfirst D.last D.steps keep.toNat)) := by
    show ∀ w1, _
    intro w1 m hm1 hb1 ⟨V', hV'⟩
    have hi1 := hi.gr (G := fun _ => False) (Gr.ofB hb1) (fun _ _ z => z)
    refine ⟨Bk.cell hi1.bk 4, ?_⟩
    have hst : ∀ k, st.ownBlock = some k → k < w.heap.size := fun k hk => (own_lt hi.row k hk).2
    refine Calls.mono (doFirst_c m st vs D.steps keep w1 hV' hi1.row hi1.stl (fun k hk => ⟨hk.2, fun z => by have := (hi.hd k z).1; omega, fun z => by have := hst k z; omega⟩) (fun k hk => (hi1.hd k hk).1) hd.ok hd.bn hk1 hk2 (by have := hm.2.2.2; omega)) ?_
    rintro r w' hf
    obtain ⟨hr, ⟨V2, hV2⟩, hgr⟩ := hf
    exact ⟨hr, Gr.below hb1 hgr (fun k hk => hk.1) hb1.size, V2, _, hV2⟩
  obtain ⟨n, ht1, ht2, ht3⟩ := hd.all keep.toNat
  have hr := hd.room
  have HLI : Hid (∀ W b V O, Fl O W b V (sfirst D.last D.steps keep.toNat) → Calls Try.prog 57 #[.map (some b)] W fun r w' => ∃ v L, r = .returned v ∧ Lst (sfirst D.last D.steps keep.toNat) (L.map FiM.p) ∧ FiL (fun k => W.heap.size ≤ k) w' v L ∧ Below W.heap.size W w') := fun W b V O hF => list_c b W hF ht1 (by omega) ht3
  have hrow := hi.row
  generalize sfirst D.last D.steps keep.toNat = F at *
  clear hi hG hd ht1 ht2 ht3 hr hm hgl hk1 hk2
  obtain ⟨a, nn, cc, hst⟩ : ∃ a n c, st = Value.slice a n c := by rcases hrow.2 with ⟨e, _⟩ | ⟨_, _, _, e, _⟩ <;> exact ⟨_, _, _, e⟩
  subst hst
  go_enter Try.func22, Try.ntmps22
  go_wp2_with (first
    | (go_at_call 53; go_must (refine (Calls.mono HM.out ?_)); rintro r wq ⟨rfl, hq⟩; obtain rfl := hq.symm; clear hq)
    | (go_at_call 40; go_must (refine (Calls.mono HC.out ?_)); rintro r w1 ⟨m, rfl, k1, k2, k3⟩; obtain ⟨d4, hdf⟩ := HDF.out w1 m k1 k2 k3; have HD1 : Hid _ := hdf; clear k1 k2 k3 hdf)
    | (go_at_call 58; go_must (refine (Calls.mono HD1.out ?_)); rintro r w2 ⟨rfl, k1, V2, O2, k2⟩; have H2 : Hid (Below w.heap.size w w2 ∧ Fl O2 w2 m V2 F) := ⟨k1, k2⟩; clear k1 k2)
    | (go_at_call 57; go_must (refine (Calls.mono (HLI.out _ _ _ _ H2.out.2) ?_)); rintro r w3 ⟨v, L, rfl, k1, k2, k3⟩; have H3 : Hid (Lst F (L.map FiM.p) ∧ FiL (fun k => w.heap.size ≤ k) w3 v L ∧ Below w.heap.size w w3) := ⟨k1, k2.weak (fun k _ z => Nat.le_trans H2.out.1.size z), H2.out.1.trans (k3.mono H2.out.1.size)⟩; clear k1 k2 k3))
  go_ret
  exact ⟨v, L, rfl, H3.out⟩
end Go.Proofs.Yteoohgjoffpmkaa

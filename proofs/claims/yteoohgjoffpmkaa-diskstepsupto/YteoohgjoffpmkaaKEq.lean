/-
  What the law's plain, same and equal answer of files. Condition: at most 2^40 files, each of at most 2^40 bytes.
-/
import Derived.Test.YteoohgjoffpmkaaKFs
import Derived.BigQuiet
import Derived.Deep.AppendLies
import Derived.Deep.RegionHeld3
namespace Go.Proofs.Yteoohgjoffpmkaa
open Go.RowKit
set_option linter.unusedVariables false

theorem below_gbE {w w' : World} (h : w.grownBy w' none) : Below w.heap.size w w' := gbK_below h
theorem gb_daK (w : World) (o : Obj) : w.grownBy (w.drew.alloc o) none := gb_trans (⟨rfl, rfl, rfl, Nat.le_refl _, fun _ _ _ => rfl⟩ : w.grownBy w.drew none) (World.grownBy_alloc _ _ _)
/-- append of a literal of one element, as a step of a region that draws. -/
theorem step_oneK {ops : Array Oper} {o : Oper} {a : Act} {w : World} {K : Act → World → Prop} {Q : Exit → Act → World → Prop} {E : Prop} (hgd : o.guard = none) (s x : Operand) (t : TypeId)
    (ho : o.op = .call { callee := .builtin .append, args := #[s, x], argTypes := #[t, t] })
    (base : Nat) (e : TypeId) (z : Value) (size bytes : Nat) (ht : Try.prog.underlying t = some (.slice e)) (hi : (Try.prog.info? e).map (fun i => (i.zero, i.size, i.bytes)) = some (some z, size, bytes)) (hzs : z.cells.size = size) (hsz : 0 < size)
    (w0 : World) (cs : Array Value) (hw : w = w0.drew.alloc (.cells cs e)) (v : Value) (n : Nat) (xs : List Value) (hs : a.eval s = v) (hown : w0.ownsRow base e size v n xs)
    (hx : a.eval x = .slice (some ⟨w0.heap.size, 0, none⟩) 1 1) (hl : cs.size = size) (h1 : ∀ u ∈ cs.toList, u.oneCell' = true)
    (h63 : n + 1 ≤ maxLen) (hbytes : (n + 1) * bytes ≤ 140737488355328) (hbase : base ≤ w0.heap.size)
    (h : ∀ g cap w', w'.ownsRow base e size (.slice (some ⟨g, 0, none⟩) (n + 1) cap) (n + 1) (xs ++ cs.toList) → w0.grownBy w' v.ownBlock → (v.ownBlock = some g ∨ w0.heap.size ≤ g) → K (a.put o.dst (.slice (some ⟨g, 0, none⟩) (n + 1) cap)) w') :
    if Region.wanted o (yielded ops a.tmps) = true then Oper.wp Try.prog o a w K Q else E := by
  subst hw
  obtain ⟨i, hi, hz, h4, h5⟩ := info_parts' hi
  have ho' := own_gr hown (Gr.of (G := fun _ => False) (gb_daK w0 (.cells cs e)) (by simp)) (fun _ _ z => z)
  refine step_append_lies _ hgd s x t ho base e i z size bytes ht hi hz h4 h5 hzs hsz v n xs hs ho' ⟨w0.heap.size, 0, none⟩ 1 1 cs.toList hx (by rw [Array.length_toList, hl]; omega) (World.news_of_block (heap_new w0.drew _)) h1 (by omega) h63 hbytes (Nat.le_trans hbase (gb_daK w0 _).size) _ rfl ?_
  intro g cap w' k1 k2 k3 _
  exact h g cap w' k1 (gb_trans (gb_wide (gb_daK w0 _) _) k2) (k3.imp id (fun e => by rw [e]; exact (gb_daK w0 _).size))
/-- Files that can be read. -/
def RFi (w : World) (a : Option Addr) (L : List FiM) : Prop := ∀ i f, L[i]? = some f → ∃ b off ua uc, a = some ⟨b, off, none⟩ ∧ b < w.heap.size ∧ w.cell? ⟨b, off + i * 2, none⟩ = some (.string f.s) ∧ w.cell? ⟨b, off + i * 2 + 1, none⟩ = some f.u ∧ f.u = .slice ua f.ys.length uc ∧ Seg .u8 w ua f.ys.length f.ys ∧ Bytes f.ys
theorem RFi.gr {G : Nat → Prop} {w w' : World} {a L} (h : RFi w a L) (hg : Gr G w w') (ha : ∀ b o s, a = some ⟨b, o, s⟩ → ¬ G b) (hf : ∀ f ∈ L, ∀ ua n c, f.u = .slice ua n c → ∀ b o s, ua = some ⟨b, o, s⟩ → ¬ G b) : RFi w' a L := fun i f hi => by
  obtain ⟨b, off, ua, uc, h1, h2, h3, h4, h5, h6, h7⟩ := h i f hi
  have hb := hg.block b h2 (ha b off none h1)
  refine ⟨b, off, ua, uc, h1, Nat.lt_of_lt_of_le h2 hg.size, ?_, ?_, h5, h6.gr hg (hf f (List.mem_of_getElem? hi) ua _ _ h5), h7⟩
  · exact (World.cell?_of_block (w := w) (w' := w') (a := ⟨b, off + i * 2, none⟩) hb).trans h3
  · exact (World.cell?_of_block (w := w) (w' := w') (a := ⟨b, off + i * 2 + 1, none⟩) hb).trans h4
theorem RFi.below {w w' : World} {a L} (h : RFi w a L) (hb : Below w.heap.size w w') : RFi w' a L := h.gr (G := fun _ => False) (Gr.ofB hb) (fun _ _ _ _ z => z) (fun _ _ _ _ _ _ _ _ _ _ z => z)
theorem FiL.read {F : Nat → Prop} {w : World} {v : Value} {L : List FiM} (h : FiL F w v L) : ∃ a c, v = .slice a L.length c ∧ RFi w a L ∧ (a = none → c = 0) ∧ ∀ b o s, a = some ⟨b, o, s⟩ → v.ownBlock = some b := by
  rcases h.own.2 with ⟨rfl, h0⟩ | ⟨g, cap, cur, rfl, hB, hg, hn, hm, hsz, htake⟩
  · refine ⟨none, 0, by rw [h0], fun i f hi => ?_, fun _ => rfl, fun b o s e => by cases e⟩
    have : L = [] := List.eq_nil_of_length_eq_zero h0
    subst this
    simp at hi
  · refine ⟨_, cap, rfl, fun i f hi => ?_, (fun e => by cases e), fun b o s e => by cases e; rfl⟩
    have hj : i < L.length := (List.getElem?_eq_some_iff.1 hi).1
    obtain ⟨e1, e2⟩ := flK_at L i f hi
    rw [Nat.mul_comm] at e1 e2
    obtain ⟨ua, uc, q1, q2, q3, _⟩ := (h.body f (List.mem_of_getElem? hi)).1.1.seg
    refine ⟨g, 0, ua, uc, rfl, lt_of_block hg, ?_, ?_, q1, q2, (h.body f (List.mem_of_getElem? hi)).2⟩
    · rw [cell_of_row w g _ _ _ _ hg, Nat.zero_add]
      rw [← htake, List.getElem?_take_of_lt (by omega)] at e1
      simpa using e1
    · rw [cell_of_row w g _ _ _ _ hg, Nat.zero_add]
      rw [← htake, List.getElem?_take_of_lt (by omega)] at e2
      simpa using e2
/-- The document's files. -/
def flG (M : List (ByteArray × ByteArray)) : List Value := M.flatMap fun p => [.string p.1, .string p.2]
theorem flG_snoc (M : List (ByteArray × ByteArray)) (p : ByteArray × ByteArray) : flG (M ++ [p]) = flG M ++ [.string p.1, .string p.2] := by unfold flG; rw [List.flatMap_append]; rfl
theorem flG_len (M : List (ByteArray × ByteArray)) : (flG M).length = 2 * M.length := by
  induction M with
  | nil => rfl
  | cons f M ih => rw [show flG (f :: M) = .string f.1 :: .string f.2 :: flG M from rfl, List.length_cons, List.length_cons, List.length_cons, ih]; omega
theorem flG_at : ∀ (M : List (ByteArray × ByteArray)) (i : Nat) (p : ByteArray × ByteArray), M[i]? = some p → (flG M)[2 * i]? = some (.string p.1) ∧ (flG M)[2 * i + 1]? = some (.string p.2)
  | [], i, f, h => by simp at h
  | x :: M, 0, f, h => by
    rw [List.getElem?_cons_zero] at h
    cases h
    exact ⟨rfl, rfl⟩
  | x :: M, i + 1, f, h => by
    rw [List.getElem?_cons_succ] at h
    have := flG_at M i f h
    rw [show flG (x :: M) = .string x.1 :: .string x.2 :: flG M from rfl, show 2 * (i + 1) = 2 * i + 1 + 1 from by omega]
    simp only [List.getElem?_cons_succ]
    exact this
def RGi (w : World) (a : Option Addr) (M : List (ByteArray × ByteArray)) : Prop := ∀ i p, M[i]? = some p → ∃ b off, a = some ⟨b, off, none⟩ ∧ b < w.heap.size ∧ w.cell? ⟨b, off + i * 2, none⟩ = some (.string p.1) ∧ w.cell? ⟨b, off + i * 2 + 1, none⟩ = some (.string p.2)
theorem RGi.below {w w' : World} {a M} (h : RGi w a M) (hb : Below w.heap.size w w') : RGi w' a M := fun i p hi => by
  obtain ⟨b, off, h1, h2, h3, h4⟩ := h i p hi
  exact ⟨b, off, h1, Nat.lt_of_lt_of_le h2 hb.size, (hb.cell (p := ⟨b, off + i * 2, none⟩) h2).trans h3, (hb.cell (p := ⟨b, off + i * 2 + 1, none⟩) h2).trans h4⟩
theorem own_rgi {w : World} {B : Nat} {v : Value} {M : List (ByteArray × ByteArray)} (h : w.ownsRow B 92 2 v M.length (flG M)) : ∃ a c, v = .slice a M.length c ∧ RGi w a M := by
  rcases h.2 with ⟨rfl, h0⟩ | ⟨g, cap, cur, rfl, hB, hg, hn, hm, hsz, htake⟩
  · refine ⟨none, 0, by rw [h0], fun i f hi => ?_⟩
    have : M = [] := List.eq_nil_of_length_eq_zero h0
    subst this
    simp at hi
  · refine ⟨_, cap, rfl, fun i f hi => ?_⟩
    have hj : i < M.length := (List.getElem?_eq_some_iff.1 hi).1
    obtain ⟨e1, e2⟩ := flG_at M i f hi
    rw [Nat.mul_comm] at e1 e2
    refine ⟨g, 0, rfl, lt_of_block hg, ?_, ?_⟩
    · rw [cell_of_row w g _ _ _ _ hg, Nat.zero_add]
      rw [← htake, List.getElem?_take_of_lt (by omega)] at e1
      simpa using e1
    · rw [cell_of_row w g _ _ _ _ hg, Nat.zero_add]
      rw [← htake, List.getElem?_take_of_lt (by omega)] at e2
      simpa using e2
def FiM.g (f : FiM) : ByteArray × ByteArray := (f.s, strOfNums f.ys)
theorem infoGf : (Try.prog.info? 92).map (fun i => (i.zero, i.size, i.bytes)) = some (some (.agg #[.string .empty, .string .empty]), 2, 32) := by kernel_rfl
set_option maxRecDepth 20000 in
set_option maxHeartbeats 1000000 in
theorem plain_c (L : List FiM) (a : Option Addr) (ca : Nat) (w : World) (hA : RFi w a L) (hn : L.length ≤ 1099511627776) :
    Calls Try.prog 34 #[.slice a L.length ca] w fun e w' => ∃ v, e = .returned v ∧ w'.ownsRow w.heap.size 92 2 v L.length (flG (L.map FiM.g)) ∧ Below w.heap.size w w' := by
  have HA : Hid (RFi w a L) := hA
  obtain ⟨n, hna⟩ : ∃ n, n = L.length := ⟨_, rfl⟩
  rw [← hna] at hn ⊢
  have HN : Hid (n = L.length) := hna
  clear hA hna
  go_enter Try.func34, Try.ntmps34
  go_wp2
  go_loopw [3, 4] (fun v i wr => ∃ k : Nat, k ≤ n ∧ i = .int .i64 k ∧ Hid (wr.ownsRow w.heap.size 92 2 v k (flG ((L.take k).map FiM.g)) ∧ Below w.heap.size w wr)) (fun _ i _ => n - (intOf i).toNat)
  case atStart => exact ⟨0, Nat.zero_le _, rfl, World.ownsRow_nil _ _ _ _, Below.refl _ _⟩
  case round =>
    obtain ⟨k, hk, rfl, hr⟩ := hrel
    by_cases hlt : k < n
    · obtain ⟨f, hf⟩ : ∃ f, L[k]? = some f := ⟨_, List.getElem?_eq_getElem (by have := HN.out; omega)⟩
      obtain ⟨ba, oa, ua, uc, hab, hba, c0, c1, hu, hsg, hby⟩ := HA.out k f hf
      have HTK : Hid (flG ((L.take (k + 1)).map FiM.g) = flG ((L.take k).map FiM.g) ++ (#[.string f.s, .string (strOfNums f.ys)] : Array Value).toList) := by
        show _ = _
        rw [List.take_add_one, hf, List.map_append]
        exact flG_snoc _ _
      obtain ⟨s, ys, u⟩ := f
      simp only at hu c0 c1 hsg hby HTK
      subst hu
      obtain ⟨m, hm⟩ : ∃ m, m = ys.length := ⟨_, rfl⟩
      rw [← hm] at c1 hsg
      have HKP : Hid (∀ W, Below w.heap.size w W → W.cell? ⟨ba, oa + k * 2, none⟩ = some (.string s) ∧ W.cell? ⟨ba, oa + k * 2 + 1, none⟩ = some (.slice ua m uc) ∧ (convert 57 9 (.slice ua m uc)).run Try.prog W = .ok (.string (strOfNums ys)) W) := fun W hW =>
        ⟨(hW.cell (p := ⟨ba, oa + k * 2, none⟩) hba).trans c0, (hW.cell (p := ⟨ba, oa + k * 2 + 1, none⟩) hba).trans c1, seg_string (P := Try.prog) 57 9 5 uc (hsg.below hW) Try.underlying57 Try.underlying5 Try.underlying9⟩
      clear hm hsg hby hf
      generalize strOfNums ys = Y at *
      have i1 : (0 : Int) ≤ (k : Int) := by omega
      have i2 : (k : Int) < (n : Int) := by omega
      have HAB : Hid _ := hab
      rw [hab]
      clear c0 c1 hab
      go_wp2
      have hSd := HKP.out wr.drew hr.out.2.drew
      go_region_held3 (fun W => W.cell? ⟨ba, oa + k * 2, none⟩ = some (.string s) ∧ W.cell? ⟨ba, oa + k * 2 + 1, none⟩ = some (.slice ua m uc) ∧ (convert 57 9 (.slice ua m uc)).run Try.prog W = .ok (.string Y) W) (first | assumption | exact HKP.out _ (Below.alloc (Below.drew hr.out.2) hr.out.2.size _)) (first
        | (refine step_oneK rfl _ _ 25 rfl w.heap.size 92 _ 2 32 Try.underlying25 infoGf rfl (by decide) wr #[.string s, .string Y] rfl _ k (flG ((L.take k).map FiM.g)) rfl hr.out.1 rfl rfl (by intro u hu; simp at hu; rcases hu with rfl | rfl <;> rfl) (by unfold maxLen; omega) (by omega) hr.out.2.size ?_; intro g4 cap4 w4 ho4 hb4 _; have H4 : Hid (w4.ownsRow w.heap.size 92 2 (.slice (some ⟨g4, 0, none⟩) (k + 1) cap4) (k + 1) (flG ((L.take (k + 1)).map FiM.g)) ∧ Below w.heap.size w w4) := ⟨(by rw [HTK.out]; exact ho4), hr.out.2.grown hb4 hr.out.2.size (fun j hj => (own_lt hr.out.1 j hj).1)⟩; have hS4 := HKP.out w4 H4.out.2; clear ho4 hb4))
      go_wp2
      try rw [← HAB.out]
      go_roundw
      case rel => exact ⟨k + 1, by omega, by simp, H4⟩
      case measure => simp [intOf]; omega
    · obtain rfl : k = n := by omega
      rw [List.take_of_length_le (by have := HN.out; omega)] at hr
      go_wp2
      go_ret
      exact ⟨_, rfl, hr.out.1, hr.out.2⟩
end Go.Proofs.Yteoohgjoffpmkaa

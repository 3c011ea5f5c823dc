/-
  How a disk in memory changes step by step; how many steps a step stands for; files.do of any step. No condition of its own.
-/
import Derived.Test.YteoohgjoffpmkaaKDp
namespace Go.Proofs.Yteoohgjoffpmkaa
open Go.RowKit
set_option linter.unusedVariables false

/-- A disk in memory between two stores. -/
structure DkJ (w : World) (g s l : Nat) (cs : Array Value) (st : Value) (V U : ByteArray → Option Value) (vs : List Value) (L : List Stp) (Os Ol Od : Nat → Prop) (F Fl' : ByteArray → Option (List Int)) : Prop where
  bk : Bk 83 w g cs
  seen : Fl Os w s V F
  last : Fl Ol w l U Fl'
  row : w.ownsRow 0 123 1 st L.length vs
  stl : StL Od w vs L
  hs : ∀ k, Os k → k < w.heap.size ∧ k ≠ g ∧ ¬ Ol k ∧ ¬ Od k ∧ st.ownBlock ≠ some k
  hl : ∀ k, Ol k → k < w.heap.size ∧ k ≠ g ∧ ¬ Od k ∧ st.ownBlock ≠ some k
  hd : ∀ k, Od k → k < w.heap.size ∧ k ≠ g ∧ st.ownBlock ≠ some k
  hg : st.ownBlock ≠ some g
theorem DkI.j {w g s l st V U vs Os Ol Od D} (h : DkI w g s l st V U vs Os Ol Od D) : DkJ w g s l (dcells D.room D.free (some s) (some l) st (scnts D.steps) D.acts D.fail D.down) st V U vs D.steps Os Ol Od D.seen D.last :=
  ⟨h.bk, h.seen, h.last, h.row, h.stl, h.hs, h.hl, h.hd, h.hg⟩
theorem DkJ.i {w g s l cs st V U vs L Os Ol Od F Fl'} (h : DkJ w g s l cs st V U vs L Os Ol Od F Fl') (D : Dk) (hc : cs = dcells D.room D.free (some s) (some l) st (scnts D.steps) D.acts D.fail D.down) (h1 : L = D.steps) (h2 : F = D.seen) (h3 : Fl' = D.last) : DkI w g s l st V U vs Os Ol Od D := by
  subst hc h1 h2 h3
  exact ⟨h.bk, h.seen, h.last, h.row, h.stl, h.hs, h.hl, h.hd, h.hg⟩
theorem DkJ.gr {G : Nat → Prop} {w w' : World} {g s l cs st V U vs L Os Ol Od F Fl'} (h : DkJ w g s l cs st V U vs L Os Ol Od F Fl') (hgr : Gr G w w') (hn : ∀ k, (k = g ∨ Os k ∨ Ol k ∨ Od k ∨ st.ownBlock = some k) → ¬ G k) : DkJ w' g s l cs st V U vs L Os Ol Od F Fl' :=
  ⟨h.bk.gr hgr (hn _ (.inl rfl)), h.seen.gr hgr (fun k hk => hn k (.inr (.inl hk))), h.last.gr hgr (fun k hk => hn k (.inr (.inr (.inl hk)))), own_gr h.row hgr (fun b hb => hn b (.inr (.inr (.inr (.inr hb))))), h.stl.gr hgr (fun k hk => hn k (.inr (.inr (.inr (.inl hk))))),
   fun k hk => ⟨Nat.lt_of_lt_of_le (h.hs k hk).1 hgr.size, (h.hs k hk).2⟩, fun k hk => ⟨Nat.lt_of_lt_of_le (h.hl k hk).1 hgr.size, (h.hl k hk).2⟩, fun k hk => ⟨Nat.lt_of_lt_of_le (h.hd k hk).1 hgr.size, (h.hd k hk).2⟩, h.hg⟩
theorem DkJ.grew {w w' : World} {g s l cs st V U vs L Os Ol Od F Fl'} (h : DkJ w g s l cs st V U vs L Os Ol Od F Fl') (hg : w.grownBy w' none) : DkJ w' g s l cs st V U vs L Os Ol Od F Fl' := h.gr (G := fun _ => False) (Gr.of hg (by simp)) (fun _ _ z => z)
theorem DkJ.set {w : World} {g s l cs st V U vs L Os Ol Od F Fl'} (h : DkJ w g s l cs st V U vs L Os Ol Od F Fl') (i : Nat) (v : Value) : DkJ (w.setCell ⟨g, i, none⟩ v) g s l (cs.setIfInBounds i v) st V U vs L Os Ol Od F Fl' := by
  have k5 : Gr (fun k => k = g) w (w.setCell ⟨g, i, none⟩ v) := (Gr.refl (fun k => k = g) w).set g i rfl v
  have hz : (w.setCell ⟨g, i, none⟩ v).heap.size = w.heap.size := by simp [World.setCell]
  exact ⟨bk_setK h.bk i v, h.seen.gr k5 (fun k hk => (h.hs k hk).2.1), h.last.gr k5 (fun k hk => (h.hl k hk).2.1), own_gr h.row k5 (fun b hb e => h.hg (by rw [hb, e])), h.stl.gr k5 (fun k hk => (h.hd k hk).2.1), fun k hk => ⟨by rw [hz]; exact (h.hs k hk).1, (h.hs k hk).2⟩, fun k hk => ⟨by rw [hz]; exact (h.hl k hk).1, (h.hl k hk).2⟩, fun k hk => ⟨by rw [hz]; exact (h.hd k hk).1, (h.hd k hk).2⟩, h.hg⟩
/-- The files that are seen have changed. -/
theorem DkJ.seenTo {w w' : World} {g s l cs st V U vs L Os Ol Od F Fl' F' r} (h : DkJ w g s l cs st V U vs L Os Ol Od F Fl') (hf : FdoA Os w s F' r w') : ∃ V', DkJ w' g s l cs st V' U vs L (fun k => Os k ∨ (w.heap.size ≤ k ∧ k < w'.heap.size)) Ol Od F' Fl' := by
  obtain ⟨_, ⟨V', hV⟩, hgr⟩ := hf
  have hgl := lt_of_block h.bk
  have hst : ∀ k, st.ownBlock = some k → k < w.heap.size := fun k hk => (own_lt h.row k hk).2
  refine ⟨V', h.bk.gr hgr (fun hk => (h.hs _ hk).2.1 rfl), hV, h.last.gr hgr (fun k hk hk2 => (h.hs k hk2).2.2.1 hk), own_gr h.row hgr (fun b hb hk => (h.hs b hk).2.2.2.2 hb), h.stl.gr hgr (fun k hk hk2 => (h.hs k hk2).2.2.2.1 hk), ?_, fun k hk => ⟨Nat.lt_of_lt_of_le (h.hl k hk).1 hgr.size, (h.hl k hk).2⟩, fun k hk => ⟨Nat.lt_of_lt_of_le (h.hd k hk).1 hgr.size, (h.hd k hk).2⟩, h.hg⟩
  rintro k (hk | ⟨h1, h2⟩)
  · exact ⟨Nat.lt_of_lt_of_le (h.hs k hk).1 hgr.size, (h.hs k hk).2⟩
  · exact ⟨h2, by omega, fun z => by have := (h.hl k z).1; omega, fun z => by have := (h.hd k z).1; omega, fun z => by have := hst k z; omega⟩
/-- The files that last have changed. -/
theorem DkJ.lastTo {w w' : World} {g s l cs st V U vs L Os Ol Od F Fl' F' r} (h : DkJ w g s l cs st V U vs L Os Ol Od F Fl') (hf : FdoA Ol w l F' r w') : ∃ U', DkJ w' g s l cs st V U' vs L Os (fun k => Ol k ∨ (w.heap.size ≤ k ∧ k < w'.heap.size)) Od F F' := by
  obtain ⟨_, ⟨V', hV⟩, hgr⟩ := hf
  have hgl := lt_of_block h.bk
  have hst : ∀ k, st.ownBlock = some k → k < w.heap.size := fun k hk => (own_lt h.row k hk).2
  refine ⟨V', h.bk.gr hgr (fun hk => (h.hl _ hk).2.1 rfl), h.seen.gr hgr (fun k hk hk2 => (h.hs k hk).2.2.1 hk2), hV, own_gr h.row hgr (fun b hb hk => (h.hl b hk).2.2.2 hb), h.stl.gr hgr (fun k hk hk2 => (h.hl k hk2).2.2.1 hk), ?_, ?_, fun k hk => ⟨Nat.lt_of_lt_of_le (h.hd k hk).1 hgr.size, (h.hd k hk).2⟩, h.hg⟩
  · intro k hk
    have z := (h.hs k hk).1
    exact ⟨Nat.lt_of_lt_of_le z hgr.size, (h.hs k hk).2.1, fun q => q.elim (h.hs k hk).2.2.1 (fun q => by omega), (h.hs k hk).2.2.2⟩
  · rintro k (hk | ⟨h1, h2⟩)
    · exact ⟨Nat.lt_of_lt_of_le (h.hl k hk).1 hgr.size, (h.hl k hk).2⟩
    · exact ⟨h2, by omega, fun z => by have := (h.hd k z).1; omega, fun z => by have := hst k z; omega⟩
/-- The row of steps has grown. -/
theorem DkJ.rowTo {w w1 w' : World} {g s l cs st V U vs L Os Ol Od F Fl'} (h : DkJ w g s l cs st V U vs L Os Ol Od F Fl') (st' v : Value) (p : Stp) (hv : StV Od w v p) (hg1 : w.grownBy w1 none) (hr : w'.ownsRow 0 123 1 st' (L.length + 1) (vs ++ [v])) (hg : w1.grownBy w' st.ownBlock) (hloc : st'.ownBlock = st.ownBlock ∨ st'.ownBlock = some w1.heap.size) : DkJ w' g s l cs st' V U (vs ++ [v]) (L ++ [p]) Os Ol Od F Fl' := by
  have hgr : Gr (fun k => st.ownBlock = some k) w w' := (Gr.of hg1 (by simp)).trans (Gr.of hg (fun k e => .inl e))
  have hne : ∀ k, k < w.heap.size → st.ownBlock ≠ some k → st'.ownBlock ≠ some k := by
    intro k hk h1 h2
    rcases hloc with e | e
    · exact h1 (e.symm.trans h2)
    · rw [e] at h2
      have := Option.some.inj h2
      have := hg1.size
      omega
  refine ⟨h.bk.gr hgr h.hg, h.seen.gr hgr (fun k hk => (h.hs k hk).2.2.2.2), h.last.gr hgr (fun k hk => (h.hl k hk).2.2.2), by simpa using hr, ?_, fun k hk => ?_, fun k hk => ?_, fun k hk => ?_, hne g (lt_of_block h.bk) h.hg⟩
  · have h2 := h.stl.gr hgr (fun k hk => (h.hd k hk).2.2)
    have h3 := hv.gr hgr (fun k hk => (h.hd k hk).2.2)
    refine ⟨by simp [h2.1], fun i u q hu hq => ?_⟩
    rcases Nat.lt_or_ge i vs.length with hi | hi
    · rw [List.getElem?_append_left hi] at hu
      rw [List.getElem?_append_left (by rw [← h2.1]; exact hi)] at hq
      exact h2.2 i u q hu hq
    · rw [List.getElem?_append_right hi] at hu
      rw [List.getElem?_append_right (by rw [← h2.1]; exact hi), ← h2.1] at hq
      obtain ⟨j, hj⟩ : ∃ j, j = i - vs.length := ⟨_, rfl⟩
      rw [← hj] at hu hq
      match j, hu, hq with
      | 0, hu, hq => cases hu; cases hq; exact h3
      | j + 1, hu, _ => simp at hu
  · have z := h.hs k hk
    exact ⟨Nat.lt_of_lt_of_le z.1 hgr.size, z.2.1, z.2.2.1, z.2.2.2.1, hne k z.1 z.2.2.2.2⟩
  · have z := h.hl k hk
    exact ⟨Nat.lt_of_lt_of_le z.1 hgr.size, z.2.1, z.2.2.1, hne k z.1 z.2.2.2⟩
  · have z := h.hd k hk
    exact ⟨Nat.lt_of_lt_of_le z.1 hgr.size, z.2.1, hne k z.1 z.2.2⟩
/-- A step that tells how many it stands for. -/
def Cnt (v : Value) (n : Nat) : Prop := ∃ (fn : FuncId) (ars : Array Value), (∀ W, (callMethod v "hawser/disk.count" #[]).run Try.prog W = .ok (.enter fn ars) W) ∧ ∀ W, Calls Try.prog fn ars W fun r w' => r = .returned (.int .i64 (n : Int)) ∧ W.grownBy w' none
theorem count1_c (w : World) : Calls Try.prog 121 #[.agg #[]] w fun r w' => r = .returned (.int .i64 ((1 : Nat) : Int)) ∧ w.grownBy w' none := by
  go_enter Try.func121, Try.ntmps121
  go_wp2
  go_ret
  exact ⟨rfl, World.grownBy_alloc _ _ _⟩
theorem count2_c (s : ByteArray) (a : Option Addr) (m c : Nat) (w : World) : Calls Try.prog 122 #[.agg #[.string s, .slice a m c]] w fun r w' => r = .returned (.int .i64 (m : Int)) ∧ w.grownBy w' none := by
  go_enter Try.func122, Try.ntmps122
  go_wp2
  go_ret
  exact ⟨rfl, World.grownBy_alloc _ _ _⟩
theorem StV.cnt {O : Nat → Prop} {w : World} {v : Value} {p : Stp} (h : StV O w v p) : Cnt v (scnt p) := by
  rcases h with ⟨h0, rfl⟩ | ⟨h0, a, c, rfl, h2⟩ | ⟨h0, rfl⟩ | ⟨h0, rfl⟩ | ⟨h0, rfl⟩
  · rw [show scnt p = 1 by simp [scnt, h0]]
    exact ⟨121, #[.agg #[]], fun W => by kernel_rfl, count1_c⟩
  · rw [show scnt p = p.xs.length by simp [scnt, h0]]
    exact ⟨122, #[.agg #[.string p.s, .slice a p.xs.length c]], fun W => by kernel_rfl, count2_c p.s a p.xs.length c⟩
  · rw [show scnt p = 1 by simp [scnt, h0]]
    exact ⟨121, #[.agg #[]], fun W => by kernel_rfl, count1_c⟩
  · rw [show scnt p = 1 by simp [scnt, h0]]
    exact ⟨121, #[.agg #[]], fun W => by kernel_rfl, count1_c⟩
  · rw [show scnt p = 1 by simp [scnt, h0]]
    exact ⟨121, #[.agg #[]], fun W => by kernel_rfl, count1_c⟩
/-- No file is longer than a disk, and each has a name that may be. -/
def bnd (F : ByteArray → Option (List Int)) : Prop := ∀ s xs, F s = some xs → xs.length ≤ 67108864 ∧ nmB s = true
theorem fdoA_c {O Od : Nat → Prop} {V F} (b : Nat) (v : Value) (p : Stp) (kp : Nat) (w : World) (h : Fl O w b V F) (hv : StV Od w v p) (hok : sok F p) (hO : ∀ k, O k → ¬ Od k) (hb : bnd F) :
    Calls Try.prog 77 #[.map (some b), v, .int .i64 (kp : Int)] w (FdoA O w b (sdo F p kp)) := by
  rcases hv with ⟨h0, rfl⟩ | ⟨h0, a, c, rfl, h2, h3, h4, h5, h6, h7⟩ | ⟨h0, rfl⟩ | ⟨h0, rfl⟩ | ⟨h0, rfl⟩
  · rw [show sdo F p kp = fset F p.s (some []) by simp [sdo, h0]]
    exact fdo1_c b p.s kp w h
  · obtain ⟨xs, hx⟩ := Option.ne_none_iff_exists'.1 (hok.2.2.2.1 h0).1
    have e : sdo F p kp = fset F p.s (some (xs ++ p.xs.take (min kp p.xs.length))) := by
      simp [sdo, h0, hx, List.take_eq_take_min]
    rw [e]
    have hl := (hb p.s xs hx).1
    exact fdo2_c b p.s a p.xs.length c (min kp p.xs.length) kp xs p.xs w h hx h2 h3 h4 h5 (by omega) (by omega) h.mp.lt (fun q o z hq hO2 => hO q hO2 (h7 q o z hq))
  · obtain ⟨xs, hx, hn⟩ := hok.2.2.2.2.1 h0
    rw [show sdo F p kp = fset F p.s (some (xs.take p.n)) by simp [sdo, h0, hx]]
    exact fdo3_c b p.s p.n kp xs w h hx hn
  · obtain ⟨xs, hx⟩ := Option.ne_none_iff_exists'.1 (hok.2.2.2.2.2.1 h0)
    rw [show sdo F p kp = fset (fset F p.s none) p.t (some xs) by simp [sdo, h0, hx]]
    exact fdo4_c b p.s p.t kp xs w h hx
  · rw [show sdo F p kp = fset F p.s none by simp [sdo, h0]]
    exact fdo5_c b p.s kp w h
end Go.Proofs.Yteoohgjoffpmkaa

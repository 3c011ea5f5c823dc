/-
  What the Opener's walk answers: the parts that are whole are taken, and what is left is answered, or a panic where one is wrong. Condition: a list that can be read, of at most 2^46 bytes; the table of crc lies in memory.
-/
import Derived.Test.YtcdgfghcmeadgaaDoorIOx
namespace Go.Proofs.YtcdgfghcmeadgaaDoor
open Go.RowKit
set_option linter.unusedVariables false

theorem tab_g {w w' : World} {g : Nat} {o : Opn} (h : Cr.Tab w) (ho : OpB w g o) (hg : w.grownBy w' (some g)) : Cr.Tab w' := by
  have hne : (0 : Nat) ≠ g := fun e => by
    have h1 := h 0 (by omega)
    have h2 : w.cell? ⟨g, 0, none⟩ = some (.bool true) := Bk.cell ho 0
    rw [← e, h1] at h2
    cases h2
  intro i hi
  rw [← h i hi]
  simp only [World.cell?, hg.block 0 h.pos (fun e => hne (Option.some.inj e))]
theorem tab_n {w w' : World} (h : Cr.Tab w) (hg : w.grownBy w' none) : Cr.Tab w' := fun i hi => by
  rw [← h i hi]
  simp only [World.cell?, hg.block 0 h.pos (by simp)]
theorem reg_appI (r : Cr.Wd) (xs ys : List Int) : Cr.reg r (xs ++ ys) = Cr.reg (Cr.reg r xs) ys := by unfold Cr.reg; rw [List.foldl_append]
theorem sum_moreI (ys : List Int) (p k : Nat) : ~~~ (Cr.reg (~~~ (Cr.sum (ys.take p))) ((ys.drop p).take k)) = Cr.sum (ys.take (p + k)) := by
  have e : ~~~ (Cr.sum (ys.take p)) = Cr.reg Cr.ones (ys.take p) := by unfold Cr.sum; exact BitVec.not_not
  rw [e, ← reg_appI]
  unfold Cr.sum
  rw [take_more]
theorem infoParts : (Tryd.prog.info? 164).map (·.size) = some 6 := by kernel_rfl
def ptab : Array Value := #[.func (.func 122) #[] #[], .func (.func 123) #[] #[], .func (.func 124) #[] #[], .func (.func 125) #[] #[], .func (.func 126) #[] #[], .func (.func 127) #[] #[]]
theorem parts_c (w : World) : Calls Tryd.prog 114 #[] w fun r w' => r = .returned (.agg ptab) ∧ w.grownBy w' none := by
  have hone : ptab.all (·.oneCell') = true := by simp [ptab, Value.oneCell']
  have hb := blk_new w 164 (#[.nilFunc, .nilFunc, .nilFunc, .nilFunc, .nilFunc, .nilFunc] : Array Value)
  go_enter Tryd.func114, Tryd.ntmps114
  go_wp2_with (refine wpList_store_bk 164 rfl (.tmp 0) (.tmp 7) rfl infoParts w.heap.size _ ptab rfl rfl (heap_new w _) rfl rfl hone ?_; intro w2 h1 h2; have H2 : Hid (Bk 164 w2 w.heap.size ptab ∧ w.grownBy w2 none) := ⟨h1, gb_newer (World.grownBy_alloc w _ _) h2 (Nat.le_refl _)⟩; clear h1 h2)
  refine bodyPost_ret (results_cell1 Tryd.results114 _ _ _ ⟨w.heap.size, 0, none⟩ (.agg ptab) rfl (bk_load Tryd.underlying164 rfl infoParts H2.out.1 rfl)) rfl ⟨rfl, H2.out.2⟩
/-- A measure read off memory. -/
def pAt (w : World) (g : Nat) : Nat := match w.cell? ⟨g, 4, none⟩ with
  | some (.int _ v) => v.toNat
  | _ => 0
theorem pAt_is {w : World} {g : Nat} {o : Opn} (h : OpB w g o) : pAt w g = o.part.toNat := by
  have : w.cell? ⟨g, 4, none⟩ = some (.int .i64 o.part) := Bk.cell h 4
  unfold pAt
  rw [this]
def wAt (v : Value) (w : World) (g : Nat) : Nat := match v with
  | .bool true => 7 - pAt w g
  | _ => 0
/-- How far walk has come: parts are to be looked at. -/
structure WG (ys : List Int) (X : List Rwi) (o : Opn) (g : Nat) (w wr : World) (a : Option Addr) (m c part p : Nat) (seq : Int) (n : Nat) (D : List Rwi) (o' : Opn) : Prop where
  gb : w.grownBy wr (some g)
  ob : OpB wr g o'
  tol : Tol w.heap.size wr o' D
  pre : Pre ys part p seq n (X ++ D)
  ow : OW o' part seq n (X ++ D)
  nd3 : part ≤ 3 → D = [] ∧ o'.ta = none ∧ o'.tn = 0 ∧ o'.tc = 0
  sz : o'.size = o.size
  en : o'.ended = o.ended
  sm : o'.sum = Cr.W (Cr.sum (ys.take p))
  seg : Seg .u8 wr a m (ys.drop p)
  nz : a = none → c = 0
  mc : m ≤ c
  ml : m ≤ 70368744177664
  ag : ∀ b o s, a = some ⟨b, o, s⟩ → b ≠ g
/-- What walk answers. -/
def WalkA (ys : List Int) (X : List Rwi) (o : Opn) (g : Nat) (w : World) (r : Ending) (w' : World) : Prop :=
  w.grownBy w' (some g) ∧ ∃ part p seq n D o', OpB w' g o' ∧ Tol w.heap.size w' o' D ∧ Pre ys part p seq n (X ++ D) ∧ o'.size = o.size ∧ o'.ended = o.ended ∧
    ((∃ a m c, r = .returned (.slice a m c) ∧ Seg .u8 w' a m (ys.drop p) ∧ (a = none → c = 0) ∧ m ≤ c ∧ (∀ b o s, a = some ⟨b, o, s⟩ → b ≠ g) ∧ Waits ys part p n (X ++ D) ∧ o'.part = (part : Int) ∧ (2 ≤ part → o'.seq = seq) ∧ (3 ≤ part → o'.left = ((n - (X ++ D).length : Nat) : Int)) ∧ o'.ahead = ahd (X ++ D) (X ++ D).length ∧ o'.err = 0 ∧ o'.rest = none ∧ o'.least = (if part = 3 then (nd (ys.drop p) : Int) else 0) ∧ o'.sum = Cr.W (Cr.sum (ys.take p))) ∨
     (∃ e, r = .panicked (chnE e) ∧ Wrong ys part p seq n (X ++ D) e ∧ o'.err = e ∧ o'.rest = none))
theorem cutI_blk {a : Option Addr} {c k b o : Nat} {s} (h : cutI a c k = some ⟨b, o, s⟩) : ∃ o' s', a = some ⟨b, o', s'⟩ := by
  unfold cutI at h
  split at h
  · exact ⟨o, s, h⟩
  · cases a with
    | none => simp at h
    | some x =>
      obtain ⟨b', o', s'⟩ := x
      simp only [Option.map_some, Option.some.injEq] at h
      refine ⟨o', s', ?_⟩
      unfold Addr.add at h
      split at h <;> (simp at h; rw [h.1])
/-- What stands behind a take, ahead of the sum. -/
structure WT (ys : List Int) (X : List Rwi) (o : Opn) (g : Nat) (w wr : World) (a : Option Addr) (m c part p k : Nat) (seq : Int) (n : Nat) (D : List Rwi) (o' : Opn) : Prop where
  gb : w.grownBy wr (some g)
  ob : OpB wr g o'
  tol : Tol w.heap.size wr o' D
  sz : o'.size = o.size
  en : o'.ended = o.ended
  sm : o'.sum = Cr.W (Cr.sum (ys.take p))
  seg : Seg .u8 wr a m (ys.drop p)
  nz : a = none → c = 0
  mc : m ≤ c
  ml : m ≤ 70368744177664
  ag : ∀ b o s, a = some ⟨b, o, s⟩ → b ≠ g
  km : k ≤ m
  tab : Cr.Tab wr
  gw : g < w.heap.size
theorem WT.set {ys : List Int} {X : List Rwi} {o : Opn} {g : Nat} {w wr W : World} {a : Option Addr} {m c part p k : Nat} {seq : Int} {n : Nat} {D : List Rwi} {o' : Opn} (h : WT ys X o g w wr a m c part p k seq n D o') (hg : wr.grownBy W none) :
    w.grownBy (W.setCell ⟨g, 7, none⟩ (.int .u32 (Cr.W (Cr.sum (ys.take (p + k)))))) (some g) ∧ OpB (W.setCell ⟨g, 7, none⟩ (.int .u32 (Cr.W (Cr.sum (ys.take (p + k)))))) g { o' with sum := Cr.W (Cr.sum (ys.take (p + k))) } ∧ Tol w.heap.size (W.setCell ⟨g, 7, none⟩ (.int .u32 (Cr.W (Cr.sum (ys.take (p + k)))))) { o' with sum := Cr.W (Cr.sum (ys.take (p + k))) } D ∧ Seg .u8 (W.setCell ⟨g, 7, none⟩ (.int .u32 (Cr.W (Cr.sum (ys.take (p + k)))))) (cutI a c k) (m - k) (ys.drop (p + k)) ∧ Cr.Tab (W.setCell ⟨g, 7, none⟩ (.int .u32 (Cr.W (Cr.sum (ys.take (p + k)))))) := by
  have hc := grownBy_cell W g 7 (.int .u32 (Cr.W (Cr.sum (ys.take (p + k)))))
  have hgg := gb_trans (gb_wide hg (some g)) hc
  have hgw : g < wr.heap.size := lt_of_block h.ob
  refine ⟨gb_trans h.gb hgg, Bk.setO (opb_gb h.ob hg) 7 _, ?_, ?_, tab_g h.tab h.ob hgg⟩
  · exact ⟨h.tol.1, own_grewI (own_grewI h.tol.2 hg (by simp)) hc (fun b hb e => by have := (own_lo2 h.tol.2 b hb).1; have := Option.some.inj e; have := h.gw; omega)⟩
  · have h1 := seg_cutI (seg_gG h.seg hgg h.ag) k h.mc
    rw [List.drop_drop] at h1
    exact h1
set_option maxRecDepth 20000 in
set_option maxHeartbeats 8000000 in
theorem owalk_c (g : Nat) (o : Opn) (a : Option Addr) (m c : Nat) (ys : List Int) (part p : Nat) (seq : Int) (n : Nat) (X : List Rwi) (w : World) (h : OpB w g o) (ht1 : o.ta = none) (ht2 : o.tn = 0) (ht3 : o.tc = 0) (hpre : Pre ys part p seq n X) (how : OW o part seq n X) (hs : o.sum = Cr.W (Cr.sum (ys.take p))) (hx : Seg .u8 w a m (ys.drop p)) (hb : Bytes ys) (hnz : a = none → c = 0) (hmc : m ≤ c) (hm : m ≤ 70368744177664) (hag : ∀ b o s, a = some ⟨b, o, s⟩ → b ≠ g) (ht : Cr.Tab w) :
    Calls Tryd.prog 94 #[.pointer (some ⟨g, 0, none⟩), .slice a m c] w fun r w' => WalkA ys X o g w r w' := by
  have hgw : g < w.heap.size := lt_of_block h
  have HB : Hid (Bytes ys ∧ g < w.heap.size ∧ part ≤ 5) := ⟨hb, hgw, hpre.top⟩
  have H0 : Hid (∀ W, w.grownBy W none → WG ys X o g w W a m c part p seq n [] o ∧ Cr.Tab W) := fun W hg =>
    ⟨⟨gb_wide hg _, opb_gb h hg, Tol.nil ht1 ht2 ht3, by rw [List.append_nil]; exact hpre, by rw [List.append_nil]; exact how, fun _ => ⟨rfl, ht1, ht2, ht3⟩, rfl, rfl, hs, hx.grew hg (by simp), hnz, hmc, hm, hag⟩, tab_n ht hg⟩
  have hone : ptab.all (·.oneCell') = true := by simp [ptab, Value.oneCell']
  clear h ht1 ht2 ht3 hpre how hs hx hb hnz hmc hm hag ht
  go_enter Tryd.func94, Tryd.ntmps94
  go_wp2_with (first
    | ((fail_if_success (have z := H1)); go_at_call 114; go_must (refine (Calls.mono (parts_c _) ?_)); rintro r w1 ⟨rfl, h1⟩; have H1 : Hid (w.grownBy w1 none) := h1; clear h1)
    | ((fail_if_success (have z := H2)); have z := H1; clear z; refine wpList_store_bk 164 rfl (.tmp 5) (.tmp 8) rfl infoParts w1.heap.size _ ptab rfl rfl (heap_new w1 _) rfl rfl hone ?_; intro w2 h1 h2; have H2 : Hid (Bk 164 w2 w1.heap.size ptab ∧ w.grownBy w2 none ∧ w.heap.size ≤ w1.heap.size) := ⟨h1, gb_trans H1.out (gb_newer (World.grownBy_alloc w1 _ _) h2 (Nat.le_refl _)), H1.out.size⟩; clear h1 h2))
  generalize w1.heap.size = T at H2 ⊢
  have HTN : Hid (w.heap.size ≤ T) := H2.out.2.2
  go_loopw [1, 6] (fun b wh wr => (∃ a m c part p seq n D o', b = .slice a m c ∧ wh = .bool true ∧ Hid (WG ys X o g w wr a m c part p seq n D o' ∧ Cr.Tab wr ∧ Bk 164 wr T ptab)) ∨ (∃ a m c, b = .slice a m c ∧ wh = .bool false ∧ Hid (WalkA ys X o g w (.returned (.slice a m c)) wr))) (fun _ wh wr => wAt wh wr g)
  case atStart => exact .inl ⟨a, m, c, part, p, seq, n, [], o, rfl, rfl, ⟨(H0.out w2 H2.out.2.1).1, (H0.out w2 H2.out.2.1).2, H2.out.1⟩⟩
  case round =>
    clear H0 H1 H2 hone
    rcases hrel with ⟨a, m, c, part, p, seq, n, D, o', rfl, rfl, HI⟩ | ⟨a, m, c, rfl, rfl, HI⟩
    · have hp5 : part ≤ 5 := HI.out.1.pre.top
      have k4' : wr.cell? ⟨g, 4, none⟩ = some (.int .i64 (part : Int)) := by rw [← HI.out.1.ow.pt]; exact Bk.cell HI.out.1.ob 4
      have hpa : pAt wr g = part := by rw [pAt_is HI.out.1.ob, HI.out.1.ow.pt]; omega
      have HPA : Hid (pAt wr g = part) := hpa
      clear hpa
      obtain rfl | rfl | rfl | rfl | rfl | rfl : part = 0 ∨ part = 1 ∨ part = 2 ∨ part = 3 ∨ part = 4 ∨ part = 5 := by omega
      · have HTK : Hid (Calls Tryd.prog 122 #[.pointer (some ⟨g, 0, none⟩), .slice a m c] wr fun r w' => TakeA ys 0 p seq n (X ++ D) o' g wr r w') := by
          have z := HI.out.1
          exact tk0 g o' a m c ys p seq n (X ++ D) wr z.ob z.ow z.pre z.seg HB.out.1 z.mc
        have k4 : wr.cell? ⟨g, 4, none⟩ = some (.int .i64 0) := k4'
        have kt : wr.cell? ⟨T, 0, none⟩ = some (.func (.func 122) #[] #[]) := Bk.cell HI.out.2.2 0
        clear k4'
        go_wp2_with fail
        refine (Calls.mono HTK.out ?_)
        clear HTK k4 kt
        rintro r x1 ⟨t0, E, o2, p', t1, t3, t4, t5, tah, t6, t7, t8, t9, (⟨seq', n', rfl, q1, q2, q3, q4, q5, q6, q7⟩ | ⟨rfl, q1, q2, q3, q4, q5, q6, q7⟩ | ⟨e, rfl, q1, q2, q3, q4⟩)⟩
        · obtain ⟨k, hk⟩ : ∃ k, k = p' - p := ⟨_, rfl⟩
          rw [← hk]
          have hpk : p' = p + k := by omega
          have HT2 : Hid (WT ys X o g w x1 a m c 0 p k seq n (D ++ E) o2) := ⟨gb_trans HI.out.1.gb t0, t3, t4 _ _ HB.out.2.1 HI.out.1.gb.size HI.out.1.tol (fun e => (HI.out.1.nd3 (by omega)).1), t7.trans HI.out.1.sz, t8.trans HI.out.1.en, t6.trans HI.out.1.sm, seg_gG HI.out.1.seg t0 HI.out.1.ag, HI.out.1.nz, HI.out.1.mc, HI.out.1.ml, HI.out.1.ag, by have z1 := HI.out.1.seg.1; have z2 := q1.le; rw [List.length_drop] at z1; omega, tab_g HI.out.2.1 HI.out.1.ob t0, HB.out.2.1⟩
          have HTP : Hid (Bk 164 x1 T ptab) := HI.out.2.2.grew t0 (fun e => by have := Option.some.inj e; have := HB.out.2.1; have := HTN.out; omega)
          obtain ⟨t, htt⟩ : ∃ t, t = Cr.sum (ys.take p) := ⟨_, rfl⟩
          obtain ⟨V, hV⟩ : ∃ V, V = Cr.W (Cr.sum (ys.take (p + k))) := ⟨_, rfl⟩
          have hkm : k ≤ m := HT2.out.km
          have HSL : Hid (∀ W, (Instr.slice 27 (.slice a m c) none (some (.int .i64 (k : Int))) none).run Tryd.prog W = .ok (.slice a k c) W) := slice_hI a m c k k rfl (Nat.le_trans hkm HT2.out.mc)
          have hs2 : ∀ W, (Instr.slice 27 (.slice a m c) (some (.int .i64 (k : Int))) none none).run Tryd.prog W = .ok (.slice (cutI a c k) (m - k) (c - k)) W := sliceL a m c k k rfl hkm
          have HK7 : Hid (∀ W, x1.grownBy W none → W.cell? ⟨g, 7, none⟩ = some (.int .u32 (Cr.W t))) := fun W hg => by rw [htt, ← HT2.out.sm]; exact Bk.cell (opb_gb HT2.out.ob hg) 7
          have HF7 : Hid (∀ W, x1.grownBy W none → W.frozen? ⟨g, 7, none⟩ = false) := fun W hg => frozen_of_row W g 7 _ _ (opb_gb HT2.out.ob hg)
          have HMO : Hid (∀ W, x1.grownBy W none → Calls Tryd.prog 76 #[.int .u32 (Cr.W t), .slice a k c] W fun r w' => r = .returned (.int .u32 V) ∧ w' = W) := fun W hg => by
            rw [hV, ← sum_moreI ys p k, htt]
            exact Cr.more_c _ a k c _ W ((seg_takeO HT2.out.seg k hkm).grew hg (by simp)) (bytes_takeO (bytes_drop HB.out.1 p) k) (tab_n HT2.out.tab hg) (by have := HT2.out.ml; omega)
          have HST : Hid (∀ W, x1.grownBy W none → w.grownBy (W.setCell ⟨g, 7, none⟩ (.int .u32 V)) (some g) ∧ OpB (W.setCell ⟨g, 7, none⟩ (.int .u32 V)) g { o2 with sum := V } ∧ Tol w.heap.size (W.setCell ⟨g, 7, none⟩ (.int .u32 V)) { o2 with sum := V } (D ++ E) ∧ Seg .u8 (W.setCell ⟨g, 7, none⟩ (.int .u32 V)) (cutI a c k) (m - k) (ys.drop (p + k)) ∧ Cr.Tab (W.setCell ⟨g, 7, none⟩ (.int .u32 V)) ∧ Bk 164 (W.setCell ⟨g, 7, none⟩ (.int .u32 V)) T ptab) := fun W hg => by
            rw [hV]
            have z := HT2.out.set hg
            exact ⟨z.1, z.2.1, z.2.2.1, z.2.2.2.1, z.2.2.2.2, (HTP.out.grew hg (by simp)).grew (grownBy_cell W g 7 _) (fun e => by have := Option.some.inj e; have := HB.out.2.1; have := HTN.out; omega)⟩
          have HEND : Hid (V = Cr.W (Cr.sum (ys.take (p + k))) ∧ p' = p + k ∧ (cutI a c k = none → c - k = 0) ∧ m - k ≤ c - k ∧ m - k ≤ 70368744177664 ∧ (∀ b o s, cutI a c k = some ⟨b, o, s⟩ → b ≠ g) ∧ o2.size = o.size ∧ o2.ended = o.ended) := ⟨hV, hpk, fun z => by have := HT2.out.nz (cutI_none z); omega, by have := HT2.out.mc; omega, by have := HT2.out.ml; omega, fun b o s hb => by obtain ⟨o3, s3, e⟩ := cutI_blk hb; exact HT2.out.ag b o3 s3 e, HT2.out.sz, HT2.out.en⟩
          have HAPP : Hid ((X ++ D) ++ E = X ++ (D ++ E)) := List.append_assoc _ _ _
          clear htt hV t0 t1 t3 t4 t6 t7 t8 hk
          go_wp2_with fail
          refine wp_region_lastR (fun a b => World.grownBy a b none) (fun _ _ _ h k => gb_trans h k) ⟨rfl, rfl, rfl, Nat.le_refl _, fun _ _ _ => rfl⟩ 11 rfl (by kernel_rfl) [23, 24, 25, 26, 27, 28, 29, 30, 31, 32, 33, 100011] [[], [], [1], [2], [3], [], [], [5, 6], [4, 7], [0], [9], [10, 8]] (by kernel_rfl) (by kernel_rfl) [fun u W => u = .pointer (some ⟨g, 0, none⟩), fun u W => u = .pointer (some ⟨g, 0, none⟩), fun u W => u = .pointer (some ⟨g, 0, none⟩), fun u W => u = .pointer (some ⟨g, 7, none⟩), fun u W => u = .int .u32 (Cr.W t), fun u W => u = .slice a m c, fun u W => u = .int .i64 (k : Int), fun u W => u = .slice a k c, fun u W => u = .int .u32 V, fun u W => u = .pointer (some ⟨g, 0, none⟩), fun u W => u = .pointer (some ⟨g, 7, none⟩)] ?stable ?step ?last
          case stable =>
            intro i v W W' h hg
            match i, h with
            | 0, h => exact h
            | 1, h => exact h
            | 2, h => exact h
            | 3, h => exact h
            | 4, h => exact h
            | 5, h => exact h
            | 6, h => exact h
            | 7, h => exact h
            | 8, h => exact h
            | 9, h => exact h
            | 10, h => exact h
            | i + 11, h => exact trivial
          case step =>
            intro f W A hA hg i o hin ho hu K hK
            match i, hin, ho, hu, hK with
            | 0, hin, ho, hu, hK =>
              cases ho
              have e0 : A.eval (.tmp 0) = .pointer (some ⟨g, 0, none⟩) := ev_out hA 0 rfl
              exact ph_move _ rfl rfl (.pointer (some ⟨g, 0, none⟩)) e0 (hK _ _ (gb_rr W _) rfl)
            | 1, hin, ho, hu, hK =>
              cases ho
              have e0 : A.eval (.tmp 0) = .pointer (some ⟨g, 0, none⟩) := ev_out hA 0 rfl
              exact ph_move _ rfl rfl (.pointer (some ⟨g, 0, none⟩)) e0 (hK _ _ (gb_rr W _) rfl)
            | 2, hin, ho, hu, hK =>
              cases ho
              have e24 : A.eval (.tmp 24) = .pointer (some ⟨g, 0, none⟩) := (ev_in hA 24 1 rfl rfl rfl).trans (show f 1 = .pointer (some ⟨g, 0, none⟩) from hu 1 (by decide))
              exact ph_nil _ rfl rfl _ e24 (hK _ _ (gb_rr W _) rfl)
            | 3, hin, ho, hu, hK =>
              cases ho
              have e25 : A.eval (.tmp 25) = .pointer (some ⟨g, 0, none⟩) := (ev_in hA 25 2 rfl rfl rfl).trans (show f 2 = .pointer (some ⟨g, 0, none⟩) from hu 2 (by decide))
              exact ph_field _ _ _ rfl rfl _ (.pointer (some ⟨g, 7, none⟩)) e25 (by kernel_rfl) (hK _ _ (gb_rr W _) rfl)
            | 4, hin, ho, hu, hK =>
              cases ho
              have e26 : A.eval (.tmp 26) = .pointer (some ⟨g, 7, none⟩) := (ev_in hA 26 3 rfl rfl rfl).trans (show f 3 = .pointer (some ⟨g, 7, none⟩) from hu 3 (by decide))
              have hc : W.cell? ⟨g, 7, none⟩ = some (.int .u32 (Cr.W t)) := HK7.out W hg
              refine ph_sem rfl rfl (r := .ok (.value (.int .u32 (Cr.W t))) W) ?_ (hK _ _ (gb_rr W _) rfl)
              have eC : ∀ c, A.eval (.const c) = c := fun _ => rfl; have eF : ∀ g, A.eval (.func g) = .func (.func g) #[] #[] := fun _ => rfl; generalize A.eval = ρ at *
              clear hA hu hg
              go_simp
            | 5, hin, ho, hu, hK =>
              cases ho
              have e1 : A.eval (.tmp 1) = .slice a m c := ev_out hA 1 rfl
              exact ph_move _ rfl rfl (.slice a m c) e1 (hK _ _ (gb_rr W _) rfl)
            | 6, hin, ho, hu, hK =>
              cases ho
              have e7 : A.eval (.tmp 7) = .int .i64 (k : Int) := ev_out hA 7 rfl
              exact ph_move _ rfl rfl (.int .i64 (k : Int)) e7 (hK _ _ (gb_rr W _) rfl)
            | 7, hin, ho, hu, hK =>
              cases ho
              have e28 : A.eval (.tmp 28) = .slice a m c := (ev_in hA 28 5 rfl rfl rfl).trans (show f 5 = .slice a m c from hu 5 (by decide))
              have e29 : A.eval (.tmp 29) = .int .i64 (k : Int) := (ev_in hA 29 6 rfl rfl rfl).trans (show f 6 = .int .i64 (k : Int) from hu 6 (by decide))
              have hsl := HSL.out W
              refine ph_sem rfl rfl (r := .ok (.value (.slice a k c)) W) ?_ (hK _ _ (gb_rr W _) rfl)
              have eC : ∀ c, A.eval (.const c) = c := fun _ => rfl; have eF : ∀ g, A.eval (.func g) = .func (.func g) #[] #[] := fun _ => rfl; generalize A.eval = ρ at *
              clear hA hu hg hK
              go_simp
            | 8, hin, ho, hu, hK =>
              cases ho
              have e27 : A.eval (.tmp 27) = .int .u32 (Cr.W t) := (ev_in hA 27 4 rfl rfl rfl).trans (show f 4 = .int .u32 (Cr.W t) from hu 4 (by decide))
              have e30 : A.eval (.tmp 30) = .slice a k c := (ev_in hA 30 7 rfl rfl rfl).trans (show f 7 = .slice a k c from hu 7 (by decide))
              refine ph_fn 76 _ _ rfl rfl #[.int .u32 (Cr.W t), .slice a k c] (by simp [e27, e30]) (by kernel_rfl) ?_
              refine (Calls.mono (HMO.out W hg) ?_)
              rintro e W' ⟨rfl, hq⟩
              obtain rfl := hq.symm
              exact ⟨_, rfl, hK _ _ (gb_rr W _) rfl⟩
            | 9, hin, ho, hu, hK =>
              cases ho
              have e23 : A.eval (.tmp 23) = .pointer (some ⟨g, 0, none⟩) := (ev_in hA 23 0 rfl rfl rfl).trans (show f 0 = .pointer (some ⟨g, 0, none⟩) from hu 0 (by decide))
              exact ph_nil _ rfl rfl _ e23 (hK _ _ (gb_rr W _) rfl)
            | 10, hin, ho, hu, hK =>
              cases ho
              have e32 : A.eval (.tmp 32) = .pointer (some ⟨g, 0, none⟩) := (ev_in hA 32 9 rfl rfl rfl).trans (show f 9 = .pointer (some ⟨g, 0, none⟩) from hu 9 (by decide))
              exact ph_field _ _ _ rfl rfl _ (.pointer (some ⟨g, 7, none⟩)) e32 (by kernel_rfl) (hK _ _ (gb_rr W _) rfl)
            | i + 11, hin, ho, hu, hK => omega
          case last =>
            intro f W A hA hg hu o ho K hK
            cases ho
            have e31 : A.eval (.tmp 31) = .int .u32 V := (ev_in hA 31 8 rfl rfl rfl).trans (show f 8 = .int .u32 V from hu 8 (by decide))
            have e33 : A.eval (.tmp 33) = .pointer (some ⟨g, 7, none⟩) := (ev_in hA 33 10 rfl rfl rfl).trans (show f 10 = .pointer (some ⟨g, 7, none⟩) from hu 10 (by decide))
            have hc : W.cell? ⟨g, 7, none⟩ = some (.int .u32 (Cr.W t)) := HK7.out W hg
            have hf : W.frozen? ⟨g, 7, none⟩ = false := HF7.out W hg
            refine ph_sem rfl rfl (r := .ok .skip (W.setCell ⟨g, 7, none⟩ (.int .u32 V))) ?_ (hK _ _ ?_)
            · have eC : ∀ c, A.eval (.const c) = c := fun _ => rfl
              generalize A.eval = ρ at *
              clear hA hu hg hK
              go_simp
            have A4 : Hid _ := HST.out W hg
            clear hg e31 e33 hc hf
            have hA2 := hA.trans (putAll_lit [(.pointer (some ⟨g, 0, none⟩)), (.pointer (some ⟨g, 0, none⟩)), (.pointer (some ⟨g, 0, none⟩)), (.pointer (some ⟨g, 7, none⟩)), (.int .u32 (Cr.W t)), (.slice a m c), (.int .i64 (k : Int)), (.slice a k c), (.int .u32 V), (.pointer (some ⟨g, 0, none⟩)), (.pointer (some ⟨g, 7, none⟩)), (f 11)] (by
              intro j hj
              match j, hj with
              | 0, _ => exact hu 0 (by decide)
              | 1, _ => exact hu 1 (by decide)
              | 2, _ => exact hu 2 (by decide)
              | 3, _ => exact hu 3 (by decide)
              | 4, _ => exact hu 4 (by decide)
              | 5, _ => exact hu 5 (by decide)
              | 6, _ => exact hu 6 (by decide)
              | 7, _ => exact hu 7 (by decide)
              | 8, _ => exact hu 8 (by decide)
              | 9, _ => exact hu 9 (by decide)
              | 10, _ => exact hu 10 (by decide)
              | 11, _ => rfl
              | j + 12, hj => exact absurd hj (by simp)))
            clear hu hA
            subst hA2
            simp only [putAll, putL, List.mem_cons, List.not_mem_nil, List.idxOf_cons, Nat.reduceEqDiff, Nat.reduceBEq, Nat.reduceAdd, or_false, or_true, reduceIte, cond_true, cond_false, List.getD_cons_zero, List.getD_cons_succ, BEq.rfl]
            have c4 : (W.setCell ⟨g, 7, none⟩ (.int .u32 V)).cell? ⟨g, 4, none⟩ = some (.int .i64 0) := by have z := Bk.cell A4.out.2.1 4; rw [z]; exact congrArg (fun v => some (Value.int .i64 v)) t5
            have f4 : (W.setCell ⟨g, 7, none⟩ (.int .u32 V)).frozen? ⟨g, 4, none⟩ = false := frozen_of_row _ g 4 _ _ A4.out.2.1
            generalize W.setCell ⟨g, 7, none⟩ (.int .u32 V) = y1 at A4 c4 f4 ⊢
            go_wp2_with fail
            have A5 : Hid (WG ys X o g w (y1.setCell ⟨g, 4, none⟩ (.int .i64 1)) (cutI a c k) (m - k) (c - k) 1 (p + k) seq' n' (D ++ E) { o2 with sum := V, part := 1 } ∧ Cr.Tab (y1.setCell ⟨g, 4, none⟩ (.int .i64 1)) ∧ Bk 164 (y1.setCell ⟨g, 4, none⟩ (.int .i64 1)) T ptab) := by
              have hc := grownBy_cell y1 g 4 (.int .i64 1)
              refine ⟨⟨gb_trans A4.out.1 hc, Bk.setO A4.out.2.1 4 _, A4.out.2.2.1.grew hc HB.out.2.1 rfl rfl rfl, by rw [← HAPP.out, ← HEND.out.2.1]; exact q1, ⟨rfl, q2, by rw [← HAPP.out]; exact q3, by rw [← HAPP.out]; exact tah, q4, q5, q6⟩, fun _ => by obtain ⟨z1, z2, z3, z4⟩ := t9 (by decide); obtain ⟨y1', y2', y3', y4'⟩ := HI.out.1.nd3 (by omega); exact ⟨by rw [z1, y1']; rfl, z2.trans y2', z3.trans y3', z4.trans y4'⟩, HEND.out.2.2.2.2.2.2.1, HEND.out.2.2.2.2.2.2.2, HEND.out.1, seg_gG A4.out.2.2.2.1 hc HEND.out.2.2.2.2.2.1, HEND.out.2.2.1, HEND.out.2.2.2.1, HEND.out.2.2.2.2.1, HEND.out.2.2.2.2.2.1⟩, tab_g A4.out.2.2.2.2.1 A4.out.2.1 hc, A4.out.2.2.2.2.2.grew hc (fun e => by have := Option.some.inj e; have := HB.out.2.1; have := HTN.out; omega)⟩
            go_roundw
            case rel => exact .inl ⟨_, _, _, _, _, _, _, _, _, rfl, rfl, A5⟩
            case measure => show 7 - pAt _ g < 7 - pAt wr g; rw [pAt_is A5.out.1.ob, HPA.out]; show 7 - (1 : Int).toNat < 7 - 0; decide
        · obtain ⟨k, hk⟩ : ∃ k, k = p' - p := ⟨_, rfl⟩
          rw [← hk]
          have hpk : p' = p + k := by omega
          have HT2 : Hid (WT ys X o g w x1 a m c 0 p k seq n (D ++ E) o2) := ⟨gb_trans HI.out.1.gb t0, t3, t4 _ _ HB.out.2.1 HI.out.1.gb.size HI.out.1.tol (fun e => (HI.out.1.nd3 (by omega)).1), t7.trans HI.out.1.sz, t8.trans HI.out.1.en, t6.trans HI.out.1.sm, seg_gG HI.out.1.seg t0 HI.out.1.ag, HI.out.1.nz, HI.out.1.mc, HI.out.1.ml, HI.out.1.ag, by have z1 := HI.out.1.seg.1; have z2 := q1.le; rw [List.length_drop] at z1; omega, tab_g HI.out.2.1 HI.out.1.ob t0, HB.out.2.1⟩
          have HTP : Hid (Bk 164 x1 T ptab) := HI.out.2.2.grew t0 (fun e => by have := Option.some.inj e; have := HB.out.2.1; have := HTN.out; omega)
          obtain ⟨t, htt⟩ : ∃ t, t = Cr.sum (ys.take p) := ⟨_, rfl⟩
          obtain ⟨V, hV⟩ : ∃ V, V = Cr.W (Cr.sum (ys.take (p + k))) := ⟨_, rfl⟩
          have hkm : k ≤ m := HT2.out.km
          have HSL : Hid (∀ W, (Instr.slice 27 (.slice a m c) none (some (.int .i64 (k : Int))) none).run Tryd.prog W = .ok (.slice a k c) W) := slice_hI a m c k k rfl (Nat.le_trans hkm HT2.out.mc)
          have hs2 : ∀ W, (Instr.slice 27 (.slice a m c) (some (.int .i64 (k : Int))) none none).run Tryd.prog W = .ok (.slice (cutI a c k) (m - k) (c - k)) W := sliceL a m c k k rfl hkm
          have HK7 : Hid (∀ W, x1.grownBy W none → W.cell? ⟨g, 7, none⟩ = some (.int .u32 (Cr.W t))) := fun W hg => by rw [htt, ← HT2.out.sm]; exact Bk.cell (opb_gb HT2.out.ob hg) 7
          have HF7 : Hid (∀ W, x1.grownBy W none → W.frozen? ⟨g, 7, none⟩ = false) := fun W hg => frozen_of_row W g 7 _ _ (opb_gb HT2.out.ob hg)
          have HMO : Hid (∀ W, x1.grownBy W none → Calls Tryd.prog 76 #[.int .u32 (Cr.W t), .slice a k c] W fun r w' => r = .returned (.int .u32 V) ∧ w' = W) := fun W hg => by
            rw [hV, ← sum_moreI ys p k, htt]
            exact Cr.more_c _ a k c _ W ((seg_takeO HT2.out.seg k hkm).grew hg (by simp)) (bytes_takeO (bytes_drop HB.out.1 p) k) (tab_n HT2.out.tab hg) (by have := HT2.out.ml; omega)
          have HST : Hid (∀ W, x1.grownBy W none → w.grownBy (W.setCell ⟨g, 7, none⟩ (.int .u32 V)) (some g) ∧ OpB (W.setCell ⟨g, 7, none⟩ (.int .u32 V)) g { o2 with sum := V } ∧ Tol w.heap.size (W.setCell ⟨g, 7, none⟩ (.int .u32 V)) { o2 with sum := V } (D ++ E) ∧ Seg .u8 (W.setCell ⟨g, 7, none⟩ (.int .u32 V)) (cutI a c k) (m - k) (ys.drop (p + k)) ∧ Cr.Tab (W.setCell ⟨g, 7, none⟩ (.int .u32 V)) ∧ Bk 164 (W.setCell ⟨g, 7, none⟩ (.int .u32 V)) T ptab) := fun W hg => by
            rw [hV]
            have z := HT2.out.set hg
            exact ⟨z.1, z.2.1, z.2.2.1, z.2.2.2.1, z.2.2.2.2, (HTP.out.grew hg (by simp)).grew (grownBy_cell W g 7 _) (fun e => by have := Option.some.inj e; have := HB.out.2.1; have := HTN.out; omega)⟩
          have HEND : Hid (V = Cr.W (Cr.sum (ys.take (p + k))) ∧ p' = p + k ∧ (cutI a c k = none → c - k = 0) ∧ m - k ≤ c - k ∧ m - k ≤ 70368744177664 ∧ (∀ b o s, cutI a c k = some ⟨b, o, s⟩ → b ≠ g) ∧ o2.size = o.size ∧ o2.ended = o.ended) := ⟨hV, hpk, fun z => by have := HT2.out.nz (cutI_none z); omega, by have := HT2.out.mc; omega, by have := HT2.out.ml; omega, fun b o s hb => by obtain ⟨o3, s3, e⟩ := cutI_blk hb; exact HT2.out.ag b o3 s3 e, HT2.out.sz, HT2.out.en⟩
          have HAPP : Hid ((X ++ D) ++ E = X ++ (D ++ E)) := List.append_assoc _ _ _
          clear htt hV t0 t1 t3 t4 t6 t7 t8 hk
          go_wp2_with fail
          refine wp_region_lastR (fun a b => World.grownBy a b none) (fun _ _ _ h k => gb_trans h k) ⟨rfl, rfl, rfl, Nat.le_refl _, fun _ _ _ => rfl⟩ 11 rfl (by kernel_rfl) [23, 24, 25, 26, 27, 28, 29, 30, 31, 32, 33, 100011] [[], [], [1], [2], [3], [], [], [5, 6], [4, 7], [0], [9], [10, 8]] (by kernel_rfl) (by kernel_rfl) [fun u W => u = .pointer (some ⟨g, 0, none⟩), fun u W => u = .pointer (some ⟨g, 0, none⟩), fun u W => u = .pointer (some ⟨g, 0, none⟩), fun u W => u = .pointer (some ⟨g, 7, none⟩), fun u W => u = .int .u32 (Cr.W t), fun u W => u = .slice a m c, fun u W => u = .int .i64 (k : Int), fun u W => u = .slice a k c, fun u W => u = .int .u32 V, fun u W => u = .pointer (some ⟨g, 0, none⟩), fun u W => u = .pointer (some ⟨g, 7, none⟩)] ?stable ?step ?last
          case stable =>
            intro i v W W' h hg
            match i, h with
            | 0, h => exact h
            | 1, h => exact h
            | 2, h => exact h
            | 3, h => exact h
            | 4, h => exact h
            | 5, h => exact h
            | 6, h => exact h
            | 7, h => exact h
            | 8, h => exact h
            | 9, h => exact h
            | 10, h => exact h
            | i + 11, h => exact trivial
          case step =>
            intro f W A hA hg i o hin ho hu K hK
            match i, hin, ho, hu, hK with
            | 0, hin, ho, hu, hK =>
              cases ho
              have e0 : A.eval (.tmp 0) = .pointer (some ⟨g, 0, none⟩) := ev_out hA 0 rfl
              exact ph_move _ rfl rfl (.pointer (some ⟨g, 0, none⟩)) e0 (hK _ _ (gb_rr W _) rfl)
            | 1, hin, ho, hu, hK =>
              cases ho
              have e0 : A.eval (.tmp 0) = .pointer (some ⟨g, 0, none⟩) := ev_out hA 0 rfl
              exact ph_move _ rfl rfl (.pointer (some ⟨g, 0, none⟩)) e0 (hK _ _ (gb_rr W _) rfl)
            | 2, hin, ho, hu, hK =>
              cases ho
              have e24 : A.eval (.tmp 24) = .pointer (some ⟨g, 0, none⟩) := (ev_in hA 24 1 rfl rfl rfl).trans (show f 1 = .pointer (some ⟨g, 0, none⟩) from hu 1 (by decide))
              exact ph_nil _ rfl rfl _ e24 (hK _ _ (gb_rr W _) rfl)
            | 3, hin, ho, hu, hK =>
              cases ho
              have e25 : A.eval (.tmp 25) = .pointer (some ⟨g, 0, none⟩) := (ev_in hA 25 2 rfl rfl rfl).trans (show f 2 = .pointer (some ⟨g, 0, none⟩) from hu 2 (by decide))
              exact ph_field _ _ _ rfl rfl _ (.pointer (some ⟨g, 7, none⟩)) e25 (by kernel_rfl) (hK _ _ (gb_rr W _) rfl)
            | 4, hin, ho, hu, hK =>
              cases ho
              have e26 : A.eval (.tmp 26) = .pointer (some ⟨g, 7, none⟩) := (ev_in hA 26 3 rfl rfl rfl).trans (show f 3 = .pointer (some ⟨g, 7, none⟩) from hu 3 (by decide))
              have hc : W.cell? ⟨g, 7, none⟩ = some (.int .u32 (Cr.W t)) := HK7.out W hg
              refine ph_sem rfl rfl (r := .ok (.value (.int .u32 (Cr.W t))) W) ?_ (hK _ _ (gb_rr W _) rfl)
              have eC : ∀ c, A.eval (.const c) = c := fun _ => rfl; have eF : ∀ g, A.eval (.func g) = .func (.func g) #[] #[] := fun _ => rfl; generalize A.eval = ρ at *
              clear hA hu hg
              go_simp
            | 5, hin, ho, hu, hK =>
              cases ho
              have e1 : A.eval (.tmp 1) = .slice a m c := ev_out hA 1 rfl
              exact ph_move _ rfl rfl (.slice a m c) e1 (hK _ _ (gb_rr W _) rfl)
            | 6, hin, ho, hu, hK =>
              cases ho
              have e7 : A.eval (.tmp 7) = .int .i64 (k : Int) := ev_out hA 7 rfl
              exact ph_move _ rfl rfl (.int .i64 (k : Int)) e7 (hK _ _ (gb_rr W _) rfl)
            | 7, hin, ho, hu, hK =>
              cases ho
              have e28 : A.eval (.tmp 28) = .slice a m c := (ev_in hA 28 5 rfl rfl rfl).trans (show f 5 = .slice a m c from hu 5 (by decide))
              have e29 : A.eval (.tmp 29) = .int .i64 (k : Int) := (ev_in hA 29 6 rfl rfl rfl).trans (show f 6 = .int .i64 (k : Int) from hu 6 (by decide))
              have hsl := HSL.out W
              refine ph_sem rfl rfl (r := .ok (.value (.slice a k c)) W) ?_ (hK _ _ (gb_rr W _) rfl)
              have eC : ∀ c, A.eval (.const c) = c := fun _ => rfl; have eF : ∀ g, A.eval (.func g) = .func (.func g) #[] #[] := fun _ => rfl; generalize A.eval = ρ at *
              clear hA hu hg hK
              go_simp
            | 8, hin, ho, hu, hK =>
              cases ho
              have e27 : A.eval (.tmp 27) = .int .u32 (Cr.W t) := (ev_in hA 27 4 rfl rfl rfl).trans (show f 4 = .int .u32 (Cr.W t) from hu 4 (by decide))
              have e30 : A.eval (.tmp 30) = .slice a k c := (ev_in hA 30 7 rfl rfl rfl).trans (show f 7 = .slice a k c from hu 7 (by decide))
              refine ph_fn 76 _ _ rfl rfl #[.int .u32 (Cr.W t), .slice a k c] (by simp [e27, e30]) (by kernel_rfl) ?_
              refine (Calls.mono (HMO.out W hg) ?_)
              rintro e W' ⟨rfl, hq⟩
              obtain rfl := hq.symm
              exact ⟨_, rfl, hK _ _ (gb_rr W _) rfl⟩
            | 9, hin, ho, hu, hK =>
              cases ho
              have e23 : A.eval (.tmp 23) = .pointer (some ⟨g, 0, none⟩) := (ev_in hA 23 0 rfl rfl rfl).trans (show f 0 = .pointer (some ⟨g, 0, none⟩) from hu 0 (by decide))
              exact ph_nil _ rfl rfl _ e23 (hK _ _ (gb_rr W _) rfl)
            | 10, hin, ho, hu, hK =>
              cases ho
              have e32 : A.eval (.tmp 32) = .pointer (some ⟨g, 0, none⟩) := (ev_in hA 32 9 rfl rfl rfl).trans (show f 9 = .pointer (some ⟨g, 0, none⟩) from hu 9 (by decide))
              exact ph_field _ _ _ rfl rfl _ (.pointer (some ⟨g, 7, none⟩)) e32 (by kernel_rfl) (hK _ _ (gb_rr W _) rfl)
            | i + 11, hin, ho, hu, hK => omega
          case last =>
            intro f W A hA hg hu o ho K hK
            cases ho
            have e31 : A.eval (.tmp 31) = .int .u32 V := (ev_in hA 31 8 rfl rfl rfl).trans (show f 8 = .int .u32 V from hu 8 (by decide))
            have e33 : A.eval (.tmp 33) = .pointer (some ⟨g, 7, none⟩) := (ev_in hA 33 10 rfl rfl rfl).trans (show f 10 = .pointer (some ⟨g, 7, none⟩) from hu 10 (by decide))
            have hc : W.cell? ⟨g, 7, none⟩ = some (.int .u32 (Cr.W t)) := HK7.out W hg
            have hf : W.frozen? ⟨g, 7, none⟩ = false := HF7.out W hg
            refine ph_sem rfl rfl (r := .ok .skip (W.setCell ⟨g, 7, none⟩ (.int .u32 V))) ?_ (hK _ _ ?_)
            · have eC : ∀ c, A.eval (.const c) = c := fun _ => rfl
              generalize A.eval = ρ at *
              clear hA hu hg hK
              go_simp
            have A4 : Hid _ := HST.out W hg
            clear hg e31 e33 hc hf
            have hA2 := hA.trans (putAll_lit [(.pointer (some ⟨g, 0, none⟩)), (.pointer (some ⟨g, 0, none⟩)), (.pointer (some ⟨g, 0, none⟩)), (.pointer (some ⟨g, 7, none⟩)), (.int .u32 (Cr.W t)), (.slice a m c), (.int .i64 (k : Int)), (.slice a k c), (.int .u32 V), (.pointer (some ⟨g, 0, none⟩)), (.pointer (some ⟨g, 7, none⟩)), (f 11)] (by
              intro j hj
              match j, hj with
              | 0, _ => exact hu 0 (by decide)
              | 1, _ => exact hu 1 (by decide)
              | 2, _ => exact hu 2 (by decide)
              | 3, _ => exact hu 3 (by decide)
              | 4, _ => exact hu 4 (by decide)
              | 5, _ => exact hu 5 (by decide)
              | 6, _ => exact hu 6 (by decide)
              | 7, _ => exact hu 7 (by decide)
              | 8, _ => exact hu 8 (by decide)
              | 9, _ => exact hu 9 (by decide)
              | 10, _ => exact hu 10 (by decide)
              | 11, _ => rfl
              | j + 12, hj => exact absurd hj (by simp)))
            clear hu hA
            subst hA2
            simp only [putAll, putL, List.mem_cons, List.not_mem_nil, List.idxOf_cons, Nat.reduceEqDiff, Nat.reduceBEq, Nat.reduceAdd, or_false, or_true, reduceIte, cond_true, cond_false, List.getD_cons_zero, List.getD_cons_succ, BEq.rfl]
            generalize W.setCell ⟨g, 7, none⟩ (.int .u32 V) = y1 at A4 ⊢
            go_wp2_with fail
            have A5 : Hid (WalkA ys X o g w (.returned (.slice (cutI a c k) (m - k) (c - k))) y1) := ⟨A4.out.1, 0, p + k, seq, n, D ++ E, { o2 with sum := V }, A4.out.2.1, A4.out.2.2.1, by rw [← HAPP.out, ← HEND.out.2.1]; exact q1, HEND.out.2.2.2.2.2.2.1, HEND.out.2.2.2.2.2.2.2, .inl ⟨_, _, _, rfl, A4.out.2.2.2.1, HEND.out.2.2.1, HEND.out.2.2.2.1, HEND.out.2.2.2.2.2.1, by rw [← HAPP.out, ← HEND.out.2.1]; exact q2, t5, q3, by rw [← HAPP.out]; exact q4, by rw [← HAPP.out]; exact tah, q5, q6, by rw [← HEND.out.2.1]; exact q7, HEND.out.1⟩⟩
            go_roundw
            case rel => exact .inr ⟨_, _, _, rfl, rfl, A5⟩
            case measure => show 0 < 7 - pAt wr g; rw [HPA.out]; decide
        · exact ⟨rfl, gb_trans HI.out.1.gb t0, 0, p', seq, n, D ++ E, o2, t3, t4 _ _ HB.out.2.1 HI.out.1.gb.size HI.out.1.tol (fun e => (HI.out.1.nd3 (by omega)).1), by rw [← List.append_assoc]; exact q1, t7.trans HI.out.1.sz, t8.trans HI.out.1.en, .inr ⟨e, rfl, by rw [← List.append_assoc]; exact q2, q3, q4⟩⟩
      · have HTK : Hid (Calls Tryd.prog 123 #[.pointer (some ⟨g, 0, none⟩), .slice a m c] wr fun r w' => TakeA ys 1 p seq n (X ++ D) o' g wr r w') := by
          have z := HI.out.1
          exact tk1 g o' a m c ys p seq n (X ++ D) wr z.ob z.ow z.pre z.seg HB.out.1 z.nz z.mc
        have k4 : wr.cell? ⟨g, 4, none⟩ = some (.int .i64 1) := k4'
        have kt : wr.cell? ⟨T, 1, none⟩ = some (.func (.func 123) #[] #[]) := Bk.cell HI.out.2.2 1
        clear k4'
        go_wp2_with fail
        refine (Calls.mono HTK.out ?_)
        clear HTK k4 kt
        rintro r x1 ⟨t0, E, o2, p', t1, t3, t4, t5, tah, t6, t7, t8, t9, (⟨seq', n', rfl, q1, q2, q3, q4, q5, q6, q7⟩ | ⟨rfl, q1, q2, q3, q4, q5, q6, q7⟩ | ⟨e, rfl, q1, q2, q3, q4⟩)⟩
        · obtain ⟨k, hk⟩ : ∃ k, k = p' - p := ⟨_, rfl⟩
          rw [← hk]
          have hpk : p' = p + k := by omega
          have HT2 : Hid (WT ys X o g w x1 a m c 1 p k seq n (D ++ E) o2) := ⟨gb_trans HI.out.1.gb t0, t3, t4 _ _ HB.out.2.1 HI.out.1.gb.size HI.out.1.tol (fun e => (HI.out.1.nd3 (by omega)).1), t7.trans HI.out.1.sz, t8.trans HI.out.1.en, t6.trans HI.out.1.sm, seg_gG HI.out.1.seg t0 HI.out.1.ag, HI.out.1.nz, HI.out.1.mc, HI.out.1.ml, HI.out.1.ag, by have z1 := HI.out.1.seg.1; have z2 := q1.le; rw [List.length_drop] at z1; omega, tab_g HI.out.2.1 HI.out.1.ob t0, HB.out.2.1⟩
          have HTP : Hid (Bk 164 x1 T ptab) := HI.out.2.2.grew t0 (fun e => by have := Option.some.inj e; have := HB.out.2.1; have := HTN.out; omega)
          obtain ⟨t, htt⟩ : ∃ t, t = Cr.sum (ys.take p) := ⟨_, rfl⟩
          obtain ⟨V, hV⟩ : ∃ V, V = Cr.W (Cr.sum (ys.take (p + k))) := ⟨_, rfl⟩
          have hkm : k ≤ m := HT2.out.km
          have HSL : Hid (∀ W, (Instr.slice 27 (.slice a m c) none (some (.int .i64 (k : Int))) none).run Tryd.prog W = .ok (.slice a k c) W) := slice_hI a m c k k rfl (Nat.le_trans hkm HT2.out.mc)
          have hs2 : ∀ W, (Instr.slice 27 (.slice a m c) (some (.int .i64 (k : Int))) none none).run Tryd.prog W = .ok (.slice (cutI a c k) (m - k) (c - k)) W := sliceL a m c k k rfl hkm
          have HK7 : Hid (∀ W, x1.grownBy W none → W.cell? ⟨g, 7, none⟩ = some (.int .u32 (Cr.W t))) := fun W hg => by rw [htt, ← HT2.out.sm]; exact Bk.cell (opb_gb HT2.out.ob hg) 7
          have HF7 : Hid (∀ W, x1.grownBy W none → W.frozen? ⟨g, 7, none⟩ = false) := fun W hg => frozen_of_row W g 7 _ _ (opb_gb HT2.out.ob hg)
          have HMO : Hid (∀ W, x1.grownBy W none → Calls Tryd.prog 76 #[.int .u32 (Cr.W t), .slice a k c] W fun r w' => r = .returned (.int .u32 V) ∧ w' = W) := fun W hg => by
            rw [hV, ← sum_moreI ys p k, htt]
            exact Cr.more_c _ a k c _ W ((seg_takeO HT2.out.seg k hkm).grew hg (by simp)) (bytes_takeO (bytes_drop HB.out.1 p) k) (tab_n HT2.out.tab hg) (by have := HT2.out.ml; omega)
          have HST : Hid (∀ W, x1.grownBy W none → w.grownBy (W.setCell ⟨g, 7, none⟩ (.int .u32 V)) (some g) ∧ OpB (W.setCell ⟨g, 7, none⟩ (.int .u32 V)) g { o2 with sum := V } ∧ Tol w.heap.size (W.setCell ⟨g, 7, none⟩ (.int .u32 V)) { o2 with sum := V } (D ++ E) ∧ Seg .u8 (W.setCell ⟨g, 7, none⟩ (.int .u32 V)) (cutI a c k) (m - k) (ys.drop (p + k)) ∧ Cr.Tab (W.setCell ⟨g, 7, none⟩ (.int .u32 V)) ∧ Bk 164 (W.setCell ⟨g, 7, none⟩ (.int .u32 V)) T ptab) := fun W hg => by
            rw [hV]
            have z := HT2.out.set hg
            exact ⟨z.1, z.2.1, z.2.2.1, z.2.2.2.1, z.2.2.2.2, (HTP.out.grew hg (by simp)).grew (grownBy_cell W g 7 _) (fun e => by have := Option.some.inj e; have := HB.out.2.1; have := HTN.out; omega)⟩
          have HEND : Hid (V = Cr.W (Cr.sum (ys.take (p + k))) ∧ p' = p + k ∧ (cutI a c k = none → c - k = 0) ∧ m - k ≤ c - k ∧ m - k ≤ 70368744177664 ∧ (∀ b o s, cutI a c k = some ⟨b, o, s⟩ → b ≠ g) ∧ o2.size = o.size ∧ o2.ended = o.ended) := ⟨hV, hpk, fun z => by have := HT2.out.nz (cutI_none z); omega, by have := HT2.out.mc; omega, by have := HT2.out.ml; omega, fun b o s hb => by obtain ⟨o3, s3, e⟩ := cutI_blk hb; exact HT2.out.ag b o3 s3 e, HT2.out.sz, HT2.out.en⟩
          have HAPP : Hid ((X ++ D) ++ E = X ++ (D ++ E)) := List.append_assoc _ _ _
          clear htt hV t0 t1 t3 t4 t6 t7 t8 hk
          go_wp2_with fail
          refine wp_region_lastR (fun a b => World.grownBy a b none) (fun _ _ _ h k => gb_trans h k) ⟨rfl, rfl, rfl, Nat.le_refl _, fun _ _ _ => rfl⟩ 11 rfl (by kernel_rfl) [23, 24, 25, 26, 27, 28, 29, 30, 31, 32, 33, 100011] [[], [], [1], [2], [3], [], [], [5, 6], [4, 7], [0], [9], [10, 8]] (by kernel_rfl) (by kernel_rfl) [fun u W => u = .pointer (some ⟨g, 0, none⟩), fun u W => u = .pointer (some ⟨g, 0, none⟩), fun u W => u = .pointer (some ⟨g, 0, none⟩), fun u W => u = .pointer (some ⟨g, 7, none⟩), fun u W => u = .int .u32 (Cr.W t), fun u W => u = .slice a m c, fun u W => u = .int .i64 (k : Int), fun u W => u = .slice a k c, fun u W => u = .int .u32 V, fun u W => u = .pointer (some ⟨g, 0, none⟩), fun u W => u = .pointer (some ⟨g, 7, none⟩)] ?stable ?step ?last
          case stable =>
            intro i v W W' h hg
            match i, h with
            | 0, h => exact h
            | 1, h => exact h
            | 2, h => exact h
            | 3, h => exact h
            | 4, h => exact h
            | 5, h => exact h
            | 6, h => exact h
            | 7, h => exact h
            | 8, h => exact h
            | 9, h => exact h
            | 10, h => exact h
            | i + 11, h => exact trivial
          case step =>
            intro f W A hA hg i o hin ho hu K hK
            match i, hin, ho, hu, hK with
            | 0, hin, ho, hu, hK =>
              cases ho
              have e0 : A.eval (.tmp 0) = .pointer (some ⟨g, 0, none⟩) := ev_out hA 0 rfl
              exact ph_move _ rfl rfl (.pointer (some ⟨g, 0, none⟩)) e0 (hK _ _ (gb_rr W _) rfl)
            | 1, hin, ho, hu, hK =>
              cases ho
              have e0 : A.eval (.tmp 0) = .pointer (some ⟨g, 0, none⟩) := ev_out hA 0 rfl
              exact ph_move _ rfl rfl (.pointer (some ⟨g, 0, none⟩)) e0 (hK _ _ (gb_rr W _) rfl)
            | 2, hin, ho, hu, hK =>
              cases ho
              have e24 : A.eval (.tmp 24) = .pointer (some ⟨g, 0, none⟩) := (ev_in hA 24 1 rfl rfl rfl).trans (show f 1 = .pointer (some ⟨g, 0, none⟩) from hu 1 (by decide))
              exact ph_nil _ rfl rfl _ e24 (hK _ _ (gb_rr W _) rfl)
            | 3, hin, ho, hu, hK =>
              cases ho
              have e25 : A.eval (.tmp 25) = .pointer (some ⟨g, 0, none⟩) := (ev_in hA 25 2 rfl rfl rfl).trans (show f 2 = .pointer (some ⟨g, 0, none⟩) from hu 2 (by decide))
              exact ph_field _ _ _ rfl rfl _ (.pointer (some ⟨g, 7, none⟩)) e25 (by kernel_rfl) (hK _ _ (gb_rr W _) rfl)
            | 4, hin, ho, hu, hK =>
              cases ho
              have e26 : A.eval (.tmp 26) = .pointer (some ⟨g, 7, none⟩) := (ev_in hA 26 3 rfl rfl rfl).trans (show f 3 = .pointer (some ⟨g, 7, none⟩) from hu 3 (by decide))
              have hc : W.cell? ⟨g, 7, none⟩ = some (.int .u32 (Cr.W t)) := HK7.out W hg
              refine ph_sem rfl rfl (r := .ok (.value (.int .u32 (Cr.W t))) W) ?_ (hK _ _ (gb_rr W _) rfl)
              have eC : ∀ c, A.eval (.const c) = c := fun _ => rfl; have eF : ∀ g, A.eval (.func g) = .func (.func g) #[] #[] := fun _ => rfl; generalize A.eval = ρ at *
              clear hA hu hg
              go_simp
            | 5, hin, ho, hu, hK =>
              cases ho
              have e1 : A.eval (.tmp 1) = .slice a m c := ev_out hA 1 rfl
              exact ph_move _ rfl rfl (.slice a m c) e1 (hK _ _ (gb_rr W _) rfl)
            | 6, hin, ho, hu, hK =>
              cases ho
              have e7 : A.eval (.tmp 7) = .int .i64 (k : Int) := ev_out hA 7 rfl
              exact ph_move _ rfl rfl (.int .i64 (k : Int)) e7 (hK _ _ (gb_rr W _) rfl)
            | 7, hin, ho, hu, hK =>
              cases ho
              have e28 : A.eval (.tmp 28) = .slice a m c := (ev_in hA 28 5 rfl rfl rfl).trans (show f 5 = .slice a m c from hu 5 (by decide))
              have e29 : A.eval (.tmp 29) = .int .i64 (k : Int) := (ev_in hA 29 6 rfl rfl rfl).trans (show f 6 = .int .i64 (k : Int) from hu 6 (by decide))
              have hsl := HSL.out W
              refine ph_sem rfl rfl (r := .ok (.value (.slice a k c)) W) ?_ (hK _ _ (gb_rr W _) rfl)
              have eC : ∀ c, A.eval (.const c) = c := fun _ => rfl; have eF : ∀ g, A.eval (.func g) = .func (.func g) #[] #[] := fun _ => rfl; generalize A.eval = ρ at *
              clear hA hu hg hK
              go_simp
            | 8, hin, ho, hu, hK =>
              cases ho
              have e27 : A.eval (.tmp 27) = .int .u32 (Cr.W t) := (ev_in hA 27 4 rfl rfl rfl).trans (show f 4 = .int .u32 (Cr.W t) from hu 4 (by decide))
              have e30 : A.eval (.tmp 30) = .slice a k c := (ev_in hA 30 7 rfl rfl rfl).trans (show f 7 = .slice a k c from hu 7 (by decide))
              refine ph_fn 76 _ _ rfl rfl #[.int .u32 (Cr.W t), .slice a k c] (by simp [e27, e30]) (by kernel_rfl) ?_
              refine (Calls.mono (HMO.out W hg) ?_)
              rintro e W' ⟨rfl, hq⟩
              obtain rfl := hq.symm
              exact ⟨_, rfl, hK _ _ (gb_rr W _) rfl⟩
            | 9, hin, ho, hu, hK =>
              cases ho
              have e23 : A.eval (.tmp 23) = .pointer (some ⟨g, 0, none⟩) := (ev_in hA 23 0 rfl rfl rfl).trans (show f 0 = .pointer (some ⟨g, 0, none⟩) from hu 0 (by decide))
              exact ph_nil _ rfl rfl _ e23 (hK _ _ (gb_rr W _) rfl)
            | 10, hin, ho, hu, hK =>
              cases ho
              have e32 : A.eval (.tmp 32) = .pointer (some ⟨g, 0, none⟩) := (ev_in hA 32 9 rfl rfl rfl).trans (show f 9 = .pointer (some ⟨g, 0, none⟩) from hu 9 (by decide))
              exact ph_field _ _ _ rfl rfl _ (.pointer (some ⟨g, 7, none⟩)) e32 (by kernel_rfl) (hK _ _ (gb_rr W _) rfl)
            | i + 11, hin, ho, hu, hK => omega
          case last =>
            intro f W A hA hg hu o ho K hK
            cases ho
            have e31 : A.eval (.tmp 31) = .int .u32 V := (ev_in hA 31 8 rfl rfl rfl).trans (show f 8 = .int .u32 V from hu 8 (by decide))
            have e33 : A.eval (.tmp 33) = .pointer (some ⟨g, 7, none⟩) := (ev_in hA 33 10 rfl rfl rfl).trans (show f 10 = .pointer (some ⟨g, 7, none⟩) from hu 10 (by decide))
            have hc : W.cell? ⟨g, 7, none⟩ = some (.int .u32 (Cr.W t)) := HK7.out W hg
            have hf : W.frozen? ⟨g, 7, none⟩ = false := HF7.out W hg
            refine ph_sem rfl rfl (r := .ok .skip (W.setCell ⟨g, 7, none⟩ (.int .u32 V))) ?_ (hK _ _ ?_)
            · have eC : ∀ c, A.eval (.const c) = c := fun _ => rfl
              generalize A.eval = ρ at *
              clear hA hu hg hK
              go_simp
            have A4 : Hid _ := HST.out W hg
            clear hg e31 e33 hc hf
            have hA2 := hA.trans (putAll_lit [(.pointer (some ⟨g, 0, none⟩)), (.pointer (some ⟨g, 0, none⟩)), (.pointer (some ⟨g, 0, none⟩)), (.pointer (some ⟨g, 7, none⟩)), (.int .u32 (Cr.W t)), (.slice a m c), (.int .i64 (k : Int)), (.slice a k c), (.int .u32 V), (.pointer (some ⟨g, 0, none⟩)), (.pointer (some ⟨g, 7, none⟩)), (f 11)] (by
              intro j hj
              match j, hj with
              | 0, _ => exact hu 0 (by decide)
              | 1, _ => exact hu 1 (by decide)
              | 2, _ => exact hu 2 (by decide)
              | 3, _ => exact hu 3 (by decide)
              | 4, _ => exact hu 4 (by decide)
              | 5, _ => exact hu 5 (by decide)
              | 6, _ => exact hu 6 (by decide)
              | 7, _ => exact hu 7 (by decide)
              | 8, _ => exact hu 8 (by decide)
              | 9, _ => exact hu 9 (by decide)
              | 10, _ => exact hu 10 (by decide)
              | 11, _ => rfl
              | j + 12, hj => exact absurd hj (by simp)))
            clear hu hA
            subst hA2
            simp only [putAll, putL, List.mem_cons, List.not_mem_nil, List.idxOf_cons, Nat.reduceEqDiff, Nat.reduceBEq, Nat.reduceAdd, or_false, or_true, reduceIte, cond_true, cond_false, List.getD_cons_zero, List.getD_cons_succ, BEq.rfl]
            have c4 : (W.setCell ⟨g, 7, none⟩ (.int .u32 V)).cell? ⟨g, 4, none⟩ = some (.int .i64 1) := by have z := Bk.cell A4.out.2.1 4; rw [z]; exact congrArg (fun v => some (Value.int .i64 v)) t5
            have f4 : (W.setCell ⟨g, 7, none⟩ (.int .u32 V)).frozen? ⟨g, 4, none⟩ = false := frozen_of_row _ g 4 _ _ A4.out.2.1
            generalize W.setCell ⟨g, 7, none⟩ (.int .u32 V) = y1 at A4 c4 f4 ⊢
            go_wp2_with fail
            have A5 : Hid (WG ys X o g w (y1.setCell ⟨g, 4, none⟩ (.int .i64 2)) (cutI a c k) (m - k) (c - k) 2 (p + k) seq' n' (D ++ E) { o2 with sum := V, part := 2 } ∧ Cr.Tab (y1.setCell ⟨g, 4, none⟩ (.int .i64 2)) ∧ Bk 164 (y1.setCell ⟨g, 4, none⟩ (.int .i64 2)) T ptab) := by
              have hc := grownBy_cell y1 g 4 (.int .i64 2)
              refine ⟨⟨gb_trans A4.out.1 hc, Bk.setO A4.out.2.1 4 _, A4.out.2.2.1.grew hc HB.out.2.1 rfl rfl rfl, by rw [← HAPP.out, ← HEND.out.2.1]; exact q1, ⟨rfl, q2, by rw [← HAPP.out]; exact q3, by rw [← HAPP.out]; exact tah, q4, q5, q6⟩, fun _ => by obtain ⟨z1, z2, z3, z4⟩ := t9 (by decide); obtain ⟨y1', y2', y3', y4'⟩ := HI.out.1.nd3 (by omega); exact ⟨by rw [z1, y1']; rfl, z2.trans y2', z3.trans y3', z4.trans y4'⟩, HEND.out.2.2.2.2.2.2.1, HEND.out.2.2.2.2.2.2.2, HEND.out.1, seg_gG A4.out.2.2.2.1 hc HEND.out.2.2.2.2.2.1, HEND.out.2.2.1, HEND.out.2.2.2.1, HEND.out.2.2.2.2.1, HEND.out.2.2.2.2.2.1⟩, tab_g A4.out.2.2.2.2.1 A4.out.2.1 hc, A4.out.2.2.2.2.2.grew hc (fun e => by have := Option.some.inj e; have := HB.out.2.1; have := HTN.out; omega)⟩
            go_roundw
            case rel => exact .inl ⟨_, _, _, _, _, _, _, _, _, rfl, rfl, A5⟩
            case measure => show 7 - pAt _ g < 7 - pAt wr g; rw [pAt_is A5.out.1.ob, HPA.out]; show 7 - (2 : Int).toNat < 7 - 1; decide
        · obtain ⟨k, hk⟩ : ∃ k, k = p' - p := ⟨_, rfl⟩
          rw [← hk]
          have hpk : p' = p + k := by omega
          have HT2 : Hid (WT ys X o g w x1 a m c 1 p k seq n (D ++ E) o2) := ⟨gb_trans HI.out.1.gb t0, t3, t4 _ _ HB.out.2.1 HI.out.1.gb.size HI.out.1.tol (fun e => (HI.out.1.nd3 (by omega)).1), t7.trans HI.out.1.sz, t8.trans HI.out.1.en, t6.trans HI.out.1.sm, seg_gG HI.out.1.seg t0 HI.out.1.ag, HI.out.1.nz, HI.out.1.mc, HI.out.1.ml, HI.out.1.ag, by have z1 := HI.out.1.seg.1; have z2 := q1.le; rw [List.length_drop] at z1; omega, tab_g HI.out.2.1 HI.out.1.ob t0, HB.out.2.1⟩
          have HTP : Hid (Bk 164 x1 T ptab) := HI.out.2.2.grew t0 (fun e => by have := Option.some.inj e; have := HB.out.2.1; have := HTN.out; omega)
          obtain ⟨t, htt⟩ : ∃ t, t = Cr.sum (ys.take p) := ⟨_, rfl⟩
          obtain ⟨V, hV⟩ : ∃ V, V = Cr.W (Cr.sum (ys.take (p + k))) := ⟨_, rfl⟩
          have hkm : k ≤ m := HT2.out.km
          have HSL : Hid (∀ W, (Instr.slice 27 (.slice a m c) none (some (.int .i64 (k : Int))) none).run Tryd.prog W = .ok (.slice a k c) W) := slice_hI a m c k k rfl (Nat.le_trans hkm HT2.out.mc)
          have hs2 : ∀ W, (Instr.slice 27 (.slice a m c) (some (.int .i64 (k : Int))) none none).run Tryd.prog W = .ok (.slice (cutI a c k) (m - k) (c - k)) W := sliceL a m c k k rfl hkm
          have HK7 : Hid (∀ W, x1.grownBy W none → W.cell? ⟨g, 7, none⟩ = some (.int .u32 (Cr.W t))) := fun W hg => by rw [htt, ← HT2.out.sm]; exact Bk.cell (opb_gb HT2.out.ob hg) 7
          have HF7 : Hid (∀ W, x1.grownBy W none → W.frozen? ⟨g, 7, none⟩ = false) := fun W hg => frozen_of_row W g 7 _ _ (opb_gb HT2.out.ob hg)
          have HMO : Hid (∀ W, x1.grownBy W none → Calls Tryd.prog 76 #[.int .u32 (Cr.W t), .slice a k c] W fun r w' => r = .returned (.int .u32 V) ∧ w' = W) := fun W hg => by
            rw [hV, ← sum_moreI ys p k, htt]
            exact Cr.more_c _ a k c _ W ((seg_takeO HT2.out.seg k hkm).grew hg (by simp)) (bytes_takeO (bytes_drop HB.out.1 p) k) (tab_n HT2.out.tab hg) (by have := HT2.out.ml; omega)
          have HST : Hid (∀ W, x1.grownBy W none → w.grownBy (W.setCell ⟨g, 7, none⟩ (.int .u32 V)) (some g) ∧ OpB (W.setCell ⟨g, 7, none⟩ (.int .u32 V)) g { o2 with sum := V } ∧ Tol w.heap.size (W.setCell ⟨g, 7, none⟩ (.int .u32 V)) { o2 with sum := V } (D ++ E) ∧ Seg .u8 (W.setCell ⟨g, 7, none⟩ (.int .u32 V)) (cutI a c k) (m - k) (ys.drop (p + k)) ∧ Cr.Tab (W.setCell ⟨g, 7, none⟩ (.int .u32 V)) ∧ Bk 164 (W.setCell ⟨g, 7, none⟩ (.int .u32 V)) T ptab) := fun W hg => by
            rw [hV]
            have z := HT2.out.set hg
            exact ⟨z.1, z.2.1, z.2.2.1, z.2.2.2.1, z.2.2.2.2, (HTP.out.grew hg (by simp)).grew (grownBy_cell W g 7 _) (fun e => by have := Option.some.inj e; have := HB.out.2.1; have := HTN.out; omega)⟩
          have HEND : Hid (V = Cr.W (Cr.sum (ys.take (p + k))) ∧ p' = p + k ∧ (cutI a c k = none → c - k = 0) ∧ m - k ≤ c - k ∧ m - k ≤ 70368744177664 ∧ (∀ b o s, cutI a c k = some ⟨b, o, s⟩ → b ≠ g) ∧ o2.size = o.size ∧ o2.ended = o.ended) := ⟨hV, hpk, fun z => by have := HT2.out.nz (cutI_none z); omega, by have := HT2.out.mc; omega, by have := HT2.out.ml; omega, fun b o s hb => by obtain ⟨o3, s3, e⟩ := cutI_blk hb; exact HT2.out.ag b o3 s3 e, HT2.out.sz, HT2.out.en⟩
          have HAPP : Hid ((X ++ D) ++ E = X ++ (D ++ E)) := List.append_assoc _ _ _
          clear htt hV t0 t1 t3 t4 t6 t7 t8 hk
          go_wp2_with fail
          refine wp_region_lastR (fun a b => World.grownBy a b none) (fun _ _ _ h k => gb_trans h k) ⟨rfl, rfl, rfl, Nat.le_refl _, fun _ _ _ => rfl⟩ 11 rfl (by kernel_rfl) [23, 24, 25, 26, 27, 28, 29, 30, 31, 32, 33, 100011] [[], [], [1], [2], [3], [], [], [5, 6], [4, 7], [0], [9], [10, 8]] (by kernel_rfl) (by kernel_rfl) [fun u W => u = .pointer (some ⟨g, 0, none⟩), fun u W => u = .pointer (some ⟨g, 0, none⟩), fun u W => u = .pointer (some ⟨g, 0, none⟩), fun u W => u = .pointer (some ⟨g, 7, none⟩), fun u W => u = .int .u32 (Cr.W t), fun u W => u = .slice a m c, fun u W => u = .int .i64 (k : Int), fun u W => u = .slice a k c, fun u W => u = .int .u32 V, fun u W => u = .pointer (some ⟨g, 0, none⟩), fun u W => u = .pointer (some ⟨g, 7, none⟩)] ?stable ?step ?last
          case stable =>
            intro i v W W' h hg
            match i, h with
            | 0, h => exact h
            | 1, h => exact h
            | 2, h => exact h
            | 3, h => exact h
            | 4, h => exact h
            | 5, h => exact h
            | 6, h => exact h
            | 7, h => exact h
            | 8, h => exact h
            | 9, h => exact h
            | 10, h => exact h
            | i + 11, h => exact trivial
          case step =>
            intro f W A hA hg i o hin ho hu K hK
            match i, hin, ho, hu, hK with
            | 0, hin, ho, hu, hK =>
              cases ho
              have e0 : A.eval (.tmp 0) = .pointer (some ⟨g, 0, none⟩) := ev_out hA 0 rfl
              exact ph_move _ rfl rfl (.pointer (some ⟨g, 0, none⟩)) e0 (hK _ _ (gb_rr W _) rfl)
            | 1, hin, ho, hu, hK =>
              cases ho
              have e0 : A.eval (.tmp 0) = .pointer (some ⟨g, 0, none⟩) := ev_out hA 0 rfl
              exact ph_move _ rfl rfl (.pointer (some ⟨g, 0, none⟩)) e0 (hK _ _ (gb_rr W _) rfl)
            | 2, hin, ho, hu, hK =>
              cases ho
              have e24 : A.eval (.tmp 24) = .pointer (some ⟨g, 0, none⟩) := (ev_in hA 24 1 rfl rfl rfl).trans (show f 1 = .pointer (some ⟨g, 0, none⟩) from hu 1 (by decide))
              exact ph_nil _ rfl rfl _ e24 (hK _ _ (gb_rr W _) rfl)
            | 3, hin, ho, hu, hK =>
              cases ho
              have e25 : A.eval (.tmp 25) = .pointer (some ⟨g, 0, none⟩) := (ev_in hA 25 2 rfl rfl rfl).trans (show f 2 = .pointer (some ⟨g, 0, none⟩) from hu 2 (by decide))
              exact ph_field _ _ _ rfl rfl _ (.pointer (some ⟨g, 7, none⟩)) e25 (by kernel_rfl) (hK _ _ (gb_rr W _) rfl)
            | 4, hin, ho, hu, hK =>
              cases ho
              have e26 : A.eval (.tmp 26) = .pointer (some ⟨g, 7, none⟩) := (ev_in hA 26 3 rfl rfl rfl).trans (show f 3 = .pointer (some ⟨g, 7, none⟩) from hu 3 (by decide))
              have hc : W.cell? ⟨g, 7, none⟩ = some (.int .u32 (Cr.W t)) := HK7.out W hg
              refine ph_sem rfl rfl (r := .ok (.value (.int .u32 (Cr.W t))) W) ?_ (hK _ _ (gb_rr W _) rfl)
              have eC : ∀ c, A.eval (.const c) = c := fun _ => rfl; have eF : ∀ g, A.eval (.func g) = .func (.func g) #[] #[] := fun _ => rfl; generalize A.eval = ρ at *
              clear hA hu hg
              go_simp
            | 5, hin, ho, hu, hK =>
              cases ho
              have e1 : A.eval (.tmp 1) = .slice a m c := ev_out hA 1 rfl
              exact ph_move _ rfl rfl (.slice a m c) e1 (hK _ _ (gb_rr W _) rfl)
            | 6, hin, ho, hu, hK =>
              cases ho
              have e7 : A.eval (.tmp 7) = .int .i64 (k : Int) := ev_out hA 7 rfl
              exact ph_move _ rfl rfl (.int .i64 (k : Int)) e7 (hK _ _ (gb_rr W _) rfl)
            | 7, hin, ho, hu, hK =>
              cases ho
              have e28 : A.eval (.tmp 28) = .slice a m c := (ev_in hA 28 5 rfl rfl rfl).trans (show f 5 = .slice a m c from hu 5 (by decide))
              have e29 : A.eval (.tmp 29) = .int .i64 (k : Int) := (ev_in hA 29 6 rfl rfl rfl).trans (show f 6 = .int .i64 (k : Int) from hu 6 (by decide))
              have hsl := HSL.out W
              refine ph_sem rfl rfl (r := .ok (.value (.slice a k c)) W) ?_ (hK _ _ (gb_rr W _) rfl)
              have eC : ∀ c, A.eval (.const c) = c := fun _ => rfl; have eF : ∀ g, A.eval (.func g) = .func (.func g) #[] #[] := fun _ => rfl; generalize A.eval = ρ at *
              clear hA hu hg hK
              go_simp
            | 8, hin, ho, hu, hK =>
              cases ho
              have e27 : A.eval (.tmp 27) = .int .u32 (Cr.W t) := (ev_in hA 27 4 rfl rfl rfl).trans (show f 4 = .int .u32 (Cr.W t) from hu 4 (by decide))
              have e30 : A.eval (.tmp 30) = .slice a k c := (ev_in hA 30 7 rfl rfl rfl).trans (show f 7 = .slice a k c from hu 7 (by decide))
              refine ph_fn 76 _ _ rfl rfl #[.int .u32 (Cr.W t), .slice a k c] (by simp [e27, e30]) (by kernel_rfl) ?_
              refine (Calls.mono (HMO.out W hg) ?_)
              rintro e W' ⟨rfl, hq⟩
              obtain rfl := hq.symm
              exact ⟨_, rfl, hK _ _ (gb_rr W _) rfl⟩
            | 9, hin, ho, hu, hK =>
              cases ho
              have e23 : A.eval (.tmp 23) = .pointer (some ⟨g, 0, none⟩) := (ev_in hA 23 0 rfl rfl rfl).trans (show f 0 = .pointer (some ⟨g, 0, none⟩) from hu 0 (by decide))
              exact ph_nil _ rfl rfl _ e23 (hK _ _ (gb_rr W _) rfl)
            | 10, hin, ho, hu, hK =>
              cases ho
              have e32 : A.eval (.tmp 32) = .pointer (some ⟨g, 0, none⟩) := (ev_in hA 32 9 rfl rfl rfl).trans (show f 9 = .pointer (some ⟨g, 0, none⟩) from hu 9 (by decide))
              exact ph_field _ _ _ rfl rfl _ (.pointer (some ⟨g, 7, none⟩)) e32 (by kernel_rfl) (hK _ _ (gb_rr W _) rfl)
            | i + 11, hin, ho, hu, hK => omega
          case last =>
            intro f W A hA hg hu o ho K hK
            cases ho
            have e31 : A.eval (.tmp 31) = .int .u32 V := (ev_in hA 31 8 rfl rfl rfl).trans (show f 8 = .int .u32 V from hu 8 (by decide))
            have e33 : A.eval (.tmp 33) = .pointer (some ⟨g, 7, none⟩) := (ev_in hA 33 10 rfl rfl rfl).trans (show f 10 = .pointer (some ⟨g, 7, none⟩) from hu 10 (by decide))
            have hc : W.cell? ⟨g, 7, none⟩ = some (.int .u32 (Cr.W t)) := HK7.out W hg
            have hf : W.frozen? ⟨g, 7, none⟩ = false := HF7.out W hg
            refine ph_sem rfl rfl (r := .ok .skip (W.setCell ⟨g, 7, none⟩ (.int .u32 V))) ?_ (hK _ _ ?_)
            · have eC : ∀ c, A.eval (.const c) = c := fun _ => rfl
              generalize A.eval = ρ at *
              clear hA hu hg hK
              go_simp
            have A4 : Hid _ := HST.out W hg
            clear hg e31 e33 hc hf
            have hA2 := hA.trans (putAll_lit [(.pointer (some ⟨g, 0, none⟩)), (.pointer (some ⟨g, 0, none⟩)), (.pointer (some ⟨g, 0, none⟩)), (.pointer (some ⟨g, 7, none⟩)), (.int .u32 (Cr.W t)), (.slice a m c), (.int .i64 (k : Int)), (.slice a k c), (.int .u32 V), (.pointer (some ⟨g, 0, none⟩)), (.pointer (some ⟨g, 7, none⟩)), (f 11)] (by
              intro j hj
              match j, hj with
              | 0, _ => exact hu 0 (by decide)
              | 1, _ => exact hu 1 (by decide)
              | 2, _ => exact hu 2 (by decide)
              | 3, _ => exact hu 3 (by decide)
              | 4, _ => exact hu 4 (by decide)
              | 5, _ => exact hu 5 (by decide)
              | 6, _ => exact hu 6 (by decide)
              | 7, _ => exact hu 7 (by decide)
              | 8, _ => exact hu 8 (by decide)
              | 9, _ => exact hu 9 (by decide)
              | 10, _ => exact hu 10 (by decide)
              | 11, _ => rfl
              | j + 12, hj => exact absurd hj (by simp)))
            clear hu hA
            subst hA2
            simp only [putAll, putL, List.mem_cons, List.not_mem_nil, List.idxOf_cons, Nat.reduceEqDiff, Nat.reduceBEq, Nat.reduceAdd, or_false, or_true, reduceIte, cond_true, cond_false, List.getD_cons_zero, List.getD_cons_succ, BEq.rfl]
            generalize W.setCell ⟨g, 7, none⟩ (.int .u32 V) = y1 at A4 ⊢
            go_wp2_with fail
            have A5 : Hid (WalkA ys X o g w (.returned (.slice (cutI a c k) (m - k) (c - k))) y1) := ⟨A4.out.1, 1, p + k, seq, n, D ++ E, { o2 with sum := V }, A4.out.2.1, A4.out.2.2.1, by rw [← HAPP.out, ← HEND.out.2.1]; exact q1, HEND.out.2.2.2.2.2.2.1, HEND.out.2.2.2.2.2.2.2, .inl ⟨_, _, _, rfl, A4.out.2.2.2.1, HEND.out.2.2.1, HEND.out.2.2.2.1, HEND.out.2.2.2.2.2.1, by rw [← HAPP.out, ← HEND.out.2.1]; exact q2, t5, q3, by rw [← HAPP.out]; exact q4, by rw [← HAPP.out]; exact tah, q5, q6, by rw [← HEND.out.2.1]; exact q7, HEND.out.1⟩⟩
            go_roundw
            case rel => exact .inr ⟨_, _, _, rfl, rfl, A5⟩
            case measure => show 0 < 7 - pAt wr g; rw [HPA.out]; decide
        · exact ⟨rfl, gb_trans HI.out.1.gb t0, 1, p', seq, n, D ++ E, o2, t3, t4 _ _ HB.out.2.1 HI.out.1.gb.size HI.out.1.tol (fun e => (HI.out.1.nd3 (by omega)).1), by rw [← List.append_assoc]; exact q1, t7.trans HI.out.1.sz, t8.trans HI.out.1.en, .inr ⟨e, rfl, by rw [← List.append_assoc]; exact q2, q3, q4⟩⟩
      · have HTK : Hid (Calls Tryd.prog 124 #[.pointer (some ⟨g, 0, none⟩), .slice a m c] wr fun r w' => TakeA ys 2 p seq n (X ++ D) o' g wr r w') := by
          have z := HI.out.1
          exact tk2 g o' a m c ys p seq n (X ++ D) wr z.ob z.ow z.pre z.seg HB.out.1 z.nz z.mc
        have k4 : wr.cell? ⟨g, 4, none⟩ = some (.int .i64 2) := k4'
        have kt : wr.cell? ⟨T, 2, none⟩ = some (.func (.func 124) #[] #[]) := Bk.cell HI.out.2.2 2
        clear k4'
        go_wp2_with fail
        refine (Calls.mono HTK.out ?_)
        clear HTK k4 kt
        rintro r x1 ⟨t0, E, o2, p', t1, t3, t4, t5, tah, t6, t7, t8, t9, (⟨seq', n', rfl, q1, q2, q3, q4, q5, q6, q7⟩ | ⟨rfl, q1, q2, q3, q4, q5, q6, q7⟩ | ⟨e, rfl, q1, q2, q3, q4⟩)⟩
        · obtain ⟨k, hk⟩ : ∃ k, k = p' - p := ⟨_, rfl⟩
          rw [← hk]
          have hpk : p' = p + k := by omega
          have HT2 : Hid (WT ys X o g w x1 a m c 2 p k seq n (D ++ E) o2) := ⟨gb_trans HI.out.1.gb t0, t3, t4 _ _ HB.out.2.1 HI.out.1.gb.size HI.out.1.tol (fun e => (HI.out.1.nd3 (by omega)).1), t7.trans HI.out.1.sz, t8.trans HI.out.1.en, t6.trans HI.out.1.sm, seg_gG HI.out.1.seg t0 HI.out.1.ag, HI.out.1.nz, HI.out.1.mc, HI.out.1.ml, HI.out.1.ag, by have z1 := HI.out.1.seg.1; have z2 := q1.le; rw [List.length_drop] at z1; omega, tab_g HI.out.2.1 HI.out.1.ob t0, HB.out.2.1⟩
          have HTP : Hid (Bk 164 x1 T ptab) := HI.out.2.2.grew t0 (fun e => by have := Option.some.inj e; have := HB.out.2.1; have := HTN.out; omega)
          obtain ⟨t, htt⟩ : ∃ t, t = Cr.sum (ys.take p) := ⟨_, rfl⟩
          obtain ⟨V, hV⟩ : ∃ V, V = Cr.W (Cr.sum (ys.take (p + k))) := ⟨_, rfl⟩
          have hkm : k ≤ m := HT2.out.km
          have HSL : Hid (∀ W, (Instr.slice 27 (.slice a m c) none (some (.int .i64 (k : Int))) none).run Tryd.prog W = .ok (.slice a k c) W) := slice_hI a m c k k rfl (Nat.le_trans hkm HT2.out.mc)
          have hs2 : ∀ W, (Instr.slice 27 (.slice a m c) (some (.int .i64 (k : Int))) none none).run Tryd.prog W = .ok (.slice (cutI a c k) (m - k) (c - k)) W := sliceL a m c k k rfl hkm
          have HK7 : Hid (∀ W, x1.grownBy W none → W.cell? ⟨g, 7, none⟩ = some (.int .u32 (Cr.W t))) := fun W hg => by rw [htt, ← HT2.out.sm]; exact Bk.cell (opb_gb HT2.out.ob hg) 7
          have HF7 : Hid (∀ W, x1.grownBy W none → W.frozen? ⟨g, 7, none⟩ = false) := fun W hg => frozen_of_row W g 7 _ _ (opb_gb HT2.out.ob hg)
          have HMO : Hid (∀ W, x1.grownBy W none → Calls Tryd.prog 76 #[.int .u32 (Cr.W t), .slice a k c] W fun r w' => r = .returned (.int .u32 V) ∧ w' = W) := fun W hg => by
            rw [hV, ← sum_moreI ys p k, htt]
            exact Cr.more_c _ a k c _ W ((seg_takeO HT2.out.seg k hkm).grew hg (by simp)) (bytes_takeO (bytes_drop HB.out.1 p) k) (tab_n HT2.out.tab hg) (by have := HT2.out.ml; omega)
          have HST : Hid (∀ W, x1.grownBy W none → w.grownBy (W.setCell ⟨g, 7, none⟩ (.int .u32 V)) (some g) ∧ OpB (W.setCell ⟨g, 7, none⟩ (.int .u32 V)) g { o2 with sum := V } ∧ Tol w.heap.size (W.setCell ⟨g, 7, none⟩ (.int .u32 V)) { o2 with sum := V } (D ++ E) ∧ Seg .u8 (W.setCell ⟨g, 7, none⟩ (.int .u32 V)) (cutI a c k) (m - k) (ys.drop (p + k)) ∧ Cr.Tab (W.setCell ⟨g, 7, none⟩ (.int .u32 V)) ∧ Bk 164 (W.setCell ⟨g, 7, none⟩ (.int .u32 V)) T ptab) := fun W hg => by
            rw [hV]
            have z := HT2.out.set hg
            exact ⟨z.1, z.2.1, z.2.2.1, z.2.2.2.1, z.2.2.2.2, (HTP.out.grew hg (by simp)).grew (grownBy_cell W g 7 _) (fun e => by have := Option.some.inj e; have := HB.out.2.1; have := HTN.out; omega)⟩
          have HEND : Hid (V = Cr.W (Cr.sum (ys.take (p + k))) ∧ p' = p + k ∧ (cutI a c k = none → c - k = 0) ∧ m - k ≤ c - k ∧ m - k ≤ 70368744177664 ∧ (∀ b o s, cutI a c k = some ⟨b, o, s⟩ → b ≠ g) ∧ o2.size = o.size ∧ o2.ended = o.ended) := ⟨hV, hpk, fun z => by have := HT2.out.nz (cutI_none z); omega, by have := HT2.out.mc; omega, by have := HT2.out.ml; omega, fun b o s hb => by obtain ⟨o3, s3, e⟩ := cutI_blk hb; exact HT2.out.ag b o3 s3 e, HT2.out.sz, HT2.out.en⟩
          have HAPP : Hid ((X ++ D) ++ E = X ++ (D ++ E)) := List.append_assoc _ _ _
          clear htt hV t0 t1 t3 t4 t6 t7 t8 hk
          go_wp2_with fail
          refine wp_region_lastR (fun a b => World.grownBy a b none) (fun _ _ _ h k => gb_trans h k) ⟨rfl, rfl, rfl, Nat.le_refl _, fun _ _ _ => rfl⟩ 11 rfl (by kernel_rfl) [23, 24, 25, 26, 27, 28, 29, 30, 31, 32, 33, 100011] [[], [], [1], [2], [3], [], [], [5, 6], [4, 7], [0], [9], [10, 8]] (by kernel_rfl) (by kernel_rfl) [fun u W => u = .pointer (some ⟨g, 0, none⟩), fun u W => u = .pointer (some ⟨g, 0, none⟩), fun u W => u = .pointer (some ⟨g, 0, none⟩), fun u W => u = .pointer (some ⟨g, 7, none⟩), fun u W => u = .int .u32 (Cr.W t), fun u W => u = .slice a m c, fun u W => u = .int .i64 (k : Int), fun u W => u = .slice a k c, fun u W => u = .int .u32 V, fun u W => u = .pointer (some ⟨g, 0, none⟩), fun u W => u = .pointer (some ⟨g, 7, none⟩)] ?stable ?step ?last
          case stable =>
            intro i v W W' h hg
            match i, h with
            | 0, h => exact h
            | 1, h => exact h
            | 2, h => exact h
            | 3, h => exact h
            | 4, h => exact h
            | 5, h => exact h
            | 6, h => exact h
            | 7, h => exact h
            | 8, h => exact h
            | 9, h => exact h
            | 10, h => exact h
            | i + 11, h => exact trivial
          case step =>
            intro f W A hA hg i o hin ho hu K hK
            match i, hin, ho, hu, hK with
            | 0, hin, ho, hu, hK =>
              cases ho
              have e0 : A.eval (.tmp 0) = .pointer (some ⟨g, 0, none⟩) := ev_out hA 0 rfl
              exact ph_move _ rfl rfl (.pointer (some ⟨g, 0, none⟩)) e0 (hK _ _ (gb_rr W _) rfl)
            | 1, hin, ho, hu, hK =>
              cases ho
              have e0 : A.eval (.tmp 0) = .pointer (some ⟨g, 0, none⟩) := ev_out hA 0 rfl
              exact ph_move _ rfl rfl (.pointer (some ⟨g, 0, none⟩)) e0 (hK _ _ (gb_rr W _) rfl)
            | 2, hin, ho, hu, hK =>
              cases ho
              have e24 : A.eval (.tmp 24) = .pointer (some ⟨g, 0, none⟩) := (ev_in hA 24 1 rfl rfl rfl).trans (show f 1 = .pointer (some ⟨g, 0, none⟩) from hu 1 (by decide))
              exact ph_nil _ rfl rfl _ e24 (hK _ _ (gb_rr W _) rfl)
            | 3, hin, ho, hu, hK =>
              cases ho
              have e25 : A.eval (.tmp 25) = .pointer (some ⟨g, 0, none⟩) := (ev_in hA 25 2 rfl rfl rfl).trans (show f 2 = .pointer (some ⟨g, 0, none⟩) from hu 2 (by decide))
              exact ph_field _ _ _ rfl rfl _ (.pointer (some ⟨g, 7, none⟩)) e25 (by kernel_rfl) (hK _ _ (gb_rr W _) rfl)
            | 4, hin, ho, hu, hK =>
              cases ho
              have e26 : A.eval (.tmp 26) = .pointer (some ⟨g, 7, none⟩) := (ev_in hA 26 3 rfl rfl rfl).trans (show f 3 = .pointer (some ⟨g, 7, none⟩) from hu 3 (by decide))
              have hc : W.cell? ⟨g, 7, none⟩ = some (.int .u32 (Cr.W t)) := HK7.out W hg
              refine ph_sem rfl rfl (r := .ok (.value (.int .u32 (Cr.W t))) W) ?_ (hK _ _ (gb_rr W _) rfl)
              have eC : ∀ c, A.eval (.const c) = c := fun _ => rfl; have eF : ∀ g, A.eval (.func g) = .func (.func g) #[] #[] := fun _ => rfl; generalize A.eval = ρ at *
              clear hA hu hg
              go_simp
            | 5, hin, ho, hu, hK =>
              cases ho
              have e1 : A.eval (.tmp 1) = .slice a m c := ev_out hA 1 rfl
              exact ph_move _ rfl rfl (.slice a m c) e1 (hK _ _ (gb_rr W _) rfl)
            | 6, hin, ho, hu, hK =>
              cases ho
              have e7 : A.eval (.tmp 7) = .int .i64 (k : Int) := ev_out hA 7 rfl
              exact ph_move _ rfl rfl (.int .i64 (k : Int)) e7 (hK _ _ (gb_rr W _) rfl)
            | 7, hin, ho, hu, hK =>
              cases ho
              have e28 : A.eval (.tmp 28) = .slice a m c := (ev_in hA 28 5 rfl rfl rfl).trans (show f 5 = .slice a m c from hu 5 (by decide))
              have e29 : A.eval (.tmp 29) = .int .i64 (k : Int) := (ev_in hA 29 6 rfl rfl rfl).trans (show f 6 = .int .i64 (k : Int) from hu 6 (by decide))
              have hsl := HSL.out W
              refine ph_sem rfl rfl (r := .ok (.value (.slice a k c)) W) ?_ (hK _ _ (gb_rr W _) rfl)
              have eC : ∀ c, A.eval (.const c) = c := fun _ => rfl; have eF : ∀ g, A.eval (.func g) = .func (.func g) #[] #[] := fun _ => rfl; generalize A.eval = ρ at *
              clear hA hu hg hK
              go_simp
            | 8, hin, ho, hu, hK =>
              cases ho
              have e27 : A.eval (.tmp 27) = .int .u32 (Cr.W t) := (ev_in hA 27 4 rfl rfl rfl).trans (show f 4 = .int .u32 (Cr.W t) from hu 4 (by decide))
              have e30 : A.eval (.tmp 30) = .slice a k c := (ev_in hA 30 7 rfl rfl rfl).trans (show f 7 = .slice a k c from hu 7 (by decide))
              refine ph_fn 76 _ _ rfl rfl #[.int .u32 (Cr.W t), .slice a k c] (by simp [e27, e30]) (by kernel_rfl) ?_
              refine (Calls.mono (HMO.out W hg) ?_)
              rintro e W' ⟨rfl, hq⟩
              obtain rfl := hq.symm
              exact ⟨_, rfl, hK _ _ (gb_rr W _) rfl⟩
            | 9, hin, ho, hu, hK =>
              cases ho
              have e23 : A.eval (.tmp 23) = .pointer (some ⟨g, 0, none⟩) := (ev_in hA 23 0 rfl rfl rfl).trans (show f 0 = .pointer (some ⟨g, 0, none⟩) from hu 0 (by decide))
              exact ph_nil _ rfl rfl _ e23 (hK _ _ (gb_rr W _) rfl)
            | 10, hin, ho, hu, hK =>
              cases ho
              have e32 : A.eval (.tmp 32) = .pointer (some ⟨g, 0, none⟩) := (ev_in hA 32 9 rfl rfl rfl).trans (show f 9 = .pointer (some ⟨g, 0, none⟩) from hu 9 (by decide))
              exact ph_field _ _ _ rfl rfl _ (.pointer (some ⟨g, 7, none⟩)) e32 (by kernel_rfl) (hK _ _ (gb_rr W _) rfl)
            | i + 11, hin, ho, hu, hK => omega
          case last =>
            intro f W A hA hg hu o ho K hK
            cases ho
            have e31 : A.eval (.tmp 31) = .int .u32 V := (ev_in hA 31 8 rfl rfl rfl).trans (show f 8 = .int .u32 V from hu 8 (by decide))
            have e33 : A.eval (.tmp 33) = .pointer (some ⟨g, 7, none⟩) := (ev_in hA 33 10 rfl rfl rfl).trans (show f 10 = .pointer (some ⟨g, 7, none⟩) from hu 10 (by decide))
            have hc : W.cell? ⟨g, 7, none⟩ = some (.int .u32 (Cr.W t)) := HK7.out W hg
            have hf : W.frozen? ⟨g, 7, none⟩ = false := HF7.out W hg
            refine ph_sem rfl rfl (r := .ok .skip (W.setCell ⟨g, 7, none⟩ (.int .u32 V))) ?_ (hK _ _ ?_)
            · have eC : ∀ c, A.eval (.const c) = c := fun _ => rfl
              generalize A.eval = ρ at *
              clear hA hu hg hK
              go_simp
            have A4 : Hid _ := HST.out W hg
            clear hg e31 e33 hc hf
            have hA2 := hA.trans (putAll_lit [(.pointer (some ⟨g, 0, none⟩)), (.pointer (some ⟨g, 0, none⟩)), (.pointer (some ⟨g, 0, none⟩)), (.pointer (some ⟨g, 7, none⟩)), (.int .u32 (Cr.W t)), (.slice a m c), (.int .i64 (k : Int)), (.slice a k c), (.int .u32 V), (.pointer (some ⟨g, 0, none⟩)), (.pointer (some ⟨g, 7, none⟩)), (f 11)] (by
              intro j hj
              match j, hj with
              | 0, _ => exact hu 0 (by decide)
              | 1, _ => exact hu 1 (by decide)
              | 2, _ => exact hu 2 (by decide)
              | 3, _ => exact hu 3 (by decide)
              | 4, _ => exact hu 4 (by decide)
              | 5, _ => exact hu 5 (by decide)
              | 6, _ => exact hu 6 (by decide)
              | 7, _ => exact hu 7 (by decide)
              | 8, _ => exact hu 8 (by decide)
              | 9, _ => exact hu 9 (by decide)
              | 10, _ => exact hu 10 (by decide)
              | 11, _ => rfl
              | j + 12, hj => exact absurd hj (by simp)))
            clear hu hA
            subst hA2
            simp only [putAll, putL, List.mem_cons, List.not_mem_nil, List.idxOf_cons, Nat.reduceEqDiff, Nat.reduceBEq, Nat.reduceAdd, or_false, or_true, reduceIte, cond_true, cond_false, List.getD_cons_zero, List.getD_cons_succ, BEq.rfl]
            have c4 : (W.setCell ⟨g, 7, none⟩ (.int .u32 V)).cell? ⟨g, 4, none⟩ = some (.int .i64 2) := by have z := Bk.cell A4.out.2.1 4; rw [z]; exact congrArg (fun v => some (Value.int .i64 v)) t5
            have f4 : (W.setCell ⟨g, 7, none⟩ (.int .u32 V)).frozen? ⟨g, 4, none⟩ = false := frozen_of_row _ g 4 _ _ A4.out.2.1
            generalize W.setCell ⟨g, 7, none⟩ (.int .u32 V) = y1 at A4 c4 f4 ⊢
            go_wp2_with fail
            have A5 : Hid (WG ys X o g w (y1.setCell ⟨g, 4, none⟩ (.int .i64 3)) (cutI a c k) (m - k) (c - k) 3 (p + k) seq' n' (D ++ E) { o2 with sum := V, part := 3 } ∧ Cr.Tab (y1.setCell ⟨g, 4, none⟩ (.int .i64 3)) ∧ Bk 164 (y1.setCell ⟨g, 4, none⟩ (.int .i64 3)) T ptab) := by
              have hc := grownBy_cell y1 g 4 (.int .i64 3)
              refine ⟨⟨gb_trans A4.out.1 hc, Bk.setO A4.out.2.1 4 _, A4.out.2.2.1.grew hc HB.out.2.1 rfl rfl rfl, by rw [← HAPP.out, ← HEND.out.2.1]; exact q1, ⟨rfl, q2, by rw [← HAPP.out]; exact q3, by rw [← HAPP.out]; exact tah, q4, q5, q6⟩, fun _ => by obtain ⟨z1, z2, z3, z4⟩ := t9 (by decide); obtain ⟨y1', y2', y3', y4'⟩ := HI.out.1.nd3 (by omega); exact ⟨by rw [z1, y1']; rfl, z2.trans y2', z3.trans y3', z4.trans y4'⟩, HEND.out.2.2.2.2.2.2.1, HEND.out.2.2.2.2.2.2.2, HEND.out.1, seg_gG A4.out.2.2.2.1 hc HEND.out.2.2.2.2.2.1, HEND.out.2.2.1, HEND.out.2.2.2.1, HEND.out.2.2.2.2.1, HEND.out.2.2.2.2.2.1⟩, tab_g A4.out.2.2.2.2.1 A4.out.2.1 hc, A4.out.2.2.2.2.2.grew hc (fun e => by have := Option.some.inj e; have := HB.out.2.1; have := HTN.out; omega)⟩
            go_roundw
            case rel => exact .inl ⟨_, _, _, _, _, _, _, _, _, rfl, rfl, A5⟩
            case measure => show 7 - pAt _ g < 7 - pAt wr g; rw [pAt_is A5.out.1.ob, HPA.out]; show 7 - (3 : Int).toNat < 7 - 2; decide
        · obtain ⟨k, hk⟩ : ∃ k, k = p' - p := ⟨_, rfl⟩
          rw [← hk]
          have hpk : p' = p + k := by omega
          have HT2 : Hid (WT ys X o g w x1 a m c 2 p k seq n (D ++ E) o2) := ⟨gb_trans HI.out.1.gb t0, t3, t4 _ _ HB.out.2.1 HI.out.1.gb.size HI.out.1.tol (fun e => (HI.out.1.nd3 (by omega)).1), t7.trans HI.out.1.sz, t8.trans HI.out.1.en, t6.trans HI.out.1.sm, seg_gG HI.out.1.seg t0 HI.out.1.ag, HI.out.1.nz, HI.out.1.mc, HI.out.1.ml, HI.out.1.ag, by have z1 := HI.out.1.seg.1; have z2 := q1.le; rw [List.length_drop] at z1; omega, tab_g HI.out.2.1 HI.out.1.ob t0, HB.out.2.1⟩
          have HTP : Hid (Bk 164 x1 T ptab) := HI.out.2.2.grew t0 (fun e => by have := Option.some.inj e; have := HB.out.2.1; have := HTN.out; omega)
          obtain ⟨t, htt⟩ : ∃ t, t = Cr.sum (ys.take p) := ⟨_, rfl⟩
          obtain ⟨V, hV⟩ : ∃ V, V = Cr.W (Cr.sum (ys.take (p + k))) := ⟨_, rfl⟩
          have hkm : k ≤ m := HT2.out.km
          have HSL : Hid (∀ W, (Instr.slice 27 (.slice a m c) none (some (.int .i64 (k : Int))) none).run Tryd.prog W = .ok (.slice a k c) W) := slice_hI a m c k k rfl (Nat.le_trans hkm HT2.out.mc)
          have hs2 : ∀ W, (Instr.slice 27 (.slice a m c) (some (.int .i64 (k : Int))) none none).run Tryd.prog W = .ok (.slice (cutI a c k) (m - k) (c - k)) W := sliceL a m c k k rfl hkm
          have HK7 : Hid (∀ W, x1.grownBy W none → W.cell? ⟨g, 7, none⟩ = some (.int .u32 (Cr.W t))) := fun W hg => by rw [htt, ← HT2.out.sm]; exact Bk.cell (opb_gb HT2.out.ob hg) 7
          have HF7 : Hid (∀ W, x1.grownBy W none → W.frozen? ⟨g, 7, none⟩ = false) := fun W hg => frozen_of_row W g 7 _ _ (opb_gb HT2.out.ob hg)
          have HMO : Hid (∀ W, x1.grownBy W none → Calls Tryd.prog 76 #[.int .u32 (Cr.W t), .slice a k c] W fun r w' => r = .returned (.int .u32 V) ∧ w' = W) := fun W hg => by
            rw [hV, ← sum_moreI ys p k, htt]
            exact Cr.more_c _ a k c _ W ((seg_takeO HT2.out.seg k hkm).grew hg (by simp)) (bytes_takeO (bytes_drop HB.out.1 p) k) (tab_n HT2.out.tab hg) (by have := HT2.out.ml; omega)
          have HST : Hid (∀ W, x1.grownBy W none → w.grownBy (W.setCell ⟨g, 7, none⟩ (.int .u32 V)) (some g) ∧ OpB (W.setCell ⟨g, 7, none⟩ (.int .u32 V)) g { o2 with sum := V } ∧ Tol w.heap.size (W.setCell ⟨g, 7, none⟩ (.int .u32 V)) { o2 with sum := V } (D ++ E) ∧ Seg .u8 (W.setCell ⟨g, 7, none⟩ (.int .u32 V)) (cutI a c k) (m - k) (ys.drop (p + k)) ∧ Cr.Tab (W.setCell ⟨g, 7, none⟩ (.int .u32 V)) ∧ Bk 164 (W.setCell ⟨g, 7, none⟩ (.int .u32 V)) T ptab) := fun W hg => by
            rw [hV]
            have z := HT2.out.set hg
            exact ⟨z.1, z.2.1, z.2.2.1, z.2.2.2.1, z.2.2.2.2, (HTP.out.grew hg (by simp)).grew (grownBy_cell W g 7 _) (fun e => by have := Option.some.inj e; have := HB.out.2.1; have := HTN.out; omega)⟩
          have HEND : Hid (V = Cr.W (Cr.sum (ys.take (p + k))) ∧ p' = p + k ∧ (cutI a c k = none → c - k = 0) ∧ m - k ≤ c - k ∧ m - k ≤ 70368744177664 ∧ (∀ b o s, cutI a c k = some ⟨b, o, s⟩ → b ≠ g) ∧ o2.size = o.size ∧ o2.ended = o.ended) := ⟨hV, hpk, fun z => by have := HT2.out.nz (cutI_none z); omega, by have := HT2.out.mc; omega, by have := HT2.out.ml; omega, fun b o s hb => by obtain ⟨o3, s3, e⟩ := cutI_blk hb; exact HT2.out.ag b o3 s3 e, HT2.out.sz, HT2.out.en⟩
          have HAPP : Hid ((X ++ D) ++ E = X ++ (D ++ E)) := List.append_assoc _ _ _
          clear htt hV t0 t1 t3 t4 t6 t7 t8 hk
          go_wp2_with fail
          refine wp_region_lastR (fun a b => World.grownBy a b none) (fun _ _ _ h k => gb_trans h k) ⟨rfl, rfl, rfl, Nat.le_refl _, fun _ _ _ => rfl⟩ 11 rfl (by kernel_rfl) [23, 24, 25, 26, 27, 28, 29, 30, 31, 32, 33, 100011] [[], [], [1], [2], [3], [], [], [5, 6], [4, 7], [0], [9], [10, 8]] (by kernel_rfl) (by kernel_rfl) [fun u W => u = .pointer (some ⟨g, 0, none⟩), fun u W => u = .pointer (some ⟨g, 0, none⟩), fun u W => u = .pointer (some ⟨g, 0, none⟩), fun u W => u = .pointer (some ⟨g, 7, none⟩), fun u W => u = .int .u32 (Cr.W t), fun u W => u = .slice a m c, fun u W => u = .int .i64 (k : Int), fun u W => u = .slice a k c, fun u W => u = .int .u32 V, fun u W => u = .pointer (some ⟨g, 0, none⟩), fun u W => u = .pointer (some ⟨g, 7, none⟩)] ?stable ?step ?last
          case stable =>
            intro i v W W' h hg
            match i, h with
            | 0, h => exact h
            | 1, h => exact h
            | 2, h => exact h
            | 3, h => exact h
            | 4, h => exact h
            | 5, h => exact h
            | 6, h => exact h
            | 7, h => exact h
            | 8, h => exact h
            | 9, h => exact h
            | 10, h => exact h
            | i + 11, h => exact trivial
          case step =>
            intro f W A hA hg i o hin ho hu K hK
            match i, hin, ho, hu, hK with
            | 0, hin, ho, hu, hK =>
              cases ho
              have e0 : A.eval (.tmp 0) = .pointer (some ⟨g, 0, none⟩) := ev_out hA 0 rfl
              exact ph_move _ rfl rfl (.pointer (some ⟨g, 0, none⟩)) e0 (hK _ _ (gb_rr W _) rfl)
            | 1, hin, ho, hu, hK =>
              cases ho
              have e0 : A.eval (.tmp 0) = .pointer (some ⟨g, 0, none⟩) := ev_out hA 0 rfl
              exact ph_move _ rfl rfl (.pointer (some ⟨g, 0, none⟩)) e0 (hK _ _ (gb_rr W _) rfl)
            | 2, hin, ho, hu, hK =>
              cases ho
              have e24 : A.eval (.tmp 24) = .pointer (some ⟨g, 0, none⟩) := (ev_in hA 24 1 rfl rfl rfl).trans (show f 1 = .pointer (some ⟨g, 0, none⟩) from hu 1 (by decide))
              exact ph_nil _ rfl rfl _ e24 (hK _ _ (gb_rr W _) rfl)
            | 3, hin, ho, hu, hK =>
              cases ho
              have e25 : A.eval (.tmp 25) = .pointer (some ⟨g, 0, none⟩) := (ev_in hA 25 2 rfl rfl rfl).trans (show f 2 = .pointer (some ⟨g, 0, none⟩) from hu 2 (by decide))
              exact ph_field _ _ _ rfl rfl _ (.pointer (some ⟨g, 7, none⟩)) e25 (by kernel_rfl) (hK _ _ (gb_rr W _) rfl)
            | 4, hin, ho, hu, hK =>
              cases ho
              have e26 : A.eval (.tmp 26) = .pointer (some ⟨g, 7, none⟩) := (ev_in hA 26 3 rfl rfl rfl).trans (show f 3 = .pointer (some ⟨g, 7, none⟩) from hu 3 (by decide))
              have hc : W.cell? ⟨g, 7, none⟩ = some (.int .u32 (Cr.W t)) := HK7.out W hg
              refine ph_sem rfl rfl (r := .ok (.value (.int .u32 (Cr.W t))) W) ?_ (hK _ _ (gb_rr W _) rfl)
              have eC : ∀ c, A.eval (.const c) = c := fun _ => rfl; have eF : ∀ g, A.eval (.func g) = .func (.func g) #[] #[] := fun _ => rfl; generalize A.eval = ρ at *
              clear hA hu hg
              go_simp
            | 5, hin, ho, hu, hK =>
              cases ho
              have e1 : A.eval (.tmp 1) = .slice a m c := ev_out hA 1 rfl
              exact ph_move _ rfl rfl (.slice a m c) e1 (hK _ _ (gb_rr W _) rfl)
            | 6, hin, ho, hu, hK =>
              cases ho
              have e7 : A.eval (.tmp 7) = .int .i64 (k : Int) := ev_out hA 7 rfl
              exact ph_move _ rfl rfl (.int .i64 (k : Int)) e7 (hK _ _ (gb_rr W _) rfl)
            | 7, hin, ho, hu, hK =>
              cases ho
              have e28 : A.eval (.tmp 28) = .slice a m c := (ev_in hA 28 5 rfl rfl rfl).trans (show f 5 = .slice a m c from hu 5 (by decide))
              have e29 : A.eval (.tmp 29) = .int .i64 (k : Int) := (ev_in hA 29 6 rfl rfl rfl).trans (show f 6 = .int .i64 (k : Int) from hu 6 (by decide))
              have hsl := HSL.out W
              refine ph_sem rfl rfl (r := .ok (.value (.slice a k c)) W) ?_ (hK _ _ (gb_rr W _) rfl)
              have eC : ∀ c, A.eval (.const c) = c := fun _ => rfl; have eF : ∀ g, A.eval (.func g) = .func (.func g) #[] #[] := fun _ => rfl; generalize A.eval = ρ at *
              clear hA hu hg hK
              go_simp
            | 8, hin, ho, hu, hK =>
              cases ho
              have e27 : A.eval (.tmp 27) = .int .u32 (Cr.W t) := (ev_in hA 27 4 rfl rfl rfl).trans (show f 4 = .int .u32 (Cr.W t) from hu 4 (by decide))
              have e30 : A.eval (.tmp 30) = .slice a k c := (ev_in hA 30 7 rfl rfl rfl).trans (show f 7 = .slice a k c from hu 7 (by decide))
              refine ph_fn 76 _ _ rfl rfl #[.int .u32 (Cr.W t), .slice a k c] (by simp [e27, e30]) (by kernel_rfl) ?_
              refine (Calls.mono (HMO.out W hg) ?_)
              rintro e W' ⟨rfl, hq⟩
              obtain rfl := hq.symm
              exact ⟨_, rfl, hK _ _ (gb_rr W _) rfl⟩
            | 9, hin, ho, hu, hK =>
              cases ho
              have e23 : A.eval (.tmp 23) = .pointer (some ⟨g, 0, none⟩) := (ev_in hA 23 0 rfl rfl rfl).trans (show f 0 = .pointer (some ⟨g, 0, none⟩) from hu 0 (by decide))
              exact ph_nil _ rfl rfl _ e23 (hK _ _ (gb_rr W _) rfl)
            | 10, hin, ho, hu, hK =>
              cases ho
              have e32 : A.eval (.tmp 32) = .pointer (some ⟨g, 0, none⟩) := (ev_in hA 32 9 rfl rfl rfl).trans (show f 9 = .pointer (some ⟨g, 0, none⟩) from hu 9 (by decide))
              exact ph_field _ _ _ rfl rfl _ (.pointer (some ⟨g, 7, none⟩)) e32 (by kernel_rfl) (hK _ _ (gb_rr W _) rfl)
            | i + 11, hin, ho, hu, hK => omega
          case last =>
            intro f W A hA hg hu o ho K hK
            cases ho
            have e31 : A.eval (.tmp 31) = .int .u32 V := (ev_in hA 31 8 rfl rfl rfl).trans (show f 8 = .int .u32 V from hu 8 (by decide))
            have e33 : A.eval (.tmp 33) = .pointer (some ⟨g, 7, none⟩) := (ev_in hA 33 10 rfl rfl rfl).trans (show f 10 = .pointer (some ⟨g, 7, none⟩) from hu 10 (by decide))
            have hc : W.cell? ⟨g, 7, none⟩ = some (.int .u32 (Cr.W t)) := HK7.out W hg
            have hf : W.frozen? ⟨g, 7, none⟩ = false := HF7.out W hg
            refine ph_sem rfl rfl (r := .ok .skip (W.setCell ⟨g, 7, none⟩ (.int .u32 V))) ?_ (hK _ _ ?_)
            · have eC : ∀ c, A.eval (.const c) = c := fun _ => rfl
              generalize A.eval = ρ at *
              clear hA hu hg hK
              go_simp
            have A4 : Hid _ := HST.out W hg
            clear hg e31 e33 hc hf
            have hA2 := hA.trans (putAll_lit [(.pointer (some ⟨g, 0, none⟩)), (.pointer (some ⟨g, 0, none⟩)), (.pointer (some ⟨g, 0, none⟩)), (.pointer (some ⟨g, 7, none⟩)), (.int .u32 (Cr.W t)), (.slice a m c), (.int .i64 (k : Int)), (.slice a k c), (.int .u32 V), (.pointer (some ⟨g, 0, none⟩)), (.pointer (some ⟨g, 7, none⟩)), (f 11)] (by
              intro j hj
              match j, hj with
              | 0, _ => exact hu 0 (by decide)
              | 1, _ => exact hu 1 (by decide)
              | 2, _ => exact hu 2 (by decide)
              | 3, _ => exact hu 3 (by decide)
              | 4, _ => exact hu 4 (by decide)
              | 5, _ => exact hu 5 (by decide)
              | 6, _ => exact hu 6 (by decide)
              | 7, _ => exact hu 7 (by decide)
              | 8, _ => exact hu 8 (by decide)
              | 9, _ => exact hu 9 (by decide)
              | 10, _ => exact hu 10 (by decide)
              | 11, _ => rfl
              | j + 12, hj => exact absurd hj (by simp)))
            clear hu hA
            subst hA2
            simp only [putAll, putL, List.mem_cons, List.not_mem_nil, List.idxOf_cons, Nat.reduceEqDiff, Nat.reduceBEq, Nat.reduceAdd, or_false, or_true, reduceIte, cond_true, cond_false, List.getD_cons_zero, List.getD_cons_succ, BEq.rfl]
            generalize W.setCell ⟨g, 7, none⟩ (.int .u32 V) = y1 at A4 ⊢
            go_wp2_with fail
            have A5 : Hid (WalkA ys X o g w (.returned (.slice (cutI a c k) (m - k) (c - k))) y1) := ⟨A4.out.1, 2, p + k, seq, n, D ++ E, { o2 with sum := V }, A4.out.2.1, A4.out.2.2.1, by rw [← HAPP.out, ← HEND.out.2.1]; exact q1, HEND.out.2.2.2.2.2.2.1, HEND.out.2.2.2.2.2.2.2, .inl ⟨_, _, _, rfl, A4.out.2.2.2.1, HEND.out.2.2.1, HEND.out.2.2.2.1, HEND.out.2.2.2.2.2.1, by rw [← HAPP.out, ← HEND.out.2.1]; exact q2, t5, q3, by rw [← HAPP.out]; exact q4, by rw [← HAPP.out]; exact tah, q5, q6, by rw [← HEND.out.2.1]; exact q7, HEND.out.1⟩⟩
            go_roundw
            case rel => exact .inr ⟨_, _, _, rfl, rfl, A5⟩
            case measure => show 0 < 7 - pAt wr g; rw [HPA.out]; decide
        · exact ⟨rfl, gb_trans HI.out.1.gb t0, 2, p', seq, n, D ++ E, o2, t3, t4 _ _ HB.out.2.1 HI.out.1.gb.size HI.out.1.tol (fun e => (HI.out.1.nd3 (by omega)).1), by rw [← List.append_assoc]; exact q1, t7.trans HI.out.1.sz, t8.trans HI.out.1.en, .inr ⟨e, rfl, by rw [← List.append_assoc]; exact q2, q3, q4⟩⟩
      · have HTK : Hid (Calls Tryd.prog 125 #[.pointer (some ⟨g, 0, none⟩), .slice a m c] wr fun r w' => TakeA ys 3 p seq n (X ++ D) o' g wr r w') := by
          have z := HI.out.1
          exact tk3 g o' a m c ys p seq n (X ++ D) wr z.ob z.ow (z.nd3 (by omega)).2.1 (z.nd3 (by omega)).2.2.1 (z.nd3 (by omega)).2.2.2 z.pre z.seg HB.out.1 z.nz z.mc z.ml z.ag
        have k4 : wr.cell? ⟨g, 4, none⟩ = some (.int .i64 3) := k4'
        have kt : wr.cell? ⟨T, 3, none⟩ = some (.func (.func 125) #[] #[]) := Bk.cell HI.out.2.2 3
        clear k4'
        go_wp2_with fail
        refine (Calls.mono HTK.out ?_)
        clear HTK k4 kt
        rintro r x1 ⟨t0, E, o2, p', t1, t3, t4, t5, tah, t6, t7, t8, t9, (⟨seq', n', rfl, q1, q2, q3, q4, q5, q6, q7⟩ | ⟨rfl, q1, q2, q3, q4, q5, q6, q7⟩ | ⟨e, rfl, q1, q2, q3, q4⟩)⟩
        · obtain ⟨k, hk⟩ : ∃ k, k = p' - p := ⟨_, rfl⟩
          rw [← hk]
          have hpk : p' = p + k := by omega
          have HT2 : Hid (WT ys X o g w x1 a m c 3 p k seq n (D ++ E) o2) := ⟨gb_trans HI.out.1.gb t0, t3, t4 _ _ HB.out.2.1 HI.out.1.gb.size HI.out.1.tol (fun e => (HI.out.1.nd3 (by omega)).1), t7.trans HI.out.1.sz, t8.trans HI.out.1.en, t6.trans HI.out.1.sm, seg_gG HI.out.1.seg t0 HI.out.1.ag, HI.out.1.nz, HI.out.1.mc, HI.out.1.ml, HI.out.1.ag, by have z1 := HI.out.1.seg.1; have z2 := q1.le; rw [List.length_drop] at z1; omega, tab_g HI.out.2.1 HI.out.1.ob t0, HB.out.2.1⟩
          have HTP : Hid (Bk 164 x1 T ptab) := HI.out.2.2.grew t0 (fun e => by have := Option.some.inj e; have := HB.out.2.1; have := HTN.out; omega)
          obtain ⟨t, htt⟩ : ∃ t, t = Cr.sum (ys.take p) := ⟨_, rfl⟩
          obtain ⟨V, hV⟩ : ∃ V, V = Cr.W (Cr.sum (ys.take (p + k))) := ⟨_, rfl⟩
          have hkm : k ≤ m := HT2.out.km
          have HSL : Hid (∀ W, (Instr.slice 27 (.slice a m c) none (some (.int .i64 (k : Int))) none).run Tryd.prog W = .ok (.slice a k c) W) := slice_hI a m c k k rfl (Nat.le_trans hkm HT2.out.mc)
          have hs2 : ∀ W, (Instr.slice 27 (.slice a m c) (some (.int .i64 (k : Int))) none none).run Tryd.prog W = .ok (.slice (cutI a c k) (m - k) (c - k)) W := sliceL a m c k k rfl hkm
          have HK7 : Hid (∀ W, x1.grownBy W none → W.cell? ⟨g, 7, none⟩ = some (.int .u32 (Cr.W t))) := fun W hg => by rw [htt, ← HT2.out.sm]; exact Bk.cell (opb_gb HT2.out.ob hg) 7
          have HF7 : Hid (∀ W, x1.grownBy W none → W.frozen? ⟨g, 7, none⟩ = false) := fun W hg => frozen_of_row W g 7 _ _ (opb_gb HT2.out.ob hg)
          have HMO : Hid (∀ W, x1.grownBy W none → Calls Tryd.prog 76 #[.int .u32 (Cr.W t), .slice a k c] W fun r w' => r = .returned (.int .u32 V) ∧ w' = W) := fun W hg => by
            rw [hV, ← sum_moreI ys p k, htt]
            exact Cr.more_c _ a k c _ W ((seg_takeO HT2.out.seg k hkm).grew hg (by simp)) (bytes_takeO (bytes_drop HB.out.1 p) k) (tab_n HT2.out.tab hg) (by have := HT2.out.ml; omega)
          have HST : Hid (∀ W, x1.grownBy W none → w.grownBy (W.setCell ⟨g, 7, none⟩ (.int .u32 V)) (some g) ∧ OpB (W.setCell ⟨g, 7, none⟩ (.int .u32 V)) g { o2 with sum := V } ∧ Tol w.heap.size (W.setCell ⟨g, 7, none⟩ (.int .u32 V)) { o2 with sum := V } (D ++ E) ∧ Seg .u8 (W.setCell ⟨g, 7, none⟩ (.int .u32 V)) (cutI a c k) (m - k) (ys.drop (p + k)) ∧ Cr.Tab (W.setCell ⟨g, 7, none⟩ (.int .u32 V)) ∧ Bk 164 (W.setCell ⟨g, 7, none⟩ (.int .u32 V)) T ptab) := fun W hg => by
            rw [hV]
            have z := HT2.out.set hg
            exact ⟨z.1, z.2.1, z.2.2.1, z.2.2.2.1, z.2.2.2.2, (HTP.out.grew hg (by simp)).grew (grownBy_cell W g 7 _) (fun e => by have := Option.some.inj e; have := HB.out.2.1; have := HTN.out; omega)⟩
          have HEND : Hid (V = Cr.W (Cr.sum (ys.take (p + k))) ∧ p' = p + k ∧ (cutI a c k = none → c - k = 0) ∧ m - k ≤ c - k ∧ m - k ≤ 70368744177664 ∧ (∀ b o s, cutI a c k = some ⟨b, o, s⟩ → b ≠ g) ∧ o2.size = o.size ∧ o2.ended = o.ended) := ⟨hV, hpk, fun z => by have := HT2.out.nz (cutI_none z); omega, by have := HT2.out.mc; omega, by have := HT2.out.ml; omega, fun b o s hb => by obtain ⟨o3, s3, e⟩ := cutI_blk hb; exact HT2.out.ag b o3 s3 e, HT2.out.sz, HT2.out.en⟩
          have HAPP : Hid ((X ++ D) ++ E = X ++ (D ++ E)) := List.append_assoc _ _ _
          clear htt hV t0 t1 t3 t4 t6 t7 t8 hk
          go_wp2_with fail
          refine wp_region_lastR (fun a b => World.grownBy a b none) (fun _ _ _ h k => gb_trans h k) ⟨rfl, rfl, rfl, Nat.le_refl _, fun _ _ _ => rfl⟩ 11 rfl (by kernel_rfl) [23, 24, 25, 26, 27, 28, 29, 30, 31, 32, 33, 100011] [[], [], [1], [2], [3], [], [], [5, 6], [4, 7], [0], [9], [10, 8]] (by kernel_rfl) (by kernel_rfl) [fun u W => u = .pointer (some ⟨g, 0, none⟩), fun u W => u = .pointer (some ⟨g, 0, none⟩), fun u W => u = .pointer (some ⟨g, 0, none⟩), fun u W => u = .pointer (some ⟨g, 7, none⟩), fun u W => u = .int .u32 (Cr.W t), fun u W => u = .slice a m c, fun u W => u = .int .i64 (k : Int), fun u W => u = .slice a k c, fun u W => u = .int .u32 V, fun u W => u = .pointer (some ⟨g, 0, none⟩), fun u W => u = .pointer (some ⟨g, 7, none⟩)] ?stable ?step ?last
          case stable =>
            intro i v W W' h hg
            match i, h with
            | 0, h => exact h
            | 1, h => exact h
            | 2, h => exact h
            | 3, h => exact h
            | 4, h => exact h
            | 5, h => exact h
            | 6, h => exact h
            | 7, h => exact h
            | 8, h => exact h
            | 9, h => exact h
            | 10, h => exact h
            | i + 11, h => exact trivial
          case step =>
            intro f W A hA hg i o hin ho hu K hK
            match i, hin, ho, hu, hK with
            | 0, hin, ho, hu, hK =>
              cases ho
              have e0 : A.eval (.tmp 0) = .pointer (some ⟨g, 0, none⟩) := ev_out hA 0 rfl
              exact ph_move _ rfl rfl (.pointer (some ⟨g, 0, none⟩)) e0 (hK _ _ (gb_rr W _) rfl)
            | 1, hin, ho, hu, hK =>
              cases ho
              have e0 : A.eval (.tmp 0) = .pointer (some ⟨g, 0, none⟩) := ev_out hA 0 rfl
              exact ph_move _ rfl rfl (.pointer (some ⟨g, 0, none⟩)) e0 (hK _ _ (gb_rr W _) rfl)
            | 2, hin, ho, hu, hK =>
              cases ho
              have e24 : A.eval (.tmp 24) = .pointer (some ⟨g, 0, none⟩) := (ev_in hA 24 1 rfl rfl rfl).trans (show f 1 = .pointer (some ⟨g, 0, none⟩) from hu 1 (by decide))
              exact ph_nil _ rfl rfl _ e24 (hK _ _ (gb_rr W _) rfl)
            | 3, hin, ho, hu, hK =>
              cases ho
              have e25 : A.eval (.tmp 25) = .pointer (some ⟨g, 0, none⟩) := (ev_in hA 25 2 rfl rfl rfl).trans (show f 2 = .pointer (some ⟨g, 0, none⟩) from hu 2 (by decide))
              exact ph_field _ _ _ rfl rfl _ (.pointer (some ⟨g, 7, none⟩)) e25 (by kernel_rfl) (hK _ _ (gb_rr W _) rfl)
            | 4, hin, ho, hu, hK =>
              cases ho
              have e26 : A.eval (.tmp 26) = .pointer (some ⟨g, 7, none⟩) := (ev_in hA 26 3 rfl rfl rfl).trans (show f 3 = .pointer (some ⟨g, 7, none⟩) from hu 3 (by decide))
              have hc : W.cell? ⟨g, 7, none⟩ = some (.int .u32 (Cr.W t)) := HK7.out W hg
              refine ph_sem rfl rfl (r := .ok (.value (.int .u32 (Cr.W t))) W) ?_ (hK _ _ (gb_rr W _) rfl)
              have eC : ∀ c, A.eval (.const c) = c := fun _ => rfl; have eF : ∀ g, A.eval (.func g) = .func (.func g) #[] #[] := fun _ => rfl; generalize A.eval = ρ at *
              clear hA hu hg
              go_simp
            | 5, hin, ho, hu, hK =>
              cases ho
              have e1 : A.eval (.tmp 1) = .slice a m c := ev_out hA 1 rfl
              exact ph_move _ rfl rfl (.slice a m c) e1 (hK _ _ (gb_rr W _) rfl)
            | 6, hin, ho, hu, hK =>
              cases ho
              have e7 : A.eval (.tmp 7) = .int .i64 (k : Int) := ev_out hA 7 rfl
              exact ph_move _ rfl rfl (.int .i64 (k : Int)) e7 (hK _ _ (gb_rr W _) rfl)
            | 7, hin, ho, hu, hK =>
              cases ho
              have e28 : A.eval (.tmp 28) = .slice a m c := (ev_in hA 28 5 rfl rfl rfl).trans (show f 5 = .slice a m c from hu 5 (by decide))
              have e29 : A.eval (.tmp 29) = .int .i64 (k : Int) := (ev_in hA 29 6 rfl rfl rfl).trans (show f 6 = .int .i64 (k : Int) from hu 6 (by decide))
              have hsl := HSL.out W
              refine ph_sem rfl rfl (r := .ok (.value (.slice a k c)) W) ?_ (hK _ _ (gb_rr W _) rfl)
              have eC : ∀ c, A.eval (.const c) = c := fun _ => rfl; have eF : ∀ g, A.eval (.func g) = .func (.func g) #[] #[] := fun _ => rfl; generalize A.eval = ρ at *
              clear hA hu hg hK
              go_simp
            | 8, hin, ho, hu, hK =>
              cases ho
              have e27 : A.eval (.tmp 27) = .int .u32 (Cr.W t) := (ev_in hA 27 4 rfl rfl rfl).trans (show f 4 = .int .u32 (Cr.W t) from hu 4 (by decide))
              have e30 : A.eval (.tmp 30) = .slice a k c := (ev_in hA 30 7 rfl rfl rfl).trans (show f 7 = .slice a k c from hu 7 (by decide))
              refine ph_fn 76 _ _ rfl rfl #[.int .u32 (Cr.W t), .slice a k c] (by simp [e27, e30]) (by kernel_rfl) ?_
              refine (Calls.mono (HMO.out W hg) ?_)
              rintro e W' ⟨rfl, hq⟩
              obtain rfl := hq.symm
              exact ⟨_, rfl, hK _ _ (gb_rr W _) rfl⟩
            | 9, hin, ho, hu, hK =>
              cases ho
              have e23 : A.eval (.tmp 23) = .pointer (some ⟨g, 0, none⟩) := (ev_in hA 23 0 rfl rfl rfl).trans (show f 0 = .pointer (some ⟨g, 0, none⟩) from hu 0 (by decide))
              exact ph_nil _ rfl rfl _ e23 (hK _ _ (gb_rr W _) rfl)
            | 10, hin, ho, hu, hK =>
              cases ho
              have e32 : A.eval (.tmp 32) = .pointer (some ⟨g, 0, none⟩) := (ev_in hA 32 9 rfl rfl rfl).trans (show f 9 = .pointer (some ⟨g, 0, none⟩) from hu 9 (by decide))
              exact ph_field _ _ _ rfl rfl _ (.pointer (some ⟨g, 7, none⟩)) e32 (by kernel_rfl) (hK _ _ (gb_rr W _) rfl)
            | i + 11, hin, ho, hu, hK => omega
          case last =>
            intro f W A hA hg hu o ho K hK
            cases ho
            have e31 : A.eval (.tmp 31) = .int .u32 V := (ev_in hA 31 8 rfl rfl rfl).trans (show f 8 = .int .u32 V from hu 8 (by decide))
            have e33 : A.eval (.tmp 33) = .pointer (some ⟨g, 7, none⟩) := (ev_in hA 33 10 rfl rfl rfl).trans (show f 10 = .pointer (some ⟨g, 7, none⟩) from hu 10 (by decide))
            have hc : W.cell? ⟨g, 7, none⟩ = some (.int .u32 (Cr.W t)) := HK7.out W hg
            have hf : W.frozen? ⟨g, 7, none⟩ = false := HF7.out W hg
            refine ph_sem rfl rfl (r := .ok .skip (W.setCell ⟨g, 7, none⟩ (.int .u32 V))) ?_ (hK _ _ ?_)
            · have eC : ∀ c, A.eval (.const c) = c := fun _ => rfl
              generalize A.eval = ρ at *
              clear hA hu hg hK
              go_simp
            have A4 : Hid _ := HST.out W hg
            clear hg e31 e33 hc hf
            have hA2 := hA.trans (putAll_lit [(.pointer (some ⟨g, 0, none⟩)), (.pointer (some ⟨g, 0, none⟩)), (.pointer (some ⟨g, 0, none⟩)), (.pointer (some ⟨g, 7, none⟩)), (.int .u32 (Cr.W t)), (.slice a m c), (.int .i64 (k : Int)), (.slice a k c), (.int .u32 V), (.pointer (some ⟨g, 0, none⟩)), (.pointer (some ⟨g, 7, none⟩)), (f 11)] (by
              intro j hj
              match j, hj with
              | 0, _ => exact hu 0 (by decide)
              | 1, _ => exact hu 1 (by decide)
              | 2, _ => exact hu 2 (by decide)
              | 3, _ => exact hu 3 (by decide)
              | 4, _ => exact hu 4 (by decide)
              | 5, _ => exact hu 5 (by decide)
              | 6, _ => exact hu 6 (by decide)
              | 7, _ => exact hu 7 (by decide)
              | 8, _ => exact hu 8 (by decide)
              | 9, _ => exact hu 9 (by decide)
              | 10, _ => exact hu 10 (by decide)
              | 11, _ => rfl
              | j + 12, hj => exact absurd hj (by simp)))
            clear hu hA
            subst hA2
            simp only [putAll, putL, List.mem_cons, List.not_mem_nil, List.idxOf_cons, Nat.reduceEqDiff, Nat.reduceBEq, Nat.reduceAdd, or_false, or_true, reduceIte, cond_true, cond_false, List.getD_cons_zero, List.getD_cons_succ, BEq.rfl]
            have c4 : (W.setCell ⟨g, 7, none⟩ (.int .u32 V)).cell? ⟨g, 4, none⟩ = some (.int .i64 3) := by have z := Bk.cell A4.out.2.1 4; rw [z]; exact congrArg (fun v => some (Value.int .i64 v)) t5
            have f4 : (W.setCell ⟨g, 7, none⟩ (.int .u32 V)).frozen? ⟨g, 4, none⟩ = false := frozen_of_row _ g 4 _ _ A4.out.2.1
            generalize W.setCell ⟨g, 7, none⟩ (.int .u32 V) = y1 at A4 c4 f4 ⊢
            go_wp2_with fail
            have A5 : Hid (WG ys X o g w (y1.setCell ⟨g, 4, none⟩ (.int .i64 4)) (cutI a c k) (m - k) (c - k) 4 (p + k) seq' n' (D ++ E) { o2 with sum := V, part := 4 } ∧ Cr.Tab (y1.setCell ⟨g, 4, none⟩ (.int .i64 4)) ∧ Bk 164 (y1.setCell ⟨g, 4, none⟩ (.int .i64 4)) T ptab) := by
              have hc := grownBy_cell y1 g 4 (.int .i64 4)
              refine ⟨⟨gb_trans A4.out.1 hc, Bk.setO A4.out.2.1 4 _, A4.out.2.2.1.grew hc HB.out.2.1 rfl rfl rfl, by rw [← HAPP.out, ← HEND.out.2.1]; exact q1, ⟨rfl, q2, by rw [← HAPP.out]; exact q3, by rw [← HAPP.out]; exact tah, q4, q5, q6⟩, fun z => by omega, HEND.out.2.2.2.2.2.2.1, HEND.out.2.2.2.2.2.2.2, HEND.out.1, seg_gG A4.out.2.2.2.1 hc HEND.out.2.2.2.2.2.1, HEND.out.2.2.1, HEND.out.2.2.2.1, HEND.out.2.2.2.2.1, HEND.out.2.2.2.2.2.1⟩, tab_g A4.out.2.2.2.2.1 A4.out.2.1 hc, A4.out.2.2.2.2.2.grew hc (fun e => by have := Option.some.inj e; have := HB.out.2.1; have := HTN.out; omega)⟩
            go_roundw
            case rel => exact .inl ⟨_, _, _, _, _, _, _, _, _, rfl, rfl, A5⟩
            case measure => show 7 - pAt _ g < 7 - pAt wr g; rw [pAt_is A5.out.1.ob, HPA.out]; show 7 - (4 : Int).toNat < 7 - 3; decide
        · obtain ⟨k, hk⟩ : ∃ k, k = p' - p := ⟨_, rfl⟩
          rw [← hk]
          have hpk : p' = p + k := by omega
          have HT2 : Hid (WT ys X o g w x1 a m c 3 p k seq n (D ++ E) o2) := ⟨gb_trans HI.out.1.gb t0, t3, t4 _ _ HB.out.2.1 HI.out.1.gb.size HI.out.1.tol (fun e => (HI.out.1.nd3 (by omega)).1), t7.trans HI.out.1.sz, t8.trans HI.out.1.en, t6.trans HI.out.1.sm, seg_gG HI.out.1.seg t0 HI.out.1.ag, HI.out.1.nz, HI.out.1.mc, HI.out.1.ml, HI.out.1.ag, by have z1 := HI.out.1.seg.1; have z2 := q1.le; rw [List.length_drop] at z1; omega, tab_g HI.out.2.1 HI.out.1.ob t0, HB.out.2.1⟩
          have HTP : Hid (Bk 164 x1 T ptab) := HI.out.2.2.grew t0 (fun e => by have := Option.some.inj e; have := HB.out.2.1; have := HTN.out; omega)
          obtain ⟨t, htt⟩ : ∃ t, t = Cr.sum (ys.take p) := ⟨_, rfl⟩
          obtain ⟨V, hV⟩ : ∃ V, V = Cr.W (Cr.sum (ys.take (p + k))) := ⟨_, rfl⟩
          have hkm : k ≤ m := HT2.out.km
          have HSL : Hid (∀ W, (Instr.slice 27 (.slice a m c) none (some (.int .i64 (k : Int))) none).run Tryd.prog W = .ok (.slice a k c) W) := slice_hI a m c k k rfl (Nat.le_trans hkm HT2.out.mc)
          have hs2 : ∀ W, (Instr.slice 27 (.slice a m c) (some (.int .i64 (k : Int))) none none).run Tryd.prog W = .ok (.slice (cutI a c k) (m - k) (c - k)) W := sliceL a m c k k rfl hkm
          have HK7 : Hid (∀ W, x1.grownBy W none → W.cell? ⟨g, 7, none⟩ = some (.int .u32 (Cr.W t))) := fun W hg => by rw [htt, ← HT2.out.sm]; exact Bk.cell (opb_gb HT2.out.ob hg) 7
          have HF7 : Hid (∀ W, x1.grownBy W none → W.frozen? ⟨g, 7, none⟩ = false) := fun W hg => frozen_of_row W g 7 _ _ (opb_gb HT2.out.ob hg)
          have HMO : Hid (∀ W, x1.grownBy W none → Calls Tryd.prog 76 #[.int .u32 (Cr.W t), .slice a k c] W fun r w' => r = .returned (.int .u32 V) ∧ w' = W) := fun W hg => by
            rw [hV, ← sum_moreI ys p k, htt]
            exact Cr.more_c _ a k c _ W ((seg_takeO HT2.out.seg k hkm).grew hg (by simp)) (bytes_takeO (bytes_drop HB.out.1 p) k) (tab_n HT2.out.tab hg) (by have := HT2.out.ml; omega)
          have HST : Hid (∀ W, x1.grownBy W none → w.grownBy (W.setCell ⟨g, 7, none⟩ (.int .u32 V)) (some g) ∧ OpB (W.setCell ⟨g, 7, none⟩ (.int .u32 V)) g { o2 with sum := V } ∧ Tol w.heap.size (W.setCell ⟨g, 7, none⟩ (.int .u32 V)) { o2 with sum := V } (D ++ E) ∧ Seg .u8 (W.setCell ⟨g, 7, none⟩ (.int .u32 V)) (cutI a c k) (m - k) (ys.drop (p + k)) ∧ Cr.Tab (W.setCell ⟨g, 7, none⟩ (.int .u32 V)) ∧ Bk 164 (W.setCell ⟨g, 7, none⟩ (.int .u32 V)) T ptab) := fun W hg => by
            rw [hV]
            have z := HT2.out.set hg
            exact ⟨z.1, z.2.1, z.2.2.1, z.2.2.2.1, z.2.2.2.2, (HTP.out.grew hg (by simp)).grew (grownBy_cell W g 7 _) (fun e => by have := Option.some.inj e; have := HB.out.2.1; have := HTN.out; omega)⟩
          have HEND : Hid (V = Cr.W (Cr.sum (ys.take (p + k))) ∧ p' = p + k ∧ (cutI a c k = none → c - k = 0) ∧ m - k ≤ c - k ∧ m - k ≤ 70368744177664 ∧ (∀ b o s, cutI a c k = some ⟨b, o, s⟩ → b ≠ g) ∧ o2.size = o.size ∧ o2.ended = o.ended) := ⟨hV, hpk, fun z => by have := HT2.out.nz (cutI_none z); omega, by have := HT2.out.mc; omega, by have := HT2.out.ml; omega, fun b o s hb => by obtain ⟨o3, s3, e⟩ := cutI_blk hb; exact HT2.out.ag b o3 s3 e, HT2.out.sz, HT2.out.en⟩
          have HAPP : Hid ((X ++ D) ++ E = X ++ (D ++ E)) := List.append_assoc _ _ _
          clear htt hV t0 t1 t3 t4 t6 t7 t8 hk
          go_wp2_with fail
          refine wp_region_lastR (fun a b => World.grownBy a b none) (fun _ _ _ h k => gb_trans h k) ⟨rfl, rfl, rfl, Nat.le_refl _, fun _ _ _ => rfl⟩ 11 rfl (by kernel_rfl) [23, 24, 25, 26, 27, 28, 29, 30, 31, 32, 33, 100011] [[], [], [1], [2], [3], [], [], [5, 6], [4, 7], [0], [9], [10, 8]] (by kernel_rfl) (by kernel_rfl) [fun u W => u = .pointer (some ⟨g, 0, none⟩), fun u W => u = .pointer (some ⟨g, 0, none⟩), fun u W => u = .pointer (some ⟨g, 0, none⟩), fun u W => u = .pointer (some ⟨g, 7, none⟩), fun u W => u = .int .u32 (Cr.W t), fun u W => u = .slice a m c, fun u W => u = .int .i64 (k : Int), fun u W => u = .slice a k c, fun u W => u = .int .u32 V, fun u W => u = .pointer (some ⟨g, 0, none⟩), fun u W => u = .pointer (some ⟨g, 7, none⟩)] ?stable ?step ?last
          case stable =>
            intro i v W W' h hg
            match i, h with
            | 0, h => exact h
            | 1, h => exact h
            | 2, h => exact h
            | 3, h => exact h
            | 4, h => exact h
            | 5, h => exact h
            | 6, h => exact h
            | 7, h => exact h
            | 8, h => exact h
            | 9, h => exact h
            | 10, h => exact h
            | i + 11, h => exact trivial
          case step =>
            intro f W A hA hg i o hin ho hu K hK
            match i, hin, ho, hu, hK with
            | 0, hin, ho, hu, hK =>
              cases ho
              have e0 : A.eval (.tmp 0) = .pointer (some ⟨g, 0, none⟩) := ev_out hA 0 rfl
              exact ph_move _ rfl rfl (.pointer (some ⟨g, 0, none⟩)) e0 (hK _ _ (gb_rr W _) rfl)
            | 1, hin, ho, hu, hK =>
              cases ho
              have e0 : A.eval (.tmp 0) = .pointer (some ⟨g, 0, none⟩) := ev_out hA 0 rfl
              exact ph_move _ rfl rfl (.pointer (some ⟨g, 0, none⟩)) e0 (hK _ _ (gb_rr W _) rfl)
            | 2, hin, ho, hu, hK =>
              cases ho
              have e24 : A.eval (.tmp 24) = .pointer (some ⟨g, 0, none⟩) := (ev_in hA 24 1 rfl rfl rfl).trans (show f 1 = .pointer (some ⟨g, 0, none⟩) from hu 1 (by decide))
              exact ph_nil _ rfl rfl _ e24 (hK _ _ (gb_rr W _) rfl)
            | 3, hin, ho, hu, hK =>
              cases ho
              have e25 : A.eval (.tmp 25) = .pointer (some ⟨g, 0, none⟩) := (ev_in hA 25 2 rfl rfl rfl).trans (show f 2 = .pointer (some ⟨g, 0, none⟩) from hu 2 (by decide))
              exact ph_field _ _ _ rfl rfl _ (.pointer (some ⟨g, 7, none⟩)) e25 (by kernel_rfl) (hK _ _ (gb_rr W _) rfl)
            | 4, hin, ho, hu, hK =>
              cases ho
              have e26 : A.eval (.tmp 26) = .pointer (some ⟨g, 7, none⟩) := (ev_in hA 26 3 rfl rfl rfl).trans (show f 3 = .pointer (some ⟨g, 7, none⟩) from hu 3 (by decide))
              have hc : W.cell? ⟨g, 7, none⟩ = some (.int .u32 (Cr.W t)) := HK7.out W hg
              refine ph_sem rfl rfl (r := .ok (.value (.int .u32 (Cr.W t))) W) ?_ (hK _ _ (gb_rr W _) rfl)
              have eC : ∀ c, A.eval (.const c) = c := fun _ => rfl; have eF : ∀ g, A.eval (.func g) = .func (.func g) #[] #[] := fun _ => rfl; generalize A.eval = ρ at *
              clear hA hu hg
              go_simp
            | 5, hin, ho, hu, hK =>
              cases ho
              have e1 : A.eval (.tmp 1) = .slice a m c := ev_out hA 1 rfl
              exact ph_move _ rfl rfl (.slice a m c) e1 (hK _ _ (gb_rr W _) rfl)
            | 6, hin, ho, hu, hK =>
              cases ho
              have e7 : A.eval (.tmp 7) = .int .i64 (k : Int) := ev_out hA 7 rfl
              exact ph_move _ rfl rfl (.int .i64 (k : Int)) e7 (hK _ _ (gb_rr W _) rfl)
            | 7, hin, ho, hu, hK =>
              cases ho
              have e28 : A.eval (.tmp 28) = .slice a m c := (ev_in hA 28 5 rfl rfl rfl).trans (show f 5 = .slice a m c from hu 5 (by decide))
              have e29 : A.eval (.tmp 29) = .int .i64 (k : Int) := (ev_in hA 29 6 rfl rfl rfl).trans (show f 6 = .int .i64 (k : Int) from hu 6 (by decide))
              have hsl := HSL.out W
              refine ph_sem rfl rfl (r := .ok (.value (.slice a k c)) W) ?_ (hK _ _ (gb_rr W _) rfl)
              have eC : ∀ c, A.eval (.const c) = c := fun _ => rfl; have eF : ∀ g, A.eval (.func g) = .func (.func g) #[] #[] := fun _ => rfl; generalize A.eval = ρ at *
              clear hA hu hg hK
              go_simp
            | 8, hin, ho, hu, hK =>
              cases ho
              have e27 : A.eval (.tmp 27) = .int .u32 (Cr.W t) := (ev_in hA 27 4 rfl rfl rfl).trans (show f 4 = .int .u32 (Cr.W t) from hu 4 (by decide))
              have e30 : A.eval (.tmp 30) = .slice a k c := (ev_in hA 30 7 rfl rfl rfl).trans (show f 7 = .slice a k c from hu 7 (by decide))
              refine ph_fn 76 _ _ rfl rfl #[.int .u32 (Cr.W t), .slice a k c] (by simp [e27, e30]) (by kernel_rfl) ?_
              refine (Calls.mono (HMO.out W hg) ?_)
              rintro e W' ⟨rfl, hq⟩
              obtain rfl := hq.symm
              exact ⟨_, rfl, hK _ _ (gb_rr W _) rfl⟩
            | 9, hin, ho, hu, hK =>
              cases ho
              have e23 : A.eval (.tmp 23) = .pointer (some ⟨g, 0, none⟩) := (ev_in hA 23 0 rfl rfl rfl).trans (show f 0 = .pointer (some ⟨g, 0, none⟩) from hu 0 (by decide))
              exact ph_nil _ rfl rfl _ e23 (hK _ _ (gb_rr W _) rfl)
            | 10, hin, ho, hu, hK =>
              cases ho
              have e32 : A.eval (.tmp 32) = .pointer (some ⟨g, 0, none⟩) := (ev_in hA 32 9 rfl rfl rfl).trans (show f 9 = .pointer (some ⟨g, 0, none⟩) from hu 9 (by decide))
              exact ph_field _ _ _ rfl rfl _ (.pointer (some ⟨g, 7, none⟩)) e32 (by kernel_rfl) (hK _ _ (gb_rr W _) rfl)
            | i + 11, hin, ho, hu, hK => omega
          case last =>
            intro f W A hA hg hu o ho K hK
            cases ho
            have e31 : A.eval (.tmp 31) = .int .u32 V := (ev_in hA 31 8 rfl rfl rfl).trans (show f 8 = .int .u32 V from hu 8 (by decide))
            have e33 : A.eval (.tmp 33) = .pointer (some ⟨g, 7, none⟩) := (ev_in hA 33 10 rfl rfl rfl).trans (show f 10 = .pointer (some ⟨g, 7, none⟩) from hu 10 (by decide))
            have hc : W.cell? ⟨g, 7, none⟩ = some (.int .u32 (Cr.W t)) := HK7.out W hg
            have hf : W.frozen? ⟨g, 7, none⟩ = false := HF7.out W hg
            refine ph_sem rfl rfl (r := .ok .skip (W.setCell ⟨g, 7, none⟩ (.int .u32 V))) ?_ (hK _ _ ?_)
            · have eC : ∀ c, A.eval (.const c) = c := fun _ => rfl
              generalize A.eval = ρ at *
              clear hA hu hg hK
              go_simp
            have A4 : Hid _ := HST.out W hg
            clear hg e31 e33 hc hf
            have hA2 := hA.trans (putAll_lit [(.pointer (some ⟨g, 0, none⟩)), (.pointer (some ⟨g, 0, none⟩)), (.pointer (some ⟨g, 0, none⟩)), (.pointer (some ⟨g, 7, none⟩)), (.int .u32 (Cr.W t)), (.slice a m c), (.int .i64 (k : Int)), (.slice a k c), (.int .u32 V), (.pointer (some ⟨g, 0, none⟩)), (.pointer (some ⟨g, 7, none⟩)), (f 11)] (by
              intro j hj
              match j, hj with
              | 0, _ => exact hu 0 (by decide)
              | 1, _ => exact hu 1 (by decide)
              | 2, _ => exact hu 2 (by decide)
              | 3, _ => exact hu 3 (by decide)
              | 4, _ => exact hu 4 (by decide)
              | 5, _ => exact hu 5 (by decide)
              | 6, _ => exact hu 6 (by decide)
              | 7, _ => exact hu 7 (by decide)
              | 8, _ => exact hu 8 (by decide)
              | 9, _ => exact hu 9 (by decide)
              | 10, _ => exact hu 10 (by decide)
              | 11, _ => rfl
              | j + 12, hj => exact absurd hj (by simp)))
            clear hu hA
            subst hA2
            simp only [putAll, putL, List.mem_cons, List.not_mem_nil, List.idxOf_cons, Nat.reduceEqDiff, Nat.reduceBEq, Nat.reduceAdd, or_false, or_true, reduceIte, cond_true, cond_false, List.getD_cons_zero, List.getD_cons_succ, BEq.rfl]
            generalize W.setCell ⟨g, 7, none⟩ (.int .u32 V) = y1 at A4 ⊢
            go_wp2_with fail
            have A5 : Hid (WalkA ys X o g w (.returned (.slice (cutI a c k) (m - k) (c - k))) y1) := ⟨A4.out.1, 3, p + k, seq, n, D ++ E, { o2 with sum := V }, A4.out.2.1, A4.out.2.2.1, by rw [← HAPP.out, ← HEND.out.2.1]; exact q1, HEND.out.2.2.2.2.2.2.1, HEND.out.2.2.2.2.2.2.2, .inl ⟨_, _, _, rfl, A4.out.2.2.2.1, HEND.out.2.2.1, HEND.out.2.2.2.1, HEND.out.2.2.2.2.2.1, by rw [← HAPP.out, ← HEND.out.2.1]; exact q2, t5, q3, by rw [← HAPP.out]; exact q4, by rw [← HAPP.out]; exact tah, q5, q6, by rw [← HEND.out.2.1]; exact q7, HEND.out.1⟩⟩
            go_roundw
            case rel => exact .inr ⟨_, _, _, rfl, rfl, A5⟩
            case measure => show 0 < 7 - pAt wr g; rw [HPA.out]; decide
        · exact ⟨rfl, gb_trans HI.out.1.gb t0, 3, p', seq, n, D ++ E, o2, t3, t4 _ _ HB.out.2.1 HI.out.1.gb.size HI.out.1.tol (fun e => (HI.out.1.nd3 (by omega)).1), by rw [← List.append_assoc]; exact q1, t7.trans HI.out.1.sz, t8.trans HI.out.1.en, .inr ⟨e, rfl, by rw [← List.append_assoc]; exact q2, q3, q4⟩⟩
      · have HTK : Hid (Calls Tryd.prog 126 #[.pointer (some ⟨g, 0, none⟩), .slice a m c] wr fun r w' => TakeA ys 4 p seq n (X ++ D) o' g wr r w') := by
          have z := HI.out.1
          exact tk4 g o' a m c ys p seq n (X ++ D) wr z.ob z.ow z.sm z.pre z.seg HB.out.1
        have k4 : wr.cell? ⟨g, 4, none⟩ = some (.int .i64 4) := k4'
        have kt : wr.cell? ⟨T, 4, none⟩ = some (.func (.func 126) #[] #[]) := Bk.cell HI.out.2.2 4
        clear k4'
        go_wp2_with fail
        refine (Calls.mono HTK.out ?_)
        clear HTK k4 kt
        rintro r x1 ⟨t0, E, o2, p', t1, t3, t4, t5, tah, t6, t7, t8, t9, (⟨seq', n', rfl, q1, q2, q3, q4, q5, q6, q7⟩ | ⟨rfl, q1, q2, q3, q4, q5, q6, q7⟩ | ⟨e, rfl, q1, q2, q3, q4⟩)⟩
        · obtain ⟨k, hk⟩ : ∃ k, k = p' - p := ⟨_, rfl⟩
          rw [← hk]
          have hpk : p' = p + k := by omega
          have HT2 : Hid (WT ys X o g w x1 a m c 4 p k seq n (D ++ E) o2) := ⟨gb_trans HI.out.1.gb t0, t3, t4 _ _ HB.out.2.1 HI.out.1.gb.size HI.out.1.tol (fun e => (HI.out.1.nd3 (by omega)).1), t7.trans HI.out.1.sz, t8.trans HI.out.1.en, t6.trans HI.out.1.sm, seg_gG HI.out.1.seg t0 HI.out.1.ag, HI.out.1.nz, HI.out.1.mc, HI.out.1.ml, HI.out.1.ag, by have z1 := HI.out.1.seg.1; have z2 := q1.le; rw [List.length_drop] at z1; omega, tab_g HI.out.2.1 HI.out.1.ob t0, HB.out.2.1⟩
          have HTP : Hid (Bk 164 x1 T ptab) := HI.out.2.2.grew t0 (fun e => by have := Option.some.inj e; have := HB.out.2.1; have := HTN.out; omega)
          obtain ⟨t, htt⟩ : ∃ t, t = Cr.sum (ys.take p) := ⟨_, rfl⟩
          obtain ⟨V, hV⟩ : ∃ V, V = Cr.W (Cr.sum (ys.take (p + k))) := ⟨_, rfl⟩
          have hkm : k ≤ m := HT2.out.km
          have HSL : Hid (∀ W, (Instr.slice 27 (.slice a m c) none (some (.int .i64 (k : Int))) none).run Tryd.prog W = .ok (.slice a k c) W) := slice_hI a m c k k rfl (Nat.le_trans hkm HT2.out.mc)
          have hs2 : ∀ W, (Instr.slice 27 (.slice a m c) (some (.int .i64 (k : Int))) none none).run Tryd.prog W = .ok (.slice (cutI a c k) (m - k) (c - k)) W := sliceL a m c k k rfl hkm
          have HK7 : Hid (∀ W, x1.grownBy W none → W.cell? ⟨g, 7, none⟩ = some (.int .u32 (Cr.W t))) := fun W hg => by rw [htt, ← HT2.out.sm]; exact Bk.cell (opb_gb HT2.out.ob hg) 7
          have HF7 : Hid (∀ W, x1.grownBy W none → W.frozen? ⟨g, 7, none⟩ = false) := fun W hg => frozen_of_row W g 7 _ _ (opb_gb HT2.out.ob hg)
          have HMO : Hid (∀ W, x1.grownBy W none → Calls Tryd.prog 76 #[.int .u32 (Cr.W t), .slice a k c] W fun r w' => r = .returned (.int .u32 V) ∧ w' = W) := fun W hg => by
            rw [hV, ← sum_moreI ys p k, htt]
            exact Cr.more_c _ a k c _ W ((seg_takeO HT2.out.seg k hkm).grew hg (by simp)) (bytes_takeO (bytes_drop HB.out.1 p) k) (tab_n HT2.out.tab hg) (by have := HT2.out.ml; omega)
          have HST : Hid (∀ W, x1.grownBy W none → w.grownBy (W.setCell ⟨g, 7, none⟩ (.int .u32 V)) (some g) ∧ OpB (W.setCell ⟨g, 7, none⟩ (.int .u32 V)) g { o2 with sum := V } ∧ Tol w.heap.size (W.setCell ⟨g, 7, none⟩ (.int .u32 V)) { o2 with sum := V } (D ++ E) ∧ Seg .u8 (W.setCell ⟨g, 7, none⟩ (.int .u32 V)) (cutI a c k) (m - k) (ys.drop (p + k)) ∧ Cr.Tab (W.setCell ⟨g, 7, none⟩ (.int .u32 V)) ∧ Bk 164 (W.setCell ⟨g, 7, none⟩ (.int .u32 V)) T ptab) := fun W hg => by
            rw [hV]
            have z := HT2.out.set hg
            exact ⟨z.1, z.2.1, z.2.2.1, z.2.2.2.1, z.2.2.2.2, (HTP.out.grew hg (by simp)).grew (grownBy_cell W g 7 _) (fun e => by have := Option.some.inj e; have := HB.out.2.1; have := HTN.out; omega)⟩
          have HEND : Hid (V = Cr.W (Cr.sum (ys.take (p + k))) ∧ p' = p + k ∧ (cutI a c k = none → c - k = 0) ∧ m - k ≤ c - k ∧ m - k ≤ 70368744177664 ∧ (∀ b o s, cutI a c k = some ⟨b, o, s⟩ → b ≠ g) ∧ o2.size = o.size ∧ o2.ended = o.ended) := ⟨hV, hpk, fun z => by have := HT2.out.nz (cutI_none z); omega, by have := HT2.out.mc; omega, by have := HT2.out.ml; omega, fun b o s hb => by obtain ⟨o3, s3, e⟩ := cutI_blk hb; exact HT2.out.ag b o3 s3 e, HT2.out.sz, HT2.out.en⟩
          have HAPP : Hid ((X ++ D) ++ E = X ++ (D ++ E)) := List.append_assoc _ _ _
          clear htt hV t0 t1 t3 t4 t6 t7 t8 hk
          go_wp2_with fail
          refine wp_region_lastR (fun a b => World.grownBy a b none) (fun _ _ _ h k => gb_trans h k) ⟨rfl, rfl, rfl, Nat.le_refl _, fun _ _ _ => rfl⟩ 11 rfl (by kernel_rfl) [23, 24, 25, 26, 27, 28, 29, 30, 31, 32, 33, 100011] [[], [], [1], [2], [3], [], [], [5, 6], [4, 7], [0], [9], [10, 8]] (by kernel_rfl) (by kernel_rfl) [fun u W => u = .pointer (some ⟨g, 0, none⟩), fun u W => u = .pointer (some ⟨g, 0, none⟩), fun u W => u = .pointer (some ⟨g, 0, none⟩), fun u W => u = .pointer (some ⟨g, 7, none⟩), fun u W => u = .int .u32 (Cr.W t), fun u W => u = .slice a m c, fun u W => u = .int .i64 (k : Int), fun u W => u = .slice a k c, fun u W => u = .int .u32 V, fun u W => u = .pointer (some ⟨g, 0, none⟩), fun u W => u = .pointer (some ⟨g, 7, none⟩)] ?stable ?step ?last
          case stable =>
            intro i v W W' h hg
            match i, h with
            | 0, h => exact h
            | 1, h => exact h
            | 2, h => exact h
            | 3, h => exact h
            | 4, h => exact h
            | 5, h => exact h
            | 6, h => exact h
            | 7, h => exact h
            | 8, h => exact h
            | 9, h => exact h
            | 10, h => exact h
            | i + 11, h => exact trivial
          case step =>
            intro f W A hA hg i o hin ho hu K hK
            match i, hin, ho, hu, hK with
            | 0, hin, ho, hu, hK =>
              cases ho
              have e0 : A.eval (.tmp 0) = .pointer (some ⟨g, 0, none⟩) := ev_out hA 0 rfl
              exact ph_move _ rfl rfl (.pointer (some ⟨g, 0, none⟩)) e0 (hK _ _ (gb_rr W _) rfl)
            | 1, hin, ho, hu, hK =>
              cases ho
              have e0 : A.eval (.tmp 0) = .pointer (some ⟨g, 0, none⟩) := ev_out hA 0 rfl
              exact ph_move _ rfl rfl (.pointer (some ⟨g, 0, none⟩)) e0 (hK _ _ (gb_rr W _) rfl)
            | 2, hin, ho, hu, hK =>
              cases ho
              have e24 : A.eval (.tmp 24) = .pointer (some ⟨g, 0, none⟩) := (ev_in hA 24 1 rfl rfl rfl).trans (show f 1 = .pointer (some ⟨g, 0, none⟩) from hu 1 (by decide))
              exact ph_nil _ rfl rfl _ e24 (hK _ _ (gb_rr W _) rfl)
            | 3, hin, ho, hu, hK =>
              cases ho
              have e25 : A.eval (.tmp 25) = .pointer (some ⟨g, 0, none⟩) := (ev_in hA 25 2 rfl rfl rfl).trans (show f 2 = .pointer (some ⟨g, 0, none⟩) from hu 2 (by decide))
              exact ph_field _ _ _ rfl rfl _ (.pointer (some ⟨g, 7, none⟩)) e25 (by kernel_rfl) (hK _ _ (gb_rr W _) rfl)
            | 4, hin, ho, hu, hK =>
              cases ho
              have e26 : A.eval (.tmp 26) = .pointer (some ⟨g, 7, none⟩) := (ev_in hA 26 3 rfl rfl rfl).trans (show f 3 = .pointer (some ⟨g, 7, none⟩) from hu 3 (by decide))
              have hc : W.cell? ⟨g, 7, none⟩ = some (.int .u32 (Cr.W t)) := HK7.out W hg
              refine ph_sem rfl rfl (r := .ok (.value (.int .u32 (Cr.W t))) W) ?_ (hK _ _ (gb_rr W _) rfl)
              have eC : ∀ c, A.eval (.const c) = c := fun _ => rfl; have eF : ∀ g, A.eval (.func g) = .func (.func g) #[] #[] := fun _ => rfl; generalize A.eval = ρ at *
              clear hA hu hg
              go_simp
            | 5, hin, ho, hu, hK =>
              cases ho
              have e1 : A.eval (.tmp 1) = .slice a m c := ev_out hA 1 rfl
              exact ph_move _ rfl rfl (.slice a m c) e1 (hK _ _ (gb_rr W _) rfl)
            | 6, hin, ho, hu, hK =>
              cases ho
              have e7 : A.eval (.tmp 7) = .int .i64 (k : Int) := ev_out hA 7 rfl
              exact ph_move _ rfl rfl (.int .i64 (k : Int)) e7 (hK _ _ (gb_rr W _) rfl)
            | 7, hin, ho, hu, hK =>
              cases ho
              have e28 : A.eval (.tmp 28) = .slice a m c := (ev_in hA 28 5 rfl rfl rfl).trans (show f 5 = .slice a m c from hu 5 (by decide))
              have e29 : A.eval (.tmp 29) = .int .i64 (k : Int) := (ev_in hA 29 6 rfl rfl rfl).trans (show f 6 = .int .i64 (k : Int) from hu 6 (by decide))
              have hsl := HSL.out W
              refine ph_sem rfl rfl (r := .ok (.value (.slice a k c)) W) ?_ (hK _ _ (gb_rr W _) rfl)
              have eC : ∀ c, A.eval (.const c) = c := fun _ => rfl; have eF : ∀ g, A.eval (.func g) = .func (.func g) #[] #[] := fun _ => rfl; generalize A.eval = ρ at *
              clear hA hu hg hK
              go_simp
            | 8, hin, ho, hu, hK =>
              cases ho
              have e27 : A.eval (.tmp 27) = .int .u32 (Cr.W t) := (ev_in hA 27 4 rfl rfl rfl).trans (show f 4 = .int .u32 (Cr.W t) from hu 4 (by decide))
              have e30 : A.eval (.tmp 30) = .slice a k c := (ev_in hA 30 7 rfl rfl rfl).trans (show f 7 = .slice a k c from hu 7 (by decide))
              refine ph_fn 76 _ _ rfl rfl #[.int .u32 (Cr.W t), .slice a k c] (by simp [e27, e30]) (by kernel_rfl) ?_
              refine (Calls.mono (HMO.out W hg) ?_)
              rintro e W' ⟨rfl, hq⟩
              obtain rfl := hq.symm
              exact ⟨_, rfl, hK _ _ (gb_rr W _) rfl⟩
            | 9, hin, ho, hu, hK =>
              cases ho
              have e23 : A.eval (.tmp 23) = .pointer (some ⟨g, 0, none⟩) := (ev_in hA 23 0 rfl rfl rfl).trans (show f 0 = .pointer (some ⟨g, 0, none⟩) from hu 0 (by decide))
              exact ph_nil _ rfl rfl _ e23 (hK _ _ (gb_rr W _) rfl)
            | 10, hin, ho, hu, hK =>
              cases ho
              have e32 : A.eval (.tmp 32) = .pointer (some ⟨g, 0, none⟩) := (ev_in hA 32 9 rfl rfl rfl).trans (show f 9 = .pointer (some ⟨g, 0, none⟩) from hu 9 (by decide))
              exact ph_field _ _ _ rfl rfl _ (.pointer (some ⟨g, 7, none⟩)) e32 (by kernel_rfl) (hK _ _ (gb_rr W _) rfl)
            | i + 11, hin, ho, hu, hK => omega
          case last =>
            intro f W A hA hg hu o ho K hK
            cases ho
            have e31 : A.eval (.tmp 31) = .int .u32 V := (ev_in hA 31 8 rfl rfl rfl).trans (show f 8 = .int .u32 V from hu 8 (by decide))
            have e33 : A.eval (.tmp 33) = .pointer (some ⟨g, 7, none⟩) := (ev_in hA 33 10 rfl rfl rfl).trans (show f 10 = .pointer (some ⟨g, 7, none⟩) from hu 10 (by decide))
            have hc : W.cell? ⟨g, 7, none⟩ = some (.int .u32 (Cr.W t)) := HK7.out W hg
            have hf : W.frozen? ⟨g, 7, none⟩ = false := HF7.out W hg
            refine ph_sem rfl rfl (r := .ok .skip (W.setCell ⟨g, 7, none⟩ (.int .u32 V))) ?_ (hK _ _ ?_)
            · have eC : ∀ c, A.eval (.const c) = c := fun _ => rfl
              generalize A.eval = ρ at *
              clear hA hu hg hK
              go_simp
            have A4 : Hid _ := HST.out W hg
            clear hg e31 e33 hc hf
            have hA2 := hA.trans (putAll_lit [(.pointer (some ⟨g, 0, none⟩)), (.pointer (some ⟨g, 0, none⟩)), (.pointer (some ⟨g, 0, none⟩)), (.pointer (some ⟨g, 7, none⟩)), (.int .u32 (Cr.W t)), (.slice a m c), (.int .i64 (k : Int)), (.slice a k c), (.int .u32 V), (.pointer (some ⟨g, 0, none⟩)), (.pointer (some ⟨g, 7, none⟩)), (f 11)] (by
              intro j hj
              match j, hj with
              | 0, _ => exact hu 0 (by decide)
              | 1, _ => exact hu 1 (by decide)
              | 2, _ => exact hu 2 (by decide)
              | 3, _ => exact hu 3 (by decide)
              | 4, _ => exact hu 4 (by decide)
              | 5, _ => exact hu 5 (by decide)
              | 6, _ => exact hu 6 (by decide)
              | 7, _ => exact hu 7 (by decide)
              | 8, _ => exact hu 8 (by decide)
              | 9, _ => exact hu 9 (by decide)
              | 10, _ => exact hu 10 (by decide)
              | 11, _ => rfl
              | j + 12, hj => exact absurd hj (by simp)))
            clear hu hA
            subst hA2
            simp only [putAll, putL, List.mem_cons, List.not_mem_nil, List.idxOf_cons, Nat.reduceEqDiff, Nat.reduceBEq, Nat.reduceAdd, or_false, or_true, reduceIte, cond_true, cond_false, List.getD_cons_zero, List.getD_cons_succ, BEq.rfl]
            have c4 : (W.setCell ⟨g, 7, none⟩ (.int .u32 V)).cell? ⟨g, 4, none⟩ = some (.int .i64 4) := by have z := Bk.cell A4.out.2.1 4; rw [z]; exact congrArg (fun v => some (Value.int .i64 v)) t5
            have f4 : (W.setCell ⟨g, 7, none⟩ (.int .u32 V)).frozen? ⟨g, 4, none⟩ = false := frozen_of_row _ g 4 _ _ A4.out.2.1
            generalize W.setCell ⟨g, 7, none⟩ (.int .u32 V) = y1 at A4 c4 f4 ⊢
            go_wp2_with fail
            have A5 : Hid (WG ys X o g w (y1.setCell ⟨g, 4, none⟩ (.int .i64 5)) (cutI a c k) (m - k) (c - k) 5 (p + k) seq' n' (D ++ E) { o2 with sum := V, part := 5 } ∧ Cr.Tab (y1.setCell ⟨g, 4, none⟩ (.int .i64 5)) ∧ Bk 164 (y1.setCell ⟨g, 4, none⟩ (.int .i64 5)) T ptab) := by
              have hc := grownBy_cell y1 g 4 (.int .i64 5)
              refine ⟨⟨gb_trans A4.out.1 hc, Bk.setO A4.out.2.1 4 _, A4.out.2.2.1.grew hc HB.out.2.1 rfl rfl rfl, by rw [← HAPP.out, ← HEND.out.2.1]; exact q1, ⟨rfl, q2, by rw [← HAPP.out]; exact q3, by rw [← HAPP.out]; exact tah, q4, q5, q6⟩, fun z => by omega, HEND.out.2.2.2.2.2.2.1, HEND.out.2.2.2.2.2.2.2, HEND.out.1, seg_gG A4.out.2.2.2.1 hc HEND.out.2.2.2.2.2.1, HEND.out.2.2.1, HEND.out.2.2.2.1, HEND.out.2.2.2.2.1, HEND.out.2.2.2.2.2.1⟩, tab_g A4.out.2.2.2.2.1 A4.out.2.1 hc, A4.out.2.2.2.2.2.grew hc (fun e => by have := Option.some.inj e; have := HB.out.2.1; have := HTN.out; omega)⟩
            go_roundw
            case rel => exact .inl ⟨_, _, _, _, _, _, _, _, _, rfl, rfl, A5⟩
            case measure => show 7 - pAt _ g < 7 - pAt wr g; rw [pAt_is A5.out.1.ob, HPA.out]; show 7 - (5 : Int).toNat < 7 - 4; decide
        · obtain ⟨k, hk⟩ : ∃ k, k = p' - p := ⟨_, rfl⟩
          rw [← hk]
          have hpk : p' = p + k := by omega
          have HT2 : Hid (WT ys X o g w x1 a m c 4 p k seq n (D ++ E) o2) := ⟨gb_trans HI.out.1.gb t0, t3, t4 _ _ HB.out.2.1 HI.out.1.gb.size HI.out.1.tol (fun e => (HI.out.1.nd3 (by omega)).1), t7.trans HI.out.1.sz, t8.trans HI.out.1.en, t6.trans HI.out.1.sm, seg_gG HI.out.1.seg t0 HI.out.1.ag, HI.out.1.nz, HI.out.1.mc, HI.out.1.ml, HI.out.1.ag, by have z1 := HI.out.1.seg.1; have z2 := q1.le; rw [List.length_drop] at z1; omega, tab_g HI.out.2.1 HI.out.1.ob t0, HB.out.2.1⟩
          have HTP : Hid (Bk 164 x1 T ptab) := HI.out.2.2.grew t0 (fun e => by have := Option.some.inj e; have := HB.out.2.1; have := HTN.out; omega)
          obtain ⟨t, htt⟩ : ∃ t, t = Cr.sum (ys.take p) := ⟨_, rfl⟩
          obtain ⟨V, hV⟩ : ∃ V, V = Cr.W (Cr.sum (ys.take (p + k))) := ⟨_, rfl⟩
          have hkm : k ≤ m := HT2.out.km
          have HSL : Hid (∀ W, (Instr.slice 27 (.slice a m c) none (some (.int .i64 (k : Int))) none).run Tryd.prog W = .ok (.slice a k c) W) := slice_hI a m c k k rfl (Nat.le_trans hkm HT2.out.mc)
          have hs2 : ∀ W, (Instr.slice 27 (.slice a m c) (some (.int .i64 (k : Int))) none none).run Tryd.prog W = .ok (.slice (cutI a c k) (m - k) (c - k)) W := sliceL a m c k k rfl hkm
          have HK7 : Hid (∀ W, x1.grownBy W none → W.cell? ⟨g, 7, none⟩ = some (.int .u32 (Cr.W t))) := fun W hg => by rw [htt, ← HT2.out.sm]; exact Bk.cell (opb_gb HT2.out.ob hg) 7
          have HF7 : Hid (∀ W, x1.grownBy W none → W.frozen? ⟨g, 7, none⟩ = false) := fun W hg => frozen_of_row W g 7 _ _ (opb_gb HT2.out.ob hg)
          have HMO : Hid (∀ W, x1.grownBy W none → Calls Tryd.prog 76 #[.int .u32 (Cr.W t), .slice a k c] W fun r w' => r = .returned (.int .u32 V) ∧ w' = W) := fun W hg => by
            rw [hV, ← sum_moreI ys p k, htt]
            exact Cr.more_c _ a k c _ W ((seg_takeO HT2.out.seg k hkm).grew hg (by simp)) (bytes_takeO (bytes_drop HB.out.1 p) k) (tab_n HT2.out.tab hg) (by have := HT2.out.ml; omega)
          have HST : Hid (∀ W, x1.grownBy W none → w.grownBy (W.setCell ⟨g, 7, none⟩ (.int .u32 V)) (some g) ∧ OpB (W.setCell ⟨g, 7, none⟩ (.int .u32 V)) g { o2 with sum := V } ∧ Tol w.heap.size (W.setCell ⟨g, 7, none⟩ (.int .u32 V)) { o2 with sum := V } (D ++ E) ∧ Seg .u8 (W.setCell ⟨g, 7, none⟩ (.int .u32 V)) (cutI a c k) (m - k) (ys.drop (p + k)) ∧ Cr.Tab (W.setCell ⟨g, 7, none⟩ (.int .u32 V)) ∧ Bk 164 (W.setCell ⟨g, 7, none⟩ (.int .u32 V)) T ptab) := fun W hg => by
            rw [hV]
            have z := HT2.out.set hg
            exact ⟨z.1, z.2.1, z.2.2.1, z.2.2.2.1, z.2.2.2.2, (HTP.out.grew hg (by simp)).grew (grownBy_cell W g 7 _) (fun e => by have := Option.some.inj e; have := HB.out.2.1; have := HTN.out; omega)⟩
          have HEND : Hid (V = Cr.W (Cr.sum (ys.take (p + k))) ∧ p' = p + k ∧ (cutI a c k = none → c - k = 0) ∧ m - k ≤ c - k ∧ m - k ≤ 70368744177664 ∧ (∀ b o s, cutI a c k = some ⟨b, o, s⟩ → b ≠ g) ∧ o2.size = o.size ∧ o2.ended = o.ended) := ⟨hV, hpk, fun z => by have := HT2.out.nz (cutI_none z); omega, by have := HT2.out.mc; omega, by have := HT2.out.ml; omega, fun b o s hb => by obtain ⟨o3, s3, e⟩ := cutI_blk hb; exact HT2.out.ag b o3 s3 e, HT2.out.sz, HT2.out.en⟩
          have HAPP : Hid ((X ++ D) ++ E = X ++ (D ++ E)) := List.append_assoc _ _ _
          clear htt hV t0 t1 t3 t4 t6 t7 t8 hk
          go_wp2_with fail
          refine wp_region_lastR (fun a b => World.grownBy a b none) (fun _ _ _ h k => gb_trans h k) ⟨rfl, rfl, rfl, Nat.le_refl _, fun _ _ _ => rfl⟩ 11 rfl (by kernel_rfl) [23, 24, 25, 26, 27, 28, 29, 30, 31, 32, 33, 100011] [[], [], [1], [2], [3], [], [], [5, 6], [4, 7], [0], [9], [10, 8]] (by kernel_rfl) (by kernel_rfl) [fun u W => u = .pointer (some ⟨g, 0, none⟩), fun u W => u = .pointer (some ⟨g, 0, none⟩), fun u W => u = .pointer (some ⟨g, 0, none⟩), fun u W => u = .pointer (some ⟨g, 7, none⟩), fun u W => u = .int .u32 (Cr.W t), fun u W => u = .slice a m c, fun u W => u = .int .i64 (k : Int), fun u W => u = .slice a k c, fun u W => u = .int .u32 V, fun u W => u = .pointer (some ⟨g, 0, none⟩), fun u W => u = .pointer (some ⟨g, 7, none⟩)] ?stable ?step ?last
          case stable =>
            intro i v W W' h hg
            match i, h with
            | 0, h => exact h
            | 1, h => exact h
            | 2, h => exact h
            | 3, h => exact h
            | 4, h => exact h
            | 5, h => exact h
            | 6, h => exact h
            | 7, h => exact h
            | 8, h => exact h
            | 9, h => exact h
            | 10, h => exact h
            | i + 11, h => exact trivial
          case step =>
            intro f W A hA hg i o hin ho hu K hK
            match i, hin, ho, hu, hK with
            | 0, hin, ho, hu, hK =>
              cases ho
              have e0 : A.eval (.tmp 0) = .pointer (some ⟨g, 0, none⟩) := ev_out hA 0 rfl
              exact ph_move _ rfl rfl (.pointer (some ⟨g, 0, none⟩)) e0 (hK _ _ (gb_rr W _) rfl)
            | 1, hin, ho, hu, hK =>
              cases ho
              have e0 : A.eval (.tmp 0) = .pointer (some ⟨g, 0, none⟩) := ev_out hA 0 rfl
              exact ph_move _ rfl rfl (.pointer (some ⟨g, 0, none⟩)) e0 (hK _ _ (gb_rr W _) rfl)
            | 2, hin, ho, hu, hK =>
              cases ho
              have e24 : A.eval (.tmp 24) = .pointer (some ⟨g, 0, none⟩) := (ev_in hA 24 1 rfl rfl rfl).trans (show f 1 = .pointer (some ⟨g, 0, none⟩) from hu 1 (by decide))
              exact ph_nil _ rfl rfl _ e24 (hK _ _ (gb_rr W _) rfl)
            | 3, hin, ho, hu, hK =>
              cases ho
              have e25 : A.eval (.tmp 25) = .pointer (some ⟨g, 0, none⟩) := (ev_in hA 25 2 rfl rfl rfl).trans (show f 2 = .pointer (some ⟨g, 0, none⟩) from hu 2 (by decide))
              exact ph_field _ _ _ rfl rfl _ (.pointer (some ⟨g, 7, none⟩)) e25 (by kernel_rfl) (hK _ _ (gb_rr W _) rfl)
            | 4, hin, ho, hu, hK =>
              cases ho
              have e26 : A.eval (.tmp 26) = .pointer (some ⟨g, 7, none⟩) := (ev_in hA 26 3 rfl rfl rfl).trans (show f 3 = .pointer (some ⟨g, 7, none⟩) from hu 3 (by decide))
              have hc : W.cell? ⟨g, 7, none⟩ = some (.int .u32 (Cr.W t)) := HK7.out W hg
              refine ph_sem rfl rfl (r := .ok (.value (.int .u32 (Cr.W t))) W) ?_ (hK _ _ (gb_rr W _) rfl)
              have eC : ∀ c, A.eval (.const c) = c := fun _ => rfl; have eF : ∀ g, A.eval (.func g) = .func (.func g) #[] #[] := fun _ => rfl; generalize A.eval = ρ at *
              clear hA hu hg
              go_simp
            | 5, hin, ho, hu, hK =>
              cases ho
              have e1 : A.eval (.tmp 1) = .slice a m c := ev_out hA 1 rfl
              exact ph_move _ rfl rfl (.slice a m c) e1 (hK _ _ (gb_rr W _) rfl)
            | 6, hin, ho, hu, hK =>
              cases ho
              have e7 : A.eval (.tmp 7) = .int .i64 (k : Int) := ev_out hA 7 rfl
              exact ph_move _ rfl rfl (.int .i64 (k : Int)) e7 (hK _ _ (gb_rr W _) rfl)
            | 7, hin, ho, hu, hK =>
              cases ho
              have e28 : A.eval (.tmp 28) = .slice a m c := (ev_in hA 28 5 rfl rfl rfl).trans (show f 5 = .slice a m c from hu 5 (by decide))
              have e29 : A.eval (.tmp 29) = .int .i64 (k : Int) := (ev_in hA 29 6 rfl rfl rfl).trans (show f 6 = .int .i64 (k : Int) from hu 6 (by decide))
              have hsl := HSL.out W
              refine ph_sem rfl rfl (r := .ok (.value (.slice a k c)) W) ?_ (hK _ _ (gb_rr W _) rfl)
              have eC : ∀ c, A.eval (.const c) = c := fun _ => rfl; have eF : ∀ g, A.eval (.func g) = .func (.func g) #[] #[] := fun _ => rfl; generalize A.eval = ρ at *
              clear hA hu hg hK
              go_simp
            | 8, hin, ho, hu, hK =>
              cases ho
              have e27 : A.eval (.tmp 27) = .int .u32 (Cr.W t) := (ev_in hA 27 4 rfl rfl rfl).trans (show f 4 = .int .u32 (Cr.W t) from hu 4 (by decide))
              have e30 : A.eval (.tmp 30) = .slice a k c := (ev_in hA 30 7 rfl rfl rfl).trans (show f 7 = .slice a k c from hu 7 (by decide))
              refine ph_fn 76 _ _ rfl rfl #[.int .u32 (Cr.W t), .slice a k c] (by simp [e27, e30]) (by kernel_rfl) ?_
              refine (Calls.mono (HMO.out W hg) ?_)
              rintro e W' ⟨rfl, hq⟩
              obtain rfl := hq.symm
              exact ⟨_, rfl, hK _ _ (gb_rr W _) rfl⟩
            | 9, hin, ho, hu, hK =>
              cases ho
              have e23 : A.eval (.tmp 23) = .pointer (some ⟨g, 0, none⟩) := (ev_in hA 23 0 rfl rfl rfl).trans (show f 0 = .pointer (some ⟨g, 0, none⟩) from hu 0 (by decide))
              exact ph_nil _ rfl rfl _ e23 (hK _ _ (gb_rr W _) rfl)
            | 10, hin, ho, hu, hK =>
              cases ho
              have e32 : A.eval (.tmp 32) = .pointer (some ⟨g, 0, none⟩) := (ev_in hA 32 9 rfl rfl rfl).trans (show f 9 = .pointer (some ⟨g, 0, none⟩) from hu 9 (by decide))
              exact ph_field _ _ _ rfl rfl _ (.pointer (some ⟨g, 7, none⟩)) e32 (by kernel_rfl) (hK _ _ (gb_rr W _) rfl)
            | i + 11, hin, ho, hu, hK => omega
          case last =>
            intro f W A hA hg hu o ho K hK
            cases ho
            have e31 : A.eval (.tmp 31) = .int .u32 V := (ev_in hA 31 8 rfl rfl rfl).trans (show f 8 = .int .u32 V from hu 8 (by decide))
            have e33 : A.eval (.tmp 33) = .pointer (some ⟨g, 7, none⟩) := (ev_in hA 33 10 rfl rfl rfl).trans (show f 10 = .pointer (some ⟨g, 7, none⟩) from hu 10 (by decide))
            have hc : W.cell? ⟨g, 7, none⟩ = some (.int .u32 (Cr.W t)) := HK7.out W hg
            have hf : W.frozen? ⟨g, 7, none⟩ = false := HF7.out W hg
            refine ph_sem rfl rfl (r := .ok .skip (W.setCell ⟨g, 7, none⟩ (.int .u32 V))) ?_ (hK _ _ ?_)
            · have eC : ∀ c, A.eval (.const c) = c := fun _ => rfl
              generalize A.eval = ρ at *
              clear hA hu hg hK
              go_simp
            have A4 : Hid _ := HST.out W hg
            clear hg e31 e33 hc hf
            have hA2 := hA.trans (putAll_lit [(.pointer (some ⟨g, 0, none⟩)), (.pointer (some ⟨g, 0, none⟩)), (.pointer (some ⟨g, 0, none⟩)), (.pointer (some ⟨g, 7, none⟩)), (.int .u32 (Cr.W t)), (.slice a m c), (.int .i64 (k : Int)), (.slice a k c), (.int .u32 V), (.pointer (some ⟨g, 0, none⟩)), (.pointer (some ⟨g, 7, none⟩)), (f 11)] (by
              intro j hj
              match j, hj with
              | 0, _ => exact hu 0 (by decide)
              | 1, _ => exact hu 1 (by decide)
              | 2, _ => exact hu 2 (by decide)
              | 3, _ => exact hu 3 (by decide)
              | 4, _ => exact hu 4 (by decide)
              | 5, _ => exact hu 5 (by decide)
              | 6, _ => exact hu 6 (by decide)
              | 7, _ => exact hu 7 (by decide)
              | 8, _ => exact hu 8 (by decide)
              | 9, _ => exact hu 9 (by decide)
              | 10, _ => exact hu 10 (by decide)
              | 11, _ => rfl
              | j + 12, hj => exact absurd hj (by simp)))
            clear hu hA
            subst hA2
            simp only [putAll, putL, List.mem_cons, List.not_mem_nil, List.idxOf_cons, Nat.reduceEqDiff, Nat.reduceBEq, Nat.reduceAdd, or_false, or_true, reduceIte, cond_true, cond_false, List.getD_cons_zero, List.getD_cons_succ, BEq.rfl]
            generalize W.setCell ⟨g, 7, none⟩ (.int .u32 V) = y1 at A4 ⊢
            go_wp2_with fail
            have A5 : Hid (WalkA ys X o g w (.returned (.slice (cutI a c k) (m - k) (c - k))) y1) := ⟨A4.out.1, 4, p + k, seq, n, D ++ E, { o2 with sum := V }, A4.out.2.1, A4.out.2.2.1, by rw [← HAPP.out, ← HEND.out.2.1]; exact q1, HEND.out.2.2.2.2.2.2.1, HEND.out.2.2.2.2.2.2.2, .inl ⟨_, _, _, rfl, A4.out.2.2.2.1, HEND.out.2.2.1, HEND.out.2.2.2.1, HEND.out.2.2.2.2.2.1, by rw [← HAPP.out, ← HEND.out.2.1]; exact q2, t5, q3, by rw [← HAPP.out]; exact q4, by rw [← HAPP.out]; exact tah, q5, q6, by rw [← HEND.out.2.1]; exact q7, HEND.out.1⟩⟩
            go_roundw
            case rel => exact .inr ⟨_, _, _, rfl, rfl, A5⟩
            case measure => show 0 < 7 - pAt wr g; rw [HPA.out]; decide
        · exact ⟨rfl, gb_trans HI.out.1.gb t0, 4, p', seq, n, D ++ E, o2, t3, t4 _ _ HB.out.2.1 HI.out.1.gb.size HI.out.1.tol (fun e => (HI.out.1.nd3 (by omega)).1), by rw [← List.append_assoc]; exact q1, t7.trans HI.out.1.sz, t8.trans HI.out.1.en, .inr ⟨e, rfl, by rw [← List.append_assoc]; exact q2, q3, q4⟩⟩
      · have HTK : Hid (Calls Tryd.prog 127 #[.pointer (some ⟨g, 0, none⟩), .slice a m c] wr fun r w' => TakeA ys 5 p seq n (X ++ D) o' g wr r w') := by
          have z := HI.out.1
          exact tk5 g o' a m c ys p seq n (X ++ D) wr z.ob z.ow z.pre z.seg
        have k4 : wr.cell? ⟨g, 4, none⟩ = some (.int .i64 5) := k4'
        have kt : wr.cell? ⟨T, 5, none⟩ = some (.func (.func 127) #[] #[]) := Bk.cell HI.out.2.2 5
        clear k4'
        go_wp2_with fail
        refine (Calls.mono HTK.out ?_)
        clear HTK k4 kt
        rintro r x1 ⟨t0, E, o2, p', t1, t3, t4, t5, tah, t6, t7, t8, t9, (⟨seq', n', rfl, q1, q2, q3, q4, q5, q6, q7⟩ | ⟨rfl, q1, q2, q3, q4, q5, q6, q7⟩ | ⟨e, rfl, q1, q2, q3, q4⟩)⟩
        · exact absurd q7 (by decide)
        · obtain ⟨k, hk⟩ : ∃ k, k = p' - p := ⟨_, rfl⟩
          rw [← hk]
          have hpk : p' = p + k := by omega
          have HT2 : Hid (WT ys X o g w x1 a m c 5 p k seq n (D ++ E) o2) := ⟨gb_trans HI.out.1.gb t0, t3, t4 _ _ HB.out.2.1 HI.out.1.gb.size HI.out.1.tol (fun e => (HI.out.1.nd3 (by omega)).1), t7.trans HI.out.1.sz, t8.trans HI.out.1.en, t6.trans HI.out.1.sm, seg_gG HI.out.1.seg t0 HI.out.1.ag, HI.out.1.nz, HI.out.1.mc, HI.out.1.ml, HI.out.1.ag, by have z1 := HI.out.1.seg.1; have z2 := q1.le; rw [List.length_drop] at z1; omega, tab_g HI.out.2.1 HI.out.1.ob t0, HB.out.2.1⟩
          have HTP : Hid (Bk 164 x1 T ptab) := HI.out.2.2.grew t0 (fun e => by have := Option.some.inj e; have := HB.out.2.1; have := HTN.out; omega)
          obtain ⟨t, htt⟩ : ∃ t, t = Cr.sum (ys.take p) := ⟨_, rfl⟩
          obtain ⟨V, hV⟩ : ∃ V, V = Cr.W (Cr.sum (ys.take (p + k))) := ⟨_, rfl⟩
          have hkm : k ≤ m := HT2.out.km
          have HSL : Hid (∀ W, (Instr.slice 27 (.slice a m c) none (some (.int .i64 (k : Int))) none).run Tryd.prog W = .ok (.slice a k c) W) := slice_hI a m c k k rfl (Nat.le_trans hkm HT2.out.mc)
          have hs2 : ∀ W, (Instr.slice 27 (.slice a m c) (some (.int .i64 (k : Int))) none none).run Tryd.prog W = .ok (.slice (cutI a c k) (m - k) (c - k)) W := sliceL a m c k k rfl hkm
          have HK7 : Hid (∀ W, x1.grownBy W none → W.cell? ⟨g, 7, none⟩ = some (.int .u32 (Cr.W t))) := fun W hg => by rw [htt, ← HT2.out.sm]; exact Bk.cell (opb_gb HT2.out.ob hg) 7
          have HF7 : Hid (∀ W, x1.grownBy W none → W.frozen? ⟨g, 7, none⟩ = false) := fun W hg => frozen_of_row W g 7 _ _ (opb_gb HT2.out.ob hg)
          have HMO : Hid (∀ W, x1.grownBy W none → Calls Tryd.prog 76 #[.int .u32 (Cr.W t), .slice a k c] W fun r w' => r = .returned (.int .u32 V) ∧ w' = W) := fun W hg => by
            rw [hV, ← sum_moreI ys p k, htt]
            exact Cr.more_c _ a k c _ W ((seg_takeO HT2.out.seg k hkm).grew hg (by simp)) (bytes_takeO (bytes_drop HB.out.1 p) k) (tab_n HT2.out.tab hg) (by have := HT2.out.ml; omega)
          have HST : Hid (∀ W, x1.grownBy W none → w.grownBy (W.setCell ⟨g, 7, none⟩ (.int .u32 V)) (some g) ∧ OpB (W.setCell ⟨g, 7, none⟩ (.int .u32 V)) g { o2 with sum := V } ∧ Tol w.heap.size (W.setCell ⟨g, 7, none⟩ (.int .u32 V)) { o2 with sum := V } (D ++ E) ∧ Seg .u8 (W.setCell ⟨g, 7, none⟩ (.int .u32 V)) (cutI a c k) (m - k) (ys.drop (p + k)) ∧ Cr.Tab (W.setCell ⟨g, 7, none⟩ (.int .u32 V)) ∧ Bk 164 (W.setCell ⟨g, 7, none⟩ (.int .u32 V)) T ptab) := fun W hg => by
            rw [hV]
            have z := HT2.out.set hg
            exact ⟨z.1, z.2.1, z.2.2.1, z.2.2.2.1, z.2.2.2.2, (HTP.out.grew hg (by simp)).grew (grownBy_cell W g 7 _) (fun e => by have := Option.some.inj e; have := HB.out.2.1; have := HTN.out; omega)⟩
          have HEND : Hid (V = Cr.W (Cr.sum (ys.take (p + k))) ∧ p' = p + k ∧ (cutI a c k = none → c - k = 0) ∧ m - k ≤ c - k ∧ m - k ≤ 70368744177664 ∧ (∀ b o s, cutI a c k = some ⟨b, o, s⟩ → b ≠ g) ∧ o2.size = o.size ∧ o2.ended = o.ended) := ⟨hV, hpk, fun z => by have := HT2.out.nz (cutI_none z); omega, by have := HT2.out.mc; omega, by have := HT2.out.ml; omega, fun b o s hb => by obtain ⟨o3, s3, e⟩ := cutI_blk hb; exact HT2.out.ag b o3 s3 e, HT2.out.sz, HT2.out.en⟩
          have HAPP : Hid ((X ++ D) ++ E = X ++ (D ++ E)) := List.append_assoc _ _ _
          clear htt hV t0 t1 t3 t4 t6 t7 t8 hk
          go_wp2_with fail
          refine wp_region_lastR (fun a b => World.grownBy a b none) (fun _ _ _ h k => gb_trans h k) ⟨rfl, rfl, rfl, Nat.le_refl _, fun _ _ _ => rfl⟩ 11 rfl (by kernel_rfl) [23, 24, 25, 26, 27, 28, 29, 30, 31, 32, 33, 100011] [[], [], [1], [2], [3], [], [], [5, 6], [4, 7], [0], [9], [10, 8]] (by kernel_rfl) (by kernel_rfl) [fun u W => u = .pointer (some ⟨g, 0, none⟩), fun u W => u = .pointer (some ⟨g, 0, none⟩), fun u W => u = .pointer (some ⟨g, 0, none⟩), fun u W => u = .pointer (some ⟨g, 7, none⟩), fun u W => u = .int .u32 (Cr.W t), fun u W => u = .slice a m c, fun u W => u = .int .i64 (k : Int), fun u W => u = .slice a k c, fun u W => u = .int .u32 V, fun u W => u = .pointer (some ⟨g, 0, none⟩), fun u W => u = .pointer (some ⟨g, 7, none⟩)] ?stable ?step ?last
          case stable =>
            intro i v W W' h hg
            match i, h with
            | 0, h => exact h
            | 1, h => exact h
            | 2, h => exact h
            | 3, h => exact h
            | 4, h => exact h
            | 5, h => exact h
            | 6, h => exact h
            | 7, h => exact h
            | 8, h => exact h
            | 9, h => exact h
            | 10, h => exact h
            | i + 11, h => exact trivial
          case step =>
            intro f W A hA hg i o hin ho hu K hK
            match i, hin, ho, hu, hK with
            | 0, hin, ho, hu, hK =>
              cases ho
              have e0 : A.eval (.tmp 0) = .pointer (some ⟨g, 0, none⟩) := ev_out hA 0 rfl
              exact ph_move _ rfl rfl (.pointer (some ⟨g, 0, none⟩)) e0 (hK _ _ (gb_rr W _) rfl)
            | 1, hin, ho, hu, hK =>
              cases ho
              have e0 : A.eval (.tmp 0) = .pointer (some ⟨g, 0, none⟩) := ev_out hA 0 rfl
              exact ph_move _ rfl rfl (.pointer (some ⟨g, 0, none⟩)) e0 (hK _ _ (gb_rr W _) rfl)
            | 2, hin, ho, hu, hK =>
              cases ho
              have e24 : A.eval (.tmp 24) = .pointer (some ⟨g, 0, none⟩) := (ev_in hA 24 1 rfl rfl rfl).trans (show f 1 = .pointer (some ⟨g, 0, none⟩) from hu 1 (by decide))
              exact ph_nil _ rfl rfl _ e24 (hK _ _ (gb_rr W _) rfl)
            | 3, hin, ho, hu, hK =>
              cases ho
              have e25 : A.eval (.tmp 25) = .pointer (some ⟨g, 0, none⟩) := (ev_in hA 25 2 rfl rfl rfl).trans (show f 2 = .pointer (some ⟨g, 0, none⟩) from hu 2 (by decide))
              exact ph_field _ _ _ rfl rfl _ (.pointer (some ⟨g, 7, none⟩)) e25 (by kernel_rfl) (hK _ _ (gb_rr W _) rfl)
            | 4, hin, ho, hu, hK =>
              cases ho
              have e26 : A.eval (.tmp 26) = .pointer (some ⟨g, 7, none⟩) := (ev_in hA 26 3 rfl rfl rfl).trans (show f 3 = .pointer (some ⟨g, 7, none⟩) from hu 3 (by decide))
              have hc : W.cell? ⟨g, 7, none⟩ = some (.int .u32 (Cr.W t)) := HK7.out W hg
              refine ph_sem rfl rfl (r := .ok (.value (.int .u32 (Cr.W t))) W) ?_ (hK _ _ (gb_rr W _) rfl)
              have eC : ∀ c, A.eval (.const c) = c := fun _ => rfl; have eF : ∀ g, A.eval (.func g) = .func (.func g) #[] #[] := fun _ => rfl; generalize A.eval = ρ at *
              clear hA hu hg
              go_simp
            | 5, hin, ho, hu, hK =>
              cases ho
              have e1 : A.eval (.tmp 1) = .slice a m c := ev_out hA 1 rfl
              exact ph_move _ rfl rfl (.slice a m c) e1 (hK _ _ (gb_rr W _) rfl)
            | 6, hin, ho, hu, hK =>
              cases ho
              have e7 : A.eval (.tmp 7) = .int .i64 (k : Int) := ev_out hA 7 rfl
              exact ph_move _ rfl rfl (.int .i64 (k : Int)) e7 (hK _ _ (gb_rr W _) rfl)
            | 7, hin, ho, hu, hK =>
              cases ho
              have e28 : A.eval (.tmp 28) = .slice a m c := (ev_in hA 28 5 rfl rfl rfl).trans (show f 5 = .slice a m c from hu 5 (by decide))
              have e29 : A.eval (.tmp 29) = .int .i64 (k : Int) := (ev_in hA 29 6 rfl rfl rfl).trans (show f 6 = .int .i64 (k : Int) from hu 6 (by decide))
              have hsl := HSL.out W
              refine ph_sem rfl rfl (r := .ok (.value (.slice a k c)) W) ?_ (hK _ _ (gb_rr W _) rfl)
              have eC : ∀ c, A.eval (.const c) = c := fun _ => rfl; have eF : ∀ g, A.eval (.func g) = .func (.func g) #[] #[] := fun _ => rfl; generalize A.eval = ρ at *
              clear hA hu hg hK
              go_simp
            | 8, hin, ho, hu, hK =>
              cases ho
              have e27 : A.eval (.tmp 27) = .int .u32 (Cr.W t) := (ev_in hA 27 4 rfl rfl rfl).trans (show f 4 = .int .u32 (Cr.W t) from hu 4 (by decide))
              have e30 : A.eval (.tmp 30) = .slice a k c := (ev_in hA 30 7 rfl rfl rfl).trans (show f 7 = .slice a k c from hu 7 (by decide))
              refine ph_fn 76 _ _ rfl rfl #[.int .u32 (Cr.W t), .slice a k c] (by simp [e27, e30]) (by kernel_rfl) ?_
              refine (Calls.mono (HMO.out W hg) ?_)
              rintro e W' ⟨rfl, hq⟩
              obtain rfl := hq.symm
              exact ⟨_, rfl, hK _ _ (gb_rr W _) rfl⟩
            | 9, hin, ho, hu, hK =>
              cases ho
              have e23 : A.eval (.tmp 23) = .pointer (some ⟨g, 0, none⟩) := (ev_in hA 23 0 rfl rfl rfl).trans (show f 0 = .pointer (some ⟨g, 0, none⟩) from hu 0 (by decide))
              exact ph_nil _ rfl rfl _ e23 (hK _ _ (gb_rr W _) rfl)
            | 10, hin, ho, hu, hK =>
              cases ho
              have e32 : A.eval (.tmp 32) = .pointer (some ⟨g, 0, none⟩) := (ev_in hA 32 9 rfl rfl rfl).trans (show f 9 = .pointer (some ⟨g, 0, none⟩) from hu 9 (by decide))
              exact ph_field _ _ _ rfl rfl _ (.pointer (some ⟨g, 7, none⟩)) e32 (by kernel_rfl) (hK _ _ (gb_rr W _) rfl)
            | i + 11, hin, ho, hu, hK => omega
          case last =>
            intro f W A hA hg hu o ho K hK
            cases ho
            have e31 : A.eval (.tmp 31) = .int .u32 V := (ev_in hA 31 8 rfl rfl rfl).trans (show f 8 = .int .u32 V from hu 8 (by decide))
            have e33 : A.eval (.tmp 33) = .pointer (some ⟨g, 7, none⟩) := (ev_in hA 33 10 rfl rfl rfl).trans (show f 10 = .pointer (some ⟨g, 7, none⟩) from hu 10 (by decide))
            have hc : W.cell? ⟨g, 7, none⟩ = some (.int .u32 (Cr.W t)) := HK7.out W hg
            have hf : W.frozen? ⟨g, 7, none⟩ = false := HF7.out W hg
            refine ph_sem rfl rfl (r := .ok .skip (W.setCell ⟨g, 7, none⟩ (.int .u32 V))) ?_ (hK _ _ ?_)
            · have eC : ∀ c, A.eval (.const c) = c := fun _ => rfl
              generalize A.eval = ρ at *
              clear hA hu hg hK
              go_simp
            have A4 : Hid _ := HST.out W hg
            clear hg e31 e33 hc hf
            have hA2 := hA.trans (putAll_lit [(.pointer (some ⟨g, 0, none⟩)), (.pointer (some ⟨g, 0, none⟩)), (.pointer (some ⟨g, 0, none⟩)), (.pointer (some ⟨g, 7, none⟩)), (.int .u32 (Cr.W t)), (.slice a m c), (.int .i64 (k : Int)), (.slice a k c), (.int .u32 V), (.pointer (some ⟨g, 0, none⟩)), (.pointer (some ⟨g, 7, none⟩)), (f 11)] (by
              intro j hj
              match j, hj with
              | 0, _ => exact hu 0 (by decide)
              | 1, _ => exact hu 1 (by decide)
              | 2, _ => exact hu 2 (by decide)
              | 3, _ => exact hu 3 (by decide)
              | 4, _ => exact hu 4 (by decide)
              | 5, _ => exact hu 5 (by decide)
              | 6, _ => exact hu 6 (by decide)
              | 7, _ => exact hu 7 (by decide)
              | 8, _ => exact hu 8 (by decide)
              | 9, _ => exact hu 9 (by decide)
              | 10, _ => exact hu 10 (by decide)
              | 11, _ => rfl
              | j + 12, hj => exact absurd hj (by simp)))
            clear hu hA
            subst hA2
            simp only [putAll, putL, List.mem_cons, List.not_mem_nil, List.idxOf_cons, Nat.reduceEqDiff, Nat.reduceBEq, Nat.reduceAdd, or_false, or_true, reduceIte, cond_true, cond_false, List.getD_cons_zero, List.getD_cons_succ, BEq.rfl]
            generalize W.setCell ⟨g, 7, none⟩ (.int .u32 V) = y1 at A4 ⊢
            go_wp2_with fail
            have A5 : Hid (WalkA ys X o g w (.returned (.slice (cutI a c k) (m - k) (c - k))) y1) := ⟨A4.out.1, 5, p + k, seq, n, D ++ E, { o2 with sum := V }, A4.out.2.1, A4.out.2.2.1, by rw [← HAPP.out, ← HEND.out.2.1]; exact q1, HEND.out.2.2.2.2.2.2.1, HEND.out.2.2.2.2.2.2.2, .inl ⟨_, _, _, rfl, A4.out.2.2.2.1, HEND.out.2.2.1, HEND.out.2.2.2.1, HEND.out.2.2.2.2.2.1, by rw [← HAPP.out, ← HEND.out.2.1]; exact q2, t5, q3, by rw [← HAPP.out]; exact q4, by rw [← HAPP.out]; exact tah, q5, q6, by rw [← HEND.out.2.1]; exact q7, HEND.out.1⟩⟩
            go_roundw
            case rel => exact .inr ⟨_, _, _, rfl, rfl, A5⟩
            case measure => show 0 < 7 - pAt wr g; rw [HPA.out]; decide
        · exact ⟨rfl, gb_trans HI.out.1.gb t0, 5, p', seq, n, D ++ E, o2, t3, t4 _ _ HB.out.2.1 HI.out.1.gb.size HI.out.1.tol (fun e => (HI.out.1.nd3 (by omega)).1), by rw [← List.append_assoc]; exact q1, t7.trans HI.out.1.sz, t8.trans HI.out.1.en, .inr ⟨e, rfl, by rw [← List.append_assoc]; exact q2, q3, q4⟩⟩
    · go_wp2_with fail
      go_ret
      exact HI.out
end Go.Proofs.YtcdgfghcmeadgaaDoor

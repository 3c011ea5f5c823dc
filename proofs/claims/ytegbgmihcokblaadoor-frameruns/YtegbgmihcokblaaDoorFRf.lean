/-
  What the law's refused answers of a spoilt frame: yes. Condition: the bytes can be read, and no frame begins at their front; the table of package crc lies in memory.
-/
import Derived.Test.YtegbgmihcokblaaDoorFRp
import Derived.Test.YtegbgmihcokblaaDoorFSq
import Derived.Test.YtegbgmihcokblaaDoorFDc
import Derived.Sort.AtCall
namespace Go.Proofs.YtegbgmihcokblaaDoor
set_option linter.unusedVariables false
open Go.RowKit

theorem below_chain {B : Nat} {a b c : World} (h : Below B a b) (k : Below b.heap.size b c) (hB : B ≤ b.heap.size) : Below B a c := h.trans (k.mono hB)
/-- Is one of the bytes from the second on the magic's first? -/
def nobare (cs : List Int) (i : Nat) : Bool := ((cs.take i).drop 1).any fun z => z == 72
theorem nobare_snoc (cs : List Int) (i : Nat) (h1 : 1 ≤ i) (hi : i < cs.length) : nobare cs (i + 1) = (nobare cs i || (cs[i]?.getD 0 == 72)) := by
  unfold nobare
  rw [take_snoc cs i hi, List.drop_append_of_le_length (by rw [List.length_take]; omega), List.any_append]
  simp
theorem nobare_all (cs : List Int) (h : nobare cs cs.length = false) : ∀ z ∈ cs.drop 1, z ≠ 72 := by
  intro z hz e
  unfold nobare at h
  rw [List.take_of_length_le (Nat.le_refl _), List.any_eq_false] at h
  exact h z hz (by simp [e])
theorem len_fbytes (L : List FrM) : L.length ≤ fbytes (L.map FrM.fr) := by
  induction L with
  | nil => simp [fbytes]
  | cons f L ih =>
    have e : fbytes ((f :: L).map FrM.fr) = f.ys.length + 14 + fbytes (L.map FrM.fr) := by simp [fbytes, FrM.fr]
    rw [e, List.length_cons]
    omega
/-- What refused has when all is found. -/
def RfA (w0 w : World) (cs : List Int) (v : Value) (L : List FrM) : Prop := L.map FrM.fr = fAll 1048576 cs ∧ (∃ F, FrL F w v L) ∧ Below w0.heap.size w0 w
set_option maxRecDepth 20000 in
set_option maxHeartbeats 4000000 in
theorem refused_c (t : Int) (fa : Option Addr) (fl fc : Nat) (ca : Option Addr) (cl cc : Nat) (cs : List Int) (w : World) (hs : Seg .u8 w ca cl cs) (hx : Bytes cs) (hlc : cl ≤ cc) (hnz : ca = none → cc = 0) (hcl : cl = fl + 14) (hfl : fl ≤ 1048576) (hno : fmeet 1048576 cs ≠ 0) (ht : Tab w) :
    Calls Tryd.prog 27 #[.agg #[.int .i64 t, .slice fa fl fc], .slice ca cl cc] w fun r w' => r = .returned (.bool true) ∧ Below w.heap.size w w' := by
  obtain ⟨W0, hW0⟩ : ∃ W0, W0 = w.alloc (.cells #[.int .i64 t, .slice fa fl fc] 42) := ⟨_, rfl⟩
  obtain ⟨BX, hBX⟩ : ∃ BX, BX = w.heap.size := ⟨_, rfl⟩
  have hsz : W0.heap.size = BX + 1 := by rw [hW0, hBX]; simp
  have HB0 : Hid (Below w.heap.size w W0) := by rw [hW0]; exact (Below.refl _ _).alloc (Nat.le_refl _) _
  have HX0 : Hid (Bk 42 W0 BX #[.int .i64 t, .slice fa fl fc]) := by rw [hW0, hBX]; exact heap_new w _
  have HW : Hid (∀ W, Below W0.heap.size W0 W → Seg .u8 W ca cl cs ∧ Tab W ∧ Bk 42 W BX #[.int .i64 t, .slice fa fl fc]) := fun W hb => by
    exact ⟨(hs.below HB0.out).below hb, (ht.below HB0.out).below hb, HX0.out.below hb (by omega)⟩
  have HDE : Hid (∀ W, Below W0.heap.size W0 W → Calls Tryd.prog 28 #[.slice ca cl cc] W fun e w' => ∃ u, e = .returned (.tuple #[.agg #[.int .i64 (ftp cs), u], .int .i64 ((fnn cs : Nat) : Int), .int .i64 ((fdec cs : Nat) : Int)]) ∧ Own W.heap.size w' u (fbd cs).length (fbd cs) ∧ Below W.heap.size W w') := fun W hb => decode_c ca cl cc cs W hlc (HW.out W hb).1 hx (by omega) (HW.out W hb).2.1
  have HON : Hid (∀ W, Below W0.heap.size W0 W → Calls Tryd.prog 25 #[.slice ca cl cc] W fun e w' => ∃ u, e = .returned (.tuple #[.agg #[.int .i64 (ftp1 cs), u], .int .i64 ((fone cs : Nat) : Int)]) ∧ Own W.heap.size w' u (fbd1 cs).length (fbd1 cs) ∧ Below W.heap.size W w') := fun W hb => one_c ca cl cc cs W hlc (HW.out W hb).1 hx (by omega) (HW.out W hb).2.1
  have hfo : fone cs ≠ 0 := fun z => hno (fone_ok z).1
  have hE1 : ((((fdec cs : Nat) : Int)) == 0) = false := by simp only [beq_eq_false_iff_ne]; intro z; exact hno (by unfold fdec at z; omega)
  have hE2 : ((((fone cs : Nat) : Int)) == 0) = false := by simp only [beq_eq_false_iff_ne]; intro z; exact hfo (by omega)
  have HAL : Hid (∀ W, Below W0.heap.size W0 W → Calls Tryd.prog 20 #[.int .i64 1048576, .slice (some ⟨W.heap.size, 0, none⟩) 1 1] (W.alloc (.cells #[.slice ca cl cc] 28)) fun r w' => ∃ S fa fc L Q F, r = .returned (.tuple #[.slice fa L.length fc, .pointer (some ⟨S, 0, none⟩), .bool true]) ∧ AllI 1048576 (W.alloc (.cells #[.slice ca cl cc] 28)) S cs w' (.slice fa L.length fc) L Q F) := fun W hb => by
    have q := HW.out W hb
    have hba : Below W.heap.size W (W.alloc (.cells #[.slice ca cl cc] 28)) := (Below.refl _ _).alloc (Nat.le_refl _) _
    have hpc : Pcs (W.alloc (.cells #[.slice ca cl cc] 28)) (some ⟨W.heap.size, 0, none⟩) 1 [cs] := by
      refine ⟨rfl, .inr ⟨W.heap.size, 0, rfl, by simp, fun i hi => ?_⟩⟩
      obtain rfl : i = 0 := by omega
      exact ⟨ca, cl, cc, Bk.cell (T := 28) (heap_new W _) 0, q.1.below hba, hx, hlc, hnz⟩
    have := all_c 1048576 (some ⟨W.heap.size, 0, none⟩) 1 1 [cs] (W.alloc (.cells #[.slice ca cl cc] 28)) hpc (q.2.1.below hba) (by decide) (by have := hs.1; simp; omega) (by decide)
    rw [show [cs].flatten = cs from by simp] at this
    exact this
  have HC : Hid (cs.length = cl ∧ cl = fl + 14 ∧ fl ≤ 1048576 ∧ fmeet 1048576 cs ≠ 0 ∧ BX = w.heap.size ∧ W0.heap.size = BX + 1) := ⟨hs.1, hcl, hfl, hno, hBX, hsz⟩
  have hclb : cl ≤ 1048590 := by omega
  have hflb : fl ≤ 1048576 := hfl
  clear hs hx hnz hlc hcl hno ht hfo HX0 hsz hfl
  go_enter Tryd.func27, Tryd.ntmps27
  go_wp2_with (first
    | (go_at_call 28; go_must (rw [← hW0]; refine (Calls.mono (HDE.out W0 (Below.refl _ _)) ?_)); rintro r w1 ⟨u1, rfl, h1, h2⟩; have H1 : Hid (Own W0.heap.size w1 u1 (fbd cs).length (fbd cs) ∧ Below W0.heap.size W0 w1) := ⟨h1, h2⟩; clear h1 h2; have HZ1 : Hid _ := fr_new w1)
    | (refine wpList_store_bk 42 rfl (.tmp 5) (.tmp 19) rfl Tryd.infoFrame w1.heap.size _ _ rfl rfl HZ1.out.1 rfl rfl (own_one _ H1.out.1) ?_; intro w2 h1 h2; have H2 : Hid (Below W0.heap.size W0 w2) := (below_chain H1.out.2 HZ1.out.2 H1.out.2.size).grown h2 (Nat.le_trans H1.out.2.size HZ1.out.2.size) (fun k hk => by cases hk; exact H1.out.2.size); clear h1 h2)
    | (go_at_call 25; go_must (refine (Calls.mono (HON.out _ H2.out) ?_)); rintro r w3 ⟨u2, rfl, h1, h2⟩; have H3 : Hid (Own w2.heap.size w3 u2 (fbd1 cs).length (fbd1 cs) ∧ Below W0.heap.size W0 w3) := ⟨h1, below_chain H2.out h2 H2.out.size⟩; clear h1 h2; have HZ2 : Hid _ := fr_new w3)
    | (refine wpList_store_bk 42 rfl (.tmp 8) (.tmp 25) rfl Tryd.infoFrame w3.heap.size _ _ rfl rfl HZ2.out.1 rfl rfl (own_one _ H3.out.1) ?_; intro w4 h1 h2; have H4 : Hid (Below W0.heap.size W0 w4) := (below_chain H3.out.2 HZ2.out.2 H3.out.2.size).grown h2 (Nat.le_trans H3.out.2.size HZ2.out.2.size) (fun k hk => by cases hk; exact H3.out.2.size); clear h1 h2)
    | (go_at_call 20; go_must (refine (Calls.mono (HAL.out _ H4.out) ?_)); rintro r w5 ⟨S, fa5, fc5, L5, Q5, F5, rfl, h1⟩; have H5 : Hid (AllI 1048576 (w4.alloc (.cells #[.slice ca cl cc] 28)) S cs w5 (.slice fa5 L5.length fc5) L5 Q5 F5 ∧ Below W0.heap.size W0 (w4.alloc (.cells #[.slice ca cl cc] 28)) ∧ Tab (w4.alloc (.cells #[.slice ca cl cc] 28))) := ⟨h1, H4.out.alloc H4.out.size _, (HW.out w4 H4.out).2.1.below ((Below.refl _ _).alloc (Nat.le_refl _) _)⟩; clear h1; generalize w4.alloc (.cells #[.slice ca cl cc] 28) = w4a at H5))
  obtain ⟨a1, a2, a3, a4, a5, a6, a7⟩ := H5.out.1
  have hs4 : W0.heap.size ≤ w4a.heap.size := H5.out.2.1.size
  have hs5 := a7.size
  have ht4 := H5.out.2.2.pos
  have hfi := fi_len L5 a1
  have hcs := HC.out.1
  refine (Calls.mono (end_c Q5 w5 S 2097180 _ 1048576 _ _ a2 (H5.out.2.2.below a7) (fun z => by have := (a4 0 z).1; omega) (by decide) (by decide) (by omega) (by omega)) ?_)
  rintro r w6 ⟨fa6, fc6, L6, Q6, F6, rfl, z1, z2, z3, z4, z5, z6, z7⟩
  have hlen : (L5 ++ L6).map FrM.fr = fAll 1048576 cs := by rw [List.map_append, a1, z1]; rfl
  have hln := len_fbytes (L5 ++ L6)
  rw [hlen] at hln
  have hfb := fAll_le 1048576 cs
  have H6 : Hid (FrL F5 w6 (.slice fa5 L5.length fc5) L5 ∧ FrL F6 w6 (.slice fa6 L6.length fc6) L6 ∧ (∀ k, F6 k → ¬ F5 k) ∧ (L5.length + L6.length) * 32 ≤ 140737488355328 ∧ Below W0.heap.size W0 w6 ∧ (∀ k, F5 k → W0.heap.size ≤ k) ∧ (L5 ++ L6).map FrM.fr = fAll 1048576 cs ∧ (L5 ++ L6).length ≤ 1048590) := by
    have hL : (L5 ++ L6).length = L5.length + L6.length := List.length_append
    have b45 : Below W0.heap.size W0 w5 := H5.out.2.1.trans (a7.mono hs4)
    refine ⟨a3.gr z7 (fun k hk => a6 k hk), z3, fun k hk z => ?_, by omega, b45.trans ⟨z7.os, z7.tape, z7.output, z7.size, fun k hk => z7.block k (by omega) (fun z => by have := (a4 k z).1; omega)⟩, fun k hk => by have := (a5 k hk).1; omega, hlen, by omega⟩
    rcases (z5 k hk).1 with q | q
    · exact a6 k z q
    · have := (a5 k z).2; omega
  clear a1 a2 a3 a4 a5 a6 a7 z1 z2 z3 z4 z5 z6 z7 hlen hln hfb hs4 hs5 ht4 hfi hcs H5 HDE HON HAL H1 HZ1 H2 H3 HZ2 H4
  go_wp2_with (refine wpList_catF rfl (.tmp 44) (.tmp 46) rfl F5 F6 _ _ L5 L6 rfl rfl H6.out.1 H6.out.2.1 H6.out.2.2.1 H6.out.2.2.2.1 ?_; intro fa7 fc7 w7 y1 y2; have H7 : Hid (RfA W0 w7 cs (.slice fa7 (L5 ++ L6).length fc7) (L5 ++ L6) ∧ (L5 ++ L6).length ≤ 1048590) := ⟨⟨H6.out.2.2.2.2.2.2.1, ⟨_, y1⟩, H6.out.2.2.2.2.1.grown y2 H6.out.2.2.2.2.1.size (fun k hk => H6.out.2.2.2.2.2.1 k (H6.out.1.fv k hk))⟩, H6.out.2.2.2.2.2.2.2⟩; clear y1 y2; obtain ⟨n7, hn7⟩ : ∃ n7, n7 = (L5 ++ L6).length := ⟨_, rfl⟩; rw [← hn7] at H7 ⊢; have HN7 : Hid (n7 = (L5 ++ L6).length) := hn7; clear hn7; generalize L5 ++ L6 = L7 at H7 HN7)
  have HQ7 : Hid (∀ W, w7.grownBy W none → Seg .u8 W ca cl cs ∧ Bk 42 W BX #[.int .i64 t, .slice fa fl fc] ∧ ∃ F, FrL F W (.slice fa7 n7 fc7) L7) := fun W hg => by
    have hb := H7.out.1.2.2.trans ((gb_below hg).mono H7.out.1.2.2.size)
    have q := HW.out W hb
    obtain ⟨F, hF⟩ := H7.out.1.2.1
    exact ⟨q.1, q.2.2, F, hF.gb hg⟩
  have hn7b : n7 ≤ 1048590 := H7.out.2
  have HM7 : Hid (∀ (k : Nat) (f : FrM), L7[k]? = some f → f.ys.length < fl) := fun k f hf => by
    have hm : f.fr ∈ fAll 1048576 cs := by
      rw [← H7.out.1.1]
      exact List.mem_map.2 ⟨f, List.mem_of_getElem? hf, rfl⟩
    have h1 := fbytes_mem hm
    have h2 := fAll_less 1048576 cs (fun e => by have := HC.out; rw [e] at this; simp at this; omega) HC.out.2.2.2.1
    have h3 := HC.out
    have h4 : f.fr.2.length = f.ys.length := rfl
    omega
  have HE7 : Hid (nobare cs cl = true ∨ n7 = 0) := by
    cases hb : nobare cs cl with
    | true => exact .inl rfl
    | false =>
      refine .inr ?_
      have := fAll_bare 1048576 cs HC.out.2.2.2.1 (nobare_all cs (by rw [HC.out.1]; exact hb))
      rw [HN7.out]
      have h2 := congrArg List.length H7.out.1.1
      rw [this] at h2
      simpa using h2
  have HBE : Hid (Below w.heap.size w w7) := HB0.out.trans (H7.out.1.2.2.mono HB0.out.size)
  have h1cl : 1 ≤ cl := by have := HC.out; omega
  rw [← hBX]
  clear hBX hW0 H6 H7 HB0 HW hE1 hE2
  go_loop [13, 14] (fun b i => ∃ k : Nat, 1 ≤ k ∧ k ≤ cl ∧ i = .int .i64 (k : Int) ∧ b = .bool (!nobare cs k)) (fun _ i => cl - (intOf i).toNat)
  case atStart => exact ⟨1, Nat.le_refl _, h1cl, rfl, by rw [show nobare cs 1 = false from by unfold nobare; rw [List.drop_eq_nil_of_le (by rw [List.length_take]; exact Nat.min_le_left _ _)]; rfl]; rfl⟩
  case round =>
    obtain ⟨k, hk1, hk, rfl, rfl⟩ := hrel
    by_cases hlt : k < cl
    · have hci : (k : Int) < (cl : Int) := by omega
      obtain ⟨b, off, rfl, hbw, hc⟩ := (HQ7.out w7 (World.grownBy.refl _ _)).1.cells (by omega)
      have hck := hc k hlt
      have HSN : Hid (nobare cs (k + 1) = (nobare cs k || (cs[k]?.getD 0 == 72))) := nobare_snoc cs k hk1 (by have := HC.out; omega)
      obtain ⟨Z, hZ⟩ : ∃ Z, Z = cs[k]?.getD 0 := ⟨_, rfl⟩
      rw [← hZ] at hck HSN
      have HLT : Hid (k + 1 ≤ cl) := hlt
      clear hZ hc
      by_cases hz : Z = 72
      · subst hz
        go_wp2_with fail
        go_round
        case rel => exact ⟨k + 1, by omega, HLT.out, by go_num, by rw [HSN.out]; simp⟩
        case measure => have := HLT.out; simp [intOf]; omega
      · have hz2 : (Z == 72) = false := by simpa using hz
        rw [hz2, Bool.or_false] at HSN
        go_wp2_with fail
        go_round
        case rel => exact ⟨k + 1, by omega, HLT.out, by go_num, by rw [HSN.out]⟩
        case measure => have := HLT.out; simp [intOf]; omega
    · have hci : ¬ ((k : Int) < (cl : Int)) := by omega
      obtain rfl : k = cl := by omega
      obtain ⟨nb, hnb⟩ : ∃ nb, nb = nobare cs k := ⟨_, rfl⟩
      rw [← hnb] at HE7 ⊢
      clear hnb
      go_wp2_with fail
      go_loopw [15] (fun i wr => ∃ k2 : Nat, k2 ≤ n7 ∧ i = .int .i64 (k2 : Int) ∧ Hid (w7.grownBy wr none)) (fun i _ => n7 - (intOf i).toNat)
      case atStart => exact ⟨0, Nat.zero_le _, rfl, World.grownBy.refl _ _⟩
      case round =>
        obtain ⟨k2, hk2, rfl, HG⟩ := hrel
        by_cases hlt2 : k2 < n7
        · have hci2 : (k2 : Int) < (n7 : Int) := by omega
          obtain ⟨f, hf⟩ : ∃ f, L7[k2]? = some f := ⟨_, List.getElem?_eq_getElem (show k2 < L7.length by have := HN7.out; omega)⟩
          obtain ⟨q1, q2, F, q3⟩ := HQ7.out wr HG.out
          have hmf := HM7.out k2 f hf
          have q3' := q3
          rw [HN7.out] at q3'
          obtain ⟨g, gc, ua, uc, e1, hu, hs, hr, hgl⟩ := q3'.at k2 f hf
          have e3 : fa7 = some ⟨g, 0, none⟩ := by injection e1
          have e4 : fc7 = gc := by injection e1
          subst e3 e4
          obtain ⟨m, hm'⟩ : ∃ m, m = f.ys.length := ⟨_, rfl⟩
          obtain ⟨ft, hft⟩ : ∃ ft, ft = f.t := ⟨_, rfl⟩
          have c1 : wr.cell? ⟨g, k2 * 2, none⟩ = some (.int .i64 ft) := by rw [hft]; have := hr 0 _ rfl; simpa using this
          have c2 : wr.cell? ⟨g, k2 * 2 + 1, none⟩ = some (.slice ua m uc) := by rw [hm']; exact hr 1 _ rfl
          have c3 : wr.cell? ⟨BX, 0, none⟩ = some (.int .i64 t) := q2.cell 0
          have c4 : wr.cell? ⟨BX, 1, none⟩ = some (.slice fa fl fc) := q2.cell 1
          have hmfl : (((m : Nat) : Int) == ((fl : Nat) : Int)) = false := by simp only [beq_eq_false_iff_ne]; intro z; omega
          have HLT : Hid (k2 + 1 ≤ n7) := hlt2
          clear hf q1 q2 q3 q3' e1 hu hs hr hgl hm' hft hmf HQ7 HM7 HE7 HBE
          by_cases hte : ft = t
          · have hte2 : (ft == t) = true := by simpa using hte
            go_wp2_with fail
            go_quiet (fail)
            go_wp2_with fail
            go_roundw
            case rel => exact ⟨k2 + 1, HLT.out, by go_num, gb_drewN HG.out _⟩
            case measure => have := HLT.out; simp [intOf]; omega
          · have hte2 : (ft == t) = false := by simpa using hte
            go_wp2_with fail
            go_quiet (fail)
            go_wp2_with fail
            go_roundw
            case rel => exact ⟨k2 + 1, HLT.out, by go_num, gb_drewN HG.out _⟩
            case measure => have := HLT.out; simp [intOf]; omega
        · have hci2 : ¬ ((k2 : Int) < (n7 : Int)) := by omega
          rcases HE7.out with z | z
          · subst z
            go_wp2
            go_ret
            exact ⟨by simp, HBE.out.trans ((gb_below HG.out).mono HBE.out.size)⟩
          · subst z
            cases nb
            · go_wp2
              go_ret
              exact ⟨by simp, HBE.out.trans ((gb_below HG.out).mono HBE.out.size)⟩
            · go_wp2
              go_ret
              exact ⟨by simp, HBE.out.trans ((gb_below HG.out).mono HBE.out.size)⟩
end Go.Proofs.YtegbgmihcokblaaDoor

/-
  What merkle's digest and Leaf answer of rows: the digest of a byte 0 and the rows' bytes. Condition: at most 2^20 rows with texts of at most 2^30 bytes.
-/
import Derived.Test.YthbnbomdngecmaaMDv
import Derived.Test.YthbnbomdngecmaaMLa
import Derived.Test.YthbnbomdngecmaaRLi
namespace Go.Proofs.Ythbnbomdngecmaa
open Go.RowKit Go.Shelf
set_option linter.unusedVariables false
attribute [local go_sem] Oper.semAt_some

def rowBr (r : Rw) : List Int := rowB r.1 r.2.1 r.2.2
/-- Rows whose texts are not too long. -/
def Sml (X : List Rw) : Prop := ∀ i, (X.getD i rw0).1.size ≤ 1073741824 ∧ (X.getD i rw0).2.1.size ≤ 1073741824
/-- The bytes of some of the rows, by their numbers. -/
def picB (X : List Rw) : List Nat → List Int
  | [] => []
  | i :: l => rowBr (X.getD i rw0) ++ picB X l
theorem picB_app (X : List Rw) (l m : List Nat) : picB X (l ++ m) = picB X l ++ picB X m := by
  induction l with
  | nil => rfl
  | cons i l ih => simp only [List.cons_append, picB, ih, List.append_assoc]
theorem picB_bytes (X : List Rw) (l : List Nat) : Bytes (picB X l) := by
  induction l with
  | nil => exact fun i hi => by simp [picB] at hi
  | cons i l ih => exact bytes_cat (rowB_bytes _ _ _) ih
theorem picB_len (X : List Rw) (h : Sml X) (l : List Nat) : (picB X l).length ≤ l.length * 2147483680 := by
  induction l with
  | nil => simp [picB]
  | cons i l ih =>
    have h1 := rowB_len (X.getD i rw0).1 (X.getD i rw0).2.1 (X.getD i rw0).2.2 (h i).1 (h i).2
    have h2 := h i
    simp only [picB, rowBr, List.length_append, List.length_cons]
    omega
theorem snoc_bytes (X : List Rw) (pre : List Nat) (i : Nat) : (0 :: picB X pre) ++ rowBr (X.getD i rw0) = 0 :: picB X (pre ++ [i]) := by
  rw [picB_app]; simp [picB]
set_option maxRecDepth 20000 in
set_option maxHeartbeats 1000000 in
theorem mdigest_c (Bs : Nat) (a : Option Addr) (cap : Nat) (X : List Rw) (w : World) (hX : X.length ≤ 1048576) (hm : Sml X) (hc : w.heap[Bs]? = some (.cells #[.slice a X.length cap] 28 (0, 0))) (hR : Rws w.heap.size w a X) :
    Calls Try.prog 16 #[.func (.func 29) #[] #[.pointer (some ⟨Bs, 0, none⟩)]] w fun e w' => e = .returned (.agg (u8s (sha (0 :: picB X (List.range X.length))))) ∧ w.grownBy w' none := by
  have hzd := zD
  have HBs : Hid (Bs < w.heap.size) := (Array.getElem?_eq_some_iff.1 hc).1
  have HC : Hid (w.heap[Bs]? = some (.cells #[.slice a X.length cap] 28 (0, 0)) ∧ Rws w.heap.size w a X ∧ Sml X ∧ X.length ≤ 1048576) := ⟨hc, hR, hm, hX⟩
  have HSL : Hid ((sha (0 :: picB X (List.range X.length))).length = 32) := sha_len _
  obtain ⟨E, hE⟩ : ∃ E, E = sha (0 :: picB X (List.range X.length)) := ⟨_, rfl⟩
  have HE : Hid (sha (0 :: picB X (List.range X.length)) = E) := hE.symm
  rw [← hE] at HSL ⊢
  clear hc hE hR hm hX
  refine (callsIn_wide (n := 5)).1 ?_
  refine callsIn_of_wp_marks Try.func16 rfl trivial ?_ rfl
  simp only [Try.ntmps16, List.size_toArray, List.length_cons, List.length_nil, Nat.reduceAdd, Nat.reduceSub, Array.replicate_succ, Array.replicate_zero, List.push_toArray, List.append_toArray, List.nil_append, List.cons_append]
  refine wpIn_wide.2 ?_
  go_wp2_with (first
    | (go_at_call 20; go_must (refine (hnew_c _).mono ?_); rintro r w1 ⟨g, rfl, hg1, hH, h1⟩; have H1 : Hid (HW w w1 g w.heap.size []) := hw_new hg1 hH h1; clear hg1 hH h1)
    | (go_at_call 21; go_must (refine (hw_write' (H1.out.gb (gb_trans (World.grownBy_alloc w1 (.cells #[.pointer (some ⟨g, 0, none⟩)] 52) none) (World.grownBy_alloc _ (.cells #[.int .u8 0] 5) none))) _ 1 1 [0] (seg_at (w1.heap.size + 1) _ .u8 _ _ 1 [0] (by simp) rfl rfl) bytes_0 (.inr ⟨_, _, rfl, by have := H1.out.1.1.lt; omega⟩) (by decide) (by decide) (by decide)).mono ?_); rintro r w2 ⟨rfl, h2, h3⟩; have H2 : Hid (HW w w2 g w.heap.size [0] ∧ Boxed w2 w1.heap.size 52 (.pointer (some ⟨g, 0, none⟩)) ∧ w.heap.size ≤ w1.heap.size ∧ g ≠ w1.heap.size) := ⟨h2, ((Boxed.new w1 52 (.pointer (some ⟨g, 0, none⟩))).alloc _).kept h3 (fun e => by have := H1.out.1.1.lt; cases e; omega), H1.out.2.2.1.size, by have := H1.out.1.1.lt; omega⟩; clear h2 h3))
  obtain ⟨Bh, hBh⟩ : ∃ Bh, Bh = w1.heap.size := ⟨_, rfl⟩
  rw [← hBh] at H2 ⊢
  clear hBh H1
  refine (wpIn_wide (n := 5)).1 ?_
  refine wpIn_rangeFunc_ownH rfl (by decide) (gf := 29) (lb := #[.pointer (some ⟨Bs, 0, none⟩)]) rfl trivial (enters_of Try.func29 (by kernel_rfl) rfl)
    (values_stops 4 (by decide) w.heap.size Bs a cap X HC.out.2.2.2 w2 HBs.out H2.out.1.2.2.1.size ((H2.out.1.2.2.1.block Bs HBs.out (by simp)).trans HC.out.1) (HC.out.2.1.kb (KB.gb H2.out.1.2.2.1 (Nat.le_refl _)))) KB.trans (KB.put H2.out.1.2.2.1.size) (Below.refl _ _) (fun _ => rfl)
    (fun pre W => HW w W g w.heap.size (0 :: picB X (pre.map Fin.val)) ∧ Boxed W Bh 52 (.pointer (some ⟨g, 0, none⟩))) (fun _ _ _ => False)
    (fun s A B row hs hg hr => ⟨hs.1.kept hg (fun r e => ⟨Nat.le_trans H2.out.1.2.2.1.size (hr r e).1, (hr r e).2⟩), hs.2.kept hg (fun e => by obtain ⟨_, o, ho, hc⟩ := hr _ e.symm; rw [show A.heap[Bh]? = _ from hs.2] at ho; cases ho; simp [Obj.isCells] at hc)⟩)
    (fun _ _ _ _ _ hs _ _ => hs) ⟨H2.out.1, H2.out.2.1⟩
    (fun x a' W => ∃ Bx, Bk 30 W Bx #[.string (X.getD x.val rw0).1, .string (X.getD x.val rw0).2.1, .int .i64 (X.getD x.val rw0).2.2] ∧ g ≠ Bx ∧ a' = { tmps := #[.func (.func 29) #[] #[.pointer (some ⟨Bs, 0, none⟩)], undef, .pointer (some ⟨w.heap.size, 0, none⟩), .pointer (some ⟨Bh, 0, none⟩), .pointer (some ⟨Bx, 0, none⟩), .pointer (some ⟨g, 0, none⟩), .pointer (some ⟨g, 0, none⟩), .slice (some ⟨Bh + 1, 0, none⟩) 1 1, .tuple #[], .func (.func 29) #[] #[.pointer (some ⟨Bs, 0, none⟩)], rv3 (X.getD x.val rw0), undef, undef, undef, undef, undef, undef], defers := [] })
    (fun x a' s A B row hs hg hr => by
      obtain ⟨Bx, h1, h2, h3⟩ := hs
      exact ⟨Bx, (hg.block Bx (lt_of_block h1) (fun e => by obtain ⟨_, o, ho, hc⟩ := hr _ e.symm; rw [show A.heap[Bx]? = _ from h1] at ho; cases ho; simp [Obj.isCells] at hc)).trans h1, h2, h3⟩)
    ?assign ?body ?done (fun D c pre W hD h1 h => h.elim)
  case assign =>
    rintro l pre x W K hi hK
    unfold encR
    unfold rv3 at hK ⊢
    generalize X.getD x.val rw0 = r at hK ⊢
    obtain ⟨f, u, v⟩ := r
    simp only at hK ⊢
    gi_wp2
    exact hK _ _ ((KeepsOthers.alloc _ _).from _) (KB.gb (World.grownBy_alloc _ _ _) hi.1.2.2.1.size) ⟨hi.1.gb (World.grownBy_alloc _ _ _), hi.2.alloc _⟩ ⟨W.heap.size, (blk_new W _ _).1, Nat.ne_of_lt hi.1.1.1.lt, rfl⟩
  case body =>
    rintro l pre x a' Wr hl ⟨r0, hr0⟩ ⟨hW, hBx⟩ ⟨Bx, hb, hgx, rfl⟩ hlt
    have HP : Hid (0 :: picB X (pre.map Fin.val) ++ rowBr (X.getD x.val rw0) = 0 :: picB X ((pre ++ [x]).map Fin.val)) := by
      show _ = _
      rw [List.map_append]
      exact snoc_bytes X _ _
    have HPL : Hid ((0 :: picB X (pre.map Fin.val)).length ≤ 2251799847239681) := by
      have h1 := picB_len X HC.out.2.2.1 (pre.map Fin.val)
      have h2 := HC.out.2.2.2
      rw [List.length_map] at h1
      show _ ≤ _
      rw [List.length_cons]
      omega
    have HSM : Hid _ := HC.out.2.2.1 x.val
    unfold rv3
    generalize X.getD x.val rw0 = r at HP HSM hb ⊢
    obtain ⟨kf, kv, kn⟩ := r
    simp only at HSM hb ⊢
    have HRB : Hid (Bytes (rowB kf kv kn) ∧ (rowB kf kv kn).length ≤ 2147483680) := ⟨rowB_bytes _ _ _, by have := rowB_len kf kv kn HSM.out.1 HSM.out.2; have := HSM.out; omega⟩
    have HLD : Hid (∀ W, Calls Try.prog 28 #[.agg #[.string kf, .string kv, .int .i64 kn]] W fun e w' => ∃ b, e = .returned (.slice (some ⟨b, 0, none⟩) (rowB kf kv kn).length (rowB kf kv kn).length) ∧ W.heap.size ≤ b ∧ Seg .u8 w' (some ⟨b, 0, none⟩) (rowB kf kv kn).length (rowB kf kv kn) ∧ W.grownBy w' none) := fun W => mlaid_c kf kv kn W HSM.out.1 HSM.out.2
    unfold rowBr at HP
    simp only at HP
    obtain ⟨R, hR⟩ : ∃ R, R = rowB kf kv kn := ⟨_, rfl⟩
    rw [← hR] at HP HRB HLD
    obtain ⟨L, hL⟩ : ∃ L, L = R.length := ⟨_, rfl⟩
    rw [← hL] at HLD
    have HLR : Hid (L = R.length) := hL
    clear hR hL
    have HWW : Hid (HW w Wr g w.heap.size (0 :: picB X (pre.map Fin.val)) ∧ Boxed Wr Bh 52 (.pointer (some ⟨g, 0, none⟩)) ∧ Bk 30 Wr Bx #[.string kf, .string kv, .int .i64 kn]) := ⟨hW, hBx, hb⟩
    have HGG : Hid (g < w2.heap.size ∧ w.heap.size < g ∧ g ≠ Bh) := ⟨H2.out.1.1.1.lt, H2.out.1.2.2.2.2.1, H2.out.2.2.2⟩
    obtain ⟨ys, hys⟩ : ∃ ys, ys = 0 :: picB X (pre.map Fin.val) := ⟨_, rfl⟩
    rw [← hys] at HWW HP HPL
    obtain ⟨zs, hzs⟩ : ∃ zs, zs = 0 :: picB X ((pre ++ [x]).map Fin.val) := ⟨_, rfl⟩
    rw [← hzs] at HP
    have HZS : Hid (zs = 0 :: picB X ((pre ++ [x]).map Fin.val)) := hzs
    clear hW hBx hb hys hzs
    gi_wp2
    refine wpIn_region_last 3 (by intro o ho c; simp at ho; rcases ho with rfl | rfl | rfl | rfl <;> simp) rfl (by kernel_rfl) [11, 12, 13, 14] [[], [], [1], [0, 2]] (by kernel_rfl) (by kernel_rfl) [fun u W => u = .pointer (some ⟨g, 0, none⟩), fun u W => u = .agg #[.string kf, .string kv, .int .i64 kn], fun u W => ∃ b, u = .slice (some ⟨b, 0, none⟩) L L ∧ g ≠ b ∧ Seg .u8 W (some ⟨b, 0, none⟩) L R] ?stable ?step ?last
    case stable =>
      intro i v W W' h hg
      match i, h with
      | 0, h => exact h
      | 1, h => exact h
      | 2, h => obtain ⟨b, h1, h2, h3⟩ := h; exact ⟨b, h1, h2, h3.below (gb_below hg)⟩
      | i + 3, h => exact trivial
    case step =>
      intro f W A hA hg i o hin ho hu K hK
      match i, hin, ho, hu, hK with
      | 0, hin, ho, hu, hK =>
        cases ho
        have e3 : A.eval (.tmp 3) = .pointer (some ⟨Bh, 0, none⟩) := ev_out hA 3 rfl
        have hc : W.cell? ⟨Bh, 0, none⟩ = some (.pointer (some ⟨g, 0, none⟩)) := (HWW.out.2.1.kept hg (by simp)).cell
        refine ph_sem rfl rfl (r := .ok (.value (.pointer (some ⟨g, 0, none⟩))) W) ?_ (hK _ _ (gb_rr W _) rfl)
        have eC : ∀ c, A.eval (.const c) = c := fun _ => rfl; have eF : ∀ g, A.eval (.func g) = .func (.func g) #[] #[] := fun _ => rfl; generalize A.eval = ρ at *
        clear hA hu hg
        go_simp
      | 1, hin, ho, hu, hK =>
        cases ho
        have e4 : A.eval (.tmp 4) = .pointer (some ⟨Bx, 0, none⟩) := ev_out hA 4 rfl
        exact ph_load rfl 30 _ rfl Try.underlying30 rfl Bx 0 [.string kf, .string kv, .int .i64 kn] (by kernel_rfl) e4 (fun j v hv => by rw [Nat.zero_add, (HWW.out.2.2.gb hg).cell, List.getElem?_toArray]; exact hv) (hK _ _ (gb_rr W _) rfl)
      | 2, hin, ho, hu, hK =>
        cases ho
        have e12 : A.eval (.tmp 12) = .agg #[.string kf, .string kv, .int .i64 kn] := (ev_in hA 12 1 rfl rfl rfl).trans (show f 1 = .agg #[.string kf, .string kv, .int .i64 kn] from hu 1 (by decide))
        refine ph_fn 28 _ _ rfl rfl #[.agg #[.string kf, .string kv, .int .i64 kn]] (by simp [e12]) (by kernel_rfl) ?_
        refine (Calls.mono (HLD.out W) ?_)
        rintro e W' ⟨b, rfl, hb, hs, hq⟩
        exact ⟨_, rfl, hK _ _ hq ⟨b, rfl, (by have := hg.size; have := HWW.out.1.1.1.lt; omega), hs⟩⟩
      | i + 3, hin, ho, hu, hK => omega
    case last =>
      intro f W A hA hg hu o ho K hK
      cases ho
      obtain ⟨b2, hv2, hb2, hs2⟩ := hu 2 (by decide)
      have e11 : A.eval (.tmp 11) = .pointer (some ⟨g, 0, none⟩) := (ev_in hA 11 0 rfl rfl rfl).trans (show f 0 = .pointer (some ⟨g, 0, none⟩) from hu 0 (by decide))
      have e13 : A.eval (.tmp 13) = .slice (some ⟨b2, 0, none⟩) L L := (ev_in hA 13 2 rfl rfl rfl).trans hv2
      refine ph_fn 21 _ _ rfl rfl #[.pointer (some ⟨g, 0, none⟩), .slice (some ⟨b2, 0, none⟩) L L] (by simp [e11, e13]) (by kernel_rfl) ?_
      refine (Calls.mono (hw_write' (HWW.out.1.gb hg) _ L L R hs2 HRB.out.1 (.inr ⟨_, _, rfl, Ne.symm hb2⟩) (Nat.le_refl _) (by have := HRB.out.2; have := HLR.out; omega) (by have := HRB.out.2; have := HLR.out; have := HPL.out; omega)) ?_)
      rintro e W' ⟨rfl, q1, q2⟩
      refine ⟨_, rfl, hK _ _ ?_⟩
      rw [HP.out, HZS.out] at q1
      exact ⟨(KeepsFrom.of_grownBy hg (fun j e => by cases e)).trans (KeepsFrom.of_grownBy q2 (fun j e => by cases e; exact HGG.out.1)), (KB.gb hg HWW.out.1.2.2.1.size).trans (fun i hi => q2.block i (Nat.lt_of_lt_of_le hi (Nat.le_trans HWW.out.1.2.2.1.size hg.size)) (fun e => by have := HGG.out.2.1; cases e; omega)), q1, (HWW.out.2.1.kept hg (by simp)).kept q2 (fun e => HGG.out.2.2 (by cases e; rfl))⟩
  case done =>
    rintro D xs W hD hS ⟨hW, hBx⟩ hK
    rw [hS] at hW
    have hcell := hBx.cell
    have HSU : Hid (Calls Try.prog 22 #[.pointer (some ⟨g, 0, none⟩)] W fun r w' => r = .returned (.agg (u8s E)) ∧ Bk 25 w' w.heap.size (u8s dz32) ∧ W.grownBy w' none) := by
      have h1 := hw_sum' hW (by
        have h1 := picB_len X HC.out.2.2.1 (List.range X.length)
        have h2 := HC.out.2.2.2
        rw [List.length_range] at h1
        rw [List.length_cons]
        omega)
      rw [HE.out] at h1
      exact h1
    have HG : Hid (w.grownBy W none ∧ w.heap.size ≠ D ∧ w.heap.size ≤ D ∧ W.heap[D]? = some (.deferred (some []))) := ⟨hW.2.2.1, by have := lt_of_block H2.out.1.2.1; omega, Nat.le_trans H2.out.1.2.2.1.size hD, hK⟩
    clear hW hBx hK hD H2
    go_wp2_with (first
      | (go_at_call 22; go_must (refine (Calls.mono HSU.out ?_)); rintro r w6 ⟨rfl, h6, q6⟩; have H6 : Hid (Bk 25 w6 w.heap.size (u8s dz32) ∧ w.grownBy w6 none ∧ w6.heap[D]? = some (.deferred (some []))) := ⟨h6, gb_trans HG.out.1 q6, (q6.block D (Array.getElem?_eq_some_iff.1 HG.out.2.2.2).1 (by simp)).trans HG.out.2.2.2⟩; clear h6 q6)
      | (refine wpList_store_bk 25 rfl (.tmp 2) (.tmp 16) rfl infoD w.heap.size (u8s dz32) (u8s E) rfl rfl H6.out.1 rfl (by rw [u8s_size]; exact HSL.out) (u8s_one _) ?_; intro w7 h1 h2; have H7 : Hid (Bk 25 w7 w.heap.size (u8s E) ∧ w.grownBy w7 none ∧ w7.heap[D]? = some (.deferred (some []))) := ⟨h1, gb_newer H6.out.2.1 h2 (Nat.le_refl _), (h2.block D (Array.getElem?_eq_some_iff.1 H6.out.2.2).1 (fun e => HG.out.2.1 (by cases e; rfl))).trans H6.out.2.2⟩; clear h1 h2))
    refine ⟨by simp, .inl ⟨_, _, rfl, run_takeDeferred H7.out.2.2, ?_⟩⟩
    have H8 : Hid (Bk 25 (w7.putObj D (.deferred none)) w.heap.size (u8s E) ∧ w.grownBy (w7.putObj D (.deferred none)) none) := ⟨(World.putObj_heap_other HG.out.2.1).trans H7.out.1, gb_newer H7.out.2.1 (grownBy_putObj' w7 D (.deferred none)) HG.out.2.2.1⟩
    exact ⟨.agg (u8s E), results_cell1 Try.results16 _ _ _ ⟨w.heap.size, 0, none⟩ (.agg (u8s E)) rfl (bk_load (T := 25) Try.underlying25 rfl infoD H8.out.1 (by rw [u8s_size]; exact HSL.out)), rfl, H8.out.2⟩
end Go.Proofs.Ythbnbomdngecmaa

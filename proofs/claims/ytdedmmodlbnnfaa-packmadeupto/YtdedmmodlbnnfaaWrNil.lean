/-
  What the law's write does with a nil pack Writer and the document's Writer: what the plain function wst gives. Condition: what is laid down takes at most 2^47 bytes.
-/
import Derived.Test.YtdedmmodlbnnfaaWSt
import Derived.Test.YtdedmmodlbnnfaaNilW
namespace Go.Proofs.Ytdedmmodlbnnfaa
open Go.RowKit
set_option linter.unusedVariables false

set_option maxRecDepth 20000 in
set_option maxHeartbeats 4000000 in
theorem write_nil (B g : Nat) (v : Value) (ys : List Int) (e : Int) (F : Option Nat) (o : OpD) (O : Array Value) (w : World) (h : XW B w g v ys e F) (hO : O = o.cells.toArray) (ho : o.Ok) (hw : o.weight ≤ 1048576) (hb : ys.length ≤ 70368744177664) :
    Calls Try.prog 7 #[.pointer none, .pointer (some ⟨g, 0, none⟩), .agg O] w fun r w' => r = .returned (.tuple #[]) ∧ XGoes B w g F w' (wst o ys e).1 (wst o ys e).2 := by
  have HW : Hid (XW B w g v ys e F) := h
  have HO : Hid (O = o.cells.toArray) := hO
  have HOK : Hid (o.Ok) := ho
  obtain ⟨N, hN⟩ : ∃ N, N = w.heap.size := ⟨_, rfl⟩
  have HBB : Hid (Bk 39 (w.alloc (.cells O 39)) w.heap.size o.cells.toArray) := by rw [hO]; exact heap_new w _
  obtain ⟨b0, b1, b2, b3, b4, b5⟩ := HBB.out.opcell
  have HBD : Hid ((0 ≤ o.v ∧ o.v < 18446744073709551616) ∧ (-9223372036854775808 ≤ o.n ∧ o.n ≤ 9223372036854775807) ∧ (-9223372036854775808 ≤ o.ver ∧ o.ver ≤ 9223372036854775807) ∧ ys.length ≤ 70368744177664 ∧ o.s.size + o.key.size + o.val.size ≤ 1048576) := by
    have q1 := wf_u64 ho.v
    have q2 := bounds_i64 ho.n
    have q3 := bounds_i64 ho.ver
    unfold OpD.weight at hw
    exact ⟨q1, ⟨by omega, by omega⟩, ⟨by omega, by omega⟩, hb, by omega⟩
  clear h hO ho hw hb
  by_cases h0 : o.call = 0
  · have hst : wst o ys e = (wadd e ys (enc o.v.toNat), e) := by unfold wst; simp [h0]
    rw [hst]
    rw [h0] at b0
    clear hst
    go_enter Try.func7, Try.ntmps7
    go_wp2_with fail
    rw [← hN]
    generalize hW1 : World.alloc w _ = W1
    have H1 : Hid (XW B W1 g v ys e F ∧ Bk 39 W1 N o.cells.toArray ∧ w.grownBy W1 none) := by
      rw [← hW1, hN, HO.out]; exact ⟨HW.out.new (World.grownBy_alloc _ _ _), heap_new w _, World.grownBy_alloc _ _ _⟩
    clear hW1 hN b0 b1 b2 b3 b4 b5 HBB
    refine (nuint_c o.v W1).mono ?_
    rintro r w2 ⟨rfl, rfl⟩
    have HG2 : Hid (w2.grownBy w2 none) := World.grownBy.refl _ _
    have H2 : Hid (XW B w2 g v ys e F ∧ Bk 39 w2 N o.cells.toArray ∧ w.grownBy w2 none) := ⟨H1.out.1.new HG2.out, H1.out.2.1.gr (Gr.of (G := fun _ => False) HG2.out (by simp)) (by simp), gb_trans H1.out.2.2 HG2.out⟩
    obtain ⟨d0, d1, d2, d3, d4, d5⟩ := H2.out.2.1.opcell
    go_wp2_with fail
    refine (xwuint_c B g v ys e o.v F _ H2.out.1 HBD.out.1.1 HBD.out.1.2 (by have := HBD.out.2.2.2.1; omega)).mono ?_
    rintro r w3 ⟨rfl, h3⟩
    have H3 : Hid (XGoes B w g F w3 (wadd e ys (enc o.v.toNat)) (e)) := XGoes.pre H2.out.2.2 h3
    clear h3
    go_wp2
    go_end0
    exact ⟨rfl, H3.out⟩
  by_cases h1 : o.call = 1
  · have hst : wst o ys e = (wadd (ferr e (wie o.n o.most)) ys (enc o.n.toNat), ferr e (wie o.n o.most)) := by unfold wst; simp [h1]
    rw [hst]
    rw [h1] at b0
    clear hst
    go_enter Try.func7, Try.ntmps7
    go_wp2_with fail
    rw [← hN]
    generalize hW1 : World.alloc w _ = W1
    have H1 : Hid (XW B W1 g v ys e F ∧ Bk 39 W1 N o.cells.toArray ∧ w.grownBy W1 none) := by
      rw [← hW1, hN, HO.out]; exact ⟨HW.out.new (World.grownBy_alloc _ _ _), heap_new w _, World.grownBy_alloc _ _ _⟩
    clear hW1 hN b0 b1 b2 b3 b4 b5 HBB
    refine (nint_c o.n o.most W1).mono ?_
    rintro r w2 ⟨rfl, rfl⟩
    have HG2 : Hid (w2.grownBy w2 none) := World.grownBy.refl _ _
    have H2 : Hid (XW B w2 g v ys e F ∧ Bk 39 w2 N o.cells.toArray ∧ w.grownBy w2 none) := ⟨H1.out.1.new HG2.out, H1.out.2.1.gr (Gr.of (G := fun _ => False) HG2.out (by simp)) (by simp), gb_trans H1.out.2.2 HG2.out⟩
    obtain ⟨d0, d1, d2, d3, d4, d5⟩ := H2.out.2.1.opcell
    go_wp2_with fail
    refine (xwint_c B g v ys e o.n o.most F _ H2.out.1 HBD.out.2.1.2 HBD.out.2.1.1 (by have := HBD.out.2.2.2.1; omega)).mono ?_
    rintro r w3 ⟨rfl, h3⟩
    have H3 : Hid (XGoes B w g F w3 (wadd (ferr e (wie o.n o.most)) ys (enc o.n.toNat)) (ferr e (wie o.n o.most))) := XGoes.pre H2.out.2.2 h3
    clear h3
    go_wp2
    go_end0
    exact ⟨rfl, H3.out⟩
  by_cases h2 : o.call = 2
  · have hst : wst o ys e = (wadd (ferr e (wte o.s.size o.most)) ys (enc o.s.size ++ sb o.s), ferr e (wte o.s.size o.most)) := by unfold wst; simp [h2]
    rw [hst]
    rw [h2] at b0
    clear hst
    go_enter Try.func7, Try.ntmps7
    go_wp2_with fail
    rw [← hN]
    generalize hW1 : World.alloc w _ = W1
    have H1 : Hid (XW B W1 g v ys e F ∧ Bk 39 W1 N o.cells.toArray ∧ w.grownBy W1 none) := by
      rw [← hW1, hN, HO.out]; exact ⟨HW.out.new (World.grownBy_alloc _ _ _), heap_new w _, World.grownBy_alloc _ _ _⟩
    clear hW1 hN b0 b1 b2 b3 b4 b5 HBB
    refine (ntext_c o.s o.most W1).mono ?_
    rintro r w2 ⟨rfl, rfl⟩
    have HG2 : Hid (w2.grownBy w2 none) := World.grownBy.refl _ _
    have H2 : Hid (XW B w2 g v ys e F ∧ Bk 39 w2 N o.cells.toArray ∧ w.grownBy w2 none) := ⟨H1.out.1.new HG2.out, H1.out.2.1.gr (Gr.of (G := fun _ => False) HG2.out (by simp)) (by simp), gb_trans H1.out.2.2 HG2.out⟩
    obtain ⟨d0, d1, d2, d3, d4, d5⟩ := H2.out.2.1.opcell
    go_wp2_with fail
    refine (xwtext_c B g v ys e o.s o.most F _ H2.out.1 (by have := HBD.out.2.2.2.2; omega) (by have := HBD.out.2.2.2; omega)).mono ?_
    rintro r w3 ⟨rfl, h3⟩
    have H3 : Hid (XGoes B w g F w3 (wadd (ferr e (wte o.s.size o.most)) ys (enc o.s.size ++ sb o.s)) (ferr e (wte o.s.size o.most))) := XGoes.pre H2.out.2.2 h3
    clear h3
    go_wp2
    go_end0
    exact ⟨rfl, H3.out⟩
  by_cases h3 : o.call = 3
  · have hst : wst o ys e = (wadd e ys [fb o.f], e) := by unfold wst; simp [h3]
    rw [hst]
    rw [h3] at b0
    clear hst
    go_enter Try.func7, Try.ntmps7
    go_wp2_with fail
    rw [← hN]
    generalize hW1 : World.alloc w _ = W1
    have H1 : Hid (XW B W1 g v ys e F ∧ Bk 39 W1 N o.cells.toArray ∧ w.grownBy W1 none) := by
      rw [← hW1, hN, HO.out]; exact ⟨HW.out.new (World.grownBy_alloc _ _ _), heap_new w _, World.grownBy_alloc _ _ _⟩
    clear hW1 hN b0 b1 b2 b3 b4 b5 HBB
    refine (nflag_c o.f W1).mono ?_
    rintro r w2 ⟨rfl, rfl⟩
    have HG2 : Hid (w2.grownBy w2 none) := World.grownBy.refl _ _
    have H2 : Hid (XW B w2 g v ys e F ∧ Bk 39 w2 N o.cells.toArray ∧ w.grownBy w2 none) := ⟨H1.out.1.new HG2.out, H1.out.2.1.gr (Gr.of (G := fun _ => False) HG2.out (by simp)) (by simp), gb_trans H1.out.2.2 HG2.out⟩
    obtain ⟨d0, d1, d2, d3, d4, d5⟩ := H2.out.2.1.opcell
    go_wp2_with fail
    refine (xwflag_c B g v ys e o.f F _ H2.out.1 (by have := HBD.out.2.2.2.1; omega)).mono ?_
    rintro r w3 ⟨rfl, h3⟩
    have H3 : Hid (XGoes B w g F w3 (wadd e ys [fb o.f]) (e)) := XGoes.pre H2.out.2.2 h3
    clear h3
    go_wp2
    go_end0
    exact ⟨rfl, H3.out⟩
  by_cases h4 : o.call = 4
  · have hst : wst o ys e = (wadd e ys o.ds, e) := by unfold wst; simp [h4]
    rw [hst]
    rw [h4] at b0
    clear hst
    go_enter Try.func7, Try.ntmps7
    go_wp2_with (first
      | (refine wpList_load_mid rfl 35 (.tmp 59) rfl w.heap.size 6 rfl (o.ds.map (Value.int .u8)) _ (HBB.out.opD HOK.out) Try.underlying35 rfl (infoD32 HOK.out) ?_))
    rw [← hN]
    generalize hW1 : World.alloc w _ = W1
    have H1 : Hid (XW B W1 g v ys e F ∧ Bk 39 W1 N o.cells.toArray ∧ w.grownBy W1 none) := by
      rw [← hW1, hN, HO.out]; exact ⟨HW.out.new (World.grownBy_alloc _ _ _), heap_new w _, World.grownBy_alloc _ _ _⟩
    clear hW1 hN b0 b1 b2 b3 b4 b5 HBB
    refine (ndigest_c _ W1).mono ?_
    rintro r w2 ⟨rfl, hg2⟩
    have HG2 : Hid (W1.grownBy w2 none) := hg2
    clear hg2
    have H2 : Hid (XW B w2 g v ys e F ∧ Bk 39 w2 N o.cells.toArray ∧ w.grownBy w2 none) := ⟨H1.out.1.new HG2.out, H1.out.2.1.gr (Gr.of (G := fun _ => False) HG2.out (by simp)) (by simp), gb_trans H1.out.2.2 HG2.out⟩
    obtain ⟨d0, d1, d2, d3, d4, d5⟩ := H2.out.2.1.opcell
    go_wp2_with (first
      | (refine wpList_load_mid rfl 35 (.tmp 63) rfl N 6 rfl (o.ds.map (Value.int .u8)) _ (H2.out.2.1.opD HOK.out) Try.underlying35 rfl (infoD32 HOK.out) ?_))
    refine (xwdigest_c B g v ys e o.ds _ F _ H2.out.1 rfl HOK.out.len HOK.out.bytes (by have := HBD.out.2.2.2.1; omega)).mono ?_
    rintro r w3 ⟨rfl, h3⟩
    have H3 : Hid (XGoes B w g F w3 (wadd e ys o.ds) (e)) := XGoes.pre H2.out.2.2 h3
    clear h3
    go_wp2
    go_end0
    exact ⟨rfl, H3.out⟩
  by_cases h5 : o.call = 5
  · have hst : wst o ys e = (wadd (ferr e (wre o.key o.val o.ver)) ys (rowB o.key o.val o.ver), ferr e (wre o.key o.val o.ver)) := by unfold wst; simp [h5]
    rw [hst]
    rw [h5] at b0
    clear hst
    go_enter Try.func7, Try.ntmps7
    go_wp2_with (first
      | (refine wpList_load_mid rfl 37 (.tmp 69) rfl w.heap.size 38 rfl ([.string o.key, .string o.val, .int .i64 o.ver]) _ (HBB.out.opR HOK.out) Try.underlying37 rfl (infoRow3) ?_))
    rw [← hN]
    generalize hW1 : World.alloc w _ = W1
    have H1 : Hid (XW B W1 g v ys e F ∧ Bk 39 W1 N o.cells.toArray ∧ w.grownBy W1 none) := by
      rw [← hW1, hN, HO.out]; exact ⟨HW.out.new (World.grownBy_alloc _ _ _), heap_new w _, World.grownBy_alloc _ _ _⟩
    clear hW1 hN b0 b1 b2 b3 b4 b5 HBB
    refine (nrow_c _ _ _ W1).mono ?_
    rintro r w2 ⟨rfl, hg2⟩
    have HG2 : Hid (W1.grownBy w2 none) := hg2
    clear hg2
    have H2 : Hid (XW B w2 g v ys e F ∧ Bk 39 w2 N o.cells.toArray ∧ w.grownBy w2 none) := ⟨H1.out.1.new HG2.out, H1.out.2.1.gr (Gr.of (G := fun _ => False) HG2.out (by simp)) (by simp), gb_trans H1.out.2.2 HG2.out⟩
    obtain ⟨d0, d1, d2, d3, d4, d5⟩ := H2.out.2.1.opcell
    go_wp2_with (first
      | (refine wpList_load_mid rfl 37 (.tmp 73) rfl N 38 rfl ([.string o.key, .string o.val, .int .i64 o.ver]) _ (H2.out.2.1.opR HOK.out) Try.underlying37 rfl (infoRow3) ?_))
    refine (xwrow_c B g v ys e o.key o.val o.ver F _ H2.out.1 (by have := HBD.out.2.2.2.2; omega) (by have := HBD.out.2.2.2.2; omega) HBD.out.2.2.1.2 HBD.out.2.2.1.1 (by have := HBD.out.2.2.2; omega)).mono ?_
    rintro r w3 ⟨rfl, h3⟩
    have H3 : Hid (XGoes B w g F w3 (wadd (ferr e (wre o.key o.val o.ver)) ys (rowB o.key o.val o.ver)) (ferr e (wre o.key o.val o.ver))) := XGoes.pre H2.out.2.2 h3
    clear h3
    go_wp2
    go_end0
    exact ⟨rfl, H3.out⟩
  by_cases h6 : o.call = 6
  · have hst : wst o ys e = (ys, ferr e o.n) := by unfold wst; simp [h6]
    rw [hst]
    rw [h6] at b0
    clear hst
    go_enter Try.func7, Try.ntmps7
    go_wp2_with fail
    rw [← hN]
    generalize hW1 : World.alloc w _ = W1
    have H1 : Hid (XW B W1 g v ys e F ∧ Bk 39 W1 N o.cells.toArray ∧ w.grownBy W1 none) := by
      rw [← hW1, hN, HO.out]; exact ⟨HW.out.new (World.grownBy_alloc _ _ _), heap_new w _, World.grownBy_alloc _ _ _⟩
    clear hW1 hN b0 b1 b2 b3 b4 b5 HBB
    refine (nfail_c o.n W1).mono ?_
    rintro r w2 ⟨rfl, rfl⟩
    have HG2 : Hid (w2.grownBy w2 none) := World.grownBy.refl _ _
    have H2 : Hid (XW B w2 g v ys e F ∧ Bk 39 w2 N o.cells.toArray ∧ w.grownBy w2 none) := ⟨H1.out.1.new HG2.out, H1.out.2.1.gr (Gr.of (G := fun _ => False) HG2.out (by simp)) (by simp), gb_trans H1.out.2.2 HG2.out⟩
    obtain ⟨d0, d1, d2, d3, d4, d5⟩ := H2.out.2.1.opcell
    go_wp2_with fail
    refine (xwfail_c B g v ys e o.n F _ H2.out.1).mono ?_
    rintro r w3 ⟨rfl, h3⟩
    have H3 : Hid (XGoes B w g F w3 (ys) (ferr e o.n)) := XGoes.pre H2.out.2.2 h3
    clear h3
    go_wp2
    go_end0
    exact ⟨rfl, H3.out⟩
  have hst : wst o ys e = (ys, e) := by unfold wst; simp [h0, h1, h2, h3, h4, h5, h6]
  rw [hst]
  have q0 : (o.call == 0) = false := by simp [h0]
  have q1 : (o.call == 1) = false := by simp [h1]
  have q2 : (o.call == 2) = false := by simp [h2]
  have q3 : (o.call == 3) = false := by simp [h3]
  have q4 : (o.call == 4) = false := by simp [h4]
  have q5 : (o.call == 5) = false := by simp [h5]
  have q6 : (o.call == 6) = false := by simp [h6]
  clear h0 h1 h2 h3 h4 h5 h6 hst
  go_enter Try.func7, Try.ntmps7
  go_wp2
  go_end0
  exact ⟨rfl, (XGoes.pre (World.grownBy_alloc _ _ _) (HW.out.new (World.grownBy_alloc _ _ _)).stay)⟩
end Go.Proofs.Ytdedmmodlbnnfaa

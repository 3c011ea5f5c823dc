/-
  Proved: for all bytes and every number, hawserlaw04.FrameCanon answers true: what Decode takes is just what Encode writes of it, and of a beginning of it Decode takes nothing. No condition (the card ties the table of package crc to the program's text).
-/
import Derived.Test.YtdgoncpebfkbdacDoorRows
import Derived.Test.YtdgoncpebfkbdacDoorCards
import Derived.Test.YtdgoncpebfkbdacDoorTie
import Derived.Test.YtdgoncpebfkbdacDoorFEn
import Derived.Test.YtdgoncpebfkbdacDoorFDc
import Derived.Test.YtdgoncpebfkbdacDoorFIs
import Derived.WalkKit
import Derived.ProofKit
import Derived.OpenShut
import Derived.ShutString
import Derived.ChangeOld
import Derived.Below
import Derived.Lib.SmallJoins
import Derived.JoinedCond
import Derived.SizedLaws
import Derived.Deep.DeepHandedRow
import Derived.Lib.LaidTab
import Derived.Deep.RegionHeld3
namespace Go.Proofs.YtdgoncpebfkbdacDoor.frameCanon
open Go.ChangeShapes Go.WideShapes Go.ChangeAt Go.RowKit
set_option linter.unusedVariables false

theorem own : ownKnob Tryd.prog.godebug = none := by kernel_rfl
theorem laidOut : laidOutB Tryd.prog = true := by kernel_rfl

/-- What the walk is told of a slice of integers that came in. -/
def IsRow (k : IntKind) (R : Nat) (w : World) (a : Option Addr) (len cap : Nat) (zs : List Int) : Prop :=
  (a = none ∧ len = 0 ∧ cap = 0 ∧ zs = []) ∨
  ∃ x, a = some x ∧ len ≤ cap ∧ cap ≤ R ∧ zs.length = cap ∧ (∀ i, i < zs.length → w.cell? (x.add i) = some (.int k (zs.getD i 0))) ∧ ∀ n ∈ zs, (Lit.int k n).wf = true

theorem canon_two {w w1 W2 : World} {M c1 : Nat} {a1 : Option Addr} (h : Below w.heap.size w w1) (hM : M = w1.heap.size) (hW : (w1.alloc (.cells #[.int .i64 0, .slice a1 0 c1] 42)).alloc (.cells #[.int .u8 1] 5) = W2) :
    Bk 42 W2 M #[.int .i64 0, .slice a1 0 c1] ∧ Seg .u8 W2 (some ⟨M + 1, 0, none⟩) 1 [1] ∧ Below w.heap.size w W2 := by
  subst hM
  rw [← hW]
  exact ⟨Bk.below (T := 42) (heap_new w1 _) ((Below.refl _ _).alloc (Nat.le_refl _) _) (by simp), seg_at _ _ .u8 _ 5 1 [1] (by simp) rfl rfl, (h.alloc h.size _).alloc (by have := h.size; simp; omega) _⟩

set_option maxHeartbeats 2000000 in
theorem walk (a : Option Addr) (len cap : Nat) (zs : List Int) (V : Int) (w : World) (x0 : IsRow .u8 140737488351232 w a len cap zs) (wV : (Lit.int .u64 V).wf = true) (ht : Tab w) :
    Calls Tryd.prog 6 #[.slice a len cap, .int .u64 V] w fun e w' => e = .returned (.bool true) ∧ Below w.heap.size w w' := by
  obtain ⟨hs, hlc, hcr, hwf⟩ := seg_of_row x0
  have HX : Hid (Bytes (zs.take len)) := fun i hi => wf_u8 (hwf i hi)
  obtain ⟨xs, hxs⟩ : ∃ xs, xs = zs.take len := ⟨_, rfl⟩
  rw [← hxs] at hs HX
  have HS : Hid (Seg .u8 w a len xs) := hs
  have HLN : Hid (xs.length = len) := hs.1
  have HT : Hid (Tab w) := ht
  have hl : len ≤ 140737488351232 := by omega
  have hV := wf_u64 wV
  have GD : Hid _ := decode_c a len cap xs w hlc hs HX.out (by omega) ht
  clear ht x0 hwf hxs hs wV
  by_cases h0 : fdec xs = 0
  · obtain ⟨q1, q2, q3, q4⟩ := fenc_fdec HX.out h0
    obtain ⟨p1, p2, p3, p4, p5⟩ := fbeg_ok (fmeet_ok (most := 1048576) h0).1
    have HR : Hid (ftp xs = xs[2]?.getD 0 ∧ fnn xs = flen xs + 14 ∧ fbd xs = fbody xs) := by unfold ftp fnn fbd; rw [h0]; exact ⟨rfl, rfl, rfl⟩
    have HPT : Hid (∀ k, k < flen xs + 14 → fdec (xs.take k) = 40) := fun k hk => by
      unfold fdec fmeet
      rw [fbeg_part (fmeet_ok (most := 1048576) h0).1 hk]; rfl
    rw [h0, HR.out.1, HR.out.2.1, HR.out.2.2, q3] at GD
    rw [HLN.out] at p5
    have HBB : Hid (Bytes (fbody xs)) := by unfold fbody; exact (HX.out.drop 10).take _
    obtain ⟨n, hn⟩ : ∃ n, n = flen xs := ⟨_, rfl⟩
    obtain ⟨T, hT⟩ : ∃ T, T = xs[2]?.getD (0 : Int) := ⟨_, rfl⟩
    obtain ⟨ys, hys⟩ : ∃ ys, ys = fbody xs := ⟨_, rfl⟩
    rw [← hn] at q3 q4 p4 p5 HPT GD
    rw [← hT] at q1 q2 q4 GD
    rw [← hys] at q3 q4 GD HBB
    have HYL : Hid (ys.length = n) := q3
    have HEN : Hid (fee T n = 0 ∧ feb T ys = xs.take (n + 14)) := by
      have q : fee T n = 0 := by unfold fee; rw [if_neg (by omega), if_neg (by omega)]
      refine ⟨q, ?_⟩
      unfold feb; rw [HYL.out, q]; exact q4
    have HTL : Hid ((xs.take (n + 14)).length = n + 14) := by show _ = _; rw [List.length_take, HLN.out]; omega
    have HXT : Hid (Bytes (xs.take (n + 14))) := HX.out.take _
    clear hn hT hys q3 q4 p1 p2 p3 h0 HR
    obtain ⟨c, hc⟩ : ∃ c : Nat, V.tmod ((n : Int) + 14) = (c : Int) ∧ c < n + 14 := by
      refine ⟨(V % ((n : Int) + 14)).toNat, ?_, ?_⟩
      · rw [Int.tmod_eq_emod_of_nonneg hV.1]
        have := Int.emod_nonneg V (show ((n : Int) + 14) ≠ 0 by omega)
        omega
      · have h1 := Int.emod_nonneg V (show ((n : Int) + 14) ≠ 0 by omega)
        have h2 := Int.emod_lt_of_pos V (show (0 : Int) < (n : Int) + 14 by omega)
        omega
    have hc1 := hc.1
    have hc2 := hc.2
    have hcc : c ≤ cap := by omega
    have HS2 : Hid (∀ w', Below w.heap.size w w' → Seg .u8 w' a c (xs.take c) ∧ Seg .u8 w' a (n + 14) (xs.take (n + 14))) := fun w' hb => ⟨(HS.out.below hb).take c (by omega), (HS.out.below hb).take _ p5⟩
    clear hc
    go_enter Tryd.func6, Tryd.ntmps6
    go_wp2_with (first
      | (go_at_call 22; have z2 := H2; clear z2; go_must (refine (decode_c a c cap (xs.take c) w2 hcc (HS2.out w2 H2.out.2).1 (HX.out.take c) (by omega) (HT.out.below H2.out.2)).mono ?_); rintro e w3 ⟨u3, rfl, hu3, hb3⟩; rw [HPT.out c hc2]; obtain ⟨a3, c3, rfl, hs3, hn3, hl3⟩ := hu3.seg; have H3 : Hid (Seg .u8 w3 a2 (n + 14) (xs.take (n + 14)) ∧ Below w.heap.size w w3) := ⟨H2.out.1.below hb3, H2.out.2.trans (hb3.mono H2.out.2.size)⟩; clear hu3 hs3 hb3)
      | (go_at_call 22; refine (Calls.mono GD.out ?_); rintro e w1 ⟨u, rfl, hu, hb1⟩; obtain ⟨a1, c1, rfl, hs1, hn1, hl1⟩ := hu.seg; have H1 : Hid (Seg .u8 w1 a1 n ys ∧ Below w.heap.size w w1) := ⟨hs1, hb1⟩; clear hu hs1 hb1)
      | (refine wpList_load_bk 42 rfl _ rfl Tryd.underlying42 rfl Tryd.infoFrame w1.heap.size #[.int .i64 T, .slice a1 n c1] rfl (heap_new w1 _) rfl ?_)
      | (go_at_call 20; go_must (refine (encode_c T a1 n c1 ys _ hn1 (H1.out.1.below (below_of rfl)) HBB.out (by omega) (HT.out.below (H1.out.2.trans ((below_of rfl).mono H1.out.2.size)))).mono ?_); rintro e w2 ⟨u2, rfl, hu2, hb2⟩; rw [HEN.out.1]; rw [HEN.out.2, HTL.out] at hu2; obtain ⟨a2, c2, rfl, hs2, hn2, hl2⟩ := hu2.seg; have H2 : Hid (Seg .u8 w2 a2 (n + 14) (xs.take (n + 14)) ∧ Below w.heap.size w w2) := ⟨hs2, (H1.out.2.trans ((below_of rfl).mono H1.out.2.size)).trans (hb2.mono (H1.out.2.trans ((below_of rfl).mono H1.out.2.size)).size)⟩; clear hu2 hs2 hb2))
    generalize hW4 : World.alloc w3 _ = W4
    have H4 : Hid (Seg .u8 W4 a2 (n + 14) (xs.take (n + 14)) ∧ Seg .u8 W4 a (n + 14) (xs.take (n + 14)) ∧ Below w.heap.size w W4) := ⟨H3.out.1.below (below_of hW4), (HS2.out w3 H3.out.2).2.below (below_of hW4), H3.out.2.trans ((below_of hW4).mono H3.out.2.size)⟩
    obtain ⟨STR, hSTR⟩ : ∃ S, S = strOfNums (xs.take (n + 14)) := ⟨_, rfl⟩
    have r1 := fun (m : Nat) => seg_string (P := Tryd.prog) 28 9 5 c2 (H4.out.1.below (belowDrew (Below.refl _ W4) m)) Tryd.underlying28 Tryd.underlying5 Tryd.underlying9
    have r2 := fun (m : Nat) => seg_string (P := Tryd.prog) 28 9 5 cap (H4.out.2.1.below (belowDrew (Below.refl _ W4) m)) Tryd.underlying28 Tryd.underlying5 Tryd.underlying9
    rw [← hSTR] at r1 r2
    have r10 := r1 0
    have r20 := r2 0
    have r11 := r1 1
    have r21 := r2 1
    replace r10 : Sem.run Tryd.prog (convert 28 9 (Value.slice a2 (n + 14) c2)) W4 = _ := r10
    replace r20 : Sem.run Tryd.prog (convert 28 9 (Value.slice a (n + 14) cap)) W4 = _ := r20
    replace r11 : Sem.run Tryd.prog (convert 28 9 (Value.slice a2 (n + 14) c2)) W4.drew = _ := r11
    replace r21 : Sem.run Tryd.prog (convert 28 9 (Value.slice a (n + 14) cap)) W4.drew = _ := r21
    clear hW4 hSTR H3 H2 H1 HS2
    go_quiet (fail)
    go_wp2
    go_ret
    exact ⟨by first | rfl | simp, belowDrew H4.out.2.2 _⟩
  · have HR : Hid (ftp xs = 0 ∧ fnn xs = 0 ∧ fbd xs = []) := by unfold ftp fnn fbd; rw [if_neg h0, if_neg h0, if_neg h0]; exact ⟨rfl, rfl, rfl⟩
    rw [HR.out.1, HR.out.2.1, HR.out.2.2] at GD
    obtain ⟨E, hE⟩ : ∃ E : Nat, E = fdec xs := ⟨_, rfl⟩
    rw [← hE] at h0 GD
    have q0 : (((E : Nat) : Int) == 0) = false := by simp; omega
    clear hE HR
    have HE1 : Hid (fee 9 1 = 0 ∧ feb 9 [1] = fenc 9 [1] ∧ (fenc 9 [1]).length = 15 ∧ Bytes (fenc 9 [1]) ∧ ftp1 (fenc 9 [1]) = 9 ∧ fone (fenc 9 [1]) = 0 ∧ fbd1 (fenc 9 [1]) = [1]) := by
      have hb1 : Bytes [1] := bytes_of_mem (by decide)
      obtain ⟨q1, q2, q3, q4⟩ := fdec_fenc 9 [1] [] (by omega) (by omega) (by decide)
      rw [List.append_nil] at q1 q2 q3 q4
      have q5 : fdec (fenc 9 [1]) = 0 := q4 1048576 (by decide)
      have ql := fenc_length 9 [1]
      have q6 : fone (fenc 9 [1]) = 0 := by
        unfold fone
        rw [q5, q1, ql, if_neg (by simp)]
      refine ⟨rfl, rfl, ql, fenc_bytes (by omega) (by omega) hb1, ?_, q6, ?_⟩
      · unfold ftp1; rw [q6, q2]; rfl
      · unfold fbd1; rw [q6, q3]; rfl
    obtain ⟨fs, hfs⟩ : ∃ fs, fs = fenc 9 [1] := ⟨_, rfl⟩
    rw [← hfs] at HE1
    clear hfs
    go_enter Tryd.func6, Tryd.ntmps6
    go_wp2_with (first
      | (go_at_call 22; refine (Calls.mono GD.out ?_); rintro e w1 ⟨u, rfl, hu, hb1⟩; obtain ⟨a1, c1, rfl, hs1, hn1, hl1⟩ := hu.seg; have H1 : Hid (Below w.heap.size w w1) := hb1; clear hu hs1 hb1)
      | (go_at_call 20; obtain ⟨M, hM⟩ : ∃ M, M = w1.heap.size := ⟨_, rfl⟩; rw [← hM]; generalize hW2 : World.alloc (World.alloc w1 _) _ = W2; have H2 : Hid (Bk 42 W2 M #[.int .i64 0, .slice a1 0 c1] ∧ Seg .u8 W2 (some ⟨M + 1, 0, none⟩) 1 [1] ∧ Below w.heap.size w W2) := canon_two H1.out hM hW2
         clear hW2 hM
         go_must (refine (encode_c 9 (some ⟨M + 1, 0, none⟩) 1 1 [1] W2 (fun h => by cases h) H2.out.2.1 (bytes_of_mem (by decide)) (by omega) (HT.out.below H2.out.2.2)).mono ?_); rintro e w3 ⟨u3, rfl, hu3, hb3⟩; rw [HE1.out.1]; rw [HE1.out.2.1, HE1.out.2.2.1] at hu3; obtain ⟨g3, c3, rfl, _, hl3⟩ := hu3.form (by omega); have H3 : Hid (Bk 42 w3 M #[.int .i64 0, .slice a1 0 c1] ∧ Seg .u8 w3 (some ⟨g3, 0, none⟩) 15 fs ∧ Below w.heap.size w w3) := ⟨H2.out.1.below hb3 (lt_of_block H2.out.1), by (obtain ⟨a', c', he, hseg, _⟩ := hu3.seg; cases he; exact hseg), H2.out.2.2.trans (hb3.mono H2.out.2.2.size)⟩; clear hu3 hb3)
      | (go_at_call 23; go_must (refine (one_c (some ⟨g3, 0, none⟩) 15 c3 fs w3 (by omega) H3.out.2.1 HE1.out.2.2.2.1 (by omega) (HT.out.below H3.out.2.2)).mono ?_); rintro e w4 ⟨u4, rfl, hu4, hb4⟩; rw [HE1.out.2.2.2.2.1, HE1.out.2.2.2.2.2.1]; rw [HE1.out.2.2.2.2.2.2] at hu4; obtain ⟨a4, c4, rfl, hs4, hn4, hl4⟩ := hu4.seg; have H4 : Hid (Bk 42 w4 M #[.int .i64 0, .slice a1 0 c1] ∧ Below w.heap.size w w4) := ⟨H3.out.1.below hb4 (lt_of_block H3.out.1), H3.out.2.2.trans (hb4.mono H3.out.2.2.size)⟩; clear hu4 hs4 hb4; have m0 := H4.out.1.cell 0; have m1 := H4.out.1.cell 1; simp at m0 m1; have mlt := lt_of_block H4.out.1))
    go_ret
    exact ⟨rfl, H4.out.2.alloc H4.out.2.size _⟩

theorem gTab : Tryd.prog.globalNamed "hawser/crc.halves" = some 0 := by kernel_rfl
theorem gTabType : (Tryd.prog.globals[0]?).map (·.type) = some 103 := by kernel_rfl
theorem cellsT : Tryd.prog.cellsOf 103 = 16 := by kernel_rfl
theorem cellsE : Tryd.prog.cellsOf 92 = 1 := by kernel_rfl
/-- What the row's list gives: the table's cells. -/
theorem table {W : World} (h : laidMetH Tryd.prog Rows.frameCanonRow.laid W) : Lib.TabIs Tryd.prog W "hawser/crc.halves" .u32 tabl :=
  Lib.tabIs_of_head (rest := []) gTab gTabType Tryd.underlying103 Tryd.underlying92 cellsE cellsT h
theorem tab_of {W : World} (h : laidMetH Tryd.prog Rows.frameCanonRow.laid W) : Tab W := fun i hi => (table h).cell gTab i (show i < tabl.length from hi)
theorem laid_met (os : Os) : laidMet Tryd.prog Rows.frameCanonRow.laid (({ World.holding Tryd.prog os ⟨#[], #[], []⟩ with heap := (World.holding Tryd.prog os ⟨#[], #[], []⟩).heap.modify 0 fun | .cells _ t frozen => .cells (tabl.map fun z => Value.int .u32 z).toArray t frozen | o => o } : World).forCall (fun _ _ => 0) ⟨#[], #[.slice none 0 0, .int .u64 0], []⟩).memory :=
  laidMet_of_run' 8 (by kernel_rfl) (by kernel_rfl)
theorem reads (os : Os) {H : Type} (enc : TypeId × Value → H) : ∃ places, DataW.whole enc Tryd.prog (({ World.holding Tryd.prog os ⟨#[], #[], []⟩ with heap := (World.holding Tryd.prog os ⟨#[], #[], []⟩).heap.modify 0 fun | .cells _ t frozen => .cells (tabl.map fun z => Value.int .u32 z).toArray t frozen | o => o } : World).forCall (fun _ _ => 0) ⟨#[], #[.slice none 0 0, .int .u64 0], []⟩).memory Tryd.f6.params.toList Rows.frameCanonSpec.vars false (#[.slice none 0 0, .int .u64 0] : Array Value).toList 8 = some ([.nil, .lit (.int .u64 0)], [], places) :=
  ⟨[], by kernel_rfl⟩

set_option maxRecDepth 100000 in
theorem lifted (os : Os) (started : os.Started) (H : Type) (enc : TypeId × Value → H) (F : Stop.Interp) :
    ReturnsInHanded {} Tryd.checked os 6 .any ((OpenSpec.ofChange Rows.frameCanonSpec).preRow enc Tryd.prog Tryd.f6 Rows.frameCanonRow.domain false Rows.frameCanonRow.laid) (((OpenSpec.ofChange Rows.frameCanonSpec).at F).post enc Tryd.prog Tryd.f6 false true false false) := by
  obtain ⟨places, hx⟩ := reads os enc
  refine returnsInHanded_of_row (C := Tryd.checked) (s := OpenSpec.ofChange Rows.frameCanonSpec) own started (by kernel_rfl) Tryd.func6
    (witness_row_at (enc := enc) (C := Tryd.checked) false ({ World.holding Tryd.prog os ⟨#[], #[], []⟩ with heap := (World.holding Tryd.prog os ⟨#[], #[], []⟩).heap.modify 0 fun | .cells _ t frozen => .cells (tabl.map fun z => Value.int .u32 z).toArray t frozen | o => o } : World) #[.slice none 0 0, .int .u64 0] rfl (by kernel_rfl) (by kernel_rfl) (by kernel_rfl)
      (OpenSpec.preRow_of_cond 8 hx (by kernel_rfl) (fun k hk => by cases hk) (by kernel_rfl) (laid_met os))) ?_
  intro W base args ds gs before hval0 hW _ hcond0 hsz0 hL _ _
  have hsz : (DataW.weightsEach Tryd.prog (Tryd.f6.params.toList ++ Rows.frameCanonSpec.plain.varTypes Tryd.prog) (ds ++ gs)).all (· ≤ reachBytes) = true := hsz0
  have hval : ∀ (j : Nat) t v, Tryd.f6.params[j]? = some t → args[j]? = some v → Value.okWide Tryd.prog W .any base t v := hval0
  have hW' := hW
  obtain ⟨p, q, hA0, hV, rfl, hfz, hnd⟩ := hW
  have hA : DataW.TrodAll enc Tryd.prog W 0 (fun _ => true) true Tryd.f6.params.toList args.toList ds p := hA0
  rw [Tryd.params6] at hA hval hsz
  obtain ⟨v0, vs0, d0, ds0, p0, q0, hargs, rfl, rfl, h0, r0⟩ := trodAll_cons hA
  obtain ⟨v1, vs1, d1, ds1, p1, q1, rfl, rfl, rfl, h1, r1⟩ := trodAll_cons r0
  obtain ⟨rfl, rfl, rfl⟩ := trodAll_nil r1
  obtain rfl : args = #[v0, v1] := by cases args; simp_all
  obtain ⟨rfl, rfl⟩ := trodVars_none hV
  have k0 := h0
  have lt0 : ∀ x ∈ p0, x.block < W.heap.size := by obtain ⟨m, hm⟩ := k0; exact DataW.trod_lt m _ _ _ hm
  obtain ⟨a0, len0, cap0, z0, rfl, x0⟩ : ∃ a len cap zs, v0 = .slice a len cap ∧ IsRow .u8 140737488351232 W a len cap zs := by
    obtain ⟨sa, sl, sc, rfl⟩ := okWide_slice Tryd.underlying28 (hval 0 28 v0 rfl rfl)
    obtain ⟨fuel, hf⟩ := h0
    rcases open_ints Tryd.underlying28 Tryd.underlying5 (by kernel_rfl) hf with ⟨hcs, _⟩ | ⟨x, l, c, zs, hcs, _, hl, hm, hz, hx, hcell, hwz⟩
    · simp [Value.cells] at hcs; obtain ⟨rfl, rfl, rfl⟩ := hcs
      exact ⟨none, 0, 0, [], rfl, .inl ⟨rfl, rfl, rfl, rfl⟩⟩
    · simp [Value.cells] at hcs; obtain ⟨rfl, rfl, rfl⟩ := hcs
      have hz' : zs.length = sc := by simpa using hz
      have hd : d0 = _ := congrArg Prod.fst hx
      have hb := sized_slice hsz (j := 0) (t := 28) (e := 5) rfl (congrArg some hd) Tryd.underlying28
      rw [show Tryd.prog.bytesOf 5 = 1 from by kernel_rfl] at hb
      simp only [lits, List.length_map, List.length_take, List.length_drop, reachBytes] at hb
      exact ⟨some x, sl, sc, zs, rfl, .inr ⟨_, rfl, hl, by omega, hz', hcell, hwz⟩⟩
  obtain ⟨a1, rfl, rfl, rfl, w1⟩ := open_int Tryd.underlying60 (hval 1 60 v1 rfl rfl) h1
  clear hA0 hval0
  simp only [List.append_nil] at hW'
  refine (walk a0 len0 cap0 z0 a1 W x0 w1 (tab_of hL)).mono fun e W' ⟨he, bel⟩ => ?_
  subst he
  exact ⟨_, rfl, _, _, _, [], _, [], hW', trodAll_mk1 (shut_bool Tryd.underlying4 _), (trodAll_cons_mk (Below.trod laidOut (by kernel_rfl) (of_decide_eq_true (by kernel_rfl)) k0 bel lt0) (trodAll_cons_mk (shut_int Tryd.underlying60 w1) trodAll_mk0)), rfl, bel.frame _, fun h => by cases h⟩

theorem over : Rows.frameCanonRow.holds Tryd.pinned (OpenSpec.ofChange Rows.frameCanonSpec) :=
  OpenClaim.holds_of_cond 6 Tryd.f6 rfl rfl rfl rfl rfl rfl rfl ⟨rfl, rfl, rfl, rfl, rfl⟩ rfl rfl rfl rfl rfl (by kernel_rfl) Tryd.func6 (by kernel_rfl)
    (of_decide_eq_true (by kernel_rfl)) (by unfold Func.isWrapper; first | (rw [if_pos (by decide +kernel)]; kernel_rfl) | (rw [if_neg (by decide +kernel)]; exact ⟨rfl, rfl⟩))
    (fun os started H enc _ F => by rw [OpenClaim.pre_eq_preRow]; exact lifted os started H enc F)

/-- No parameter wants a stand-in; the program's own looks are off. -/
theorem plain (f : FuncId) (fn : Func) (hf : Tryd.pinned.checked.prog.funcNamed "hawser/hawserlaw04.FrameCanon" = some f) (hfn : Tryd.pinned.checked.prog.funcs[f]? = some fn) :
    false = Tryd.pinned.checked.prog.looks [] ∧ ∀ (j : Nat) t, fn.params[j]? = some t → Tryd.pinned.checked.prog.wantsStandIn t = false := by
  obtain rfl : f = 6 := Option.some.inj ((show Tryd.prog.funcNamed "hawser/hawserlaw04.FrameCanon" = some 6 by kernel_rfl).symm.trans hf) |>.symm
  obtain rfl : fn = Tryd.f6 := (Option.some.inj (Tryd.func6.symm.trans hfn)).symm
  refine ⟨by kernel_rfl, fun j t ht => ?_⟩
  rw [Tryd.params6] at ht
  have hm : t ∈ [28, 60] := by simpa using Array.mem_of_getElem? ht
  have hall : (([28, 60] : List TypeId).all fun u => !Tryd.prog.wantsStandIn u) = true := by kernel_rfl
  exact (show Tryd.prog.wantsStandIn t = false by simpa using List.all_eq_true.1 hall t hm)
theorem card : Rows.FrameCanonCardSaid :=
  Claim7.holds_tied_plain_at .later [] _ _ _ _ over (fun _ h => by cases h) (by kernel_rfl) (fun _ h => by cases h) frameCanon_row_tie rfl ⟨rfl, rfl⟩ (by kernel_rfl) rfl plain (by kernel_rfl)

end Go.Proofs.YtdgoncpebfkbdacDoor.frameCanon
namespace Go.Proofs.YtdgoncpebfkbdacDoor
theorem frameCanon_holds : Rows.FrameCanonCardSaid := frameCanon.card
#print axioms frameCanon_holds
end Go.Proofs.YtdgoncpebfkbdacDoor

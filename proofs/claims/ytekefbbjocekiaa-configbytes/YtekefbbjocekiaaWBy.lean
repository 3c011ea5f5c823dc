/-
  What the Writer's Bytes answers. Condition: what was laid down takes at most 2^47 bytes.
-/
import Derived.Test.YtekefbbjocekiaaWTx
import Derived.Test.YtekefbbjocekiaaPTx
import Derived.Test.YtekefbbjocekiaaGbN
import Derived.BigQuiet
import Derived.Deep.QuietTactic
namespace Go.Proofs.Ytekefbbjocekiaa
open Go.RowKit
set_option linter.unusedVariables false

theorem made_row {w0 w1 : World} {n : Nat} (hown : w1.ownsRow w0.heap.size 5 1 (.slice (some ⟨w0.heap.size, 0, none⟩) n n) n (madeCells (Value.int .u8 0).cells (n * 1)).toList) : Row .u8 5 w1 w0.heap.size (List.replicate n 0) :=
  row_of_own _ hown (by rw [List.map_replicate]; simpa [Value.cells] using toList_madeCells_one (.int .u8 0) n)
theorem slice_row (N n m : Nat) (hm : m ≤ n) (W : World) : Sem.run Try.prog (Instr.slice 49 (.slice (some ⟨N, 0, none⟩) n n) (some (.int .i64 (m : Int))) none none) W = .ok (.slice (if n = m then some ⟨N, 0, none⟩ else some ⟨N, m, none⟩) (n - m) (n - m)) W := by
  obtain ⟨i0, hi, hz0, hz1, hz2⟩ := info_parts Try.infoU8
  have hel : Try.prog.elem 49 = 5 := by simp [Program.elem]
  rw [run_slice_l W 49 (some ⟨N, 0, none⟩) n n (by rw [hel]; exact Try.underlying49) .i64 m (by omega) (by omega)]
  rw [hel]
  by_cases h : n = m
  · subst h; simp [sizeOf, typeInfo, hi, sliced]
  · simp [sizeOf, typeInfo, hi, sliced, hz1, h, Go.WideShapes.add_plain]
/-- Where Bytes stands behind its make. -/
def Made (w0 w1 : World) (g : Nat) (d : Option Addr) (ps : List Int) (u n N : Nat) : Prop := Wr w1 g 0 (.pointer d) ps u n ∧ (∃ X : List Int, X.length = n ∧ Row .u8 5 w1 N X) ∧ w0.grownBy w1 none ∧ w0.heap.size = N
theorem made_mk {w0 w1 : World} {g n u : Nat} {d : Option Addr} {ps : List Int} (h : Wr w0 g 0 (.pointer d) ps u n) (hown : w1.ownsRow w0.heap.size 5 1 (.slice (some ⟨w0.heap.size, 0, none⟩) n n) n (madeCells (Value.int .u8 0).cells (n * 1)).toList) (hg : w0.grownBy w1 none) : Made w0 w1 g d ps u n w0.heap.size :=
  ⟨h.gr (G := fun _ => False) (Gr.of hg (by simp)) (fun h => h), ⟨_, by simp, made_row hown⟩, hg, rfl⟩

/-- copy into a row of bytes, as one step of a region that draws. -/
theorem step_copyR {ops : Array Oper} {o : Oper} {a : Act} {w : World} {K : Act → World → Prop} {Q : Exit → Act → World → Prop} {E : Prop} (hgd : o.guard = none) (dO sO : Operand)
    (ho : o.op = .call { callee := .builtin .copy, args := #[dO, sO], argTypes := #[49, 49] }) (dp sp : Option Addr) (dLen dCap sLen sCap : Nat) (hd : a.eval dO = .slice dp dLen dCap) (hs : a.eval sO = .slice sp sLen sCap)
    (N k : Nat) (X xs : List Int) (hw : Row .u8 5 w N X) (hx : Seg .u8 w sp sLen xs) (hle : k + sLen ≤ X.length) (hdl : sLen ≤ dLen) (hdp : 0 < sLen → dp = some ⟨N, k, none⟩)
    (h : ∀ w', Row .u8 5 w' N (splice X k xs) → w.grownBy w' (some N) → K (a.put o.dst (.int .i64 (sLen : Int))) w') :
    if Region.wanted o (yielded ops a.tmps) = true then Oper.wp Try.prog o a w K Q else E := by
  have hwt : Region.wanted o (yielded ops a.tmps) = true := by simp [Region.wanted, hgd]
  rw [if_pos hwt]
  obtain ⟨i0, hi, hz0, hz1, hz2⟩ := info_parts Try.infoU8
  have hsz : (Try.prog.info? 5).map (·.size) = some 1 := by rw [hi]; simp [hz1]
  have hlx := hx.1
  by_cases h0 : sLen = 0
  · subst h0
    obtain rfl : xs = [] := List.eq_nil_of_length_eq_zero hlx
    have hrun := run_copy_none (P := Try.prog) w 49 49 o.type 5 dp sp dLen dCap 0 sCap Try.underlying49 hsz (by simp)
    unfold Oper.wp
    simp [execOp, ho, resolve, invoke, builtin, hd, hs, hrun, Result.andThen]
    exact h w (by simpa [splice] using hw) (World.grownBy.refl _ _)
  · obtain rfl := hdp (by omega)
    rcases hx.2 with h' | ⟨b, off, rfl, hb, hc⟩
    · omega
    · have hmin : Nat.min sLen dLen = sLen := Nat.min_eq_left hdl
      have hrun := run_copy_row (P := Try.prog) w 49 49 o.type 5 N k dLen dCap ⟨b, off, none⟩ sLen sCap (X.map (Value.int .u8)).toArray 5 (xs.map (Value.int .u8)) Try.underlying49 hsz hw (by rw [hmin]; simpa using hlx) (seg_news' hx _ rfl) (by simp; omega) (by intro v hv; obtain ⟨z, _, rfl⟩ := List.mem_map.1 hv; rfl)
      unfold Oper.wp
      simp only [execOp, ho, resolve, invoke, builtin, hd, hs, hrun, Result.andThen, Sem.run_bind, Sem.run_pure, List.map_toArray, List.map_cons, List.map_nil]
      have hln : goInt ((xs.map (Value.int .u8)).length : Int) = .int .i64 (sLen : Int) := by simp [goInt, hlx]
      rw [hln]
      refine h _ ?_ ?_
      · have e1 := setRow_heap w N _ ((X.map (Value.int .u8)).toArray.toList.take k ++ xs.map (Value.int .u8) ++ (X.map (Value.int .u8)).toArray.toList.drop (k + (xs.map (Value.int .u8)).length)).toArray 5 _ hw
        unfold Row
        rw [e1]
        simp [splice]
      · exact ⟨rfl, rfl, rfl, by simp [World.setRow], fun k _ hk => setRow_other w N k _ (fun e => hk (by rw [e]))⟩

/-- Where Bytes stands in its rounds: what lies behind the bytes of the blocks to come is laid down. -/
def Half (w0 wr : World) (N n : Nat) (cs ys : List Int) : Prop := ∃ X rest : List Int, X.length = n ∧ ys = cs ++ rest ∧ X.drop cs.length = rest ∧ n = ys.length ∧ Row .u8 5 wr N X ∧ w0.grownBy wr none
theorem half_start {w0 w2 w3 : World} {g n u m N : Nat} {d : Option Addr} {ps cs ys X : List Int} (h : Made w0 w2 g d ps u n N) (hm : n = m + u) (hX : X.length = n) (hu : u ≤ 256) (hy : ys = cs ++ ps.take u) (hn : n = ys.length) (h3 : Row .u8 5 w3 N (splice X m (ps.take u))) (hg : w2.drew.grownBy w3 (some N)) : cs.length = m ∧ Half w0 w3 N n cs ys := by
  have hl : (ps.take u).length = u := by simp [h.1.2]; omega
  have hc : cs.length = m := by have := congrArg List.length hy; rw [List.length_append, hl] at this; omega
  refine ⟨hc, splice X m (ps.take u), ps.take u, by rw [length_splice _ _ _ (by rw [hl]; omega)]; exact hX, hy, ?_, hn, h3, gb_newer (gb_drewN h.2.2.1 1) hg (by have := h.2.2.2; omega)⟩
  rw [hc]
  unfold splice
  rw [List.drop_append_of_le_length (by simp; omega), List.drop_eq_nil_of_le (by simp; omega), List.nil_append, hl, List.drop_eq_nil_of_le (by omega), List.append_nil]
theorem half_step {w0 w1 w2 : World} {N n : Nat} {cs zs ys rest X : List Int} (hX : X.length = n) (hy : ys = cs ++ zs ++ rest) (hr : X.drop (cs ++ zs).length = rest) (hn : n = ys.length) (hg0 : w0.grownBy w1 none) (h3 : Row .u8 5 w2 N (splice X cs.length zs)) (hg : w1.grownBy w2 (some N)) (hN : w0.heap.size ≤ N) : Half w0 w2 N n cs ys := by
  have hl := congrArg List.length hy
  rw [List.length_append, List.length_append] at hl
  refine ⟨_, zs ++ rest, ?_, by rw [hy, List.append_assoc], ?_, hn, h3, gb_newer hg0 hg hN⟩
  · rw [length_splice _ _ _ (by omega)]; exact hX
  · unfold splice
    rw [List.drop_append_of_le_length (by simp; omega), List.drop_eq_nil_of_le (by simp; omega), List.nil_append]
    rw [List.length_append] at hr
    rw [hr]
theorem half_end {w0 w1 : World} {N n : Nat} {ys : List Int} (h : Half w0 w1 N n [] ys) : Row .u8 5 w1 N ys := by
  obtain ⟨X, rest, hX, hy, hr, _, h3, _⟩ := h
  simp only [List.length_nil, List.drop_zero] at hr
  rw [hy, List.nil_append, ← hr]; exact h3

set_option maxRecDepth 20000 in
set_option maxHeartbeats 800000 in
theorem wbytes_ok (g : Nat) (ys : List Int) (fs : List Nat) (w : World) (h : WS w g ys 0 fs) (hb : ys.length ≤ 140737488355328) :
    Calls Try.prog 45 #[.pointer (some ⟨g, 0, none⟩)] w fun r w' => ∃ b, r = .returned (.tuple #[.slice (some ⟨b, 0, none⟩) ys.length ys.length, .int .i64 0]) ∧ w.heap.size ≤ b ∧ Row .u8 5 w' b ys ∧ Below w.heap.size w w' := by
  obtain ⟨i0, hi, hz0, hz1, hz2⟩ := info_parts Try.infoU8
  have HWL : Hid (Calls Try.prog 52 #[.pointer (some ⟨g, 0, none⟩)] w fun r w' => r = .returned (.bool true) ∧ w' = w) := well_c g 0 w h.c0
  obtain ⟨d, ps, u, cs, h1, h2, h3, h4, h5, h6⟩ := h
  obtain ⟨n, hn⟩ : ∃ n, n = ys.length := ⟨_, rfl⟩
  have hun : u ≤ n := by rw [hn, h4]; simp [h1.2]; omega
  rw [← hn] at h1 hb ⊢
  have c1 := h1.c1
  have cU := h1.cU
  have cN := h1.cN
  have HW : Hid (Wr w g 0 (.pointer d) ps u n) := h1
  have HCH : Hid (Chain w d cs fs) := h2
  have HY : Hid (ys = cs ++ ps.take u ∧ n = ys.length ∧ g ∉ fs) := ⟨h4, hn, h5⟩
  clear h1 h2 h4 h5 h6 hn
  go_enter Try.func45, Try.ntmps45
  go_wp2_with fail
  refine Calls.mono HWL.out ?_
  rintro r w0 ⟨rfl, rfl⟩
  go_wp2_with (at_make; go_must (refine wpList_make_full _ rfl _ _ 49 rfl w0.heap.size 5 i0 (.int .u8 0) 1 Try.underlying49 hi hz0 hz1 _ _ _ _ n rfl rfl (by omega) (by omega) (by rw [hz2]; omega) (by unfold maxLen; omega) (Nat.le_refl _) ?_); intro w1 hown hgrow; have H1 : Hid (Made w0 w1 g d ps u n w0.heap.size) := made_mk HW.out hown hgrow; have k1 := H1.out.1.c1; have kU := H1.out.1.cU; have kN := H1.out.1.cN; clear hown hgrow)
  obtain ⟨m, hm⟩ : ∃ m, n = m + u := ⟨n - u, by omega⟩
  have hsub : (n : Int) - (u : Int) = (m : Int) := by omega
  have hwr : IntKind.i64.wrap (m : Int) = (m : Int) := by rw [IntKind.wrap_i64]; omega
  obtain ⟨N, hN⟩ : ∃ N, N = w0.heap.size := ⟨_, rfl⟩
  rw [← hN] at H1 ⊢
  replace hN : Hid _ := hN
  clear c1 cU cN hi hz0 hz1 hz2
  have HM : Hid (n = m + u) := hm
  have hmn : m ≤ n := by omega
  clear hm
  go_quiet (fail)
  go_wp2_with fail
  have H2 : Hid (Made w0 (w1.drewN nq) g d ps u n N) := ⟨H1.out.1.gr ((Gr.refl (fun _ => False) w1).drewN nq) (fun h => h), H1.out.2.1.imp (fun X h => ⟨h.1, h.2.drewN nq⟩), gb_drewN H1.out.2.2.1 nq, H1.out.2.2.2⟩
  generalize w1.drewN nq = w2 at H2 ⊢
  clear H1 k1 kU kN hsub hwr
  have kU := H2.out.1.cU
  obtain ⟨dp, hdp, HD⟩ : ∃ dp, (if n = m then some (⟨N, 0, none⟩ : Addr) else some ⟨N, m, none⟩) = dp ∧ Hid (0 < u → dp = some ⟨N, m, none⟩) := ⟨_, rfl, fun h => by rw [if_neg (by have := HM.out; omega)]⟩
  have hslc := slice_row N n m hmn
  have hul : n - m = u := by have := HM.out; omega
  rw [hdp, hul] at hslc
  have hsl := slice_to g u h3
  obtain ⟨X, hX⟩ := H2.out.2.1
  have HX : Hid (X.length = n ∧ Row .u8 5 w2 N X ∧ Seg .u8 w2 (some ⟨g, 2, none⟩) u (ps.take u)) := ⟨hX.1, hX.2, H2.out.1.part u h3⟩
  clear hX
  go_region_law (refine step_copyR rfl (.tmp 35) (.tmp 43) rfl dp (some ⟨g, 2, none⟩) u u u 256 rfl rfl N m X (ps.take u) HX.out.2.1 HX.out.2.2 (by rw [HX.out.1]; have := HM.out; omega) (Nat.le_refl _) HD.out ?_; intro w3 hr3 hg3; have H3 : Hid (Row .u8 5 w3 N (splice X m (ps.take u)) ∧ w2.drew.grownBy w3 (some N)) := ⟨hr3, hg3⟩; clear hr3 hg3)
  have HH := half_start H2.out HM.out HX.out.1 h3 HY.out.1 HY.out.2.1 H3.out.1 H3.out.2
  obtain ⟨rfl, hh⟩ := HH
  have H4 : Hid (Half w0 w3 N n cs ys ∧ Wr w3 g 0 (.pointer d) ps u n) := by
    obtain ⟨_, _, _, _, _, _, _, hgb⟩ := id hh
    exact ⟨hh, HW.out.gr (G := fun _ => False) (Gr.of hgb (by simp)) (fun h => h)⟩
  have k1 := H4.out.2.c1
  have HNN : Hid (w0.heap.size ≤ N ∧ n = ys.length) := ⟨by rw [hN.out]; exact Nat.le_refl _, HY.out.2.1⟩
  clear hh H2 H3 HX HD hdp hslc hsl hul kU HM hN HWL HW HY hun h3
  go_wp2
  go_loopw [5, 6] (fun at' p wr => ∃ (d' : Option Addr) (cs' : List Int) (fs' : List Nat), at' = .int .i64 (cs'.length : Int) ∧ p = .pointer d' ∧ Hid (Chain w0 d' cs' fs' ∧ Half w0 wr N n cs' ys)) (fun at' _ _ => (intOf at').toNat)
  case atStart => exact ⟨d, cs, fs, rfl, rfl, HCH.out, H4.out.1⟩
  case round =>
    obtain ⟨d', cs', fs', rfl, rfl, HI⟩ := hrel
    obtain ⟨hch, hhf⟩ := HI.out
    clear k1 H4
    rcases hch.ways with ⟨rfl, rfl, rfl⟩ | ⟨b, k, cap, d2, ys2, zs, fs2, rfl, rfl, rfl, hb, hs, hk, hz, hc⟩
    · skip
      have H5 : Hid (Row .u8 5 wr N ys ∧ w0.grownBy wr none) := by
        obtain ⟨_, _, _, _, _, _, _, hgb⟩ := id hhf
        exact ⟨half_end hhf, hgb⟩
      clear hhf HI
      go_wp2
      go_ret2
      exact ⟨N, rfl, HNN.out.1, H5.out.1, ⟨H5.out.2.os, H5.out.2.tape, H5.out.2.output, H5.out.2.size, fun k hk => H5.out.2.block k hk (by simp)⟩⟩
    · skip
      obtain ⟨X', rest, hX, hy, hr, hn, hrow, hgb⟩ := hhf
      obtain ⟨A, hA⟩ : ∃ A, A = (ys2 ++ zs).length := ⟨_, rfl⟩
      obtain ⟨L, hL⟩ : ∃ L, L = ys2.length := ⟨_, rfl⟩
      obtain ⟨Z, hZ⟩ : ∃ Z, Z = zs.length := ⟨_, rfl⟩
      have hALZ : A = L + Z := by rw [hA, hL, hZ, List.length_append]
      have hAn : A ≤ n := by
        have := congrArg List.length hy
        rw [List.length_append, ← hA] at this; omega
      rw [← hZ] at hb hs hz
      have hbr : Bk 82 wr b #[.pointer d2, .slice (some ⟨k, 0, none⟩) Z cap] := hb.grew hgb (by simp)
      have b0 : wr.cell? ⟨b, 0, none⟩ = some (.pointer d2) := by rw [hbr.cell 0]; rfl
      have b1 : wr.cell? ⟨b, 1, none⟩ = some (.slice (some ⟨k, 0, none⟩) Z cap) := by rw [hbr.cell 1]; rfl
      have hsubA : (A : Int) - (Z : Int) = (L : Int) := by omega
      have hwrA : IntKind.i64.wrap (L : Int) = (L : Int) := by rw [IntKind.wrap_i64]; omega
      have hLn : L ≤ n := by omega
      have HZ : Hid (Seg .u8 wr (some ⟨k, 0, none⟩) Z zs ∧ X'.length = n ∧ Row .u8 5 wr N X' ∧ L + Z ≤ X'.length ∧ Z ≤ n - L ∧ Bk 82 wr b #[.pointer d2, .slice (some ⟨k, 0, none⟩) Z cap] ∧ b < w0.heap.size ∧ 0 < Z) := ⟨hs.grew hgb (by simp), hX, hrow, by omega, by omega, hbr, lt_of_block hb, hz⟩
      have HST : Hid (∀ w4, Row .u8 5 w4 N (splice X' L zs) → wr.grownBy w4 (some N) → Half w0 w4 N n ys2 ys) := fun w4 h3 hg => half_step hX hy hr hn hgb (hL ▸ h3) hg HNN.out.1
      have HC2 : Hid (Chain w0 d2 ys2 fs2) := hc
      have HA : Hid (A = L + Z ∧ L = ys2.length) := ⟨hALZ, hL⟩
      rw [← hA]
      clear HI hX hy hr hn hrow hgb hb hs hk hz hc hA hL hZ hALZ hbr hAn
      go_wp2_with fail
      obtain ⟨dp2, hdp2, HD2⟩ : ∃ dp2, (if n = L then some (⟨N, 0, none⟩ : Addr) else some ⟨N, L, none⟩) = dp2 ∧ Hid (0 < Z → dp2 = some ⟨N, L, none⟩) := ⟨_, rfl, fun h => by rw [if_neg (by have := HZ.out.2.2.2.2.1; omega)]⟩
      clear hsubA hwrA
      go_region_law (refine step_copyR rfl (.tmp 64) (.tmp 68) rfl dp2 (some ⟨k, 0, none⟩) (n - L) (n - L) Z cap rfl rfl N L X' zs HZ.out.2.2.1 HZ.out.1 HZ.out.2.2.2.1 HZ.out.2.2.2.2.1 HD2.out ?_; intro w4 hr4 hg4; have hg5 := gb_trans (gb_drewN (World.grownBy.refl wr (some N)) 1) hg4; have j0 := (HZ.out.2.2.2.2.2.1.grew hg5 (fun e => by have := HZ.out.2.2.2.2.2.2.1; have := HNN.out.1; cases e; omega)).cell 0; have H4 : Hid (Half w0 w4 N n ys2 ys) := HST.out w4 hr4 hg5; clear hr4 hg4 hg5)
      all_goals
        change w4.cell? ⟨b, 0, none⟩ = some (.pointer d2) at j0
        go_wp2
        refine ⟨⟨d2, ys2, fs2, by rw [HA.out.2], rfl, HC2.out, H4.out⟩, ?_⟩
        have := HA.out.1
        have := HZ.out.2.2.2.2.2.2.2
        simp only [intOf]
        omega

set_option maxRecDepth 20000 in
theorem wbytes_no (g : Nat) (ys : List Int) (e : Int) (fs : List Nat) (w : World) (h : WS w g ys e fs) (he : (e == 0) = false) :
    Calls Try.prog 45 #[.pointer (some ⟨g, 0, none⟩)] w fun r w' => r = .returned (.tuple #[.slice none 0 0, .int .i64 e]) ∧ ∃ n, w' = w.drewN n := by
  have HWL : Hid (Calls Try.prog 52 #[.pointer (some ⟨g, 0, none⟩)] w fun r w' => r = .returned (.bool false) ∧ w' = w) := by
    have := well_c g e w h.c0
    rw [he] at this; exact this
  have c0 := h.c0
  clear h
  go_enter Try.func45, Try.ntmps45
  go_wp2_with fail
  refine Calls.mono HWL.out ?_
  rintro r w0 ⟨rfl, rfl⟩
  go_wp2
  go_quiet (fail)
  go_wp2
  go_ret2
  exact ⟨rfl, _, rfl⟩
end Go.Proofs.Ytekefbbjocekiaa

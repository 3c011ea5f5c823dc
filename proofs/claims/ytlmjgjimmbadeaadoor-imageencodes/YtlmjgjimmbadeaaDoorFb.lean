/-
  What the Writer's Bytes answers. Condition: what was laid down takes at most 2^47 bytes.
  A Writer of one's own: what its calls come to. Condition: what is laid down takes at most 2^47 bytes.
  What the Writer's Size answers. No condition of its own.
  What the Writer's Digest answers. Condition: what is laid down takes at most 2^47 bytes.
  What the document's Bytes answers of a number of 64 bits: its bytes, in memory of their own. No condition of its own.
  The document's Writer in memory, as plain data, and what its lay, Fail, Uint, Int, Flag, Text answer. Condition: what is laid down takes at most 2^47 bytes.
  What the document's Writer's Int, Flag, Text and Bytes answer. Condition: what is laid down takes at most 2^47 bytes.
  What the document's Writer's Text, Digest, Row and Bytes answer. Condition: what is laid down takes at most 2^47 bytes.
  What the document's Writer's Digest, Row and Bytes answer. Condition: what is laid down takes at most 2^47 bytes.
  What the document's Writer's Row answers. Condition: what is laid down takes at most 2^47 bytes.
  One step of a Writer beside a row that came in as an argument (for Row's contract). No condition of its own.
-/
import Derived.Test.YtlmjgjimmbadeaaDoorFa
import Derived.BigQuiet
import Derived.Deep.QuietTactic
import Derived.Laws.IdiomStrings
import Derived.Deep.RegionHeld3
namespace Go.Proofs.YtlmjgjimmbadeaaDoor
open Go.RowKit
set_option linter.unusedVariables false

theorem made_row {w0 w1 : World} {n : Nat} (hown : w1.ownsRow w0.heap.size 5 1 (.slice (some ⟨w0.heap.size, 0, none⟩) n n) n (madeCells (Value.int .u8 0).cells (n * 1)).toList) : Row .u8 5 w1 w0.heap.size (List.replicate n 0) :=
  row_of_own _ hown (by rw [List.map_replicate]; simpa [Value.cells] using toList_madeCells_one (.int .u8 0) n)
theorem slice_row (N n m : Nat) (hm : m ≤ n) (W : World) : Sem.run Tryd.prog (Instr.slice 27 (.slice (some ⟨N, 0, none⟩) n n) (some (.int .i64 (m : Int))) none none) W = .ok (.slice (if n = m then some ⟨N, 0, none⟩ else some ⟨N, m, none⟩) (n - m) (n - m)) W := by
  obtain ⟨i0, hi, hz0, hz1, hz2⟩ := info_parts Tryd.infoU8
  have hel : Tryd.prog.elem 27 = 5 := by simp [Program.elem]
  rw [run_slice_l W 27 (some ⟨N, 0, none⟩) n n (by rw [hel]; exact Tryd.underlying27) .i64 m (by omega) (by omega)]
  rw [hel]
  by_cases h : n = m
  · subst h; simp [sizeOf, typeInfo, hi, sliced]
  · simp [sizeOf, typeInfo, hi, sliced, hz1, h, Go.WideShapes.add_plain]
/-- Where Bytes stands behind its make. -/
def Made (w0 w1 : World) (g : Nat) (d : Option Addr) (ps : List Int) (u n N : Nat) : Prop := Wr w1 g 0 (.pointer d) ps u n ∧ (∃ X : List Int, X.length = n ∧ Row .u8 5 w1 N X) ∧ w0.grownBy w1 none ∧ w0.heap.size = N
theorem made_mk {w0 w1 : World} {g n u : Nat} {d : Option Addr} {ps : List Int} (h : Wr w0 g 0 (.pointer d) ps u n) (hown : w1.ownsRow w0.heap.size 5 1 (.slice (some ⟨w0.heap.size, 0, none⟩) n n) n (madeCells (Value.int .u8 0).cells (n * 1)).toList) (hg : w0.grownBy w1 none) : Made w0 w1 g d ps u n w0.heap.size :=
  ⟨h.gr (G := fun _ => False) (Gr.of hg (by simp)) (fun h => h), ⟨_, by simp, made_row hown⟩, hg, rfl⟩

/-- copy into a row of bytes, as one step of a region that draws. -/
theorem step_copyR {ops : Array Oper} {o : Oper} {a : Act} {w : World} {K : Act → World → Prop} {Q : Exit → Act → World → Prop} {E : Prop} (hgd : o.guard = none) (dO sO : Operand)
    (ho : o.op = .call { callee := .builtin .copy, args := #[dO, sO], argTypes := #[27, 27] }) (dp sp : Option Addr) (dLen dCap sLen sCap : Nat) (hd : a.eval dO = .slice dp dLen dCap) (hs : a.eval sO = .slice sp sLen sCap)
    (N k : Nat) (X xs : List Int) (hw : Row .u8 5 w N X) (hx : Seg .u8 w sp sLen xs) (hle : k + sLen ≤ X.length) (hdl : sLen ≤ dLen) (hdp : 0 < sLen → dp = some ⟨N, k, none⟩)
    (h : ∀ w', Row .u8 5 w' N (splice X k xs) → w.grownBy w' (some N) → K (a.put o.dst (.int .i64 (sLen : Int))) w') :
    if Region.wanted o (yielded ops a.tmps) = true then Oper.wp Tryd.prog o a w K Q else E := by
  have hwt : Region.wanted o (yielded ops a.tmps) = true := by simp [Region.wanted, hgd]
  rw [if_pos hwt]
  obtain ⟨i0, hi, hz0, hz1, hz2⟩ := info_parts Tryd.infoU8
  have hsz : (Tryd.prog.info? 5).map (·.size) = some 1 := by rw [hi]; simp [hz1]
  have hlx := hx.1
  by_cases h0 : sLen = 0
  · subst h0
    obtain rfl : xs = [] := List.eq_nil_of_length_eq_zero hlx
    have hrun := run_copy_none (P := Tryd.prog) w 27 27 o.type 5 dp sp dLen dCap 0 sCap Tryd.underlying27 hsz (by simp)
    unfold Oper.wp
    simp [execOp, ho, resolve, invoke, builtin, hd, hs, hrun, Result.andThen]
    exact h w (by simpa [splice] using hw) (World.grownBy.refl _ _)
  · obtain rfl := hdp (by omega)
    rcases hx.2 with h' | ⟨b, off, rfl, hb, hc⟩
    · omega
    · have hmin : Nat.min sLen dLen = sLen := Nat.min_eq_left hdl
      have hrun := run_copy_row (P := Tryd.prog) w 27 27 o.type 5 N k dLen dCap ⟨b, off, none⟩ sLen sCap (X.map (Value.int .u8)).toArray 5 (xs.map (Value.int .u8)) Tryd.underlying27 hsz hw (by rw [hmin]; simpa using hlx) (seg_news' hx _ rfl) (by simp; omega) (by intro v hv; obtain ⟨z, _, rfl⟩ := List.mem_map.1 hv; rfl)
      unfold Oper.wp
      simp only [execOp, ho, resolve, invoke, builtin, hd, hs, hrun, Result.andThen, Sem.run_bind, Sem.run_pure, List.map_toArray, List.map_cons, List.map_nil]
      have hln : goInt ((xs.map (Value.int .u8)).length : Int) = .int .i64 (sLen : Int) := by simp [goInt, hlx]
      rw [hln]
      refine h _ ?_ ?_
      · have e1 := setRow_heap w N _ ((X.map (Value.int .u8)).toArray.toList.take k ++ xs.map (Value.int .u8) ++ (X.map (Value.int .u8)).toArray.toList.drop (k + (xs.map (Value.int .u8)).length)).toArray 5 _ hw
        unfold Row
        rw [e1]
        simp [splice]
      · exact ⟨rfl, rfl, rfl, by simp [World.setRow], fun k _ hk => setRow_other w N k _ (fun e => hk (by rw [e]))⟩

/-- Where Bytes stands in its rounds: what lies behind the bytes of the blocks to come is laid down. -/
def Half (w0 wr : World) (N n : Nat) (cs ys : List Int) : Prop := ∃ X rest : List Int, X.length = n ∧ ys = cs ++ rest ∧ X.drop cs.length = rest ∧ n = ys.length ∧ Row .u8 5 wr N X ∧ w0.grownBy wr none
theorem half_start {w0 w2 w3 : World} {g n u m N : Nat} {d : Option Addr} {ps cs ys X : List Int} (h : Made w0 w2 g d ps u n N) (hm : n = m + u) (hX : X.length = n) (hu : u ≤ 256) (hy : ys = cs ++ ps.take u) (hn : n = ys.length) (h3 : Row .u8 5 w3 N (splice X m (ps.take u))) (hg : w2.drew.grownBy w3 (some N)) : cs.length = m ∧ Half w0 w3 N n cs ys := by
  have hl : (ps.take u).length = u := by simp [h.1.2]; omega
  have hc : cs.length = m := by have := congrArg List.length hy; rw [List.length_append, hl] at this; omega
  refine ⟨hc, splice X m (ps.take u), ps.take u, by rw [length_splice _ _ _ (by rw [hl]; omega)]; exact hX, hy, ?_, hn, h3, gb_newer (gb_drewN h.2.2.1 1) hg (by have := h.2.2.2; omega)⟩
  rw [hc]
  unfold splice
  rw [List.drop_append_of_le_length (by simp; omega), List.drop_eq_nil_of_le (by simp; omega), List.nil_append, hl, List.drop_eq_nil_of_le (by omega), List.append_nil]
theorem half_step {w0 w1 w2 : World} {N n : Nat} {cs zs ys rest X : List Int} (hX : X.length = n) (hy : ys = cs ++ zs ++ rest) (hr : X.drop (cs ++ zs).length = rest) (hn : n = ys.length) (hg0 : w0.grownBy w1 none) (h3 : Row .u8 5 w2 N (splice X cs.length zs)) (hg : w1.grownBy w2 (some N)) (hN : w0.heap.size ≤ N) : Half w0 w2 N n cs ys := by
  have hl := congrArg List.length hy
  rw [List.length_append, List.length_append] at hl
  refine ⟨_, zs ++ rest, ?_, by rw [hy, List.append_assoc], ?_, hn, h3, gb_newer hg0 hg hN⟩
  · rw [length_splice _ _ _ (by omega)]; exact hX
  · unfold splice
    rw [List.drop_append_of_le_length (by simp; omega), List.drop_eq_nil_of_le (by simp; omega), List.nil_append]
    rw [List.length_append] at hr
    rw [hr]
theorem half_end {w0 w1 : World} {N n : Nat} {ys : List Int} (h : Half w0 w1 N n [] ys) : Row .u8 5 w1 N ys := by
  obtain ⟨X, rest, hX, hy, hr, _, h3, _⟩ := h
  simp only [List.length_nil, List.drop_zero] at hr
  rw [hy, List.nil_append, ← hr]; exact h3

set_option maxRecDepth 20000 in
set_option maxHeartbeats 800000 in
theorem wbytes_ok (g : Nat) (ys : List Int) (fs : List Nat) (w : World) (h : WS w g ys 0 fs) (hb : ys.length ≤ 140737488355328) :
    Calls Tryd.prog 74 #[.pointer (some ⟨g, 0, none⟩)] w fun r w' => ∃ b, r = .returned (.tuple #[.slice (some ⟨b, 0, none⟩) ys.length ys.length, .int .i64 0]) ∧ w.heap.size ≤ b ∧ Row .u8 5 w' b ys ∧ Below w.heap.size w w' := by
  obtain ⟨i0, hi, hz0, hz1, hz2⟩ := info_parts Tryd.infoU8
  have HWL : Hid (Calls Tryd.prog 101 #[.pointer (some ⟨g, 0, none⟩)] w fun r w' => r = .returned (.bool true) ∧ w' = w) := well_c g 0 w h.c0
  obtain ⟨d, ps, u, cs, h1, h2, h3, h4, h5, h6⟩ := h
  obtain ⟨n, hn⟩ : ∃ n, n = ys.length := ⟨_, rfl⟩
  have hun : u ≤ n := by rw [hn, h4]; simp [h1.2]; omega
  rw [← hn] at h1 hb ⊢
  have c1 := h1.c1
  have cU := h1.cU
  have cN := h1.cN
  have HW : Hid (Wr w g 0 (.pointer d) ps u n) := h1
  have HCH : Hid (Chain w d cs fs) := h2
  have HY : Hid (ys = cs ++ ps.take u ∧ n = ys.length ∧ g ∉ fs) := ⟨h4, hn, h5⟩
  clear h1 h2 h4 h5 h6 hn
  go_enter Tryd.func74, Tryd.ntmps74
  go_wp2_with fail
  refine Calls.mono HWL.out ?_
  rintro r w0 ⟨rfl, rfl⟩
  go_wp2_with (at_make; go_must (refine wpList_make_full _ rfl _ _ 27 rfl w0.heap.size 5 i0 (.int .u8 0) 1 Tryd.underlying27 hi hz0 hz1 _ _ _ _ n rfl rfl (by omega) (by omega) (by rw [hz2]; omega) (by unfold maxLen; omega) (Nat.le_refl _) ?_); intro w1 hown hgrow; have H1 : Hid (Made w0 w1 g d ps u n w0.heap.size) := made_mk HW.out hown hgrow; have k1 := H1.out.1.c1; have kU := H1.out.1.cU; have kN := H1.out.1.cN; clear hown hgrow)
  obtain ⟨m, hm⟩ : ∃ m, n = m + u := ⟨n - u, by omega⟩
  have hsub : (n : Int) - (u : Int) = (m : Int) := by omega
  have hwr : IntKind.i64.wrap (m : Int) = (m : Int) := by rw [IntKind.wrap_i64]; omega
  obtain ⟨N, hN⟩ : ∃ N, N = w0.heap.size := ⟨_, rfl⟩
  rw [← hN] at H1 ⊢
  replace hN : Hid _ := hN
  clear c1 cU cN hi hz0 hz1 hz2
  have HM : Hid (n = m + u) := hm
  have hmn : m ≤ n := by omega
  clear hm
  go_quiet (fail)
  go_wp2_with fail
  have H2 : Hid (Made w0 (w1.drewN nq) g d ps u n N) := ⟨H1.out.1.gr ((Gr.refl (fun _ => False) w1).drewN nq) (fun h => h), H1.out.2.1.imp (fun X h => ⟨h.1, h.2.drewN nq⟩), gb_drewN H1.out.2.2.1 nq, H1.out.2.2.2⟩
  generalize w1.drewN nq = w2 at H2 ⊢
  clear H1 k1 kU kN hsub hwr
  have kU := H2.out.1.cU
  obtain ⟨dp, hdp, HD⟩ : ∃ dp, (if n = m then some (⟨N, 0, none⟩ : Addr) else some ⟨N, m, none⟩) = dp ∧ Hid (0 < u → dp = some ⟨N, m, none⟩) := ⟨_, rfl, fun h => by rw [if_neg (by have := HM.out; omega)]⟩
  have hslc := slice_row N n m hmn
  have hul : n - m = u := by have := HM.out; omega
  rw [hdp, hul] at hslc
  have hsl := slice_to g u h3
  obtain ⟨X, hX⟩ := H2.out.2.1
  have HX : Hid (X.length = n ∧ Row .u8 5 w2 N X ∧ Seg .u8 w2 (some ⟨g, 2, none⟩) u (ps.take u)) := ⟨hX.1, hX.2, H2.out.1.part u h3⟩
  clear hX
  go_region_law (refine step_copyR rfl (.tmp 35) (.tmp 43) rfl dp (some ⟨g, 2, none⟩) u u u 256 rfl rfl N m X (ps.take u) HX.out.2.1 HX.out.2.2 (by rw [HX.out.1]; have := HM.out; omega) (Nat.le_refl _) HD.out ?_; intro w3 hr3 hg3; have H3 : Hid (Row .u8 5 w3 N (splice X m (ps.take u)) ∧ w2.drew.grownBy w3 (some N)) := ⟨hr3, hg3⟩; clear hr3 hg3)
  have HH := half_start H2.out HM.out HX.out.1 h3 HY.out.1 HY.out.2.1 H3.out.1 H3.out.2
  obtain ⟨rfl, hh⟩ := HH
  have H4 : Hid (Half w0 w3 N n cs ys ∧ Wr w3 g 0 (.pointer d) ps u n) := by
    obtain ⟨_, _, _, _, _, _, _, hgb⟩ := id hh
    exact ⟨hh, HW.out.gr (G := fun _ => False) (Gr.of hgb (by simp)) (fun h => h)⟩
  have k1 := H4.out.2.c1
  have HNN : Hid (w0.heap.size ≤ N ∧ n = ys.length) := ⟨by rw [hN.out]; exact Nat.le_refl _, HY.out.2.1⟩
  clear hh H2 H3 HX HD hdp hslc hsl hul kU HM hN HWL HW HY hun h3
  go_wp2
  go_loopw [5, 6] (fun at' p wr => ∃ (d' : Option Addr) (cs' : List Int) (fs' : List Nat), at' = .int .i64 (cs'.length : Int) ∧ p = .pointer d' ∧ Hid (Chain w0 d' cs' fs' ∧ Half w0 wr N n cs' ys)) (fun at' _ _ => (intOf at').toNat)
  case atStart => exact ⟨d, cs, fs, rfl, rfl, HCH.out, H4.out.1⟩
  case round =>
    obtain ⟨d', cs', fs', rfl, rfl, HI⟩ := hrel
    obtain ⟨hch, hhf⟩ := HI.out
    clear k1 H4
    rcases hch.ways with ⟨rfl, rfl, rfl⟩ | ⟨b, k, cap, d2, ys2, zs, fs2, rfl, rfl, rfl, hb, hs, hk, hz, hc⟩
    · skip
      have H5 : Hid (Row .u8 5 wr N ys ∧ w0.grownBy wr none) := by
        obtain ⟨_, _, _, _, _, _, _, hgb⟩ := id hhf
        exact ⟨half_end hhf, hgb⟩
      clear hhf HI
      go_wp2
      go_ret2
      exact ⟨N, rfl, HNN.out.1, H5.out.1, ⟨H5.out.2.os, H5.out.2.tape, H5.out.2.output, H5.out.2.size, fun k hk => H5.out.2.block k hk (by simp)⟩⟩
    · skip
      obtain ⟨X', rest, hX, hy, hr, hn, hrow, hgb⟩ := hhf
      obtain ⟨A, hA⟩ : ∃ A, A = (ys2 ++ zs).length := ⟨_, rfl⟩
      obtain ⟨L, hL⟩ : ∃ L, L = ys2.length := ⟨_, rfl⟩
      obtain ⟨Z, hZ⟩ : ∃ Z, Z = zs.length := ⟨_, rfl⟩
      have hALZ : A = L + Z := by rw [hA, hL, hZ, List.length_append]
      have hAn : A ≤ n := by
        have := congrArg List.length hy
        rw [List.length_append, ← hA] at this; omega
      rw [← hZ] at hb hs hz
      have hbr : Bk 149 wr b #[.pointer d2, .slice (some ⟨k, 0, none⟩) Z cap] := hb.grew hgb (by simp)
      have b0 : wr.cell? ⟨b, 0, none⟩ = some (.pointer d2) := by rw [hbr.cell 0]; rfl
      have b1 : wr.cell? ⟨b, 1, none⟩ = some (.slice (some ⟨k, 0, none⟩) Z cap) := by rw [hbr.cell 1]; rfl
      have hsubA : (A : Int) - (Z : Int) = (L : Int) := by omega
      have hwrA : IntKind.i64.wrap (L : Int) = (L : Int) := by rw [IntKind.wrap_i64]; omega
      have hLn : L ≤ n := by omega
      have HZ : Hid (Seg .u8 wr (some ⟨k, 0, none⟩) Z zs ∧ X'.length = n ∧ Row .u8 5 wr N X' ∧ L + Z ≤ X'.length ∧ Z ≤ n - L ∧ Bk 149 wr b #[.pointer d2, .slice (some ⟨k, 0, none⟩) Z cap] ∧ b < w0.heap.size ∧ 0 < Z) := ⟨hs.grew hgb (by simp), hX, hrow, by omega, by omega, hbr, lt_of_block hb, hz⟩
      have HST : Hid (∀ w4, Row .u8 5 w4 N (splice X' L zs) → wr.grownBy w4 (some N) → Half w0 w4 N n ys2 ys) := fun w4 h3 hg => half_step hX hy hr hn hgb (hL ▸ h3) hg HNN.out.1
      have HC2 : Hid (Chain w0 d2 ys2 fs2) := hc
      have HA : Hid (A = L + Z ∧ L = ys2.length) := ⟨hALZ, hL⟩
      rw [← hA]
      clear HI hX hy hr hn hrow hgb hb hs hk hz hc hA hL hZ hALZ hbr hAn
      go_wp2_with fail
      obtain ⟨dp2, hdp2, HD2⟩ : ∃ dp2, (if n = L then some (⟨N, 0, none⟩ : Addr) else some ⟨N, L, none⟩) = dp2 ∧ Hid (0 < Z → dp2 = some ⟨N, L, none⟩) := ⟨_, rfl, fun h => by rw [if_neg (by have := HZ.out.2.2.2.2.1; omega)]⟩
      clear hsubA hwrA
      go_region_law (refine step_copyR rfl (.tmp 64) (.tmp 68) rfl dp2 (some ⟨k, 0, none⟩) (n - L) (n - L) Z cap rfl rfl N L X' zs HZ.out.2.2.1 HZ.out.1 HZ.out.2.2.2.1 HZ.out.2.2.2.2.1 HD2.out ?_; intro w4 hr4 hg4; have hg5 := gb_trans (gb_drewN (World.grownBy.refl wr (some N)) 1) hg4; have j0 := (HZ.out.2.2.2.2.2.1.grew hg5 (fun e => by have := HZ.out.2.2.2.2.2.2.1; have := HNN.out.1; cases e; omega)).cell 0; have H4 : Hid (Half w0 w4 N n ys2 ys) := HST.out w4 hr4 hg5; clear hr4 hg4 hg5)
      all_goals
        change w4.cell? ⟨b, 0, none⟩ = some (.pointer d2) at j0
        go_wp2
        refine ⟨⟨d2, ys2, fs2, by rw [HA.out.2], rfl, HC2.out, H4.out⟩, ?_⟩
        have := HA.out.1
        have := HZ.out.2.2.2.2.2.2.2
        simp only [intOf]
        omega

set_option maxRecDepth 20000 in
theorem wbytes_no (g : Nat) (ys : List Int) (e : Int) (fs : List Nat) (w : World) (h : WS w g ys e fs) (he : (e == 0) = false) :
    Calls Tryd.prog 74 #[.pointer (some ⟨g, 0, none⟩)] w fun r w' => r = .returned (.tuple #[.slice none 0 0, .int .i64 e]) ∧ ∃ n, w' = w.drewN n := by
  have HWL : Hid (Calls Tryd.prog 101 #[.pointer (some ⟨g, 0, none⟩)] w fun r w' => r = .returned (.bool false) ∧ w' = w) := by
    have := well_c g e w h.c0
    rw [he] at this; exact this
  have c0 := h.c0
  clear h
  go_enter Tryd.func74, Tryd.ntmps74
  go_wp2_with fail
  refine Calls.mono HWL.out ?_
  rintro r w0 ⟨rfl, rfl⟩
  go_wp2
  go_quiet (fail)
  go_wp2
  go_ret2
  exact ⟨rfl, _, rfl⟩
end Go.Proofs.YtlmjgjimmbadeaaDoor
namespace Go.Proofs.YtlmjgjimmbadeaaDoor
open Go.RowKit
set_option linter.unusedVariables false

theorem zeroWr : Tryd.zeroCells92 = (wcells 0 (.pointer none) (List.replicate 256 0) 0 0).toArray := by kernel_rfl
theorem ws_none {w : World} {g : Nat} (h : w.heap[g]? = some (.cells Tryd.zeroCells92 92 (0, 0))) : WS w g [] 0 [] := by
  rw [zeroWr] at h
  exact ⟨none, List.replicate 256 0, 0, [], ⟨h, List.length_replicate⟩, chain_nil _, by omega, rfl, by simp, fun i hi => by simp at hi⟩
/-- A writer of one's own, with blocks of one's own alone. -/
def WM (B : Nat) (w wr : World) (ys : List Int) (e : Int) : Prop := ∃ fs, WS wr B ys e fs ∧ (∀ k ∈ fs, B ≤ k) ∧ Below B w wr ∧ B ≤ wr.heap.size
theorem WM.goes {B w wr ys e ys' e'} {f : FuncId} {A : Array Value} {v : Value} (h : WM B w wr ys e) (hc : ∀ fs, WS wr B ys e fs → Calls Tryd.prog f A wr fun r w' => r = .returned v ∧ WGoes wr B fs w' ys' e') : Calls Tryd.prog f A wr fun r w' => r = .returned v ∧ WM B w w' ys' e' := by
  obtain ⟨fs, h1, h2, h3, h4⟩ := h
  refine (hc fs h1).mono ?_
  rintro r w' ⟨hr, fs', k1, k2, k3⟩
  have := k2.size
  exact ⟨hr, fs', k1, fun k hk => by rcases k3 k hk with q | q; exact h2 k q; omega, k2.below h3 (fun k hk => by omega) h4, by omega⟩
theorem WM.drew {B w wr w' ys e} (h : WM B w wr ys e) (hd : ∃ n, w' = wr.drewN n) : WM B w w' ys e := by
  obtain ⟨n, rfl⟩ := hd
  obtain ⟨fs, h1, h2, h3, h4⟩ := h
  have hg : wr.grownBy (wr.drewN n) none := gb_drewN (World.grownBy.refl _ _) n
  exact ⟨fs, h1.new hg, h2, h3.grown hg h4 (fun k hk => by cases hk), h4⟩
theorem WM.c0 {B w wr ys e} (h : WM B w wr ys e) : wr.cell? ⟨B, 0, none⟩ = some (.int .i64 e) := by obtain ⟨fs, h1, _⟩ := h; exact h1.c0
theorem WM.must_no {B w wr ys} (h : WM B w wr ys 0) (x : Int) (b : Bool) (hx : (x == 0) = false) (hb : b = false) : Calls Tryd.prog 72 #[.pointer (some ⟨B, 0, none⟩), .bool b, .int .i64 x] wr fun r w' => r = .returned (.bool false) ∧ WM B w w' ys x :=
  h.goes (fun fs hw => (wmust_no B ys fs wr hw x b hx hb).mono (fun r w' q => ⟨q.1, q.2.2⟩))
theorem WM.must_so {B w wr ys} (h : WM B w wr ys 0) (x : Int) (b : Bool) (hb : b = true) : Calls Tryd.prog 72 #[.pointer (some ⟨B, 0, none⟩), .bool b, .int .i64 x] wr fun r w' => r = .returned (.bool true) ∧ w' = wr := by
  obtain ⟨fs, h1, _⟩ := h
  exact wmust_so B ys fs wr h1 x b hb
theorem WM.must_late {B w wr ys e} (h : WM B w wr ys e) (x : Int) (b : Bool) (he : (e == 0) = false) : Calls Tryd.prog 72 #[.pointer (some ⟨B, 0, none⟩), .bool b, .int .i64 x] wr fun r w' => r = .returned (.bool false) ∧ w' = wr := wmust_late B wr e x b he h.c0
theorem WM.int {B w wr ys} (h : WM B w wr ys 0) (x most : Int) (h0 : 0 ≤ x) (h1 : x ≤ most) (hm : most ≤ 9223372036854775807) (hb : ys.length + 10 ≤ 140737488355328) : Calls Tryd.prog 38 #[.pointer (some ⟨B, 0, none⟩), .int .i64 x, .int .i64 most] wr fun r w' => r = .returned (.tuple #[]) ∧ WM B w w' (ys ++ enc x.toNat) 0 := by
  have e0 : ferr 0 (wie x most) = 0 := by unfold ferr wie; rw [if_pos rfl, if_neg (by omega), if_neg (by omega)]
  refine h.goes (fun fs hw => ?_)
  have := wint_c B ys 0 x most fs wr hw (by omega) hb
  rw [e0] at this
  unfold wadd at this
  rw [if_pos rfl] at this
  exact this
theorem WM.textm {B w wr ys} (h : WM B w wr ys 0) (s : ByteArray) (most : Int) (hm : (s.size : Int) ≤ most) (hs : s.size ≤ 1125899906842) (hb : ys.length + s.size + 10 ≤ 140737488355328) : Calls Tryd.prog 75 #[.pointer (some ⟨B, 0, none⟩), .string s, .int .i64 most] wr fun r w' => r = .returned (.tuple #[]) ∧ WM B w w' (ys ++ (enc s.size ++ sb s)) 0 := by
  have e0 : ferr 0 (wte s.size most) = 0 := by unfold ferr wte; rw [if_pos rfl, if_neg (by omega), if_neg (by omega)]
  refine h.goes (fun fs hw => ?_)
  have := wtext_c B ys 0 s most fs wr hw hs hb
  rw [e0] at this
  unfold wadd at this
  rw [if_pos rfl] at this
  exact this
theorem WM.text {B w wr ys} (h : WM B w wr ys 0) (s : ByteArray) (hs : s.size ≤ 65536) (hb : ys.length + s.size + 10 ≤ 140737488355328) : Calls Tryd.prog 75 #[.pointer (some ⟨B, 0, none⟩), .string s, .int .i64 65536] wr fun r w' => r = .returned (.tuple #[]) ∧ WM B w w' (ys ++ (enc s.size ++ sb s)) 0 := by
  have e0 : ferr 0 (wte s.size 65536) = 0 := by unfold ferr wte; rw [if_pos rfl, if_neg (by omega), if_neg (by omega)]
  refine h.goes (fun fs hw => ?_)
  have := wtext_c B ys 0 s 65536 fs wr hw (by omega) hb
  rw [e0] at this
  unfold wadd at this
  rw [if_pos rfl] at this
  exact this
theorem WM.bytes_no {B w wr ys e} (h : WM B w wr ys e) (he : (e == 0) = false) : Calls Tryd.prog 74 #[.pointer (some ⟨B, 0, none⟩)] wr fun r w' => r = .returned (.tuple #[.slice none 0 0, .int .i64 e]) ∧ Below B w w' := by
  obtain ⟨fs, h1, h2, h3, h4⟩ := h
  refine (wbytes_no B ys e fs wr h1 he).mono ?_
  rintro r w' ⟨hr, n, rfl⟩
  exact ⟨hr, h3.grown (gb_drewN (World.grownBy.refl wr none) n) h4 (fun k hk => by cases hk)⟩
theorem WM.bytes_ok {B w wr ys} (h : WM B w wr ys 0) (hb : ys.length ≤ 140737488355328) : Calls Tryd.prog 74 #[.pointer (some ⟨B, 0, none⟩)] wr fun r w' => ∃ b, r = .returned (.tuple #[.slice (some ⟨b, 0, none⟩) ys.length ys.length, .int .i64 0]) ∧ B ≤ b ∧ Row .u8 5 w' b ys ∧ Below B w w' := by
  obtain ⟨fs, h1, h2, h3, h4⟩ := h
  refine (wbytes_ok B ys fs wr h1 hb).mono ?_
  rintro r w' ⟨b, hr, hl, hrow, hbel⟩
  exact ⟨b, hr, by omega, hrow, h3.grown (grownBy_below hbel none) h4 (fun k hk => by cases hk)⟩
end Go.Proofs.YtlmjgjimmbadeaaDoor
namespace Go.Proofs.YtlmjgjimmbadeaaDoor
open Go.RowKit
set_option linter.unusedVariables false

set_option maxRecDepth 20000 in
theorem wsize_c (g : Nat) (ys : List Int) (e : Int) (fs : List Nat) (w : World) (h : WS w g ys e fs) :
    Calls Tryd.prog 77 #[.pointer (some ⟨g, 0, none⟩)] w fun r w' => r = .returned (.int .i64 (ys.length : Int)) ∧ w' = w := by
  have cN := h.cN
  clear h
  go_enter Tryd.func77, Tryd.ntmps77
  go_wp2
  go_ret
  exact ⟨rfl, rfl⟩
end Go.Proofs.YtlmjgjimmbadeaaDoor
namespace Go.Proofs.YtlmjgjimmbadeaaDoor
open Go.RowKit
set_option linter.unusedVariables false

end Go.Proofs.YtlmjgjimmbadeaaDoor
namespace Go.Proofs.YtlmjgjimmbadeaaDoor
open Go.RowKit
set_option linter.unusedVariables false

/-- A literal of bytes is one's own. -/
theorem mine_new (w : World) (x : Int) (B : Nat) (hB : B ≤ w.heap.size) : Mine (w.alloc (.cells #[.int .u8 x] 5)) B w.heap.size 1 1 [x] := by
  have hc : ∀ i, (w.alloc (.cells #[.int .u8 x] 5)).cell? ⟨w.heap.size, i, none⟩ = (#[Value.int .u8 x] : Array Value)[i]? := fun i => World.cell?_alloc_new w _ _ i
  refine ⟨rfl, Nat.le_refl _, by unfold maxLen; omega, hB, by simp, fun i hi => ?_, fun i hi => ?_, fun i hi => ?_⟩
  · obtain rfl : i = 0 := by omega
    rw [hc]; rfl
  · obtain rfl : i = 0 := by omega
    rw [hc]; rfl
  · exact frozen_of_row _ _ _ _ _ (heap_alloc_new w _)

set_option maxHeartbeats 400000 in
theorem bytes_c (V : Int) (h0 : 0 ≤ V) (h1 : V < 18446744073709551616) (w : World) :
    Calls Tryd.prog 64 #[.int .u64 V] w fun e w' => ∃ g n cap, e = .returned (.slice (some ⟨g, 0, none⟩) n cap) ∧ Mine w' w.heap.size g n cap (enc V.toNat) ∧ Below w.heap.size w w' := by
  obtain ⟨N, hN⟩ : ∃ N, V.toNat = N := ⟨_, rfl⟩
  induction N using Nat.strongRecOn generalizing V w with
  | ind N ih =>
    by_cases hs : V < 128
    · have HE : Hid (enc V.toNat = [V]) := by show _ = _; rw [enc_small (by omega), Int.toNat_of_nonneg h0]
      clear ih hN
      have hm : V % 256 = V := by omega
      go_enter Tryd.func64, Tryd.ntmps64
      go_wp2
      go_ret
      refine ⟨w.heap.size, 1, 1, rfl, ?_, (Below.refl _ _).alloc (Nat.le_refl _) _⟩
      rw [HE.out]
      exact mine_new w V _ (Nat.le_refl _)
    · have HE : Hid (enc V.toNat = [V % 128 + 128] ++ enc (V / 128).toNat) := by
        show _ = _
        rw [enc_big (by omega), show ((V.toNat % 128 + 128 : Nat) : Int) = V % 128 + 128 from by omega, show V.toNat / 128 = (V / 128).toNat from by omega]
        rfl
      have IH : Hid (∀ w : World, Calls Tryd.prog 64 #[.int .u64 (V / 128)] w fun e w' => ∃ g n cap, e = .returned (.slice (some ⟨g, 0, none⟩) n cap) ∧ Mine w' w.heap.size g n cap (enc (V / 128).toNat) ∧ Below w.heap.size w w') :=
        fun w => ih (V / 128).toNat (by omega) (V / 128) (by omega) (by omega) w rfl
      have HLN : Hid ((enc (V / 128).toNat).length ≤ 10) := by show _ ≤ _; rw [enc_length _ (by omega)]; exact (sz_bd _).2
      obtain ⟨i0, hi, hz0, hz1, hz2⟩ := info_parts Tryd.infoU8
      clear ih hN
      go_enter Tryd.func64, Tryd.ntmps64
      go_wp2_with fail
      refine (IH.out _).mono ?_
      rintro e w1 ⟨g, n, cap, rfl, hm, hb⟩
      have HM : Hid (Mine w1 (w.heap.size + 1) g n cap (enc (V / 128).toNat)) := by simp at hm; exact hm
      have HB : Hid (Below (w.heap.size + 1) (w.alloc (.cells #[.int .u8 (V % 128 + 128)] 5)) w1) := by simp at hb; exact hb
      have HM0 : Hid (Mine w1 w.heap.size w.heap.size 1 1 [V % 128 + 128]) := (mine_new w _ _ (Nat.le_refl _)).keep HB.out (by omega)
      have hn : n ≤ 10 := by rw [← hm.len]; exact HLN.out
      clear hm hb
      go_wp2_with (at_builtin; go_must (refine wpList_append_mine _ rfl _ _ 27 rfl 5 i0 Tryd.underlying27 hi hz0 hz1 hz2 w.heap.size w.heap.size 1 1 [V % 128 + 128] rfl HM0.out (some ⟨g, 0, none⟩) n cap (enc (V / 128).toNat) rfl (fun h => by cases h) HM.out.seg (by omega) ?_); intro g4 c4 w4 hm4 hb4)
      have HM4 : Hid (Mine w4 w.heap.size g4 (1 + n) c4 (enc V.toNat)) := by show Mine _ _ _ _ _ _; rw [HE.out]; exact hm4
      have HB4 : Hid (Below w.heap.size w w4) := (((Below.refl _ w).alloc (Nat.le_refl _) _).trans (HB.out.mono (by omega))).trans hb4
      clear hm4 hb4
      go_wp2
      go_ret
      exact ⟨g4, 1 + n, c4, rfl, HM4.out, HB4.out⟩
end Go.Proofs.YtlmjgjimmbadeaaDoor
namespace Go.Proofs.YtlmjgjimmbadeaaDoor
open Go.RowKit
set_option linter.unusedVariables false

/-- The document's Writer's block. -/
def Xwr (w : World) (g : Nat) (v : Value) (e : Int) : Prop := w.heap[g]? = some (.cells #[v, .int .i64 e] 83 (0, 0))
theorem Xwr.c0 {w g v e} (h : Xwr w g v e) : w.cell? ⟨g, 0, none⟩ = some v := by rw [cell_of_row w g 0 _ _ _ h]; rfl
theorem Xwr.c1 {w g v e} (h : Xwr w g v e) : w.cell? ⟨g, 1, none⟩ = some (.int .i64 e) := by rw [cell_of_row w g 1 _ _ _ h]; rfl
theorem Xwr.free {w g v e} (h : Xwr w g v e) (i : Nat) : w.frozen? ⟨g, i, none⟩ = false := frozen_of_row w g i _ _ h
theorem Xwr.setV {w g v e} (h : Xwr w g v e) (x : Value) : Xwr (w.setCell ⟨g, 0, none⟩ x) g x e := by
  unfold Xwr; rw [heap_setCell_same w g 0 _ _ _ h]; rfl
theorem Xwr.setE {w g v e} (h : Xwr w g v e) (x : Int) : Xwr (w.setCell ⟨g, 1, none⟩ (.int .i64 x)) g v x := by
  unfold Xwr; rw [heap_setCell_same w g 1 _ _ _ h]; rfl
/-- The document's Writer as plain data: what was laid down, the first error; F: the block that its bytes lie in. -/
structure XW (B : Nat) (w : World) (g : Nat) (v : Value) (ys : List Int) (e : Int) (F : Option Nat) : Prop where
  blk : Xwr w g v e
  own : Own B w v ys.length ys
  fb : v.ownBlock = F
  off : F ≠ some g
  bytes : Bytes ys
  base : B ≤ w.heap.size
/-- What a call of it comes to. -/
def XGoes (B : Nat) (w : World) (g : Nat) (F : Option Nat) (w' : World) (ys' : List Int) (e' : Int) : Prop :=
  ∃ v' F', XW B w' g v' ys' e' F' ∧ Gr (fun k => k = g ∨ F = some k) w w' ∧ (F' = F ∨ ∃ k, F' = some k ∧ w.heap.size ≤ k)
theorem XW.stay {B w g v ys e F} (h : XW B w g v ys e F) : XGoes B w g F w ys e := ⟨v, F, h, Gr.refl _ _, .inl rfl⟩
theorem XW.gr {G : Nat → Prop} {B w w' g v ys e F} (h : XW B w g v ys e F) (hg : Gr G w w') (h1 : ¬ G g) (h2 : ∀ k, F = some k → ¬ G k) : XW B w' g v ys e F := by
  refine ⟨(hg.block g (lt_of_block h.blk) h1).trans h.blk, ⟨h.own.1, ?_⟩, h.fb, h.off, h.bytes, Nat.le_trans h.base hg.size⟩
  rcases h.own.2 with h0 | ⟨b, cap, cur, rfl, hB, hgb, r⟩
  · exact .inl h0
  · exact .inr ⟨b, cap, cur, rfl, hB, (hg.block b (lt_of_block hgb) (h2 b (by rw [← h.fb]; rfl))).trans hgb, r⟩
theorem XW.new {B w w' g v ys e F} (h : XW B w g v ys e F) (hg : w.grownBy w' none) : XW B w' g v ys e F := h.gr (G := fun _ => False) (Gr.of hg (by simp)) (by simp) (by simp)
theorem XGoes.then {B w g F w1 w2 ys1 e1 ys2 e2} (h : XGoes B w g F w1 ys1 e1) (k : ∀ v F', XW B w1 g v ys1 e1 F' → XGoes B w1 g F' w2 ys2 e2) : XGoes B w g F w2 ys2 e2 := by
  obtain ⟨v, F1, h1, g1, f1⟩ := h
  obtain ⟨v2, F2, h2, g2, f2⟩ := k v F1 h1
  refine ⟨v2, F2, h2, ?_, ?_⟩
  · refine ⟨g2.os.trans g1.os, g2.tape.trans g1.tape, g2.output.trans g1.output, Nat.le_trans g1.size g2.size, fun i hi hn => ?_⟩
    refine (g2.block i (Nat.lt_of_lt_of_le hi g1.size) ?_).trans (g1.block i hi hn)
    rintro (h | h)
    · exact hn (.inl h)
    · rcases f1 with f1 | ⟨k', f1, hk⟩
      · exact hn (.inr (by rw [← f1]; exact h))
      · rw [f1] at h; cases h; omega
  · rcases f2 with rfl | ⟨k', f2, hk⟩
    · exact f1
    · exact .inr ⟨k', f2, Nat.le_trans g1.size hk⟩
/-- One step of it, laid open. -/
def XStep (B : Nat) (w : World) (g : Nat) (F : Option Nat) (w' : World) (v' : Value) (ys' : List Int) (e' : Int) (F' : Option Nat) : Prop :=
  XW B w' g v' ys' e' F' ∧ Gr (fun k => k = g ∨ F = some k) w w' ∧ (F' = F ∨ ∃ k, F' = some k ∧ w.heap.size ≤ k)
theorem XStep.seq {B w g F w1 v1 ys1 e1 F1 w2 ys2 e2} (h : XStep B w g F w1 v1 ys1 e1 F1) (k : XGoes B w1 g F1 w2 ys2 e2) : XGoes B w g F w2 ys2 e2 := by
  obtain ⟨h1, g1, f1⟩ := h
  obtain ⟨v2, F2, h2, g2, f2⟩ := k
  refine ⟨v2, F2, h2, ?_, ?_⟩
  · refine ⟨g2.os.trans g1.os, g2.tape.trans g1.tape, g2.output.trans g1.output, Nat.le_trans g1.size g2.size, fun i hi hn => ?_⟩
    refine (g2.block i (Nat.lt_of_lt_of_le hi g1.size) ?_).trans (g1.block i hi hn)
    rintro (h | h)
    · exact hn (.inl h)
    · rcases f1 with f1 | ⟨k', f1, hk⟩
      · exact hn (.inr (by rw [← f1]; exact h))
      · rw [f1] at h; cases h; omega
  · rcases f2 with rfl | ⟨k', f2, hk⟩
    · exact f1
    · exact .inr ⟨k', f2, Nat.le_trans g1.size hk⟩
theorem XGoes.pre {B w w0 g F w1 ys1 e1} (hg : w0.grownBy w none) (h : XGoes B w g F w1 ys1 e1) : XGoes B w0 g F w1 ys1 e1 := by
  obtain ⟨v, F1, h1, g1, f1⟩ := h
  refine ⟨v, F1, h1, (Gr.of hg (by simp)).trans g1, ?_⟩
  rcases f1 with f1 | ⟨k, f1, hk⟩
  · exact .inl f1
  · exact .inr ⟨k, f1, Nat.le_trans hg.size hk⟩

set_option maxRecDepth 20000 in
theorem xlay_c (B g : Nat) (v : Value) (ys : List Int) (e : Int) (F : Option Nat) (ao : Option Addr) (m c : Nat) (zs : List Int) (w : World) (h : XW B w g v ys e F) (hs : Seg .u8 w ao m zs) (hz : Bytes zs) (hao : ao = none → c = 0) (hb : ys.length + m ≤ 140737488355328) :
    Calls Tryd.prog 99 #[.pointer (some ⟨g, 0, none⟩), .slice ao m c] w fun r w' => r = .returned (.tuple #[]) ∧ XGoes B w g F w' (wadd e ys zs) e := by
  have HW : Hid (XW B w g v ys e F) := h
  obtain ⟨va, vc, rfl, _⟩ := h.own.seg
  have c0 := h.blk.c0
  have c1 := h.blk.c1
  by_cases he : e = 0
  · subst he
    have HS : Hid (Seg .u8 w ao m zs) := hs
    have HZ : Hid (Bytes zs) := hz
    have HAO : Hid (ao = none → c = 0) := hao
    have HB : Hid (ys.length + m ≤ 140737488355328) := hb
    have HML : Hid (zs.length = m) := hs.1
    clear h hs hz hao hb
    go_enter Tryd.func99, Tryd.ntmps99
    go_wp2_with (at_builtin; go_must (refine wpList_append_apart _ rfl (.tmp 13) (.tmp 14) rfl B ys.length (.slice va ys.length vc) ys rfl HW.out.own ao m c zs rfl HAO.out HS.out HB.out HW.out.base ?_); go_loud (intro v' w1 hown hgr hat; obtain ⟨a', cap', rfl, hsg, _⟩ := hown.seg; have H1 : Hid (Own B w1 (.slice a' (ys.length + m) cap') (ys.length + m) (ys ++ zs) ∧ w.grownBy w1 F ∧ ((Value.slice a' (ys.length + m) cap').ownBlock = F ∨ (Value.slice a' (ys.length + m) cap').ownBlock = some w.heap.size)) := (by rw [← HW.out.fb]; exact ⟨hown, hgr, hat⟩); have hblk : Xwr w1 g (.slice va ys.length vc) 0 := (hgr.block g (lt_of_block HW.out.blk) (by rw [HW.out.fb]; exact fun e => HW.out.off e.symm)).trans HW.out.blk; have HK : Hid (Xwr w1 g (.slice va ys.length vc) 0) := hblk; have d0 := hblk.c0; have f0 := hblk.free 0; clear hblk hown hgr hat hsg c0 c1))
    go_end0
    refine ⟨rfl, .slice a' (ys.length + m) cap', (Value.slice a' (ys.length + m) cap').ownBlock, ⟨HK.out.setV _, ?_, rfl, ?_, ?_, ?_⟩, ?_, ?_⟩
    · have hl : (ys ++ zs).length = ys.length + m := by rw [List.length_append, HML.out]
      have := H1.out.1.grown (grownBy_cell w1 g 0 (.slice a' (ys.length + m) cap')) (fun b hb e => by
        rw [← hb] at e
        rcases H1.out.2.2 with h | h
        · rw [h] at e; exact HW.out.off e.symm
        · rw [h] at e; cases e; exact absurd (lt_of_block HW.out.blk) (Nat.lt_irrefl _))
      rw [show wadd 0 ys zs = ys ++ zs from rfl, hl]; exact this
    · intro e
      rcases H1.out.2.2 with h | h
      · rw [h] at e; exact HW.out.off e
      · rw [h] at e; cases e; exact absurd (lt_of_block HW.out.blk) (Nat.lt_irrefl _)
    · rw [show wadd 0 ys zs = ys ++ zs from rfl]
      intro i hi
      rw [List.length_append] at hi
      by_cases h1 : i < ys.length
      · rw [List.getElem?_append_left h1]; exact HW.out.bytes i h1
      · rw [List.getElem?_append_right (by omega)]; exact HZ.out _ (by omega)
    · exact Nat.le_trans HW.out.base (Nat.le_trans H1.out.2.1.size (grownBy_cell w1 g 0 (.slice a' (ys.length + m) cap')).size)
    · exact (Gr.of H1.out.2.1 (fun k hk => .inl (.inr hk))).trans (Gr.of (grownBy_cell w1 g 0 _) (fun k hk => by cases hk; exact .inl (.inl rfl)))
    · rcases H1.out.2.2 with h | h
      · exact .inl h
      · exact .inr ⟨_, h, Nat.le_refl _⟩
  · have hbq : (e == 0) = false := by simp [he]
    have HE : Hid (wadd e ys zs = ys) := by show _ = _; rw [wadd, if_neg he]
    rw [HE.out]
    clear h hs hz hao hb he HE
    go_enter Tryd.func99, Tryd.ntmps99
    go_wp2
    go_end0
    exact ⟨rfl, HW.out.stay⟩

theorem xwfail_c (B g : Nat) (v : Value) (ys : List Int) (e x : Int) (F : Option Nat) (w : World) (h : XW B w g v ys e F) :
    Calls Tryd.prog 65 #[.pointer (some ⟨g, 0, none⟩), .int .i64 x] w fun r w' => r = .returned (.tuple #[]) ∧ XGoes B w g F w' ys (ferr e x) := by
  have HW : Hid (XW B w g v ys e F) := h
  have c1 := h.blk.c1
  have f1 := h.blk.free 1
  clear h
  by_cases he : e = 0
  · subst he
    go_enter Tryd.func65, Tryd.ntmps65
    go_wp2
    go_end0
    have hg := grownBy_cell w g 1 (.int .i64 x)
    refine ⟨rfl, v, F, ⟨HW.out.blk.setE x, HW.out.own.grown hg (fun b hb e => by rw [HW.out.fb] at hb; rw [← e] at hb; exact HW.out.off hb), HW.out.fb, HW.out.off, HW.out.bytes, Nat.le_trans HW.out.base hg.size⟩, Gr.of hg (fun k hk => by cases hk; exact .inl (.inl rfl)), .inl rfl⟩
  · have hbq : (e == 0) = false := by simp [he]
    have HE : Hid (ferr e x = e) := by show _ = _; rw [ferr, if_neg he]
    rw [HE.out]
    clear he HE
    go_enter Tryd.func65, Tryd.ntmps65
    go_wp2
    go_end0
    exact ⟨rfl, HW.out.stay⟩

set_option maxRecDepth 20000 in
theorem xwuint_c (B g : Nat) (v : Value) (ys : List Int) (e V : Int) (F : Option Nat) (w : World) (h : XW B w g v ys e F) (h0 : 0 ≤ V) (h1 : V < 18446744073709551616) (hb : ys.length + 10 ≤ 140737488355328) :
    Calls Tryd.prog 67 #[.pointer (some ⟨g, 0, none⟩), .int .u64 V] w fun r w' => r = .returned (.tuple #[]) ∧ XGoes B w g F w' (wadd e ys (enc V.toNat)) e := by
  have HW : Hid (XW B w g v ys e F) := h
  have HB : Hid (ys.length + 10 ≤ 140737488355328) := hb
  have HC : Hid (Calls Tryd.prog 64 #[.int .u64 V] w fun e w' => ∃ g n cap, e = .returned (.slice (some ⟨g, 0, none⟩) n cap) ∧ Mine w' w.heap.size g n cap (enc V.toNat) ∧ Below w.heap.size w w') := bytes_c V h0 h1 w
  have HEL : Hid ((enc V.toNat).length ≤ 10) := by
    show _ ≤ _
    rw [enc_length _ (by omega)]
    exact (sz_bd _).2
  obtain ⟨zs, hzs⟩ : ∃ zs, zs = enc V.toNat := ⟨_, rfl⟩
  rw [← hzs] at HC HEL ⊢
  have HZ : Hid (Bytes zs) := by rw [hzs]; exact bytes_of_mem (enc_bytes _)
  clear h hb h0 h1 hzs
  go_enter Tryd.func67, Tryd.ntmps67
  go_wp2_with fail
  refine HC.out.mono ?_
  rintro r w1 ⟨g1, n1, cap1, rfl, hm, hbl⟩
  have H1 : Hid (Mine w1 w.heap.size g1 n1 cap1 zs ∧ Below w.heap.size w w1) := ⟨hm, hbl⟩
  clear hm hbl
  go_wp2_with fail
  refine (xlay_c B g v ys e F _ n1 cap1 zs w1 (HW.out.new (grownBy_below H1.out.2 _)) H1.out.1.seg HZ.out (fun h => by cases h) ?_).mono ?_
  · have := H1.out.1.len; have := HEL.out; have := HB.out; omega
  · rintro r w2 ⟨rfl, h2⟩
    have H2 : Hid (XGoes B w g F w2 (wadd e ys zs) e) := XGoes.pre (grownBy_below H1.out.2 _) h2
    clear h2
    go_wp2
    go_end0
    exact ⟨rfl, H2.out⟩
end Go.Proofs.YtlmjgjimmbadeaaDoor
namespace Go.Proofs.YtlmjgjimmbadeaaDoor
open Go.RowKit
set_option linter.unusedVariables false

end Go.Proofs.YtlmjgjimmbadeaaDoor
namespace Go.Proofs.YtlmjgjimmbadeaaDoor
open Go.RowKit
set_option linter.unusedVariables false

set_option maxRecDepth 20000 in
theorem xwtext_c (B g : Nat) (v : Value) (ys : List Int) (e : Int) (s : ByteArray) (most : Int) (F : Option Nat) (w : World) (h : XW B w g v ys e F) (hs : s.size ≤ 1125899906842) (hb : ys.length + s.size + 10 ≤ 140737488355328) :
    Calls Tryd.prog 66 #[.pointer (some ⟨g, 0, none⟩), .string s, .int .i64 most] w fun r w' => r = .returned (.tuple #[]) ∧ XGoes B w g F w' (wadd (ferr e (wte s.size most)) ys (enc s.size ++ sb s)) (ferr e (wte s.size most)) := by
  obtain ⟨i0, hi, hz0, hz1, hz2⟩ := info_parts Tryd.infoU8
  have HI : Hid (Tryd.prog.info? 5 = some i0 ∧ i0.zero = some (.int .u8 0) ∧ i0.size = 1 ∧ i0.bytes = 1) := ⟨hi, hz0, hz1, hz2⟩
  clear hi hz0 hz1 hz2
  have HW : Hid (XW B w g v ys e F) := h
  have HC : Hid (∀ w, Calls Tryd.prog 64 #[.int .u64 (s.size : Int)] w fun e w' => ∃ g n cap, e = .returned (.slice (some ⟨g, 0, none⟩) n cap) ∧ Mine w' w.heap.size g n cap (enc s.size) ∧ Below w.heap.size w w') := fun w => by
    have := bytes_c (s.size : Int) (by omega) (by omega) w
    rw [Int.toNat_natCast] at this; exact this
  have HEL : Hid ((enc s.size).length ≤ 10) := by
    show _ ≤ _
    rw [enc_length _ (by omega)]
    exact (sz_bd _).2
  have HL : Hid (s.size ≤ 140737488355328 ∧ ys.length + s.size + 10 ≤ 140737488355328) := ⟨by omega, hb⟩
  obtain ⟨E, hE⟩ : ∃ E, E = wte s.size most := ⟨_, rfl⟩
  rw [← hE]
  have HF : Hid (∀ w v F, XW B w g v ys e F → Calls Tryd.prog 65 #[.pointer (some ⟨g, 0, none⟩), .int .i64 E] w fun r w' => r = .returned (.tuple #[]) ∧ XGoes B w g F w' ys (ferr e E)) := fun w v F h => xwfail_c B g v ys e E F w h
  obtain ⟨E1, hE1⟩ : ∃ E1, E1 = ferr e E := ⟨_, rfl⟩
  rw [← hE1] at HF ⊢
  have HLY : Hid (∀ w v F g1 n1 c1, XW B w g v ys E1 F → Seg .u8 w (some ⟨g1, 0, none⟩) n1 (enc s.size ++ sb s) → Calls Tryd.prog 99 #[.pointer (some ⟨g, 0, none⟩), .slice (some ⟨g1, 0, none⟩) n1 c1] w fun r w' => r = .returned (.tuple #[]) ∧ XGoes B w g F w' (wadd E1 ys (enc s.size ++ sb s)) E1) := by
    intro w v F g1 n1 c1 h hsg
    have hln : n1 ≤ s.size + 10 := by
      have := hsg.1
      rw [List.length_append, sb_length] at this
      have := HEL.out; omega
    refine xlay_c B g v ys E1 F _ n1 c1 _ w h hsg ?_ (fun h => by cases h) (by omega)
    apply bytes_of_mem
    intro c hc
    rcases List.mem_append.1 hc with hc | hc
    · exact enc_bytes _ c hc
    · obtain ⟨u, _, rfl⟩ := List.mem_map.1 hc
      have := u.toNat_lt; omega
  obtain ⟨Y1, hY1⟩ : ∃ Y1, Y1 = wadd E1 ys (enc s.size ++ sb s) := ⟨_, rfl⟩
  rw [← hY1] at HLY ⊢
  have HE0 : Hid (E = 0 → E1 = e) := fun h => by rw [hE1, h, ferr_zero]
  obtain ⟨S, hS⟩ : ∃ S, S = s.size := ⟨_, rfl⟩
  have hsS : s.size = S := hS.symm
  have hSb : S ≤ 1125899906842 := by omega
  rw [hsS] at HC HEL HLY HL hE
  clear h hb hE1 hY1 hS hs
  by_cases h0 : most < 0
  · obtain rfl : E = 1 := by rw [hE, wte, if_pos h0]
    clear hE HE0
    go_enter Tryd.func66, Tryd.ntmps66
    go_wp2_with fail
    refine (HF.out w v F HW.out).mono ?_
    rintro r w1 ⟨rfl, v1, F1, hw1⟩
    have H1 : Hid (XStep B w g F w1 v1 ys E1 F1) := hw1
    clear hw1
    go_wp2_with fail
    refine (HC.out w1).mono ?_
    rintro r w2 ⟨g1, n1, c1, rfl, hm, hbl⟩
    have H2 : Hid (Mine w2 w1.heap.size g1 n1 c1 (enc S) ∧ Below w1.heap.size w1 w2) := ⟨hm, hbl⟩
    obtain ⟨W3, C, hcv, hM3, hB3⟩ := str_bytes s w2 (by rw [hsS]; exact HL.out.1)
    rw [hsS] at hcv hM3
    have H3 : Hid (Mine W3 w2.heap.size w2.heap.size S C (sb s) ∧ Below w2.heap.size w2 W3) := ⟨hM3, hB3⟩
    have H4 : Hid (Mine W3 w1.heap.size g1 n1 c1 (enc S)) := H2.out.1.later H3.out.2
    have HN : Hid (n1 + S ≤ 140737488355328) := by
      have := HL.out; have := HEL.out; have := H2.out.1.len; show _ ≤ _; omega
    clear hm hbl hM3 hB3
    go_wp2_with (at_builtin; go_must (refine wpList_append_mine _ rfl (.tmp 20) (.tmp 22) 27 rfl 5 i0 Tryd.underlying27 HI.out.1 HI.out.2.1 HI.out.2.2.1 HI.out.2.2.2 w1.heap.size g1 n1 c1 (enc S) rfl H4.out (some ⟨w2.heap.size, 0, none⟩) S C (sb s) rfl (fun h => by cases h) H3.out.1.seg HN.out ?_); intro b' cap' w4 hm4 hb4; have H5 : Hid (Seg .u8 w4 (some ⟨b', 0, none⟩) (n1 + S) (enc S ++ sb s) ∧ w1.grownBy w4 none) := ⟨hm4.seg, grownBy_below (H2.out.2.trans ((H3.out.2.mono H2.out.2.size).trans hb4)) _⟩; clear hm4 hb4)
    refine (HLY.out w4 v1 F1 b' (n1 + S) cap' (H1.out.1.new H5.out.2) H5.out.1).mono ?_
    rintro r w5 ⟨rfl, h5⟩
    have H6 : Hid (XGoes B w g F w5 Y1 E1) := H1.out.seq (XGoes.pre H5.out.2 h5)
    clear h5
    go_wp2
    go_end0
    exact ⟨rfl, H6.out⟩
  · by_cases h1 : most < (S : Int)
    · obtain rfl : E = 31 := by rw [hE, wte, if_neg h0, if_pos h1]
      clear hE HE0
      go_enter Tryd.func66, Tryd.ntmps66
      go_wp2_with fail
      refine (HF.out w v F HW.out).mono ?_
      rintro r w1 ⟨rfl, v1, F1, hw1⟩
      have H1 : Hid (XStep B w g F w1 v1 ys E1 F1) := hw1
      clear hw1
      go_wp2_with fail
      refine (HC.out w1).mono ?_
      rintro r w2 ⟨g1, n1, c1, rfl, hm, hbl⟩
      have H2 : Hid (Mine w2 w1.heap.size g1 n1 c1 (enc S) ∧ Below w1.heap.size w1 w2) := ⟨hm, hbl⟩
      obtain ⟨W3, C, hcv, hM3, hB3⟩ := str_bytes s w2 (by rw [hsS]; exact HL.out.1)
      rw [hsS] at hcv hM3
      have H3 : Hid (Mine W3 w2.heap.size w2.heap.size S C (sb s) ∧ Below w2.heap.size w2 W3) := ⟨hM3, hB3⟩
      have H4 : Hid (Mine W3 w1.heap.size g1 n1 c1 (enc S)) := H2.out.1.later H3.out.2
      have HN : Hid (n1 + S ≤ 140737488355328) := by
        have := HL.out; have := HEL.out; have := H2.out.1.len; show _ ≤ _; omega
      clear hm hbl hM3 hB3
      go_wp2_with (at_builtin; go_must (refine wpList_append_mine _ rfl (.tmp 20) (.tmp 22) 27 rfl 5 i0 Tryd.underlying27 HI.out.1 HI.out.2.1 HI.out.2.2.1 HI.out.2.2.2 w1.heap.size g1 n1 c1 (enc S) rfl H4.out (some ⟨w2.heap.size, 0, none⟩) S C (sb s) rfl (fun h => by cases h) H3.out.1.seg HN.out ?_); intro b' cap' w4 hm4 hb4; have H5 : Hid (Seg .u8 w4 (some ⟨b', 0, none⟩) (n1 + S) (enc S ++ sb s) ∧ w1.grownBy w4 none) := ⟨hm4.seg, grownBy_below (H2.out.2.trans ((H3.out.2.mono H2.out.2.size).trans hb4)) _⟩; clear hm4 hb4)
      refine (HLY.out w4 v1 F1 b' (n1 + S) cap' (H1.out.1.new H5.out.2) H5.out.1).mono ?_
      rintro r w5 ⟨rfl, h5⟩
      have H6 : Hid (XGoes B w g F w5 Y1 E1) := H1.out.seq (XGoes.pre H5.out.2 h5)
      clear h5
      go_wp2
      go_end0
      exact ⟨rfl, H6.out⟩
    · obtain rfl : E = 0 := by rw [hE, wte, if_neg h0, if_neg h1]
      obtain rfl := HE0.out rfl
      clear hE HE0
      go_enter Tryd.func66, Tryd.ntmps66
      go_wp2_with fail
      refine (HC.out w).mono ?_
      rintro r w2 ⟨g1, n1, c1, rfl, hm, hbl⟩
      have H2 : Hid (Mine w2 w.heap.size g1 n1 c1 (enc S) ∧ Below w.heap.size w w2) := ⟨hm, hbl⟩
      obtain ⟨W3, C, hcv, hM3, hB3⟩ := str_bytes s w2 (by rw [hsS]; exact HL.out.1)
      rw [hsS] at hcv hM3
      have H3 : Hid (Mine W3 w2.heap.size w2.heap.size S C (sb s) ∧ Below w2.heap.size w2 W3) := ⟨hM3, hB3⟩
      have H4 : Hid (Mine W3 w.heap.size g1 n1 c1 (enc S)) := H2.out.1.later H3.out.2
      have HN : Hid (n1 + S ≤ 140737488355328) := by
        have := HL.out; have := HEL.out; have := H2.out.1.len; show _ ≤ _; omega
      clear hm hbl hM3 hB3
      go_wp2_with (at_builtin; go_must (refine wpList_append_mine _ rfl (.tmp 20) (.tmp 22) 27 rfl 5 i0 Tryd.underlying27 HI.out.1 HI.out.2.1 HI.out.2.2.1 HI.out.2.2.2 w.heap.size g1 n1 c1 (enc S) rfl H4.out (some ⟨w2.heap.size, 0, none⟩) S C (sb s) rfl (fun h => by cases h) H3.out.1.seg HN.out ?_); intro b' cap' w4 hm4 hb4; have H5 : Hid (Seg .u8 w4 (some ⟨b', 0, none⟩) (n1 + S) (enc S ++ sb s) ∧ w.grownBy w4 none) := ⟨hm4.seg, grownBy_below (H2.out.2.trans ((H3.out.2.mono H2.out.2.size).trans hb4)) _⟩; clear hm4 hb4)
      refine (HLY.out w4 v F b' (n1 + S) cap' (HW.out.new H5.out.2) H5.out.1).mono ?_
      rintro r w5 ⟨rfl, h5⟩
      have H6 : Hid (XGoes B w g F w5 Y1 E1) := XGoes.pre H5.out.2 h5
      clear h5
      go_wp2
      go_end0
      exact ⟨rfl, H6.out⟩
end Go.Proofs.YtlmjgjimmbadeaaDoor
namespace Go.Proofs.YtlmjgjimmbadeaaDoor
open Go.RowKit
set_option linter.unusedVariables false

theorem wadd_take (e : Int) (ys ds : List Int) (k : Nat) (hk : k < ds.length) : wadd e (wadd e ys (ds.take k)) [ds[k]?.getD 0] = wadd e ys (ds.take (k + 1)) := by
  unfold wadd
  split
  · rw [List.append_assoc, take_snoc ds k hk]
  · rfl
theorem wadd_len (e : Int) (ys zs : List Int) : (wadd e ys zs).length ≤ ys.length + zs.length := by
  unfold wadd; split <;> simp

end Go.Proofs.YtlmjgjimmbadeaaDoor
namespace Go.Proofs.YtlmjgjimmbadeaaDoor
open Go.RowKit
set_option linter.unusedVariables false

/-- The error of a row that may not be. -/
def wre (key val : ByteArray) (ver : Int) : Int := if key.size = 0 ∨ ver < 1 then 32 else if 1024 < key.size ∨ 65536 < val.size ∨ 1152921504606846976 < ver then 31 else 0
/-- A row's bytes. -/
def rowB (key val : ByteArray) (ver : Int) : List Int := (enc key.size ++ sb key) ++ ((enc val.size ++ sb val) ++ enc ver.toNat)
theorem ferr_keep {e x : Int} (h : e ≠ 0 ∨ x = 0) : ferr e x = e := by
  unfold ferr; split
  · rcases h with h | h
    · contradiction
    · omega
  · rfl
theorem wadd_wadd (e : Int) (ys a b : List Int) : wadd e (wadd e ys a) b = wadd e ys (a ++ b) := by
  unfold wadd; split
  · rw [List.append_assoc]
  · rfl
theorem XStep.step {B w g F w1 v1 ys1 e1 F1 w2 v2 ys2 e2 F2} (h : XStep B w g F w1 v1 ys1 e1 F1) (k : XStep B w1 g F1 w2 v2 ys2 e2 F2) : XStep B w g F w2 v2 ys2 e2 F2 := by
  obtain ⟨v3, F3, x3⟩ := h.seq ⟨v2, F2, k⟩
  refine ⟨k.1, x3.2.1, ?_⟩
  rcases k.2.2 with rfl | ⟨j, rfl, hj⟩
  · exact h.2.2
  · exact .inr ⟨j, rfl, Nat.le_trans h.2.1.size hj⟩
theorem XStep.pre {B w w0 g F w1 v1 ys1 e1 F1} (hg : w0.grownBy w none) (h : XStep B w g F w1 v1 ys1 e1 F1) : XStep B w0 g F w1 v1 ys1 e1 F1 := by
  refine ⟨h.1, (Gr.of hg (by simp)).trans h.2.1, ?_⟩
  rcases h.2.2 with f1 | ⟨k, f1, hk⟩
  · exact .inl f1
  · exact .inr ⟨k, f1, Nat.le_trans hg.size hk⟩
theorem notNew {F F' : Option Nat} {n N : Nat} (h : F' = F ∨ ∃ k, F' = some k ∧ n ≤ k) (h1 : F ≠ some N) (h2 : N < n) : F' ≠ some N := by
  rcases h with rfl | ⟨k, rfl, hk⟩
  · exact h1
  · intro e; cases e; omega
theorem key_empty (key : ByteArray) : key.toList.isEmpty = decide (key.size = 0) := by
  rw [ByteArray.toList_eq]
  have : key.size = key.data.toList.length := rfl
  rw [this]
  cases key.data.toList <;> simp

set_option maxRecDepth 20000 in
set_option maxHeartbeats 1000000 in
theorem xwrow_c (B g : Nat) (v : Value) (ys : List Int) (e : Int) (key val : ByteArray) (ver : Int) (F : Option Nat) (w : World) (h : XW B w g v ys e F) (hk : key.size ≤ 1125899906842) (hv : val.size ≤ 1125899906842) (hn : ver ≤ 9223372036854775807) (hn0 : -9223372036854775808 ≤ ver)
    (hb : ys.length + key.size + val.size + 40 ≤ 140737488355328) :
    Calls Tryd.prog 35 #[.pointer (some ⟨g, 0, none⟩), .agg #[.string key, .string val, .int .i64 ver]] w fun r w' => r = .returned (.tuple #[]) ∧ XGoes B w g F w' (wadd (ferr e (wre key val ver)) ys (rowB key val ver)) (ferr e (wre key val ver)) := by
  have HW : Hid (XW B w g v ys e F) := h
  obtain ⟨E, hE⟩ : ∃ E, E = wre key val ver := ⟨_, rfl⟩
  rw [← hE]
  obtain ⟨E1, hE1⟩ : ∃ E1, E1 = ferr e E := ⟨_, rfl⟩
  have HF : Hid (∀ w v F, XW B w g v ys e F → Calls Tryd.prog 65 #[.pointer (some ⟨g, 0, none⟩), .int .i64 E] w fun r w' => r = .returned (.tuple #[]) ∧ XGoes B w g F w' ys (ferr e E)) := fun w v F h => xwfail_c B g v ys e E F w h
  rw [← hE1] at HF ⊢
  have hE1' : E1 ≠ 0 ∨ E = 0 := by
    by_cases h0 : E = 0
    · exact .inr h0
    · left; rw [hE1]; unfold ferr; split <;> assumption
  have hek : (enc key.size).length ≤ 10 := by rw [enc_length _ (by omega)]; exact (sz_bd _).2
  have hev : (enc val.size).length ≤ 10 := by rw [enc_length _ (by omega)]; exact (sz_bd _).2
  have hsk := sb_length key
  have hsv := sb_length val
  have l1 := wadd_len E1 ys (enc key.size ++ sb key)
  have l2 := wadd_len E1 (wadd E1 ys (enc key.size ++ sb key)) (enc val.size ++ sb val)
  rw [List.length_append] at l1 l2
  have k1 : ferr E1 (wte key.size 1024) = E1 := ferr_keep (hE1'.imp id (fun h0 => by
    rw [hE] at h0; unfold wre at h0; unfold wte
    split at h0
    · omega
    · split at h0
      · omega
      · rw [if_neg (by omega), if_neg (by omega)]))
  have k2 : ferr E1 (wte val.size 65536) = E1 := ferr_keep (hE1'.imp id (fun h0 => by
    rw [hE] at h0; unfold wre at h0; unfold wte
    split at h0
    · omega
    · split at h0
      · omega
      · rw [if_neg (by omega), if_neg (by omega)]))
  have hver : E = 0 → 0 ≤ ver := fun h0 => by
    rw [hE] at h0; unfold wre at h0
    split at h0 <;> omega
  have HT1 : Hid (∀ w v F, XW B w g v ys E1 F → Calls Tryd.prog 66 #[.pointer (some ⟨g, 0, none⟩), .string key, .int .i64 1024] w fun r w' => r = .returned (.tuple #[]) ∧ XGoes B w g F w' (wadd E1 ys (enc key.size ++ sb key)) E1) := fun w v F h => by
    have := xwtext_c B g v ys E1 key 1024 F w h hk (by omega)
    rw [k1] at this; exact this
  have HT2 : Hid (∀ w v F, XW B w g v (wadd E1 ys (enc key.size ++ sb key)) E1 F → Calls Tryd.prog 66 #[.pointer (some ⟨g, 0, none⟩), .string val, .int .i64 65536] w fun r w' => r = .returned (.tuple #[]) ∧ XGoes B w g F w' (wadd E1 (wadd E1 ys (enc key.size ++ sb key)) (enc val.size ++ sb val)) E1) := fun w v F h => by
    have := xwtext_c B g v _ E1 val 65536 F w h hv (by omega)
    rw [k2] at this; exact this
  have HT3 : Hid (∀ w v F V, XW B w g v (wadd E1 (wadd E1 ys (enc key.size ++ sb key)) (enc val.size ++ sb val)) E1 F → V = IntKind.u64.wrap ver ∨ V = ver ∧ 0 ≤ ver → Calls Tryd.prog 67 #[.pointer (some ⟨g, 0, none⟩), .int .u64 V] w fun r w' => r = .returned (.tuple #[]) ∧ XGoes B w g F w' (wadd E1 ys (rowB key val ver)) E1) := fun w v F V h hV => by
    have hVb : 0 ≤ V ∧ V < 18446744073709551616 := by
      rcases hV with rfl | ⟨rfl, _⟩
      · exact wrap_u64_bd ver
      · omega
    refine (xwuint_c B g v _ E1 V F w h hVb.1 hVb.2 (by omega)).mono (fun _ _ ⟨a, b⟩ => ⟨a, ?_⟩)
    rw [wadd_wadd, wadd_wadd] at b
    unfold rowB
    rcases hE1' with h1 | h1
    · rw [wadd_err h1] at b ⊢; exact b
    · have : V = ver := by
        rcases hV with rfl | ⟨rfl, _⟩
        · rw [IntKind.wrap_u64]; have := hver h1; omega
        · rfl
      rw [this] at b; exact b
  obtain ⟨Y1, hY1⟩ : ∃ Y1, Y1 = wadd E1 ys (enc key.size ++ sb key) := ⟨_, rfl⟩
  obtain ⟨Y2, hY2⟩ : ∃ Y2, Y2 = wadd E1 Y1 (enc val.size ++ sb val) := ⟨_, rfl⟩
  obtain ⟨Y3, hY3⟩ : ∃ Y3, Y3 = wadd E1 ys (rowB key val ver) := ⟨_, rfl⟩
  rw [← hY1] at HT1 HT2 HT3
  rw [← hY2] at HT2 HT3
  rw [← hY3] at HT3 ⊢
  have HE0 : Hid (E = 0 → E1 = e) := fun h => by rw [hE1, h, ferr_zero]
  obtain ⟨N, hN⟩ : ∃ N, N = w.heap.size := ⟨_, rfl⟩
  have HN : Hid (N ≠ g) := by have := lt_of_block h.blk; show _ ≠ _; omega
  have HNF : Hid (F ≠ some N) := by
    intro hF
    have h1 := h.own.lo N (by rw [h.fb]; exact hF)
    omega
  have hem := key_empty key
  obtain ⟨KZ, hKZ⟩ : ∃ KZ, KZ = key.size := ⟨_, rfl⟩
  obtain ⟨VZ, hVZ⟩ : ∃ VZ, VZ = val.size := ⟨_, rfl⟩
  have hks : key.size = KZ := hKZ.symm
  have hvs : val.size = VZ := hVZ.symm
  have hEE : E = if KZ = 0 ∨ ver < 1 then 32 else if 1024 < KZ ∨ 65536 < VZ ∨ 1152921504606846976 < ver then 31 else 0 := by rw [hE, wre, hks, hvs]
  have hkb : KZ ≤ 1125899906842 := by omega
  have hvb : VZ ≤ 1125899906842 := by omega
  rw [hks] at hem
  clear h hE1 hY1 hY2 hY3 hE hE1' hek hev hsk hsv l1 l2 k1 k2 hver hb hk hv hKZ hVZ
  by_cases hA : KZ = 0
  · obtain rfl : E = 32 := by rw [hEE, if_pos (.inl hA)]
    subst hA
    rw [decide_eq_true rfl] at hem
    clear hEE HE0
    go_enter Tryd.func35, Tryd.ntmps35
    go_wp2_with fail
    rw [← hN]
    generalize hW1 : World.alloc w _ = W1
    have HB0 : Hid (Bk 48 W1 N #[.string key, .string val, .int .i64 ver] ∧ w.grownBy W1 none) := by rw [← hW1, hN]; exact ⟨heap_new w _, World.grownBy_alloc _ _ _⟩
    clear hW1 hN
    refine (HF.out W1 v F (HW.out.new HB0.out.2)).mono ?_
    rintro r w1 ⟨rfl, v1, F1, hw1⟩
    have HX1 : Hid (XStep B w g F w1 v1 ys E1 F1 ∧ Bk 48 w1 N #[.string key, .string val, .int .i64 ver] ∧ F1 ≠ some N) :=
      ⟨XStep.pre HB0.out.2 hw1, HB0.out.1.gr hw1.2.1 (by rintro (h | h); exact HN.out h; exact HNF.out h), notNew hw1.2.2 HNF.out (lt_of_block HB0.out.1)⟩
    clear hw1
    have b0 := HX1.out.2.1.cell 0
    have b1 := HX1.out.2.1.cell 1
    have b2 := HX1.out.2.1.cell 2
    simp at b0 b1 b2
    go_wp2_with fail
    refine (HT1.out w1 v1 F1 HX1.out.1.1).mono ?_
    rintro r w3 ⟨rfl, v3, F3, hw3⟩
    have HX3 : Hid (XStep B w g F w3 v3 Y1 E1 F3 ∧ Bk 48 w3 N #[.string key, .string val, .int .i64 ver] ∧ F3 ≠ some N) :=
      ⟨HX1.out.1.step hw3, HX1.out.2.1.gr hw3.2.1 (by rintro (h | h); exact HN.out h; exact HX1.out.2.2 h), notNew hw3.2.2 HX1.out.2.2 (lt_of_block HX1.out.2.1)⟩
    clear hw3
    have d1 := HX3.out.2.1.cell 1
    simp at d1
    go_wp2_with fail
    refine (HT2.out w3 v3 F3 HX3.out.1.1).mono ?_
    rintro r w4 ⟨rfl, v4, F4, hw4⟩
    have HX4 : Hid (XStep B w g F w4 v4 Y2 E1 F4 ∧ Bk 48 w4 N #[.string key, .string val, .int .i64 ver] ∧ F4 ≠ some N) :=
      ⟨HX3.out.1.step hw4, HX3.out.2.1.gr hw4.2.1 (by rintro (h | h); exact HN.out h; exact HX3.out.2.2 h), notNew hw4.2.2 HX3.out.2.2 (lt_of_block HX3.out.2.1)⟩
    clear hw4
    have d2 := HX4.out.2.1.cell 2
    simp at d2
    go_wp2_with fail
    refine (HT3.out w4 v4 F4 _ HX4.out.1.1 (by first | exact .inl rfl | exact .inr ⟨rfl, by omega⟩)).mono ?_
    rintro r w5 ⟨rfl, h5⟩
    have H5 : Hid (XGoes B w g F w5 Y3 E1) := HX4.out.1.seq h5
    clear h5
    go_wp2
    go_end0
    exact ⟨rfl, H5.out⟩
  · have hem2 : key.toList.isEmpty = false := by rw [hem]; exact decide_eq_false hA
    clear hem
    by_cases hB : ver < 1
    · obtain rfl : E = 32 := by rw [hEE, if_pos (.inr hB)]
      clear hEE HE0
      go_enter Tryd.func35, Tryd.ntmps35
      go_wp2_with fail
      rw [← hN]
      generalize hW1 : World.alloc w _ = W1
      have HB0 : Hid (Bk 48 W1 N #[.string key, .string val, .int .i64 ver] ∧ w.grownBy W1 none) := by rw [← hW1, hN]; exact ⟨heap_new w _, World.grownBy_alloc _ _ _⟩
      clear hW1 hN
      refine (HF.out W1 v F (HW.out.new HB0.out.2)).mono ?_
      rintro r w1 ⟨rfl, v1, F1, hw1⟩
      have HX1 : Hid (XStep B w g F w1 v1 ys E1 F1 ∧ Bk 48 w1 N #[.string key, .string val, .int .i64 ver] ∧ F1 ≠ some N) :=
        ⟨XStep.pre HB0.out.2 hw1, HB0.out.1.gr hw1.2.1 (by rintro (h | h); exact HN.out h; exact HNF.out h), notNew hw1.2.2 HNF.out (lt_of_block HB0.out.1)⟩
      clear hw1
      have b0 := HX1.out.2.1.cell 0
      have b1 := HX1.out.2.1.cell 1
      have b2 := HX1.out.2.1.cell 2
      simp at b0 b1 b2
      go_wp2_with fail
      refine (HT1.out w1 v1 F1 HX1.out.1.1).mono ?_
      rintro r w3 ⟨rfl, v3, F3, hw3⟩
      have HX3 : Hid (XStep B w g F w3 v3 Y1 E1 F3 ∧ Bk 48 w3 N #[.string key, .string val, .int .i64 ver] ∧ F3 ≠ some N) :=
        ⟨HX1.out.1.step hw3, HX1.out.2.1.gr hw3.2.1 (by rintro (h | h); exact HN.out h; exact HX1.out.2.2 h), notNew hw3.2.2 HX1.out.2.2 (lt_of_block HX1.out.2.1)⟩
      clear hw3
      have d1 := HX3.out.2.1.cell 1
      simp at d1
      go_wp2_with fail
      refine (HT2.out w3 v3 F3 HX3.out.1.1).mono ?_
      rintro r w4 ⟨rfl, v4, F4, hw4⟩
      have HX4 : Hid (XStep B w g F w4 v4 Y2 E1 F4 ∧ Bk 48 w4 N #[.string key, .string val, .int .i64 ver] ∧ F4 ≠ some N) :=
        ⟨HX3.out.1.step hw4, HX3.out.2.1.gr hw4.2.1 (by rintro (h | h); exact HN.out h; exact HX3.out.2.2 h), notNew hw4.2.2 HX3.out.2.2 (lt_of_block HX3.out.2.1)⟩
      clear hw4
      have d2 := HX4.out.2.1.cell 2
      simp at d2
      go_wp2_with fail
      refine (HT3.out w4 v4 F4 _ HX4.out.1.1 (by first | exact .inl rfl | exact .inr ⟨rfl, by omega⟩)).mono ?_
      rintro r w5 ⟨rfl, h5⟩
      have H5 : Hid (XGoes B w g F w5 Y3 E1) := HX4.out.1.seq h5
      clear h5
      go_wp2
      go_end0
      exact ⟨rfl, H5.out⟩
    · have hE2 : E = if 1024 < KZ ∨ 65536 < VZ ∨ 1152921504606846976 < ver then 31 else 0 := by rw [hEE, if_neg (by omega)]
      clear hEE
      by_cases hC1 : 1024 < KZ
      · obtain rfl : E = 31 := by rw [hE2, if_pos (.inl hC1)]
        clear hE2 HE0
        go_enter Tryd.func35, Tryd.ntmps35
        go_wp2_with fail
        rw [← hN]
        generalize hW1 : World.alloc w _ = W1
        have HB0 : Hid (Bk 48 W1 N #[.string key, .string val, .int .i64 ver] ∧ w.grownBy W1 none) := by rw [← hW1, hN]; exact ⟨heap_new w _, World.grownBy_alloc _ _ _⟩
        clear hW1 hN
        refine (HF.out W1 v F (HW.out.new HB0.out.2)).mono ?_
        rintro r w1 ⟨rfl, v1, F1, hw1⟩
        have HX1 : Hid (XStep B w g F w1 v1 ys E1 F1 ∧ Bk 48 w1 N #[.string key, .string val, .int .i64 ver] ∧ F1 ≠ some N) :=
          ⟨XStep.pre HB0.out.2 hw1, HB0.out.1.gr hw1.2.1 (by rintro (h | h); exact HN.out h; exact HNF.out h), notNew hw1.2.2 HNF.out (lt_of_block HB0.out.1)⟩
        clear hw1
        have b0 := HX1.out.2.1.cell 0
        have b1 := HX1.out.2.1.cell 1
        have b2 := HX1.out.2.1.cell 2
        simp at b0 b1 b2
        go_wp2_with fail
        refine (HT1.out w1 v1 F1 HX1.out.1.1).mono ?_
        rintro r w3 ⟨rfl, v3, F3, hw3⟩
        have HX3 : Hid (XStep B w g F w3 v3 Y1 E1 F3 ∧ Bk 48 w3 N #[.string key, .string val, .int .i64 ver] ∧ F3 ≠ some N) :=
          ⟨HX1.out.1.step hw3, HX1.out.2.1.gr hw3.2.1 (by rintro (h | h); exact HN.out h; exact HX1.out.2.2 h), notNew hw3.2.2 HX1.out.2.2 (lt_of_block HX1.out.2.1)⟩
        clear hw3
        have d1 := HX3.out.2.1.cell 1
        simp at d1
        go_wp2_with fail
        refine (HT2.out w3 v3 F3 HX3.out.1.1).mono ?_
        rintro r w4 ⟨rfl, v4, F4, hw4⟩
        have HX4 : Hid (XStep B w g F w4 v4 Y2 E1 F4 ∧ Bk 48 w4 N #[.string key, .string val, .int .i64 ver] ∧ F4 ≠ some N) :=
          ⟨HX3.out.1.step hw4, HX3.out.2.1.gr hw4.2.1 (by rintro (h | h); exact HN.out h; exact HX3.out.2.2 h), notNew hw4.2.2 HX3.out.2.2 (lt_of_block HX3.out.2.1)⟩
        clear hw4
        have d2 := HX4.out.2.1.cell 2
        simp at d2
        go_wp2_with fail
        refine (HT3.out w4 v4 F4 _ HX4.out.1.1 (by first | exact .inl rfl | exact .inr ⟨rfl, by omega⟩)).mono ?_
        rintro r w5 ⟨rfl, h5⟩
        have H5 : Hid (XGoes B w g F w5 Y3 E1) := HX4.out.1.seq h5
        clear h5
        go_wp2
        go_end0
        exact ⟨rfl, H5.out⟩
      · by_cases hC2 : 65536 < VZ
        · obtain rfl : E = 31 := by rw [hE2, if_pos (.inr (.inl hC2))]
          clear hE2 HE0
          go_enter Tryd.func35, Tryd.ntmps35
          go_wp2_with fail
          rw [← hN]
          generalize hW1 : World.alloc w _ = W1
          have HB0 : Hid (Bk 48 W1 N #[.string key, .string val, .int .i64 ver] ∧ w.grownBy W1 none) := by rw [← hW1, hN]; exact ⟨heap_new w _, World.grownBy_alloc _ _ _⟩
          clear hW1 hN
          refine (HF.out W1 v F (HW.out.new HB0.out.2)).mono ?_
          rintro r w1 ⟨rfl, v1, F1, hw1⟩
          have HX1 : Hid (XStep B w g F w1 v1 ys E1 F1 ∧ Bk 48 w1 N #[.string key, .string val, .int .i64 ver] ∧ F1 ≠ some N) :=
            ⟨XStep.pre HB0.out.2 hw1, HB0.out.1.gr hw1.2.1 (by rintro (h | h); exact HN.out h; exact HNF.out h), notNew hw1.2.2 HNF.out (lt_of_block HB0.out.1)⟩
          clear hw1
          have b0 := HX1.out.2.1.cell 0
          have b1 := HX1.out.2.1.cell 1
          have b2 := HX1.out.2.1.cell 2
          simp at b0 b1 b2
          go_wp2_with fail
          refine (HT1.out w1 v1 F1 HX1.out.1.1).mono ?_
          rintro r w3 ⟨rfl, v3, F3, hw3⟩
          have HX3 : Hid (XStep B w g F w3 v3 Y1 E1 F3 ∧ Bk 48 w3 N #[.string key, .string val, .int .i64 ver] ∧ F3 ≠ some N) :=
            ⟨HX1.out.1.step hw3, HX1.out.2.1.gr hw3.2.1 (by rintro (h | h); exact HN.out h; exact HX1.out.2.2 h), notNew hw3.2.2 HX1.out.2.2 (lt_of_block HX1.out.2.1)⟩
          clear hw3
          have d1 := HX3.out.2.1.cell 1
          simp at d1
          go_wp2_with fail
          refine (HT2.out w3 v3 F3 HX3.out.1.1).mono ?_
          rintro r w4 ⟨rfl, v4, F4, hw4⟩
          have HX4 : Hid (XStep B w g F w4 v4 Y2 E1 F4 ∧ Bk 48 w4 N #[.string key, .string val, .int .i64 ver] ∧ F4 ≠ some N) :=
            ⟨HX3.out.1.step hw4, HX3.out.2.1.gr hw4.2.1 (by rintro (h | h); exact HN.out h; exact HX3.out.2.2 h), notNew hw4.2.2 HX3.out.2.2 (lt_of_block HX3.out.2.1)⟩
          clear hw4
          have d2 := HX4.out.2.1.cell 2
          simp at d2
          go_wp2_with fail
          refine (HT3.out w4 v4 F4 _ HX4.out.1.1 (by first | exact .inl rfl | exact .inr ⟨rfl, by omega⟩)).mono ?_
          rintro r w5 ⟨rfl, h5⟩
          have H5 : Hid (XGoes B w g F w5 Y3 E1) := HX4.out.1.seq h5
          clear h5
          go_wp2
          go_end0
          exact ⟨rfl, H5.out⟩
        · by_cases hC3 : 1152921504606846976 < ver
          · obtain rfl : E = 31 := by rw [hE2, if_pos (.inr (.inr hC3))]
            clear hE2 HE0
            go_enter Tryd.func35, Tryd.ntmps35
            go_wp2_with fail
            rw [← hN]
            generalize hW1 : World.alloc w _ = W1
            have HB0 : Hid (Bk 48 W1 N #[.string key, .string val, .int .i64 ver] ∧ w.grownBy W1 none) := by rw [← hW1, hN]; exact ⟨heap_new w _, World.grownBy_alloc _ _ _⟩
            clear hW1 hN
            refine (HF.out W1 v F (HW.out.new HB0.out.2)).mono ?_
            rintro r w1 ⟨rfl, v1, F1, hw1⟩
            have HX1 : Hid (XStep B w g F w1 v1 ys E1 F1 ∧ Bk 48 w1 N #[.string key, .string val, .int .i64 ver] ∧ F1 ≠ some N) :=
              ⟨XStep.pre HB0.out.2 hw1, HB0.out.1.gr hw1.2.1 (by rintro (h | h); exact HN.out h; exact HNF.out h), notNew hw1.2.2 HNF.out (lt_of_block HB0.out.1)⟩
            clear hw1
            have b0 := HX1.out.2.1.cell 0
            have b1 := HX1.out.2.1.cell 1
            have b2 := HX1.out.2.1.cell 2
            simp at b0 b1 b2
            go_wp2_with fail
            refine (HT1.out w1 v1 F1 HX1.out.1.1).mono ?_
            rintro r w3 ⟨rfl, v3, F3, hw3⟩
            have HX3 : Hid (XStep B w g F w3 v3 Y1 E1 F3 ∧ Bk 48 w3 N #[.string key, .string val, .int .i64 ver] ∧ F3 ≠ some N) :=
              ⟨HX1.out.1.step hw3, HX1.out.2.1.gr hw3.2.1 (by rintro (h | h); exact HN.out h; exact HX1.out.2.2 h), notNew hw3.2.2 HX1.out.2.2 (lt_of_block HX1.out.2.1)⟩
            clear hw3
            have d1 := HX3.out.2.1.cell 1
            simp at d1
            go_wp2_with fail
            refine (HT2.out w3 v3 F3 HX3.out.1.1).mono ?_
            rintro r w4 ⟨rfl, v4, F4, hw4⟩
            have HX4 : Hid (XStep B w g F w4 v4 Y2 E1 F4 ∧ Bk 48 w4 N #[.string key, .string val, .int .i64 ver] ∧ F4 ≠ some N) :=
              ⟨HX3.out.1.step hw4, HX3.out.2.1.gr hw4.2.1 (by rintro (h | h); exact HN.out h; exact HX3.out.2.2 h), notNew hw4.2.2 HX3.out.2.2 (lt_of_block HX3.out.2.1)⟩
            clear hw4
            have d2 := HX4.out.2.1.cell 2
            simp at d2
            go_wp2_with fail
            refine (HT3.out w4 v4 F4 _ HX4.out.1.1 (by first | exact .inl rfl | exact .inr ⟨rfl, by omega⟩)).mono ?_
            rintro r w5 ⟨rfl, h5⟩
            have H5 : Hid (XGoes B w g F w5 Y3 E1) := HX4.out.1.seq h5
            clear h5
            go_wp2
            go_end0
            exact ⟨rfl, H5.out⟩
          · obtain rfl : E = 0 := by rw [hE2, if_neg (by omega)]
            obtain rfl := HE0.out rfl
            clear hE2 HE0
            go_enter Tryd.func35, Tryd.ntmps35
            go_wp2_with fail
            rw [← hN]
            generalize hW1 : World.alloc w _ = W1
            have HB0 : Hid (Bk 48 W1 N #[.string key, .string val, .int .i64 ver] ∧ w.grownBy W1 none) := by rw [← hW1, hN]; exact ⟨heap_new w _, World.grownBy_alloc _ _ _⟩
            clear hW1 hN
            have HX1 : Hid (XStep B w g F W1 v ys E1 F ∧ Bk 48 W1 N #[.string key, .string val, .int .i64 ver] ∧ F ≠ some N) :=
              ⟨⟨HW.out.new HB0.out.2, Gr.of HB0.out.2 (by simp), .inl rfl⟩, HB0.out.1, HNF.out⟩
            refine (HT1.out W1 v F HX1.out.1.1).mono ?_
            rintro r w3 ⟨rfl, v3, F3, hw3⟩
            have HX3 : Hid (XStep B w g F w3 v3 Y1 E1 F3 ∧ Bk 48 w3 N #[.string key, .string val, .int .i64 ver] ∧ F3 ≠ some N) :=
              ⟨HX1.out.1.step hw3, HX1.out.2.1.gr hw3.2.1 (by rintro (h | h); exact HN.out h; exact HX1.out.2.2 h), notNew hw3.2.2 HX1.out.2.2 (lt_of_block HX1.out.2.1)⟩
            clear hw3
            have d1 := HX3.out.2.1.cell 1
            simp at d1
            go_wp2_with fail
            refine (HT2.out w3 v3 F3 HX3.out.1.1).mono ?_
            rintro r w4 ⟨rfl, v4, F4, hw4⟩
            have HX4 : Hid (XStep B w g F w4 v4 Y2 E1 F4 ∧ Bk 48 w4 N #[.string key, .string val, .int .i64 ver] ∧ F4 ≠ some N) :=
              ⟨HX3.out.1.step hw4, HX3.out.2.1.gr hw4.2.1 (by rintro (h | h); exact HN.out h; exact HX3.out.2.2 h), notNew hw4.2.2 HX3.out.2.2 (lt_of_block HX3.out.2.1)⟩
            clear hw4
            have d2 := HX4.out.2.1.cell 2
            simp at d2
            go_wp2_with fail
            refine (HT3.out w4 v4 F4 _ HX4.out.1.1 (by first | exact .inl rfl | exact .inr ⟨rfl, by omega⟩)).mono ?_
            rintro r w5 ⟨rfl, h5⟩
            have H5 : Hid (XGoes B w g F w5 Y3 E1) := HX4.out.1.seq h5
            clear h5
            go_wp2
            go_end0
            exact ⟨rfl, H5.out⟩
end Go.Proofs.YtlmjgjimmbadeaaDoor
namespace Go.Proofs.YtlmjgjimmbadeaaDoor
open Go.RowKit
set_option linter.unusedVariables false

/-- One step of a Writer beside a row that came in. -/
def WBeside (w : World) (g : Nat) (fs : List Nat) (N : Nat) (cs : Array Value) (w' : World) (ys' : List Int) (e' : Int) : Prop :=
  ∃ fs', WS w' g ys' e' fs' ∧ Gr (fun k => k = g) w w' ∧ (∀ k ∈ fs', k ∈ fs ∨ w.heap.size ≤ k) ∧ Bk 48 w' N cs ∧ N ≠ g
theorem WBeside.next {w g fs N cs w1 ys1 e1} (h : WBeside w g fs N cs w1 ys1 e1) : ∃ f1, WS w1 g ys1 e1 f1 ∧ ∀ w2 ys2 e2, WGoes w1 g f1 w2 ys2 e2 → WBeside w g fs N cs w2 ys2 e2 := by
  obtain ⟨f1, h1, g1, l1, b1, n1⟩ := h
  refine ⟨f1, h1, fun w2 ys2 e2 k => ?_⟩
  obtain ⟨f2, h2, g2, l2⟩ := k
  refine ⟨f2, h2, g1.trans g2, fun j hj => ?_, b1.gr g2 n1, n1⟩
  rcases l2 j hj with h | h
  · exact l1 j h
  · exact .inr (Nat.le_trans g1.size h)
theorem WBeside.cells {w g fs N w1 ys1 e1} {a b c : Value} {cs : Array Value} (h : WBeside w g fs N cs w1 ys1 e1) (hc : cs = #[a, b, c]) : w1.cell? ⟨N, 0, none⟩ = some a ∧ w1.cell? ⟨N, 1, none⟩ = some b ∧ w1.cell? ⟨N, 2, none⟩ = some c ∧ w1.cell? ⟨g, 0, none⟩ = some (.int .i64 e1) := by
  subst hc
  obtain ⟨f1, h1, _, _, b1, _⟩ := h
  exact ⟨by rw [b1.cell 0]; rfl, by rw [b1.cell 1]; rfl, by rw [b1.cell 2]; rfl, h1.c0⟩
theorem WBeside.goes {w g fs N cs w1 ys1 e1} (h : WBeside w g fs N cs w1 ys1 e1) : WGoes w g fs w1 ys1 e1 := by
  obtain ⟨f1, h1, g1, l1, _⟩ := h
  exact ⟨f1, h1, g1, l1⟩
theorem WBeside.drew {w g fs N cs w1 ys1 e1} (h : WBeside w g fs N cs w1 ys1 e1) : WBeside w g fs N cs w1.drew ys1 e1 := by
  obtain ⟨f1, h1, nx⟩ := h.next
  exact nx _ _ _ (h1.stay.then (fun f h => (h.new (gb_drewN (World.grownBy.refl _ _) 1)).stay.pre (gb_drewN (World.grownBy.refl _ _) 1)))
theorem WBeside.start {w g fs ys e} (h : WS w g ys e fs) (cs : Array Value) : WBeside w g fs w.heap.size cs (w.alloc (.cells cs 48)) ys e :=
  ⟨fs, h.new (World.grownBy_alloc _ _ _), Gr.of (World.grownBy_alloc _ _ none) (by simp), fun k hk => .inl hk, heap_new w _, by have := h.lt; omega⟩

end Go.Proofs.YtlmjgjimmbadeaaDoor

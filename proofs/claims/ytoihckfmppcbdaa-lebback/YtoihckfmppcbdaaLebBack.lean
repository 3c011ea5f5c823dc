/-
  Proved: for every number of 64 bits and every list of bytes hawserlaw01.LebBack answers true: what is written is read, whatever stands behind it, and what is read is written. No condition but the form's own reach.
-/
import Derived.Test.YtoihckfmppcbdaaRows
import Derived.Test.YtoihckfmppcbdaaEncC
import Derived.Test.YtoihckfmppcbdaaDec
import Derived.Test.YtoihckfmppcbdaaCopyC
import Derived.Test.YtoihckfmppcbdaaSme
import Derived.Deep.RegionHeld3
import Derived.BigQuiet
import Derived.Deep.QuietTactic
import Derived.SizedLaws
import Derived.WalkKit
import Derived.ProofKit
import Derived.OpenShut
import Derived.ShutString
import Derived.ChangeOld
import Derived.Below
namespace Go.Proofs.Ytoihckfmppcbdaa.lebBack
open Go.ChangeShapes Go.WideShapes Go.ChangeAt Go.RowKit
open Go.ChangeMaps (open_string shut_string)
set_option linter.unusedVariables false

theorem own : ownKnob Try.prog.godebug = none := by kernel_rfl
theorem laidOut : laidOutB Try.prog = true := by kernel_rfl

/-- WHAT THE WALK IS TOLD OF A SLICE OF INTEGERS THAT CAME IN: it is nil; or it leads to a row of 'cap' cells, the numbers 'zs' (the first 'len' are its elements, the rest its spare room), each fitting its kind. -/
def IsRow (k : IntKind) (R : Nat) (w : World) (a : Option Addr) (len cap : Nat) (zs : List Int) : Prop :=
  (a = none ∧ len = 0 ∧ cap = 0 ∧ zs = []) ∨
  ∃ x, a = some x ∧ len ≤ cap ∧ cap ≤ R ∧ zs.length = cap ∧ (∀ i, i < zs.length → w.cell? (x.add i) = some (.int k (zs.getD i 0))) ∧ ∀ n ∈ zs, (Lit.int k n).wf = true

theorem one64 (a : Int) (h : 0 ≤ a ∧ a < 18446744073709551616) : Bits64 [a] := fun i hi => by
  simp at hi; subst hi; simpa using h
theorem encs_one (a : Int) : encs [a] = enc a.toNat := by simp [encs]

set_option maxHeartbeats 400000 in
theorem walk (a0 : Int) (a1 : Option Addr) (len1 cap1 : Nat) (z1 : List Int) (w : World) (w0 : (Lit.int .u64 a0).wf = true) (w1 : IsRow .u8 140737488351232 w a1 len1 cap1 z1) :
    Calls Try.prog 4 #[.int .u64 a0, .slice a1 len1 cap1] w fun e w' => e = .returned (.bool true) ∧ Below w.heap.size w w' := by
  obtain ⟨i0, hi, hz0, hz1, hz2⟩ := info_parts Try.infoU8
  obtain ⟨hs, hlc, hR, hwf⟩ := seg_of_row w1
  have HNO : Hid (a1 = none → cap1 = 0) := by
    intro h
    rcases w1 with ⟨_, _, h', _⟩ | ⟨x, h', _⟩
    · exact h'
    · rw [h] at h'; cases h'
  obtain ⟨ys, hys⟩ : ∃ ys, ys = z1.take len1 := ⟨_, rfl⟩
  rw [← hys] at hs hwf
  have HY : Hid (Bytes ys) := fun i hi => wf_u8 (hwf i hi)
  have HS : Hid (Seg .u8 w a1 len1 ys) := hs
  have ha := wf_u64 w0
  obtain ⟨n, hn⟩ : ∃ n, n = (encs [a0]).length := ⟨_, rfl⟩
  have hsz : n = sz a0 := by rw [hn, encs_one, enc_length _ (by omega), Int.toNat_of_nonneg ha.1]
  have hbd : 1 ≤ n ∧ n ≤ 10 := by have := sz_bd a0; omega
  have HSZ : Hid (szs [a0] = n) := by show _ = _; rw [hsz]; simp [szs]
  have HRD : Hid (∀ rest, rd (encs [a0] ++ rest) = (a0, (n : Int), 0)) := by
    intro rest
    rw [hn, encs_one, rd_enc a0.toNat (by omega) rest, Int.toNat_of_nonneg ha.1]
  have HEB : Hid (Bytes (encs [a0])) := bytes_of_mem (encs_bytes _)
  have HN : Hid (n = (encs [a0]).length) := hn
  have HA : Hid (Bits64 [a0]) := one64 a0 ha
  clear hys hwf w0 w1 hs hsz hn
  go_enter Try.func4, Try.ntmps4
  go_wp2_with fail
  refine (encode_c _ 1 1 [a0] _ (seg_new _ _ _ _ _ _ rfl rfl) HA.out (by omega)).mono ?_
  rintro e w1 ⟨g, n', rfl, hn', hg, hr, hb⟩
  obtain rfl : n' = n := by rw [hn', HN.out]
  have HR : Hid (Row .u8 5 w1 g (encs [a0])) := hr
  have HB : Hid (Below w.heap.size w w1) := ((Below.refl _ w).alloc (Nat.le_refl _) _).trans (hb.mono (by simp))
  clear hn' hg hr hb
  go_wp2_with fail
  refine (size_c _ 1 1 [a0] _ (seg_new _ _ _ _ _ _ rfl rfl) HA.out (by omega)).mono ?_
  rintro e w2 ⟨rfl, rfl⟩
  rw [HSZ.out]
  have HB1 : Hid (Below w1.heap.size w1 (w1.alloc (.cells #[.int .u64 a0] 32))) := (Below.refl _ _).alloc (Nat.le_refl _) _
  go_wp2_with fail
  refine (copy_c _ n' n' (encs [a0]) _ ((HR.out.segAll n' HN.out).below HB1.out) HEB.out (by omega)).mono ?_
  rintro e w3 ⟨g3, c3, rfl, hm, hb3⟩
  have hsz1 := HB.out.size
  have HB3 : Hid (Below w.heap.size w w3) := (HB.out.trans (HB1.out.mono hsz1)).trans (hb3.mono (by simp; omega))
  have HM : Hid (Mine w3 (w1.heap.size + 1) g3 n' c3 (encs [a0])) := by simp at hm; exact hm
  clear hm hb3
  go_wp2_with (at_builtin; go_must (refine wpList_append_mine _ rfl _ _ 22 rfl 5 i0 Try.underlying22 hi hz0 hz1 hz2 (w1.heap.size + 1) g3 n' c3 (encs [a0]) rfl HM.out a1 len1 cap1 ys rfl HNO.out (HS.out.below HB3.out) (by omega) ?_); intro g4 c4 w4 hm4 hb4)
  have HB4 : Hid (Below w.heap.size w w4) := HB3.out.trans (hb4.mono (by omega))
  have HM4 : Hid (Mine w4 (w1.heap.size + 1) g4 (n' + len1) c4 (encs [a0] ++ ys)) := hm4
  have HYB : Hid (Bytes (encs [a0] ++ ys)) := by
    intro i hi
    by_cases h : i < (encs [a0]).length
    · rw [List.getElem?_append_left h]; exact HEB.out i h
    · rw [List.getElem?_append_right (by omega)]; exact HY.out _ (by simp at hi; omega)
  clear hm4 hb4
  go_wp2_with fail
  refine (decode_c _ (n' + len1) c4 (encs [a0] ++ ys) w4 HM4.out.seg HYB.out HM4.out.le (by have := HM4.out.max; unfold maxLen at this; omega)).mono ?_
  rintro e w5 ⟨rfl, rfl⟩
  rw [HRD.out ys]
  go_wp2_with fail
  refine (decode_c _ len1 cap1 ys _ (HS.out.below HB4.out) HY.out hlc (by omega)).mono ?_
  rintro e w6 ⟨rfl, rfl⟩
  by_cases he : (rd ys).2.2 = 0
  · obtain ⟨hk1, hk2, hen⟩ := rd_back ys HY.out he
    have hbd2 := rd_bd ys HY.out
    obtain ⟨V, k, hrd⟩ : ∃ (V : Int) (k : Nat), rd ys = (V, (k : Int), 0) := ⟨(rd ys).1, (rd ys).2.1.toNat, by
      apply Prod.ext
      · rfl
      · apply Prod.ext
        · show (rd ys).2.1 = ((rd ys).2.1.toNat : Int); omega
        · exact he⟩
    rw [hrd] at hk1 hk2 hen hbd2 ⊢
    rw [HS.out.1] at hk2
    simp only at hk1 hk2 hen hbd2
    have hV := hbd2.1
    have HQ : Hid (encs [V] = ys.take k) := by show _ = _; rw [encs_one, hen]; simp
    have HVB : Hid (Bits64 [V]) := one64 V hV
    have HVY : Hid (Bytes (encs [V])) := bytes_of_mem (encs_bytes _)
    have hk3 : k ≤ cap1 := by omega
    obtain ⟨b, off, hab⟩ : ∃ b off, a1 = some ⟨b, off, none⟩ := by
      rcases HS.out.2 with h0 | ⟨b, off, h, _⟩
      · omega
      · exact ⟨b, off, h⟩
    subst hab
    have HSK : Hid (Seg .u8 w (some ⟨b, off, none⟩) k (encs [V])) := by
      refine ⟨by rw [HQ.out]; simp [HS.out.1]; omega, ?_⟩
      rcases HS.out.2 with h0 | ⟨b', off', h, hbw, hc⟩
      · omega
      · cases h
        exact .inr ⟨b, off, rfl, hbw, fun i hi => by rw [hc i (by omega), HQ.out, List.getElem?_take_of_lt hi]⟩
    clear hen hbd2 hrd he
    go_wp2
    go_region_held3 (fun _ => True) (trivial) (first
      | (go_at_call 11; refine (encode_c _ 1 1 [V] _ ?_ HVB.out (by omega)).mono ?_; exact seg_new _ _ _ _ _ _ rfl rfl; rintro e w7 ⟨g7, n7, rfl, hn7, hg7, hr7, hb7⟩; have HB7 : Hid (Below w.heap.size w w7) := ((HB4.out.alloc HB4.out.size _).drew).trans (hb7.mono (by have := HB4.out.size; simp; omega)))
      | (go_at_call 15; refine (same_c _ _ _ _ _ _ (encs [V]) (encs [V]) _ ?_ ?_ HVY.out HVY.out).mono ?_; exact hr7.segAll _ rfl; exact HSK.out.below HB7.out; rintro e w8 ⟨rfl, rfl⟩))
    go_wp2
    go_ret
    exact ⟨rfl, Hid.out (by assumption)⟩
  · obtain ⟨h1, h2⟩ := rd_zero ys he
    have hne : ((rd ys).2.2 != 0) = true := by simpa using he
    go_wp2
    go_ret
    exact ⟨rfl, HB4.out⟩

set_option maxRecDepth 100000 in
theorem lifted (os : Os) (started : os.Started) (H : Type) (enc : TypeId × Value → H) :
    ReturnsInHanded {} Try.checked os 4 .any (Rows.lebBackSpec.pre6 enc Try.prog Try.f4 Rows.lebBackRow.domain false) (Rows.lebBackSpec.post enc Try.prog Try.f4 false true false false) := by
  refine returnsInHanded_of_change_sized (C := Try.checked) own started (by kernel_rfl) Try.func4
    (ChangeSpec.witness6 (enc := enc) (C := Try.checked) false ⟨#[], #[.int .u64 0, .slice none 0 0], []⟩ 8 (by kernel_rfl) (by kernel_rfl) (by kernel_rfl) (by kernel_rfl)) ?_
  intro W base args ds gs before hval0 hW hcnd hsz0 _
  have hsz : (DataW.weightsEach Try.prog (Try.f4.params.toList ++ Rows.lebBackSpec.plain.varTypes Try.prog) (ds ++ gs)).all (· ≤ reachBytes) = true := hsz0
  have hval : ∀ (j : Nat) t v, Try.f4.params[j]? = some t → args[j]? = some v → Value.okWide Try.prog W .any base t v := hval0
  have hW' := hW
  obtain ⟨p, q, hA0, hV, rfl, hfz, hnd⟩ := hW
  have hA : DataW.TrodAll enc Try.prog W 0 (fun _ => true) true Try.f4.params.toList args.toList ds p := hA0
  rw [Try.params4] at hA hval hsz
  obtain ⟨v0, vs0, d0, ds0, p0, q0, hargs, rfl, rfl, h0, r0⟩ := trodAll_cons hA
  obtain ⟨v1, vs1, d1, ds1, p1, q1, rfl, rfl, rfl, h1, r1⟩ := trodAll_cons r0
  obtain ⟨rfl, rfl, rfl⟩ := trodAll_nil r1
  obtain rfl : args = #[v0, v1] := by cases args; simp_all
  obtain ⟨rfl, rfl⟩ := trodVars_none hV
  obtain ⟨a0, rfl, rfl, rfl, w0⟩ := open_int Try.underlying32 (hval 0 32 v0 rfl rfl) h0
  obtain ⟨a1, len1, cap1, rfl⟩ := okWide_slice Try.underlying22 (hval 1 22 v1 rfl rfl)
  have k1 := h1
  have lt1 : ∀ x ∈ p1, x.block < W.heap.size := by obtain ⟨m, hm⟩ := k1; exact DataW.trod_lt m _ _ _ hm
  obtain ⟨z1, w1⟩ : ∃ zs, IsRow .u8 140737488351232 W a1 len1 cap1 zs := by
    obtain ⟨fuel, hf⟩ := h1
    rcases open_ints Try.underlying22 Try.underlying5 (by kernel_rfl) hf with ⟨hcs, _⟩ | ⟨x, l, c, zs, hcs, _, hl, hm, hz, hx, hcell, hwz⟩
    · simp [Value.cells] at hcs
      obtain ⟨rfl, rfl, rfl⟩ := hcs
      exact ⟨[], .inl ⟨rfl, rfl, rfl, rfl⟩⟩
    · simp [Value.cells] at hcs
      obtain ⟨rfl, rfl, rfl⟩ := hcs
      have hd : d1 = _ := congrArg Prod.fst hx
      have hb := sized_slice hsz (j := 1) (t := 22) (e := 5) rfl (congrArg some hd) Try.underlying22
      rw [show Try.prog.bytesOf 5 = 1 from by kernel_rfl] at hb
      simp only [lits, List.length_map, List.length_take, List.length_drop, reachBytes] at hb
      have hz' : zs.length = cap1 := by simpa using hz
      exact ⟨zs, .inr ⟨_, rfl, hl, by omega, hz', hcell, hwz⟩⟩
  clear hA0 hval0
  refine (walk a0 a1 len1 cap1 z1 W w0 w1).mono fun e W' ⟨he, bel⟩ => ?_
  subst he
  exact ⟨_, rfl, _, _, _, [], _, [], hW', trodAll_mk1 (shut_bool Try.underlying4 _), (trodAll_cons_mk (shut_int Try.underlying32 w0) (trodAll_cons_mk (Below.trod laidOut (by kernel_rfl) (of_decide_eq_true (by kernel_rfl)) k1 bel lt1) trodAll_mk0)), rfl, bel.frame _, fun h => by cases h⟩

theorem over : Rows.lebBackRow.holds Try.pinned (OpenSpec.ofChange Rows.lebBackSpec) :=
  OpenClaim.holds_of_wide 4 Try.f4 rfl rfl rfl rfl rfl rfl rfl ⟨rfl, rfl, rfl, rfl, rfl⟩ rfl rfl rfl rfl rfl (by kernel_rfl) Try.func4 (by kernel_rfl)
    (of_decide_eq_true (by kernel_rfl)) (by unfold Func.isWrapper; first | (rw [if_pos (by decide +kernel)]; kernel_rfl) | (rw [if_neg (by decide +kernel)]; exact ⟨rfl, rfl⟩))
    (fun os started H enc _ => lifted os started H enc)

end Go.Proofs.Ytoihckfmppcbdaa.lebBack
namespace Go.Proofs.Ytoihckfmppcbdaa
theorem lebBack_holds : Rows.LebBackSaid := lebBack.over
#print axioms lebBack_holds
end Go.Proofs.Ytoihckfmppcbdaa

/-
  What the document's All answers of whatever bytes: the places and numbers of the plain function tk, in a row of its own. Condition: the slice can be read, and holds at most 2^20 bytes.
-/
import Derived.Test.YtoihckfmppcbdaaTell
import Derived.Test.YtoihckfmppcbdaaIter
import Derived.Test.YtoihckfmppcbdaaRead
import Derived.Deep.Light
namespace Go.Proofs.Ytoihckfmppcbdaa
open Go.RowKit
set_option linter.unusedVariables false

/-- Places and numbers as cells. -/
def flat : List (Int × Int) → List Value
  | [] => []
  | p :: l => .int .i64 p.1 :: .int .u64 p.2 :: flat l
theorem flat_length (l : List (Int × Int)) : (flat l).length = l.length * 2 := by
  induction l with
  | nil => rfl
  | cons p l ih => simp [flat, ih]; omega
theorem flat_snoc (l : List (Int × Int)) (p : Int × Int) : flat (l ++ [p]) = flat l ++ [.int .i64 p.1, .int .u64 p.2] := by
  induction l with
  | nil => rfl
  | cons q l ih => simp [flat, ih]
theorem flat_at (l : List (Int × Int)) (i : Nat) (h : i < l.length) : (flat l)[i * 2]? = some (.int .i64 l[i].1) ∧ (flat l)[i * 2 + 1]? = some (.int .u64 l[i].2) := by
  induction l generalizing i with
  | nil => simp at h
  | cons p l ih =>
    cases i with
    | zero => simp [flat]
    | succ i =>
      have := ih i (by simp at h; omega)
      rw [show (i + 1) * 2 = i * 2 + 2 from by omega, show i * 2 + 2 + 1 = i * 2 + 1 + 2 from by omega]
      simpa [flat] using this

theorem Try.infoTold : (Try.prog.info? 49).map (fun i => (i.zero, i.size, i.bytes)) = some (some (.agg #[.int .i64 0, .int .u64 0]), 2, 16) := by kernel_rfl

theorem two_new (w : World) (T : TypeId) (u v : Value) : ∀ (j : Nat) (x : Value), [u, v][j]? = some x → (w.alloc (.cells #[u, v] T)).cell? ((⟨w.heap.size, 0, none⟩ : Addr).add j) = some x := by
  intro j x hj
  match j, hj with
  | 0, hj => simp at hj; subst hj; simp [Addr.add]
  | 1, hj => simp at hj; subst hj; simp [Addr.add]
theorem two_one {k k' : IntKind} {x y : Int} : ∀ u ∈ [Value.int k x, Value.int k' y], u.oneCell' = true := by
  intro u hu
  rcases List.mem_cons.1 hu with rfl | hu
  · rfl
  · simp at hu; subst hu; rfl

set_option maxHeartbeats 1000000 in
theorem refall_c (a : Option Addr) (len cap : Nat) (xs : List Int) (w : World) (h : Seg .u8 w a len xs) (hx : Bytes xs) (hl : len ≤ 1048576) (hcap : len ≤ cap) (hcm : cap ≤ 9223372036854775807) :
    Calls Try.prog 16 #[.slice a len cap] w fun e w' => ∃ v, e = .returned v ∧ w'.ownsRow w.heap.size 49 2 v (tk xs 0).length (flat (tk xs 0)) ∧ Below w.heap.size w w' := by
  obtain ⟨i0, hi, hz0, hz1, hz2⟩ := info_parts Try.infoTold
  have HS : Hid (Seg .u8 w a len xs) := h
  have HX : Hid (Bytes xs) := hx
  clear h hx
  go_enter Try.func16, Try.ntmps16
  go_wp2
  go_loopw [3, 4] (fun b i wr => ∃ (k : Nat) (pre : List (Int × Int)), k ≤ len ∧ i = .int .i64 k ∧ pre.length ≤ k ∧ tk xs 0 = pre ++ tk xs k ∧ wr.ownsRow w.heap.size 49 2 b pre.length (flat pre) ∧ Below w.heap.size w wr) (fun _ i _ => len - (intOf i).toNat)
  case atStart => exact ⟨0, [], Nat.zero_le _, rfl, Nat.le_refl _, rfl, World.ownsRow_nil _ _ _ _, Below.refl _ _⟩
  case round =>
    obtain ⟨k, pre, hk, rfl, hpk, htk, hown, hb⟩ := hrel
    have HT : Hid (tk xs 0 = pre ++ tk xs k) := htk
    have HO : Hid (wr.ownsRow w.heap.size 49 2 u3 pre.length (flat pre)) := hown
    have HB : Hid (Below w.heap.size w wr) := hb
    clear htk hown hb
    by_cases hlt : k < len
    · have hce : ¬ cap = k := by omega
      go_wp2_with fail
      refine (read_c _ _ _ (xs.drop k) wr (seg_from (HS.out.below HB.out) k) (bytes_drop HX.out k) (by omega)).mono ?_
      rintro e w1 ⟨rfl, hw⟩
      rw [hw]
      clear hw w1
      have hbd := rd_bd (xs.drop k) (bytes_drop HX.out k)
      by_cases he : (rd (xs.drop k)).2.2 = 0
      · have hsz := rd_size (bytes_drop HX.out k) he
        rw [List.length_drop, HS.out.1] at hsz
        obtain ⟨V, m, hrd⟩ : ∃ (V : Int) (m : Nat), rd (xs.drop k) = (V, (m : Int), 0) := ⟨(rd (xs.drop k)).1, (rd (xs.drop k)).2.1.toNat, by
          apply Prod.ext
          · rfl
          · apply Prod.ext
            · show (rd (xs.drop k)).2.1 = ((rd (xs.drop k)).2.1.toNat : Int); omega
            · exact he⟩
        have HK : Hid (tk xs k = ((k : Int), V) :: tk xs (k + m)) := by
          have := tk_cons HX.out (by rw [HS.out.1]; exact hlt) he
          rw [hrd] at this
          exact this
        rw [hrd] at hsz hbd ⊢
        simp only at hsz hbd
        have hV := hbd.1
        have hm : 1 ≤ m ∧ m ≤ len - k := by omega
        have hsz1 := HB.out.size
        clear hbd hsz hrd he
        go_wp2_with (at_builtin; go_must (refine wpList_append_own _ rfl (.tmp 22) (.tmp 26) 43 rfl w.heap.size 49 i0 (.agg #[.int .i64 0, .int .u64 0]) 2 16 Try.underlying43 hi hz0 hz1 hz2 rfl (by decide) _ pre.length _ rfl (HO.out.alloc _) ⟨wr.heap.size, 0, none⟩ 1 1 [.int .i64 (k : Int), .int .u64 V] rfl rfl (two_new _ _ _ _) two_one (by unfold maxLen; omega) (by omega) (by simp; omega) ?_); intro v2 w2 hown hgrow _)
        have HO2 : Hid (w2.ownsRow w.heap.size 49 2 v2 (pre ++ [((k : Int), V)]).length (flat (pre ++ [((k : Int), V)]))) := by
          show World.ownsRow _ _ _ _ _ _ _
          rw [flat_snoc, List.length_append]; exact hown
        have HB2 : Hid (Below w.heap.size w w2) := (HB.out.alloc hsz1 _).grown hgrow (by simp; omega) (fun j hj => by
          obtain ⟨_, h | ⟨g, c, cur, hv, hg, _⟩⟩ := HO.out
          · rw [h.1] at hj; cases hj
          · rw [hv] at hj; cases hj; exact hg)
        clear hown hgrow
        go_wp2
        go_roundw
        case rel =>
          go_light
          refine ⟨k + m, _, by omega, by go_num, ?_, ?_, HO2.out, HB2.out⟩
          · simp; omega
          · rw [HT.out, HK.out]; simp
        case measure => simp [intOf]; omega
      · obtain ⟨V, m, E, hrd⟩ : ∃ V m E, rd (xs.drop k) = (V, m, E) := ⟨_, _, _, rfl⟩
        have HK : Hid (tk xs k = []) := tk_nil (fun h => he h.2)
        rw [hrd] at he ⊢
        simp only at he
        have hE : (E != 0) = true := by simpa using he
        clear hrd he hbd
        go_wp2
        go_ret
        go_light
        refine ⟨u3, rfl, ?_, HB.out⟩
        rw [HT.out, HK.out, List.append_nil]; exact HO.out
    · have HK : Hid (tk xs k = []) := tk_nil (by rw [HS.out.1]; omega)
      go_wp2
      go_ret
      go_light
      refine ⟨u3, rfl, ?_, HB.out⟩
      rw [HT.out, HK.out, List.append_nil]; exact HO.out
end Go.Proofs.Ytoihckfmppcbdaa

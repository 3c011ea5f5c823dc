/-
  Digests that came in: what a law is told of them; and a text's digest there and back. No condition of its own.
-/
import Derived.Test.YtkbknghomoombaaSPa
import Derived.Test.YtkbknghomoombaaSBl
import Derived.Deep.Slices
import Derived.Deep.MidRow
import Derived.ProofKit
import Derived.OpenShut
import Derived.ChangeOld
namespace Go.Proofs.Ytkbknghomoombaa
set_option linter.unusedVariables false
open Go.RowKit Go.WideShapes Go.ChangeShapes

theorem take_one {cs : List Value} {k : Nat} {v : Value} (h : (cs.drop k).take 1 = [v]) : cs[k]? = some v := by
  have := congrArg (fun l => l[0]?) h
  simpa using this
theorem dig_open {H : Type} {enc : TypeId × Value → H} {w : World} {v : Value} {d : DataW H} {p : List MemPlace} (cs : Array Value) (hv : v = .agg cs) (hsz : cs.size = 32)
    (h : DataW.Trod enc Try.prog w 0 (fun _ => true) true 23 v d p) : ∃ ds : List Int, v = .agg (u8s ds) ∧ ds.length = 32 ∧ Bytes ds := by
  obtain ⟨fuel, hf⟩ := h
  subst hv
  obtain ⟨xs, m, _, _, hl, hx, hf6⟩ := DataW.trod_array Try.underlying23 hf
  have z5 : Try.prog.cellsOf 5 = 1 := by kernel_rfl
  have hby : ∀ i, i < 32 → ∃ z, cs.toList[i]? = some (.int .u8 z) ∧ (Lit.int .u8 z).wf = true := by
    intro i hi
    have hi6 : i < xs.length := by rw [hx]; exact hi
    have := (hf6 i hi).trans (List.getElem?_eq_getElem hi6)
    rw [z5] at this
    obtain ⟨z, cz, _, wz⟩ := DataW.trod_int Try.underlying5 this
    refine ⟨z, ?_, wz⟩
    have h1 := take_one cz
    rw [Nat.mul_one] at h1
    simpa [Value.cells] using h1
  obtain ⟨Z, hZ⟩ := Go.Deep.choose_lt hby
  refine ⟨(List.range 32).map Z, ?_, by simp, ?_⟩
  · congr 1
    apply Array.toList_inj.1
    apply List.ext_getElem?
    intro i
    rcases Nat.lt_or_ge i 32 with hi | hi
    · rw [(hZ i hi).1]; simp [u8s, hi]
    · rw [List.getElem?_eq_none (by simpa [hsz] using hi), List.getElem?_eq_none (by simpa [u8s] using hi)]
  · intro i hi
    have hi' : i < 32 := by simpa using hi
    have := wf_u8 (hZ i hi').2
    simp [hi']; exact this

theorem ptx_at (ds : List Int) (k : Nat) (h : k < ds.length) : (ptx ds).getD (2 * k) 0 = hx (ds.getD k 0 / 16) ∧ (ptx ds).getD (2 * k + 1) 0 = hx (ds.getD k 0 % 16) := by
  have e : ptx ds = ptx (ds.take (k + 1)) ++ ptx (ds.drop (k + 1)) := by rw [← ptx_app, List.take_append_drop]
  have l : (ptx (ds.take k)).length = 2 * k := by rw [ptx_len, List.length_take]; omega
  rw [e, ptx_snoc ds k h, List.append_assoc]
  simp only [List.getD_eq_getElem?_getD]
  constructor
  · rw [List.getElem?_append_right (by omega), l, Nat.sub_self]; rfl
  · rw [List.getElem?_append_right (by omega), l, show 2 * k + 1 - 2 * k = 1 from by omega]; rfl
theorem getD_lt (ds : List Int) (hb : Bytes ds) (k : Nat) (h : k < ds.length) : 0 ≤ ds.getD k 0 ∧ ds.getD k 0 < 256 := by
  have := hb k h
  simpa using this
theorem pd_ptx (ds : List Int) (hl : ds.length = 32) (hb : Bytes ds) (k : Nat) (hk : k ≤ 32) : pd (ptx ds) (2 * k) = ds.take k ++ List.replicate (32 - k) 0 := by
  induction k with
  | zero => rfl
  | succ k ih =>
    have ih := ih (by omega)
    have hkl : k < ds.length := by omega
    have hc := getD_lt ds hb k hkl
    obtain ⟨p1, p2⟩ := ptx_at ds k hkl
    have lt : (ds.take k).length = k := by rw [List.length_take]; omega
    obtain ⟨c, hcc⟩ : ∃ c, c = ds.getD k 0 := ⟨_, rfl⟩
    rw [← hcc] at hc p1 p2
    have s1 : pd (ptx ds) (2 * k + 1) = ds.take k ++ (c / 16) :: List.replicate (32 - (k + 1)) 0 := by
      rw [pd, ih, show 2 * k / 2 = k from by omega, p1, udx_hx _ (by omega)]
      rw [show 32 - k = (32 - (k + 1)) + 1 from by omega, List.replicate_succ, List.set_append_right _ _ (by omega), lt, Nat.sub_self, List.set_cons_zero]
      congr 2
      simp only [List.getD_eq_getElem?_getD]
      rw [List.getElem?_append_right (by omega), lt, Nat.sub_self]
      simp; omega
    rw [show 2 * (k + 1) = 2 * k + 1 + 1 from by omega, pd, s1, show (2 * k + 1) / 2 = k from by omega, p2, udx_hx _ (by omega)]
    rw [List.set_append_right _ _ (by omega), lt, Nat.sub_self, List.set_cons_zero]
    simp only [List.getD_eq_getElem?_getD]
    rw [List.getElem?_append_right (by omega), lt, Nat.sub_self, List.take_succ_eq_append_getElem hkl]
    simp only [List.getElem?_cons_zero, Option.getD_some, List.append_assoc, List.singleton_append]
    congr 2
    rw [show ds[k] = c from by rw [hcc]; simp [hkl]]
    omega
theorem pans_ptx (ds : List Int) (hl : ds.length = 32) (hb : Bytes ds) : pans (ptx ds) = (ds, 0, 0) := by
  have l : (ptx ds).length = 64 := by rw [ptx_len, hl]
  have hn : fbad (ptx ds) 64 = none := fbad_none _ _ fun j hj => by
    obtain ⟨k, hk⟩ : ∃ k, j = 2 * k ∨ j = 2 * k + 1 := ⟨j / 2, by omega⟩
    have hkl : k < ds.length := by omega
    obtain ⟨p1, p2⟩ := ptx_at ds k hkl
    have hc := getD_lt ds hb k hkl
    rcases hk with rfl | rfl
    · rw [p1, udx_hx _ (by omega)]; omega
    · rw [p2, udx_hx _ (by omega)]; omega
  have hp := pd_ptx ds hl hb 32 (Nat.le_refl _)
  rw [List.take_of_length_le (by omega)] at hp
  unfold pans
  rw [l, show min 64 64 = 64 from rfl, hn]
  show (if 64 = 64 then _ else _) = _
  rw [if_pos rfl]
  show (pd (ptx ds) (2 * 32), _) = _
  rw [hp]; simp
theorem ptx_bytes (ds : List Int) (hb : Bytes ds) : Bytes (ptx ds) := by
  refine bytes_of_mem fun z hz => ?_
  unfold ptx at hz
  rw [List.mem_flatMap] at hz
  obtain ⟨c, hc, hz⟩ := hz
  have := hb.mem c hc
  simp only [List.mem_cons, List.not_mem_nil, or_false] at hz
  rcases hz with rfl | rfl
  · exact hx_bd _ (by omega)
  · exact hx_bd _ (by omega)
end Go.Proofs.Ytkbknghomoombaa

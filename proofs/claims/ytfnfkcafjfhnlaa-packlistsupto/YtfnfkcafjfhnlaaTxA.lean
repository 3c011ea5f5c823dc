/-
  What both Texts answer, in one form; the law's three texts. Condition: at most 2^20 texts, of at most 2^20 bytes together.
-/
import Derived.Test.YtfnfkcafjfhnlaaTxM
import Derived.Test.YtfnfkcafjfhnlaaTxX
import Derived.Test.YtfnfkcafjfhnlaaOwD
namespace Go.Proofs.Ytfnfkcafjfhnlaa
open Go.RowKit
set_option linter.unusedVariables false

def tz (n : Nat) (X : List ByteArray) : List Int := if terr X n = 0 then enc n ++ tbt X n else []
/-- What either answers: these bytes in memory of one's own, and the first error. -/
def TA (f : FuncId) (a : Option Addr) (n cap : Nat) (X : List ByteArray) (w : World) : Prop :=
  Calls Try.prog f #[.slice a n cap] w fun r w' => ∃ va vc, r = .returned (.tuple #[.slice va (tz n X).length vc, .int .i64 (terr X n)]) ∧ Own w.heap.size w' (.slice va (tz n X).length vc) (tz n X).length (tz n X) ∧ Below w.heap.size w w'
theorem tlen (X : List ByteArray) : ∀ n, (∀ k, tsz X k ≤ 268435456) → terr X n = 0 → (tbt X n).length ≤ 20 * n + tsz X n
  | 0, _, _ => by simp [tbt]
  | n + 1, hz, h => by
    have h0 : terr X n = 0 := by
      rcases Decidable.em (terr X n = 0) with q | q
      · exact q
      · have e := terr_stay X n (n + 1) (by omega) q
        rw [h] at e; exact absurd e.symm q
    have h1 : serr X n = 0 := by
      have : (if terr X n ≠ 0 then terr X n else serr X n) = 0 := h
      rw [h0] at this; simpa using this
    have h2 : (at' X n).size ≤ 65536 := by
      unfold serr at h1
      split at h1
      · omega
      · omega
    have ih := tlen X n hz h0
    have := sbt_len X n h2
    show (tbt X n ++ sbt X n).length ≤ _
    rw [List.length_append]
    show _ ≤ 20 * (n + 1) + (tsz X n + (at' X n).size)
    omega
theorem tz_len {n : Nat} {X : List ByteArray} (hn : n ≤ 1048576) (hz : ∀ k, tsz X k ≤ 268435456) : (tz n X).length ≤ 289406986 := by
  unfold tz
  split
  · rename_i h
    have e1 := tlen X n hz h
    have e2 := enc_leN n (by omega)
    have e3 := hz n
    rw [List.length_append]
    omega
  · simp
theorem own_nil0 (w : World) (B : Nat) : Own B w (.slice none 0 0) 0 [] := ⟨rfl, .inl ⟨rfl, rfl⟩⟩
theorem texts_a (a : Option Addr) (n cap : Nat) (X : List ByteArray) (w : World) (h : StrS w a n X) (hn : n ≤ 1048576) (hz : ∀ k, tsz X k ≤ 268435456) : TA 33 a n cap X w := by
  have hL := tz_len hn hz
  refine (texts_c a n cap X w h hn (fun k _ => hz k)).mono ?_
  rintro r w' (⟨he, hr, hb⟩ | ⟨he, b, L, hr, hl, hg, hrow, hb⟩)
  · have e : tz n X = [] := if_neg he
    rw [e]
    exact ⟨none, 0, hr, own_nil0 _ _, hb⟩
  · have e : tz n X = enc n ++ tbt X n := if_pos he
    rw [e] at hL ⊢
    subst hl
    rw [he]
    exact ⟨some ⟨b, 0, none⟩, _, hr, own_of_row hrow hg (by unfold maxLen; omega) _ rfl, hb⟩
theorem texts_x (a : Option Addr) (n cap : Nat) (X : List ByteArray) (w : World) (h : StrS w a n X) (hn : n ≤ 1048576) (hz : ∀ k, tsz X k ≤ 1048576) : TA 34 a n cap X w := by
  refine (xtexts_c a n cap X w h hn (fun k _ => hz k)).mono ?_
  rintro r w' (⟨he, hr, hb⟩ | ⟨he, v, hr, ho, hb⟩)
  · have e : tz n X = [] := if_neg he
    rw [e]
    exact ⟨none, 0, hr, own_nil0 _ _, hb⟩
  · have e : tz n X = enc n ++ tbt X n := if_pos he
    rw [e]
    obtain ⟨va, vc, rfl, _⟩ := ho.seg
    rw [he]
    exact ⟨va, vc, hr, ho, hb⟩
theorem tbt_mem (X : List ByteArray) : ∀ n, ∀ c ∈ tbt X n, (0 : Int) ≤ c ∧ c < 256
  | 0, c, h => by simp [tbt] at h
  | n + 1, c, h => by
    have h' : c ∈ tbt X n ++ sbt X n := h
    rcases List.mem_append.1 h' with q | q
    · exact tbt_mem X n c q
    · unfold sbt at q
      rcases List.mem_append.1 q with q | q
      · exact enc_bytes _ c q
      · rcases List.mem_append.1 q with q | q
        · exact enc_bytes _ c q
        · unfold sb at q
          obtain ⟨z, _, rfl⟩ := List.mem_map.1 q
          have := z.toNat_lt
          omega
theorem tz_bytes (n : Nat) (X : List ByteArray) : Bytes (tz n X) := bytes_of_mem (fun c hc => by
  unfold tz at hc
  split at hc
  · rcases List.mem_append.1 hc with q | q
    · exact enc_bytes _ c q
    · exact tbt_mem X n c q
  · cases hc)
def s0 : ByteArray := { data := #[97] }
def s1 : ByteArray := { data := #[97, 98] }
def s2 : ByteArray := { data := #[98] }
theorem last_e : terr [s0, s1, s2] 3 = 0 := by
  have z0 : ByteArray.size { data := #[97] } = 1 := rfl
  have z1 : ByteArray.size { data := #[97, 98] } = 2 := rfl
  have z2 : ByteArray.size { data := #[98] } = 1 := rfl
  simp [terr, serr, at', rises, prev, s0, s1, s2, ByteArray.toList_eq, Op.bytesLess, z0, z1, z2]
theorem last_z : tz 3 [s0, s1, s2] = [3, 0, 1, 97, 1, 1, 98, 0, 1, 98] := by
  unfold tz
  rw [if_pos last_e]
  have z0 : ByteArray.size { data := #[97] } = 1 := rfl
  have z1 : ByteArray.size { data := #[97, 98] } = 2 := rfl
  have z2 : ByteArray.size { data := #[98] } = 1 := rfl
  have e0 : enc 0 = [0] := enc_small (by omega)
  have e1 : enc 1 = [1] := enc_small (by omega)
  have e3 : enc 3 = [3] := enc_small (by omega)
  simp [tbt, sbt, scut, at', prev, s0, s1, s2, lcs, lc, sb, z0, z1, z2, e0, e1, e3]
theorem last_s (w : World) : StrS (w.alloc (.cells #[.string s0, .string s1, .string s2] 9 (0, 0))) (some ⟨w.heap.size, 0, none⟩) 3 [s0, s1, s2] := by
  refine ⟨rfl, .inr ⟨w.heap.size, 0, rfl, by simp, fun i hi => ?_⟩⟩
  rw [Nat.zero_add, cell_of_row _ _ i _ _ _ (heap_new w _)]
  rcases (by omega : i = 0 ∨ i = 1 ∨ i = 2) with rfl | rfl | rfl <;> rfl
theorem last_w (k : Nat) : tsz [s0, s1, s2] k ≤ 1048576 := by
  have h : ∀ k, tsz [s0, s1, s2] k ≤ 4 := fun k => by
    match k with
    | 0 => simp [tsz]
    | 1 => rw [tsz_cons]; simp [tsz]; decide
    | 2 => rw [tsz_cons, tsz_cons]; simp [tsz]; decide
    | k + 3 =>
      rw [tsz_cons, tsz_cons, tsz_cons]
      have : ∀ k, tsz [] k = 0 := fun k => by
        induction k with
        | zero => rfl
        | succ k ih => show tsz [] k + (at' [] k).size = 0; rw [ih]; simp [at']
      rw [this]; decide
  have := h k
  omega
end Go.Proofs.Ytfnfkcafjfhnlaa

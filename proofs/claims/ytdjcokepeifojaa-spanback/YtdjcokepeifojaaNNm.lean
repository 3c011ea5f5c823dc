/-
  That the laws' normal answers true of ranges in normal form; lists of texts that came in. No condition but that a machine has them.
-/
import Derived.Test.YtdjcokepeifojaaNRo
import Derived.BigQuiet
import Derived.Deep.Strs
namespace Go.Proofs.Ytdjcokepeifojaa
set_option linter.unusedVariables false
open Go.RowKit

theorem nrm_get : ∀ {A : List Rg}, Nrm A → ∀ i, i < A.length → rEmpty (A.getD i (.empty, .empty)) = false
  | [], _, i, h => by simp at h
  | r :: A, hn, 0, _ => hn.1
  | r :: A, hn, i + 1, h => by simpa using nrm_get hn.2.2 i (by simpa using h)
theorem nrm_next : ∀ {A : List Rg}, Nrm A → ∀ i, i + 1 < A.length → (A.getD i (.empty, .empty)).2 ≠ .empty ∧ tl (A.getD i (.empty, .empty)).2 (A.getD (i + 1) (.empty, .empty)).1 = true
  | [], _, i, h => by simp at h
  | [_], _, i, h => by simp at h
  | r :: s :: A, hn, 0, _ => hn.2.1 s (by simp)
  | r :: s :: A, hn, i + 1, h => by
    have := nrm_next hn.2.2 i (by simpa using h)
    simpa using this
set_option maxRecDepth 20000 in
set_option maxHeartbeats 1000000 in
theorem lnormal_c (A : List Rg) (a : Option Addr) (ca : Nat) (w : World) (hA : Cells w a (flR A)) (hn : A.length ≤ 4611686018427387903) (hN : Nrm A) :
    Calls Try.prog 9 #[.slice a A.length ca] w fun e w' => e = .returned (.bool true) ∧ w.grownBy w' none := by
  have HA : Hid (Cells w a (flR A)) := hA
  have HN : Hid (Nrm A) := hN
  obtain ⟨n, hna⟩ : ∃ n, n = A.length := ⟨_, rfl⟩
  rw [← hna] at hn ⊢
  have HL : Hid (n = A.length) := hna
  clear hA hna hN
  go_enter Try.func9, Try.ntmps9
  go_wp2
  go_loopw [3] (fun i wr => ∃ k : Nat, k ≤ n ∧ i = .int .i64 k ∧ Hid (w.grownBy wr none)) (fun i _ => n - (intOf i).toNat)
  case atStart => exact ⟨0, Nat.zero_le _, rfl, gb_refl _⟩
  case round =>
    obtain ⟨k, hk, rfl, hr⟩ := hrel
    by_cases hlt : k < n
    · obtain ⟨ba, oa, hab, hba, c0, c1⟩ := cells_rg (HA.out.gb hr.out) k (by have := HL.out; omega)
      have hE := nrm_get HN.out k (by have := HL.out; omega)
      have HNX : Hid _ := nrm_next HN.out k
      obtain ⟨r, hr0⟩ : ∃ r, r = A.getD k (.empty, .empty) := ⟨_, rfl⟩
      rw [← hr0] at c0 c1 hE HNX
      clear hr0
      obtain ⟨f, u⟩ := r
      simp only at c0 c1
      have i1 : (0 : Int) ≤ (k : Int) := by omega
      have i2 : (k : Int) < (n : Int) := by omega
      have w2 : IntKind.i64.wrap ((k : Int) + 1) = (k : Int) + 1 := IntWalk.i64_in _ ⟨by omega, by omega⟩
      have q1 := run_leq u f
      have HAB : Hid _ := hab
      rw [hab]
      clear hab
      by_cases hu : u.toList = []
      · have hu' : u.toList.isEmpty = true := by rw [hu]; rfl
        have hk1 : ¬ k + 1 < n := fun h => (HNX.out (by have := HL.out; omega)).1 ((nil_iff u).1 hu)
        have i3 : decide ((k : Int) + 1 < (n : Int)) = false := decide_eq_false (by omega)
        clear HNX hE
        go_wp2
        go_quiet (fail)
        generalize hW5 : World.drewN wr _ = W5
        have H5 : Hid (w.grownBy W5 none) := by rw [← hW5]; exact gb_drewN hr.out _
        have d0 : W5.cell? ⟨ba, oa + k * 2, none⟩ = some (.string f) := by rw [← hW5]; exact c0
        have d1 : W5.cell? ⟨ba, oa + k * 2 + 1, none⟩ = some (.string u) := by rw [← hW5]; exact c1
        clear hW5
        go_wp2
        go_quiet (fail)
        generalize hW6 : World.drewN W5 _ = W6
        have H6 : Hid (w.grownBy W6 none) := by rw [← hW6]; exact gb_drewN H5.out _
        clear hW6
        go_wp2
        try rw [← HAB.out]
        go_roundw
        case rel => exact ⟨k + 1, by omega, by simp, H6⟩
        case measure => simp [intOf]; omega
      · have hu' := ne_nil hu
        have hfu : tl f u = true := by
          rcases rEmpty_iff.1 hE with h | h
          · exact absurd ((nil_iff u).2 h) hu
          · exact h
        rw [hfu] at q1
        by_cases hk1 : k + 1 < n
        · have hnx := HNX.out (by have := HL.out; omega)
          obtain ⟨ba2, oa2, hab2, -, e0, -⟩ := cells_rg (HA.out.gb hr.out) (k + 1) (by have := HL.out; omega)
          rw [HAB.out] at hab2
          obtain ⟨rfl, rfl⟩ : ba = ba2 ∧ oa = oa2 := by
            have := Option.some.inj hab2
            exact ⟨congrArg Addr.block this, congrArg Addr.off this⟩
          generalize (A.getD (k + 1) (.empty, .empty)).1 = f2 at *
          have q2 := run_geq u f2
          rw [hnx.2] at q2
          have n2 : ((k : Int) + 1).toNat = k + 1 := by omega
          have i3 : (k : Int) + 1 < (n : Int) := by omega
          have i4 : (0 : Int) ≤ (k : Int) + 1 := by omega
          clear HNX hE hnx hab2
          go_wp2
          go_quiet (fail)
          generalize hW5 : World.drewN wr _ = W5
          have H5 : Hid (w.grownBy W5 none) := by rw [← hW5]; exact gb_drewN hr.out _
          have d1 : W5.cell? ⟨ba, oa + k * 2 + 1, none⟩ = some (.string u) := by rw [← hW5]; exact c1
          have d2 : W5.cell? ⟨ba, oa + (k + 1) * 2, none⟩ = some (.string f2) := by rw [← hW5]; exact e0
          clear hW5
          go_wp2
          go_quiet (fail)
          generalize hW6 : World.drewN W5 _ = W6
          have H6 : Hid (w.grownBy W6 none) := by rw [← hW6]; exact gb_drewN H5.out _
          clear hW6
          go_wp2
          try rw [← HAB.out]
          go_roundw
          case rel => exact ⟨k + 1, by omega, by simp, H6⟩
          case measure => simp [intOf]; omega
        · have i3 : decide ((k : Int) + 1 < (n : Int)) = false := decide_eq_false (by omega)
          clear HNX hE
          go_wp2
          go_quiet (fail)
          generalize hW5 : World.drewN wr _ = W5
          have H5 : Hid (w.grownBy W5 none) := by rw [← hW5]; exact gb_drewN hr.out _
          clear hW5
          go_wp2
          go_quiet (fail)
          generalize hW6 : World.drewN W5 _ = W6
          have H6 : Hid (w.grownBy W6 none) := by rw [← hW6]; exact gb_drewN H5.out _
          clear hW6
          go_wp2
          try rw [← HAB.out]
          go_roundw
          case rel => exact ⟨k + 1, by omega, by simp, H6⟩
          case measure => simp [intOf]; omega
    · obtain rfl : k = n := by omega
      go_wp2
      go_ret
      exact ⟨rfl, hr.out⟩
def flS (K : List ByteArray) : List Value := K.map Value.string
theorem flS_len (K : List ByteArray) : (flS K).length = K.length := by simp [flS]
theorem flS_one (K : List ByteArray) : ∀ u ∈ flS K, u.oneCell' = true := fun u hu => by
  obtain ⟨z, _, rfl⟩ := List.mem_map.1 hu; rfl
theorem flS_app (K L : List ByteArray) : flS (K ++ L) = flS K ++ flS L := by simp [flS]
theorem infoStr : (Try.prog.info? 9).map (fun i => (i.zero, i.size, i.bytes)) = some (some (.string .empty), 1, 16) := by kernel_rfl
theorem cells_str {w : World} {a : Option Addr} {K : List ByteArray} (h : Cells w a (flS K)) (i : Nat) (hi : i < K.length) : ∃ b off, a = some ⟨b, off, none⟩ ∧ b < w.heap.size ∧ w.cell? ⟨b, off + i, none⟩ = some (.string (K.getD i .empty)) := by
  rcases h with h | ⟨b, off, ha, hb, hc⟩
  · have e : (flS K).length = 0 := by rw [h]; rfl
    rw [flS_len] at e; omega
  · exact ⟨b, off, ha, hb, hc i _ (by simp [flS, hi])⟩
end Go.Proofs.Ytdjcokepeifojaa

/-
  What the document's number, upto and text answer of whatever bytes, from whatever place on: what the plain functions ru, ri, rt give. Condition: the slice can be read, and its length is one that a machine has.
-/
import Derived.Test.YtlmjgjimmbadeaaDoorPText
import Derived.Test.YtlmjgjimmbadeaaDoorRead
namespace Go.Proofs.YtlmjgjimmbadeaaDoor
open Go.RowKit
set_option linter.unusedVariables false

/-- The bytes of a slice from a place on, as the slice that is made of it. -/
theorem seg_cut {w : World} {ad : Addr} {len cap : Nat} {xs : List Int} (h : Seg .u8 w (some ad) len xs) (p : Nat) (hlc : len ≤ cap) : Seg .u8 w (if cap = p then some ad else some (ad.add p)) (len - p) (xs.drop p) := by
  by_cases hc : cap = p
  · rw [if_pos hc]; exact ⟨by simp [h.1], .inl (by omega)⟩
  · rw [if_neg hc]; exact seg_from h p
theorem seg_take {w : World} {a : Option Addr} {len : Nat} {xs : List Int} (h : Seg .u8 w a len xs) (n : Nat) (hn : n ≤ len) : Seg .u8 w a n (xs.take n) := by
  refine ⟨by simp [h.1]; omega, ?_⟩
  rcases h.2 with h0 | ⟨b, off, ha, hw, hc⟩
  · exact .inl (by omega)
  · exact .inr ⟨b, off, ha, hw, fun i hi => by rw [hc i (by omega), List.getElem?_take_of_lt hi]⟩

theorem rd_codes (xs : List Int) : (rd xs).2.2 = 0 ∨ (rd xs).2.2 = 10 ∨ (rd xs).2.2 = 11 ∨ (rd xs).2.2 = 12 := by
  unfold rd
  split
  · simp
  · split
    · simp
    · split <;> simp

/-- A place, or 0 where there is an error. -/
def pl (p : Nat) (e : Int) : Nat := if e = 0 then p else 0

set_option maxRecDepth 20000 in
theorem number_c (a : Option Addr) (len cap : Nat) (xs : List Int) (p : Nat) (w : World) (h : Seg .u8 w a len xs) (hx : Bytes xs) (hp : p ≤ len) (hlc : len ≤ cap) (hlm : len ≤ 140737488355328) (hcm : cap ≤ 9223372036854775807) :
    Calls Tryd.prog 110 #[.slice a len cap, .int .i64 (p : Int)] w fun r w' => r = .returned (.tuple #[.int .u64 (ru xs p).1, .int .i64 (pl (p + (ru xs p).2.1) (ru xs p).2.2 : Nat), .int .i64 (ru xs p).2.2]) ∧ w' = w := by
  have hb := rd_bd _ (bytes_drop hx p)
  have her := ru_err hx p
  have hcd := rd_codes (xs.drop p)
  obtain ⟨V, m, E, hrd⟩ : ∃ V m E, rd (xs.drop p) = (V, m, E) := ⟨_, _, _, rfl⟩
  have HD : Hid (∀ (a' : Option Addr), Seg .u8 w a' (len - p) (xs.drop p) → Calls Tryd.prog 120 #[.slice a' (len - p) (cap - p)] w fun e w' => e = .returned (.tuple #[.int .u64 V, .int .i64 m, .int .i64 E]) ∧ w' = w) := by
    intro a' hs
    have := read_c a' (len - p) (cap - p) (xs.drop p) w hs (bytes_drop hx p) (by omega)
    rw [hrd] at this; exact this
  have hru : ru xs p = (V, m.toNat, nm E) := by simp [ru, hrd]
  rw [hrd, List.length_drop, h.1] at hb
  rw [hrd] at hcd
  simp only at hb hcd
  rw [hru] at her ⊢
  simp only at her ⊢
  obtain ⟨M, rfl⟩ : ∃ M : Nat, m = M := ⟨m.toNat, by omega⟩
  rw [Int.toNat_natCast] at her ⊢
  obtain ⟨a1, HS, hA⟩ : ∃ a1, Hid (Seg .u8 w a1 (len - p) (xs.drop p)) ∧ Hid ((a = none ∧ a1 = none) ∨ ∃ ad, a = some ad ∧ (if cap = p then some ad else some (ad.add p)) = a1) := by
    cases a with
    | none => exact ⟨none, seg_from h p, .inl ⟨rfl, rfl⟩⟩
    | some ad => exact ⟨_, seg_cut h p hlc, .inr ⟨ad, rfl, rfl⟩⟩
  have hpM : p + M ≤ len := by omega
  have HP : Hid (nm E = (if E = 10 then 30 else if E = 11 then 31 else if E = 12 then 32 else E)) := by show _ = _; rfl
  have H12 : Hid (E = 0 ∨ E = 10 ∨ E = 11 ∨ E = 12) := hcd
  have HR : Hid (nm E ≠ 0 → V = 0 ∧ M = 0) := her
  clear h hx hrd hru hb her hcd
  rcases hA.out with ⟨rfl, rfl⟩ | ⟨ad, rfl, ha1⟩
  all_goals
    by_cases h1 : E = 10
    · subst h1
      obtain ⟨rfl, rfl⟩ := HR.out (by decide)
      go_enter Tryd.func110, Tryd.ntmps110
      go_wp2_with fail
      refine (HD.out _ HS.out).mono ?_
      rintro r w1 ⟨rfl, rfl⟩
      go_wp2
      go_ret3
      exact ⟨rfl, rfl⟩
    · by_cases h2 : E = 11
      · subst h2
        obtain ⟨rfl, rfl⟩ := HR.out (by decide)
        go_enter Tryd.func110, Tryd.ntmps110
        go_wp2_with fail
        refine (HD.out _ HS.out).mono ?_
        rintro r w1 ⟨rfl, rfl⟩
        go_wp2
        go_ret3
        exact ⟨rfl, rfl⟩
      · by_cases h3 : E = 12
        · subst h3
          obtain ⟨rfl, rfl⟩ := HR.out (by decide)
          go_enter Tryd.func110, Tryd.ntmps110
          go_wp2_with fail
          refine (HD.out _ HS.out).mono ?_
          rintro r w1 ⟨rfl, rfl⟩
          go_wp2
          go_ret3
          exact ⟨rfl, rfl⟩
        · obtain rfl : E = 0 := by have := H12.out; omega
          clear h1 h2 h3
          go_enter Tryd.func110, Tryd.ntmps110
          go_wp2_with fail
          refine (HD.out _ HS.out).mono ?_
          rintro r w1 ⟨rfl, rfl⟩
          go_wp2
          go_ret3
          refine ⟨ret3 rfl ?_ rfl, rfl⟩
          first
            | rfl
            | (simp [pl, nm]; done)
            | (rw [show pl (p + M) (nm 0) = p + M from rfl]; omega)

theorem ret3s {s s' : ByteArray} {k2 k3 : IntKind} {b c b' c' : Int} (h1 : s = s') (h2 : b = b') (h3 : c = c') : Ending.returned (.tuple #[.string s, .int k2 b, .int k3 c]) = .returned (.tuple #[.string s', .int k2 b', .int k3 c']) := by rw [h1, h2, h3]

set_option maxRecDepth 20000 in
theorem upto_c (a : Option Addr) (len cap : Nat) (xs : List Int) (p : Nat) (most : Int) (w : World) (h : Seg .u8 w a len xs) (hx : Bytes xs) (hp : p ≤ len) (hlc : len ≤ cap) (hlm : len ≤ 140737488355328) (hcm : cap ≤ 9223372036854775807) (hm2 : most ≤ 9223372036854775807) :
    Calls Tryd.prog 88 #[.slice a len cap, .int .i64 (p : Int), .int .i64 most] w fun r w' => r = .returned (.tuple #[.int .i64 (ri xs p most).1, .int .i64 (pl (ri xs p most).2.1 (ri xs p most).2.2 : Nat), .int .i64 (ri xs p most).2.2]) ∧ w' = w := by
  have HN : Hid (Calls Tryd.prog 110 #[.slice a len cap, .int .i64 (p : Int)] w fun r w' => r = .returned (.tuple #[.int .u64 (ru xs p).1, .int .i64 (pl (p + (ru xs p).2.1) (ru xs p).2.2 : Nat), .int .i64 (ru xs p).2.2]) ∧ w' = w) := number_c a len cap xs p w h hx hp hlc hlm hcm
  by_cases hm : most < 0
  · have he : ri xs p most = (0, p, 1) := by simp [ri, hm]
    rw [he]
    clear h he HN
    go_enter Tryd.func88, Tryd.ntmps88
    go_wp2
    go_ret3
    exact ⟨rfl, rfl⟩
  · have hbd := ru_bd hx p
    have HI : Hid (ri xs p most = if (ru xs p).2.2 ≠ 0 then (0, p, (ru xs p).2.2) else if most < (ru xs p).1 then (0, p, 31) else ((ru xs p).1, p + (ru xs p).2.1, 0)) := by
      show _ = _
      rw [ri, if_neg hm]
    obtain ⟨V, c, E, hru⟩ : ∃ V c E, ru xs p = (V, c, E) := ⟨_, _, _, rfl⟩
    rw [hru] at HN HI hbd
    simp only at HN HI hbd
    obtain ⟨R, hR⟩ : ∃ R, R = ri xs p most := ⟨_, rfl⟩
    rw [← hR] at HI ⊢
    obtain ⟨Q, hQ⟩ : ∃ Q, Q = pl (p + c) E := ⟨_, rfl⟩
    rw [← hQ] at HN
    have HQ : Hid (Q = pl (p + c) E) := hQ
    clear h hru hR hQ hx
    have hm0 : 0 ≤ most := by omega
    clear hm
    by_cases hE : E = 0
    · subst hE
      rw [if_neg (by simp)] at HI
      by_cases hv : most < V
      · rw [if_pos hv] at HI
        rw [HI.out]
        clear HI HQ
        go_enter Tryd.func88, Tryd.ntmps88
        go_wp2_with fail
        refine HN.out.mono ?_
        rintro r w1 ⟨rfl, rfl⟩
        go_wp2
        go_ret3
        exact ⟨rfl, rfl⟩
      · rw [if_neg hv] at HI
        rw [HI.out]
        have hd : decide (most < V) = false := by simp; omega
        clear HI
        go_enter Tryd.func88, Tryd.ntmps88
        go_wp2_with fail
        refine HN.out.mono ?_
        rintro r w1 ⟨rfl, rfl⟩
        go_wp2
        go_ret3
        exact ⟨ret3 (by omega) (by rw [HQ.out]) rfl, rfl⟩
    · have hb : (E == 0) = false := by simp [hE]
      have hb2 : (E != 0) = true := by simp [hE]
      have hz : Hid (pl p E = 0) := by show _ = _; simp [pl, hE]
      rw [if_pos hE] at HI
      rw [HI.out]
      clear HI hE
      go_enter Tryd.func88, Tryd.ntmps88
      go_wp2_with fail
      refine HN.out.mono ?_
      rintro r w1 ⟨rfl, rfl⟩
      go_wp2
      go_ret3
      exact ⟨ret3 rfl (by rw [hz.out]; rfl) rfl, rfl⟩

set_option maxRecDepth 20000 in
theorem text_c (a : Option Addr) (len cap : Nat) (xs : List Int) (p : Nat) (most : Int) (w : World) (h : Seg .u8 w a len xs) (hx : Bytes xs) (hp : p ≤ len) (hlc : len ≤ cap) (hlm : len ≤ 140737488355328) (hcm : cap ≤ 9223372036854775807) (hm2 : most ≤ 9223372036854775807) :
    Calls Tryd.prog 90 #[.slice a len cap, .int .i64 (p : Int), .int .i64 most] w fun r w' => r = .returned (.tuple #[.string (strOfNums (rt xs p most).1), .int .i64 (pl (rt xs p most).2.1 (rt xs p most).2.2 : Nat), .int .i64 (rt xs p most).2.2]) ∧ w' = w := by
  have HU : Hid (Calls Tryd.prog 88 #[.slice a len cap, .int .i64 (p : Int), .int .i64 most] w fun r w' => r = .returned (.tuple #[.int .i64 (ri xs p most).1, .int .i64 (pl (ri xs p most).2.1 (ri xs p most).2.2 : Nat), .int .i64 (ri xs p most).2.2]) ∧ w' = w) := upto_c a len cap xs p most w h hx hp hlc hlm hcm hm2
  have hbd := ri_bd hx p (by rw [h.1]; exact hp) most
  have HT : Hid (rt xs p most = if (ri xs p most).2.2 ≠ 0 then ([], p, (ri xs p most).2.2)
      else if ((len - (ri xs p most).2.1 : Nat) : Int) < (ri xs p most).1 then ([], p, 30)
      else ((xs.drop (ri xs p most).2.1).take (ri xs p most).1.toNat, (ri xs p most).2.1 + (ri xs p most).1.toNat, 0)) := by
    show _ = _
    rw [rt, h.1]
  rw [h.1] at hbd
  obtain ⟨V, q, E, hri⟩ : ∃ V q E, ri xs p most = (V, q, E) := ⟨_, _, _, rfl⟩
  rw [hri] at hbd HU HT
  simp only at hbd HU HT
  obtain ⟨R, hR⟩ : ∃ R, R = rt xs p most := ⟨_, rfl⟩
  rw [← hR] at HT ⊢
  obtain ⟨N, rfl⟩ : ∃ N : Nat, V = N := ⟨V.toNat, by omega⟩
  obtain ⟨Q, hQ⟩ : ∃ Q, Q = pl q E := ⟨_, rfl⟩
  rw [← hQ] at HU
  by_cases hE : E = 0
  · subst hE
    obtain rfl : Q = q := by rw [hQ]; rfl
    rw [if_neg (by simp)] at HT
    have hql : Q ≤ len := hbd.2.2.2.1
    by_cases hs : ((len - Q : Nat) : Int) < N
    · rw [if_pos hs] at HT
      rw [HT.out]
      have hd : (len : Int) - (Q : Int) < N := by omega
      clear hs HT hbd h hri hR hQ hx
      go_enter Tryd.func90, Tryd.ntmps90
      go_wp2_with fail
      refine HU.out.mono ?_
      rintro r w1 ⟨rfl, rfl⟩
      go_wp2
      go_ret3
      exact ⟨rfl, rfl⟩
    · rw [if_neg hs, Int.toNat_natCast] at HT
      rw [HT.out]
      have hd : decide ((len : Int) - (Q : Int) < N) = false := by simp; omega
      have hNl : Q + N ≤ len := by omega
      obtain ⟨a1, HS, hA⟩ : ∃ a1, Hid (Seg .u8 w a1 N ((xs.drop Q).take N)) ∧ Hid ((a = none ∧ a1 = none) ∨ ∃ ad, a = some ad ∧ (if cap = Q then some ad else some (ad.add Q)) = a1) := by
        cases a with
        | none => exact ⟨none, seg_take (seg_from h Q) N (by omega), .inl ⟨rfl, rfl⟩⟩
        | some ad => exact ⟨_, seg_take (seg_cut h Q hlc) N (by omega), .inr ⟨ad, rfl, rfl⟩⟩
      have e1 : Q + N - Q = N := by omega
      have hcv := seg_string (P := Tryd.prog) 27 9 5 (cap - Q) HS.out Tryd.underlying27 Tryd.underlying5 Tryd.underlying9
      clear hs HT hbd h hri hR hQ hx
      rcases hA.out with ⟨rfl, rfl⟩ | ⟨ad, rfl, ha1⟩
      all_goals
        go_enter Tryd.func90, Tryd.ntmps90
        go_wp2_with fail
        refine HU.out.mono ?_
        rintro r w1 ⟨rfl, rfl⟩
        go_wp2
        go_ret3
        exact ⟨ret3s rfl (by rw [show pl (Q + N) 0 = Q + N from rfl]; omega) rfl, rfl⟩
  · have hb : (E == 0) = false := by simp [hE]
    have hb2 : (E != 0) = true := by simp [hE]
    have hz : Hid (pl p E = 0) := by show _ = _; simp [pl, hE]
    rw [if_pos hE] at HT
    rw [HT.out]
    clear HT hE h hri hR hQ hx hbd
    go_enter Tryd.func90, Tryd.ntmps90
    go_wp2_with fail
    refine HU.out.mono ?_
    rintro r w1 ⟨rfl, rfl⟩
    go_wp2
    go_ret3
    exact ⟨ret3s rfl (by rw [hz.out]; rfl) rfl, rfl⟩
end Go.Proofs.YtlmjgjimmbadeaaDoor

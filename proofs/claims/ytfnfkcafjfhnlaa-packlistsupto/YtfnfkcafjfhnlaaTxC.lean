/-
  What pack's Texts answers, as plain data: the bytes of texts that rise, or the first error. Condition: at most 2^20 texts, of at most 2^28 bytes together.
-/
import Derived.Test.YtfnfkcafjfhnlaaFb
import Derived.Test.YtfnfkcafjfhnlaaFa
import Derived.Test.YtfnfkcafjfhnlaaWSt
import Derived.Test.YtfnfkcafjfhnlaaWInt
import Derived.Test.YtfnfkcafjfhnlaaWTx
import Derived.Test.YtfnfkcafjfhnlaaWBy
namespace Go.Proofs.Ytfnfkcafjfhnlaa
open Go.RowKit
set_option linter.unusedVariables false

def at' (X : List ByteArray) (k : Nat) : ByteArray := X[k]?.getD ByteArray.empty
/-- The text ahead of the one at a place. -/
def prev (X : List ByteArray) (k : Nat) : ByteArray := if k = 0 then ByteArray.empty else at' X (k - 1)
theorem prev_succ (X : List ByteArray) (k : Nat) : prev X (k + 1) = at' X k := by unfold prev; rw [if_neg (by omega)]; rfl
theorem prev_zero (X : List ByteArray) : prev X 0 = ByteArray.empty := if_pos rfl
/-- Does the text at a place rise? -/
def rises (X : List ByteArray) (k : Nat) : Bool := decide (k = 0) || !(Op.bytesLess (at' X k).toList (prev X k).toList || (at' X k).toList == (prev X k).toList)
def serr (X : List ByteArray) (k : Nat) : Int := if 65536 < (at' X k).size then 31 else if rises X k = false then 33 else 0
def scut (X : List ByteArray) (k : Nat) : ByteArray := (at' X k).extract (lcs (prev X k) (at' X k)) (at' X k).size
def sbt (X : List ByteArray) (k : Nat) : List Int := enc (lcs (prev X k) (at' X k)) ++ (enc (scut X k).size ++ sb (scut X k))
def terr (X : List ByteArray) : Nat → Int
  | 0 => 0
  | k + 1 => if terr X k ≠ 0 then terr X k else serr X k
def tbt (X : List ByteArray) : Nat → List Int
  | 0 => []
  | k + 1 => tbt X k ++ sbt X k
def tsz (X : List ByteArray) : Nat → Nat
  | 0 => 0
  | k + 1 => tsz X k + (at' X k).size
theorem terr_stay (X : List ByteArray) (k n : Nat) (h : k ≤ n) (he : terr X k ≠ 0) : terr X n = terr X k := by
  induction n with
  | zero => obtain rfl : k = 0 := by omega
            rfl
  | succ n ih =>
    rcases Nat.lt_or_ge n k with q | q
    · obtain rfl : k = n + 1 := by omega
      rfl
    · have := ih q
      show (if terr X n ≠ 0 then terr X n else serr X n) = _
      rw [this, if_pos he]
theorem terr_at {X : List ByteArray} {k n : Nat} (h : k < n) (h0 : terr X k = 0) (he : serr X k ≠ 0) : terr X n = serr X k := by
  have : terr X (k + 1) = serr X k := by show (if terr X k ≠ 0 then terr X k else serr X k) = _; rw [h0]; simp
  rw [terr_stay X (k + 1) n (by omega) (by rw [this]; exact he), this]
theorem lcs_le (s t : ByteArray) : lcs s t ≤ s.size ∧ lcs s t ≤ t.size := by
  have := lc_le s.data.toList t.data.toList
  simpa [lcs] using this
theorem scut_size (X : List ByteArray) (k : Nat) : (scut X k).size = (at' X k).size - lcs (prev X k) (at' X k) := by
  have := (lcs_le (prev X k) (at' X k)).2
  simp [scut]
theorem sbt_len (X : List ByteArray) (k : Nat) (h : (at' X k).size ≤ 65536) : (sbt X k).length ≤ 20 + (at' X k).size := by
  have h1 := lcs_le (prev X k) (at' X k)
  have h2 := scut_size X k
  have e1 := enc_length (lcs (prev X k) (at' X k)) (by omega)
  have e2 := enc_length (scut X k).size (by omega)
  have b1 := (sz_bd (lcs (prev X k) (at' X k))).2
  have b2 := (sz_bd (scut X k).size).2
  have h3 := sb_length (scut X k)
  simp only [sbt, List.length_append]
  omega
theorem zeroWr : Try.zeroCells48 = (wcells 0 (.pointer none) (List.replicate 256 0) 0 0).toArray := by kernel_rfl
theorem ws_none {w : World} {g : Nat} (h : w.heap[g]? = some (.cells Try.zeroCells48 48 (0, 0))) : WS w g [] 0 [] := by
  rw [zeroWr] at h
  exact ⟨none, List.replicate 256 0, 0, [], ⟨h, List.length_replicate⟩, chain_nil _, by omega, rfl, by simp, fun i hi => by simp at hi⟩
/-- A writer of one's own, with blocks of one's own alone. -/
def WM (B : Nat) (w wr : World) (ys : List Int) (e : Int) : Prop := ∃ fs, WS wr B ys e fs ∧ (∀ k ∈ fs, B ≤ k) ∧ Below B w wr ∧ B ≤ wr.heap.size
theorem WM.goes {B w wr ys e ys' e'} {f : FuncId} {A : Array Value} {v : Value} (h : WM B w wr ys e) (hc : ∀ fs, WS wr B ys e fs → Calls Try.prog f A wr fun r w' => r = .returned v ∧ WGoes wr B fs w' ys' e') : Calls Try.prog f A wr fun r w' => r = .returned v ∧ WM B w w' ys' e' := by
  obtain ⟨fs, h1, h2, h3, h4⟩ := h
  refine (hc fs h1).mono ?_
  rintro r w' ⟨hr, fs', k1, k2, k3⟩
  have := k2.size
  exact ⟨hr, fs', k1, fun k hk => by rcases k3 k hk with q | q; exact h2 k q; omega, k2.below h3 (fun k hk => by omega) h4, by omega⟩
theorem WM.drew {B w wr w' ys e} (h : WM B w wr ys e) (hd : ∃ n, w' = wr.drewN n) : WM B w w' ys e := by
  obtain ⟨n, rfl⟩ := hd
  obtain ⟨fs, h1, h2, h3, h4⟩ := h
  have hg : wr.grownBy (wr.drewN n) none := gb_drewN (World.grownBy.refl _ _) n
  exact ⟨fs, h1.new hg, h2, h3.grown hg h4 (fun k hk => by cases hk), h4⟩
theorem WM.c0 {B w wr ys e} (h : WM B w wr ys e) : wr.cell? ⟨B, 0, none⟩ = some (.int .i64 e) := by obtain ⟨fs, h1, _⟩ := h; exact h1.c0
theorem WM.must_no {B w wr ys} (h : WM B w wr ys 0) (x : Int) (b : Bool) (hx : (x == 0) = false) (hb : b = false) : Calls Try.prog 73 #[.pointer (some ⟨B, 0, none⟩), .bool b, .int .i64 x] wr fun r w' => r = .returned (.bool false) ∧ WM B w w' ys x :=
  h.goes (fun fs hw => (wmust_no B ys fs wr hw x b hx hb).mono (fun r w' q => ⟨q.1, q.2.2⟩))
theorem WM.must_so {B w wr ys} (h : WM B w wr ys 0) (x : Int) (b : Bool) (hb : b = true) : Calls Try.prog 73 #[.pointer (some ⟨B, 0, none⟩), .bool b, .int .i64 x] wr fun r w' => r = .returned (.bool true) ∧ w' = wr := by
  obtain ⟨fs, h1, _⟩ := h
  exact wmust_so B ys fs wr h1 x b hb
theorem WM.must_late {B w wr ys e} (h : WM B w wr ys e) (x : Int) (b : Bool) (he : (e == 0) = false) : Calls Try.prog 73 #[.pointer (some ⟨B, 0, none⟩), .bool b, .int .i64 x] wr fun r w' => r = .returned (.bool false) ∧ w' = wr := wmust_late B wr e x b he h.c0
theorem WM.int {B w wr ys} (h : WM B w wr ys 0) (x most : Int) (h0 : 0 ≤ x) (h1 : x ≤ most) (hm : most ≤ 9223372036854775807) (hb : ys.length + 10 ≤ 140737488355328) : Calls Try.prog 62 #[.pointer (some ⟨B, 0, none⟩), .int .i64 x, .int .i64 most] wr fun r w' => r = .returned (.tuple #[]) ∧ WM B w w' (ys ++ enc x.toNat) 0 := by
  have e0 : ferr 0 (wie x most) = 0 := by unfold ferr wie; rw [if_pos rfl, if_neg (by omega), if_neg (by omega)]
  refine h.goes (fun fs hw => ?_)
  have := wint_c B ys 0 x most fs wr hw (by omega) hb
  rw [e0] at this
  unfold wadd at this
  rw [if_pos rfl] at this
  exact this
theorem WM.text {B w wr ys} (h : WM B w wr ys 0) (s : ByteArray) (hs : s.size ≤ 65536) (hb : ys.length + s.size + 10 ≤ 140737488355328) : Calls Try.prog 26 #[.pointer (some ⟨B, 0, none⟩), .string s, .int .i64 65536] wr fun r w' => r = .returned (.tuple #[]) ∧ WM B w w' (ys ++ (enc s.size ++ sb s)) 0 := by
  have e0 : ferr 0 (wte s.size 65536) = 0 := by unfold ferr wte; rw [if_pos rfl, if_neg (by omega), if_neg (by omega)]
  refine h.goes (fun fs hw => ?_)
  have := wtext_c B ys 0 s 65536 fs wr hw (by omega) hb
  rw [e0] at this
  unfold wadd at this
  rw [if_pos rfl] at this
  exact this
/-- What Texts answers. -/
def TxAns (w : World) (n : Nat) (X : List ByteArray) (r : Ending) (w' : World) : Prop :=
  (terr X n ≠ 0 ∧ r = .returned (.tuple #[.slice none 0 0, .int .i64 (terr X n)]) ∧ Below w.heap.size w w') ∨
  (terr X n = 0 ∧ ∃ b L, r = .returned (.tuple #[.slice (some ⟨b, 0, none⟩) L L, .int .i64 0]) ∧ L = (enc n ++ tbt X n).length ∧ w.heap.size ≤ b ∧ Row .u8 5 w' b (enc n ++ tbt X n) ∧ Below w.heap.size w w')
theorem WM.bytes_no {B w wr ys e} (h : WM B w wr ys e) (he : (e == 0) = false) : Calls Try.prog 17 #[.pointer (some ⟨B, 0, none⟩)] wr fun r w' => r = .returned (.tuple #[.slice none 0 0, .int .i64 e]) ∧ Below B w w' := by
  obtain ⟨fs, h1, h2, h3, h4⟩ := h
  refine (wbytes_no B ys e fs wr h1 he).mono ?_
  rintro r w' ⟨hr, n, rfl⟩
  exact ⟨hr, h3.grown (gb_drewN (World.grownBy.refl wr none) n) h4 (fun k hk => by cases hk)⟩
theorem WM.bytes_ok {B w wr ys} (h : WM B w wr ys 0) (hb : ys.length ≤ 140737488355328) : Calls Try.prog 17 #[.pointer (some ⟨B, 0, none⟩)] wr fun r w' => ∃ b, r = .returned (.tuple #[.slice (some ⟨b, 0, none⟩) ys.length ys.length, .int .i64 0]) ∧ B ≤ b ∧ Row .u8 5 w' b ys ∧ Below B w w' := by
  obtain ⟨fs, h1, h2, h3, h4⟩ := h
  refine (wbytes_ok B ys fs wr h1 hb).mono ?_
  rintro r w' ⟨b, hr, hl, hrow, hbel⟩
  exact ⟨b, hr, by omega, hrow, h3.grown (grownBy_below hbel none) h4 (fun k hk => by cases hk)⟩
set_option maxRecDepth 20000 in
set_option maxHeartbeats 8000000 in
theorem texts_c (a : Option Addr) (n cap : Nat) (X : List ByteArray) (w : World) (h : StrS w a n X) (hn : n ≤ 1048576) (hz : ∀ k, k ≤ n → tsz X k ≤ 268435456) :
    Calls Try.prog 33 #[.slice a n cap] w fun r w' => TxAns w n X r w' := by
  have HS : Hid (StrS w a n X) := h
  have HZ : Hid (∀ k, k ≤ n → tsz X k ≤ 268435456) := hz
  obtain ⟨B, hB⟩ : ∃ B, B = w.heap.size := ⟨_, rfl⟩
  have HBW : Hid (B = w.heap.size) := hB
  clear h hz
  go_enter Try.func33, Try.ntmps33
  go_wp2_with fail
  rw [← hB]
  generalize hW1 : World.alloc w _ = W1
  have H1 : Hid (WM B w W1 [] 0) := by
    rw [← hW1, hB]
    exact ⟨[], ws_none (heap_new w _), by simp, (Below.refl _ _).alloc (Nat.le_refl _) _, by simp⟩
  clear hW1 hB
  refine (H1.out.int n 1048576 (by omega) (by omega) (by omega) (by simp)).mono ?_
  rintro r w2 ⟨rfl, h2⟩
  have H2 : Hid (WM B w w2 (enc n ++ tbt X 0) 0) := by
    show WM _ _ _ _ _
    simp only [tbt, List.append_nil, List.nil_append, Int.toNat_natCast] at h2 ⊢
    exact h2
  clear h2 H1
  go_wp2
  go_loopw [5, 6, 15] (fun p t i wr => ∃ k : Nat, k ≤ n ∧ i = .int .i64 k ∧ p = .string (prev X k) ∧ t = .int .i64 (tsz X k : Int) ∧ Hid (WM B w wr (enc n ++ tbt X k) 0 ∧ terr X k = 0 ∧ (enc n ++ tbt X k).length ≤ 10 + 20 * k + tsz X k)) (fun _ _ i _ => n - (intOf i).toNat)
  case atStart => exact ⟨0, Nat.zero_le _, rfl, by rw [prev_zero]; rfl, rfl, H2.out, rfl, by simp [tbt, tsz]; have := enc_leN n (by omega); omega⟩
  case round =>
    obtain ⟨k, hk, rfl, rfl, rfl, hr⟩ := hrel
    clear H2
    by_cases hlt : k < n
    · obtain ⟨b, off, rfl, hbw, hcl⟩ := HS.out.2.resolve_left (by omega)
      have hi1 : (k : Int) < n := by omega
      have hi0 : (0 : Int) ≤ (k : Int) := by omega
      obtain ⟨fs0, _, _, hbel, _⟩ := hr.out.1
      have hcell : wr.cell? ⟨b, off + k, none⟩ = some (.string (at' X k)) := (hbel.cell (p := ⟨b, off + k, none⟩) (by rw [HBW.out]; exact hbw)).trans (hcl k hlt)
      obtain ⟨s, hs⟩ : ∃ s, s = at' X k := ⟨_, rfl⟩
      obtain ⟨p, hp⟩ : ∃ p, p = prev X k := ⟨_, rfl⟩
      obtain ⟨T, hT⟩ : ∃ T, T = tsz X k := ⟨_, rfl⟩
      have hz1 := HZ.out (k + 1) (by omega)
      have hz2 : tsz X (k + 1) = T + s.size := by rw [hT, hs]; rfl
      have HSP : Hid (s = at' X k ∧ p = prev X k ∧ T = tsz X k ∧ tsz X (k + 1) = T + s.size) := ⟨hs, hp, hT, hz2⟩
      rw [← hs] at hcell
      rw [← hp, ← hT]
      rw [hz2] at hz1
      have hTs : (T : Int) + (s.size : Int) ≤ 268435456 := by omega
      clear hbel hcl hs hp hT hz2
      have HPB : Hid (p.size ≤ 268435456) := by
        show _ ≤ _
        rw [HSP.out.2.1]
        unfold prev
        split
        · simp
        · have := HZ.out k (by omega)
          have e : tsz X k = tsz X (k - 1) + (at' X (k - 1)).size := by
            obtain ⟨k', rfl⟩ : ∃ k', k = k' + 1 := ⟨k - 1, by omega⟩
            rfl
          omega
      by_cases hk0 : k = 0
      · have hkb : ((k : Int) == 0) = true := by simp [hk0]
        have HK0 : Hid (k = 0) := hk0
        clear hk0
        by_cases h1 : 65536 < s.size
        · have HER : Hid (terr X n = 31) := by
            have : serr X k = 31 := by unfold serr; rw [← HSP.out.1, if_pos h1]
            show _ = _
            rw [terr_at hlt hr.out.2.1 (by rw [this]; omega), this]
          have hd1 : ¬ (s.size : Int) ≤ 65536 := by omega
          go_wp2_with (first
            | ((fail_if_success (have z := H3)); go_at_call 73; go_must (refine (hr.out.1.must_no 31 _ rfl (by first | rfl | (simp; omega) | simp)).mono ?_); rintro r w3 ⟨rfl, h3⟩; have H3 : Hid (WM B w w3 (enc n ++ tbt X k) 31) := h3; clear h3)
            | (have z := H3; clear z; go_at_call 73; go_must (refine (H3.out.must_late _ _ rfl).mono ?_); rintro r w4 ⟨rfl, h4⟩; obtain rfl := h4.symm)
            | (have z := H3; clear z; go_at_call 17; go_must (refine (H3.out.bytes_no rfl).mono ?_); rintro r w5 ⟨rfl, h5⟩; have H5 : Hid (Below B w w5) := h5; clear h5))
          go_ret2
          exact .inl ⟨by rw [HER.out]; omega, by rw [HER.out]; rfl, by rw [← HBW.out]; exact H5.out⟩
        · have hd1 : (s.size : Int) ≤ 65536 := by omega
          by_cases h2 : rises X k = false
          · exfalso
            unfold rises at h2
            simp [HK0.out] at h2
          · have hri : rises X k = true := by simpa using h2
            have HNX : Hid (terr X (k + 1) = 0) := by
              have : serr X k = 0 := by unfold serr; rw [← HSP.out.1, if_neg h1, if_neg h2]
              show (if terr X k ≠ 0 then terr X k else serr X k) = 0
              rw [hr.out.2.1, this]; simp
            clear h2 hri
            have hlc := lcs_le p s
            obtain ⟨m, hm⟩ : ∃ m, m = lcs p s := ⟨_, rfl⟩
            rw [← hm] at hlc
            have HM : Hid (m = lcs p s) := hm
            have HSH : Hid (∀ W, Calls Try.prog 74 #[.string p, .string s] W fun r w' => r = .returned (.int .i64 (m : Int)) ∧ ∃ n, w' = W.drewN n) := fun W => by rw [hm]; exact shared_c p s (by have := HPB.out; omega) (by omega) W
            have HBB : Hid (enc m ++ (enc (s.extract m s.size).size ++ sb (s.extract m s.size)) = sbt X k ∧ (s.extract m s.size).size ≤ 65536 ∧ (enc n ++ tbt X k).length ≤ 289406986) := by
              refine ⟨?_, by simp; omega, by have := hr.out.2.2; have := HZ.out k (by omega); omega⟩
              unfold sbt scut
              rw [← HSP.out.1, ← HSP.out.2.1, hm]
            have hm0 : (0 : Int) ≤ (m : Int) := by omega
            have hm1 : (m : Int) ≤ (s.size : Int) := by omega
            clear hm
            go_wp2_with (first
              | ((fail_if_success (have z := H3)); go_at_call 73; go_must (refine (hr.out.1.must_so _ _ (by first | rfl | (simp; omega) | simp | assumption)).mono ?_); rintro r w3 ⟨rfl, h3⟩; obtain rfl := h3.symm)
              | (go_at_call 74; go_must (refine (HSH.out _).mono ?_); rintro r w4 ⟨rfl, h4⟩; have H3 : Hid (WM B w w4 (enc n ++ tbt X k) 0) := hr.out.1.drew h4; clear h4)
              | (have z := H3; clear z; go_at_call 62; go_must (refine (H3.out.int m 65536 (by omega) (by omega) (by omega) (by have := HBB.out.2.2; omega)).mono ?_); rintro r w5 ⟨rfl, h5⟩; have H5 : Hid (WM B w w5 ((enc n ++ tbt X k) ++ enc m) 0) := h5; clear h5)
              | (have z := H5; clear z; go_at_call 26; go_must (refine (H5.out.text (s.extract m s.size) HBB.out.2.1 (by have e1 := HBB.out.2.2; have e2 := HBB.out.2.1; have e3 := enc_leN m (by omega); rw [List.length_append]; omega)).mono ?_); rintro r w6 ⟨rfl, h6⟩; have H6 : Hid (WM B w w6 (((enc n ++ tbt X k) ++ enc m) ++ (enc (s.extract m s.size).size ++ sb (s.extract m s.size))) 0) := h6; clear h6))
            have HFF : Hid (WM B w w6 (enc n ++ tbt X (k + 1)) 0 ∧ terr X (k + 1) = 0 ∧ (enc n ++ tbt X (k + 1)).length ≤ 10 + 20 * (k + 1) + tsz X (k + 1)) := by
              have e1 := sbt_len X k (by rw [← HSP.out.1]; omega)
              have e2 := hr.out.2.2
              have e3 := HSP.out.2.2.2
              have e4 : tbt X (k + 1) = tbt X k ++ sbt X k := rfl
              refine ⟨by rw [e4, ← HBB.out.1]; simpa [List.append_assoc] using H6.out, HNX.out, ?_⟩
              rw [e4, ← List.append_assoc, List.length_append, e3]
              rw [← HSP.out.1] at e1
              have := HSP.out.2.2.1
              omega
            go_roundw
            case rel => exact ⟨k + 1, by omega, by go_num, by rw [prev_succ, ← HSP.out.1], by rw [HSP.out.2.2.2]; go_num, HFF.out⟩
            case measure => simp [intOf]; omega
      · have hkb : ((k : Int) == 0) = false := by simp [hk0]
        obtain ⟨b1, hb1⟩ : ∃ b1, Op.bytesLess s.toList p.toList = b1 := ⟨_, rfl⟩
        obtain ⟨b2, hb2⟩ : ∃ b2, (s.toList == p.toList) = b2 := ⟨_, rfl⟩
        have hgt : ∀ W, Sem.run Try.prog (binOp BinOp.gtr 9 (.string s) (.string p)) W = .ok (.bool (!(b1 || b2))) W := fun W => by rw [← hb1, ← hb2]; rfl
        have HRB : Hid (rises X k = !(b1 || b2)) := by
          show rises X k = _
          unfold rises
          rw [← HSP.out.1, ← HSP.out.2.1, hb1, hb2]
          simp [hk0]
        by_cases h1 : 65536 < s.size
        · have HER : Hid (terr X n = 31) := by
            have : serr X k = 31 := by unfold serr; rw [← HSP.out.1, if_pos h1]
            show _ = _
            rw [terr_at hlt hr.out.2.1 (by rw [this]; omega), this]
          have hd1 : ¬ (s.size : Int) ≤ 65536 := by omega
          clear HRB
          cases b1 <;> cases b2 <;> (
          go_wp2_with (first
            | (rw [hgt]; simp only [Bool.or_self, Bool.or_true, Bool.true_or, Bool.or_false, Bool.not_true, Bool.not_false])
            | ((fail_if_success (have z := H3)); go_at_call 73; go_must (refine (hr.out.1.must_no 31 _ rfl (by first | rfl | (simp; omega) | simp)).mono ?_); rintro r w3 ⟨rfl, h3⟩; have H3 : Hid (WM B w w3 (enc n ++ tbt X k) 31) := h3; clear h3)
            | (have z := H3; clear z; go_at_call 73; go_must (refine (H3.out.must_late _ _ rfl).mono ?_); rintro r w4 ⟨rfl, h4⟩; obtain rfl := h4.symm)
            | (have z := H3; clear z; go_at_call 17; go_must (refine (H3.out.bytes_no rfl).mono ?_); rintro r w5 ⟨rfl, h5⟩; have H5 : Hid (Below B w w5) := h5; clear h5))
          go_ret2
          exact .inl ⟨by rw [HER.out]; omega, by rw [HER.out]; rfl, by rw [← HBW.out]; exact H5.out⟩)
        · have hd1 : (s.size : Int) ≤ 65536 := by omega
          by_cases h2 : rises X k = false
          · have HER : Hid (terr X n = 33) := by
              have : serr X k = 33 := by unfold serr; rw [← HSP.out.1, if_neg h1, if_pos h2]
              show _ = _
              rw [terr_at hlt hr.out.2.1 (by rw [this]; omega), this]
            rw [HRB.out] at h2
            clear HRB
            cases b1 <;> cases b2 <;> first | (exfalso; revert h2; decide) | (
            clear h2
            go_wp2_with (first
              | (rw [hgt]; simp only [Bool.or_self, Bool.or_true, Bool.true_or, Bool.or_false, Bool.not_true, Bool.not_false])
              | ((fail_if_success (have z := H2a)); go_at_call 73; go_must (refine (hr.out.1.must_so _ _ (by first | rfl | (simp; omega) | simp | assumption)).mono ?_); rintro r w3 ⟨rfl, h3⟩; obtain rfl := h3.symm; have H2a : Hid True := trivial)
              | (have z := H2a; clear z; (fail_if_success (have z := H3)); go_at_call 73; go_must (refine (hr.out.1.must_no 33 _ rfl (by first | rfl | (simp; omega) | simp | assumption)).mono ?_); rintro r w3 ⟨rfl, h3⟩; have H3 : Hid (WM B w w3 (enc n ++ tbt X k) 33) := h3; clear h3)
              | (have z := H3; clear z; go_at_call 73; go_must (refine (H3.out.must_late _ _ rfl).mono ?_); rintro r w4 ⟨rfl, h4⟩; obtain rfl := h4.symm)
              | (have z := H3; clear z; go_at_call 17; go_must (refine (H3.out.bytes_no rfl).mono ?_); rintro r w5 ⟨rfl, h5⟩; have H5 : Hid (Below B w w5) := h5; clear h5))
            go_ret2
            exact .inl ⟨by rw [HER.out]; omega, by rw [HER.out]; rfl, by rw [← HBW.out]; exact H5.out⟩)
          · have hri : rises X k = true := by simpa using h2
            have HNX : Hid (terr X (k + 1) = 0) := by
              have : serr X k = 0 := by unfold serr; rw [← HSP.out.1, if_neg h1, if_neg h2]
              show (if terr X k ≠ 0 then terr X k else serr X k) = 0
              rw [hr.out.2.1, this]; simp
            rw [HRB.out] at hri
            clear h2 HRB
            obtain rfl : b1 = false := by cases b1 <;> simp at hri ⊢
            obtain rfl : b2 = false := by cases b2 <;> simp at hri ⊢
            clear hri
            have hlc := lcs_le p s
            obtain ⟨m, hm⟩ : ∃ m, m = lcs p s := ⟨_, rfl⟩
            rw [← hm] at hlc
            have HM : Hid (m = lcs p s) := hm
            have HSH : Hid (∀ W, Calls Try.prog 74 #[.string p, .string s] W fun r w' => r = .returned (.int .i64 (m : Int)) ∧ ∃ n, w' = W.drewN n) := fun W => by rw [hm]; exact shared_c p s (by have := HPB.out; omega) (by omega) W
            have HBB : Hid (enc m ++ (enc (s.extract m s.size).size ++ sb (s.extract m s.size)) = sbt X k ∧ (s.extract m s.size).size ≤ 65536 ∧ (enc n ++ tbt X k).length ≤ 289406986) := by
              refine ⟨?_, by simp; omega, by have := hr.out.2.2; have := HZ.out k (by omega); omega⟩
              unfold sbt scut
              rw [← HSP.out.1, ← HSP.out.2.1, hm]
            have hm0 : (0 : Int) ≤ (m : Int) := by omega
            have hm1 : (m : Int) ≤ (s.size : Int) := by omega
            clear hm
            go_wp2_with (first
              | (rw [hgt]; simp only [Bool.or_self, Bool.or_true, Bool.true_or, Bool.or_false, Bool.not_true, Bool.not_false])
              | ((fail_if_success (have z := H3)); go_at_call 73; go_must (refine (hr.out.1.must_so _ _ (by first | rfl | (simp; omega) | simp | assumption)).mono ?_); rintro r w3 ⟨rfl, h3⟩; obtain rfl := h3.symm)
              | (go_at_call 74; go_must (refine (HSH.out _).mono ?_); rintro r w4 ⟨rfl, h4⟩; have H3 : Hid (WM B w w4 (enc n ++ tbt X k) 0) := hr.out.1.drew h4; clear h4)
              | (have z := H3; clear z; go_at_call 62; go_must (refine (H3.out.int m 65536 (by omega) (by omega) (by omega) (by have := HBB.out.2.2; omega)).mono ?_); rintro r w5 ⟨rfl, h5⟩; have H5 : Hid (WM B w w5 ((enc n ++ tbt X k) ++ enc m) 0) := h5; clear h5)
              | (have z := H5; clear z; go_at_call 26; go_must (refine (H5.out.text (s.extract m s.size) HBB.out.2.1 (by have e1 := HBB.out.2.2; have e2 := HBB.out.2.1; have e3 := enc_leN m (by omega); rw [List.length_append]; omega)).mono ?_); rintro r w6 ⟨rfl, h6⟩; have H6 : Hid (WM B w w6 (((enc n ++ tbt X k) ++ enc m) ++ (enc (s.extract m s.size).size ++ sb (s.extract m s.size))) 0) := h6; clear h6))
            have HFF : Hid (WM B w w6 (enc n ++ tbt X (k + 1)) 0 ∧ terr X (k + 1) = 0 ∧ (enc n ++ tbt X (k + 1)).length ≤ 10 + 20 * (k + 1) + tsz X (k + 1)) := by
              have e1 := sbt_len X k (by rw [← HSP.out.1]; omega)
              have e2 := hr.out.2.2
              have e3 := HSP.out.2.2.2
              have e4 : tbt X (k + 1) = tbt X k ++ sbt X k := rfl
              refine ⟨by rw [e4, ← HBB.out.1]; simpa [List.append_assoc] using H6.out, HNX.out, ?_⟩
              rw [e4, ← List.append_assoc, List.length_append, e3]
              rw [← HSP.out.1] at e1
              have := HSP.out.2.2.1
              omega
            go_roundw
            case rel => exact ⟨k + 1, by omega, by go_num, by rw [prev_succ, ← HSP.out.1], by rw [HSP.out.2.2.2]; go_num, HFF.out⟩
            case measure => simp [intOf]; omega
    · obtain rfl : k = n := by omega
      have hge : ¬ (k : Int) < k := by omega
      have HBY : Hid _ := hr.out.1.bytes_ok (by have := hr.out.2.2; have := HZ.out k (Nat.le_refl _); omega)
      go_wp2_with (first
        | (go_at_call 17; go_must (refine (Calls.mono HBY.out ?_)); rintro r w5 ⟨b, rfl, h1, h2, h3⟩; have H5 : Hid (B ≤ b ∧ Row .u8 5 w5 b (enc k ++ tbt X k) ∧ Below B w w5) := ⟨h1, h2, h3⟩; clear h1 h2 h3))
      go_ret2
      exact .inr ⟨hr.out.2.1, b, _, rfl, by simp, by rw [← HBW.out]; exact H5.out.1, H5.out.2.1, by rw [← HBW.out]; exact H5.out.2.2⟩
end Go.Proofs.Ytfnfkcafjfhnlaa

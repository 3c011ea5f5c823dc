/-
  What the program's Open answers: the texts, or the first error. Condition: at most 2^47 bytes.
-/
import Derived.Test.YtfnfkcafjfhnlaaOpM
import Derived.BigQuiet
import Derived.Deep.QuietTactic
import Derived.Test.YtfnfkcafjfhnlaaTSk
import Derived.Test.YtfnfkcafjfhnlaaRLk
namespace Go.Proofs.Ytfnfkcafjfhnlaa
open Go.RowKit
set_option linter.unusedVariables false

def onum (xs : List Int) : Nat := (rc xs 0 1048576 2).1.toNat
def ofin (xs : List Int) : OS := if (rc xs 0 1048576 2).2.2 ≠ 0 then ⟨(rc xs 0 1048576 2).2.1, ByteArray.empty, 0, [], (rc xs 0 1048576 2).2.2⟩ else ogo xs (rc xs 0 1048576 2).2.1 (onum xs)
def oans (xs : List Int) : Int := rend xs.length (ofin xs).e (ofin xs).p
theorem rt_most {xs : List Int} (hx : Bytes xs) (p : Nat) (hp : p ≤ xs.length) (most : Int) (hm : 0 ≤ most) : ((rt xs p most).1.length : Int) ≤ most := by
  have h1 := ri_bd hx p hp most
  unfold rt
  split
  · simpa using hm
  · split
    · simpa using hm
    · simp only [List.length_take, List.length_drop]
      rcases h1.2.1 with q | q <;> omega
theorem oans_err {xs : List Int} (h : (ofin xs).e ≠ 0) : oans xs = (ofin xs).e := by unfold oans rend; rw [if_neg h]
theorem str_nil : strOfNums [] = ByteArray.empty := rfl
theorem rc_bd {xs : List Int} (hx : Bytes xs) : 0 ≤ (rc xs 0 1048576 2).1 ∧ (rc xs 0 1048576 2).1 ≤ 1048576 ∧ ((rc xs 0 1048576 2).2.2 ≠ 0 → (rc xs 0 1048576 2).1 = 0) := by
  have h := ri_bd hx 0 (Nat.zero_le _) 1048576
  unfold rc
  split
  · simp
  · split
    · simp
    · split
      · simp
      · exact ⟨h.1, by rcases h.2.1 with q | q <;> omega, fun q => absurd rfl q⟩
theorem fin_err {xs : List Int} {k : Nat} (hc : (rc xs 0 1048576 2).2.2 = 0) (h : k < onum xs) (h0 : (ogo xs (rc xs 0 1048576 2).2.1 k).e = 0) {E : Int} (he : oe xs k (ogo xs (rc xs 0 1048576 2).2.1 k) = E) (hE : E ≠ 0) : (ofin xs).e = E := by
  unfold ofin
  rw [if_neg (by simpa using hc), ogo_err h h0 (by rw [he]; exact hE), he]
/-- What Open answers. -/
def OpAns (xs : List Int) (w : World) (r : Ending) (w' : World) : Prop :=
  (oans xs ≠ 0 ∧ r = .returned (.tuple #[.slice none 0 0, .int .i64 (oans xs)]) ∧ Below w.heap.size w w') ∨
  (oans xs = 0 ∧ ∃ gl n, r = .returned (.tuple #[.slice (some ⟨gl, 0, none⟩) n n, .int .i64 0]) ∧ w.heap.size ≤ gl ∧ StrS w' (some ⟨gl, 0, none⟩) n (ofin xs).l ∧ Below w.heap.size w w')
/-- What stands between two texts. -/
def OT (xs : List Int) (k : Nat) (e : Int) (p T : Nat) (S : ByteArray) (L : List ByteArray) : Prop :=
  T ≤ 268435456 ∧ S.size ≤ 65536 ∧ ((e = 0 ∧ (rc xs 0 1048576 2).2.2 = 0 ∧ ogo xs (rc xs 0 1048576 2).2.1 k = ⟨p, S, T, L, 0⟩) ∨ (e ≠ 0 ∧ (ofin xs).e = e))
theorem ot_err {xs : List Int} {k : Nat} {e : Int} {p T : Nat} {S : ByteArray} {L : List ByteArray} (h : OT xs k e p T S L) (he : (e == 0) = false) : oans xs = e ∧ e ≠ 0 := by
  have he' : e ≠ 0 := by simpa using he
  rcases h.2.2 with q | q
  · exact absurd q.1 he'
  · exact ⟨by rw [oans_err (by rw [q.2]; exact he'), q.2], he'⟩
theorem rend_err {len : Nat} {e : Int} {p : Nat} (h : (e == 0) = false) : rend len e p = e := by unfold rend; rw [if_neg (by simpa using h)]
theorem ans_err {xs : List Int} {k : Nat} {p T : Nat} {S : ByteArray} {L : List ByteArray} {E : Int} (h : OT xs k 0 p T S L) (hk : k < onum xs) (he : oe xs k ⟨p, S, T, L, 0⟩ = E) (hE : E ≠ 0) : oans xs = E ∧ (ofin xs).e = E := by
  rcases h.2.2 with q | q
  · have e1 := fin_err q.2.1 hk (by rw [q.2.2]) (by rw [q.2.2]; exact he) hE
    exact ⟨by rw [oans_err (by rw [e1]; exact hE), e1], e1⟩
  · exact absurd rfl q.1
theorem run_gt {s t : ByteArray} {b1 b2 b : Bool} (h1 : Op.bytesLess s.toList t.toList = b1) (h2 : (s.toList == t.toList) = b2) (hb : (!(b1 || b2)) = b) : ∀ W, (binOp .gtr 9 (.string s) (.string t)).run Try.prog W = .ok (.bool b) W := fun W => by
  subst hb h1 h2
  rfl
set_option maxRecDepth 20000 in
set_option maxHeartbeats 1500000 in
theorem open_c (a : Option Addr) (len cap : Nat) (xs : List Int) (w : World) (h : Seg .u8 w a len xs) (hx : Bytes xs) (hlc : len ≤ cap) (hl : len ≤ 140737488355328) (hcm : cap ≤ 9223372036854775807) (hnz : a = none → cap = 0) (hoff : ∀ g, w.heap.size ≤ g → Off a g) :
    Calls Try.prog 37 #[.slice a len cap] w fun r w' => OpAns xs w r w' := by
  obtain ⟨i0, hi, hz0, hz1, hz2⟩ := info_parts infoStr
  have HI : Hid (Try.prog.info? 9 = some i0 ∧ i0.zero = some (.string .empty) ∧ i0.size = 1 ∧ i0.bytes = 16) := ⟨hi, hz0, hz1, hz2⟩
  have HS : Hid (Seg .u8 w a len xs ∧ Bytes xs ∧ (a = none → cap = 0) ∧ (∀ g, w.heap.size ≤ g → Off a g) ∧ xs.length = len) := ⟨h, hx, hnz, hoff, h.1⟩
  have HLC : Hid (len ≤ cap ∧ len ≤ 140737488355328 ∧ cap ≤ 9223372036854775807) := ⟨hlc, hl, hcm⟩
  obtain ⟨B, hB⟩ : ∃ B, B = w.heap.size := ⟨_, rfl⟩
  have HBW : Hid (B = w.heap.size) := hB
  clear h hx hlc hl hcm hnz hoff hi hz0 hz1 hz2
  go_enter Try.func37, Try.ntmps37
  go_wp2_with fail
  refine (over_c a len cap w).mono ?_
  rintro r w1 ⟨rfl, hr, hg⟩
  rw [← hB]
  rw [← hB] at hr
  have HR : Hid (RS w1 B a len cap xs 0 0 ∧ w.grownBy w1 none ∧ B < w1.heap.size) := ⟨⟨hr, HS.out.1.grew hg (by simp), HS.out.2.1, by rw [hB]; exact HS.out.2.2.2.1 _ (Nat.le_refl _), Nat.zero_le _, HLC.out.1, by have := HLC.out.2.1; omega, HLC.out.2.2, HS.out.2.2.1⟩, hg, lt_of_block hr⟩
  clear hr hg hB
  go_wp2_with fail
  obtain ⟨n, hn⟩ : ∃ n, n = onum xs := ⟨_, rfl⟩
  have hrc := rc_bd HS.out.2.1
  have hnI : (rc xs 0 1048576 2).1 = (n : Int) := by rw [hn]; unfold onum; omega
  have HN : Hid (n = onum xs ∧ n ≤ 1048576 ∧ ((rc xs 0 1048576 2).2.2 ≠ 0 → n = 0)) := ⟨hn, by omega, fun q => by have := hrc.2.2 q; omega⟩
  refine (count_ok B a len cap xs 0 1048576 2 w1 HR.out.1 (by omega) (by omega)).mono ?_
  rintro r w2 ⟨rfl, hr2, hg2⟩
  rw [hnI]
  have H2 : Hid (RS w2 B a len cap xs (rc xs 0 1048576 2).2.2 (rc xs 0 1048576 2).2.1 ∧ Below B w w2 ∧ B < w2.heap.size) := ⟨hr2, by
    have h1 := (Below.refl B w).grown HR.out.2.1 (by rw [HBW.out]; exact Nat.le_refl _) (fun k hk => by cases hk)
    exact h1.grown hg2 (by have := HR.out.2.2; omega) (fun k hk => by cases hk; exact Nat.le_refl _), by have := hg2.size; have := HR.out.2.2; omega⟩
  clear hr2 hg2 HR hn hrc hnI
  have hn1 : (0 : Int) ≤ (n : Int) := by omega
  have hn2 : n ≤ 1048576 := HN.out.2.1
  go_wp2_with (at_make; go_must (refine wpList_make_full _ rfl _ _ 68 rfl w2.heap.size 9 i0 (.string .empty) 1 Try.underlying68 HI.out.1 HI.out.2.1 HI.out.2.2.1 _ _ _ _ n rfl rfl (by omega) (by omega) (by rw [HI.out.2.2.2]; omega) (by unfold maxLen; omega) (Nat.le_refl _) ?_); intro w3 hown hg3; have H3 : Hid (w3.ownsRow w2.heap.size 9 1 (.slice (some ⟨w2.heap.size, 0, none⟩) n n) n (madeCells (Value.string .empty).cells (n * 1)).toList ∧ w2.grownBy w3 none) := ⟨hown, hg3⟩; clear hown hg3)
  obtain ⟨gl, hgl⟩ : ∃ gl, gl = w2.heap.size := ⟨_, rfl⟩
  rw [← hgl]
  have H4 : Hid (OM B w w3 B gl a len cap xs (rc xs 0 1048576 2).2.2 (rc xs 0 1048576 2).2.1 n 0 []) := by
    have ho := H3.out.1
    have e : (madeCells (Value.string .empty).cells (n * 1)).toList = (List.replicate n ByteArray.empty).map Value.string := by
      rw [List.map_replicate, Nat.mul_one]
      simpa [Value.cells] using toList_madeCells_one (.string .empty) n
    rw [e, ← hgl] at ho
    have hb := H2.out.2.1
    have hs := H2.out.2.2
    have hg := H3.out.2
    exact ⟨H2.out.1.new hg, ⟨_, srow_of_own ho, by simp, rfl⟩, hb.grown hg (by omega) (fun k hk => by cases hk), Nat.le_refl _, by omega, by omega, HS.out.2.2.2.1 gl (by have := HBW.out; omega), by have := hg.size; omega⟩
  have H5 : Hid (OT xs 0 (rc xs 0 1048576 2).2.2 (rc xs 0 1048576 2).2.1 0 ByteArray.empty []) := by
    refine ⟨by omega, by simp, ?_⟩
    rcases Decidable.em ((rc xs 0 1048576 2).2.2 = 0) with q | q
    · exact .inl ⟨q, q, rfl⟩
    · exact .inr ⟨q, by unfold ofin; rw [if_pos q]⟩
  clear H2 H3 hgl
  generalize (rc xs 0 1048576 2).2.2 = ec at H4 H5
  generalize (rc xs 0 1048576 2).2.1 = pc at H4 H5
  go_loopw [6, 7, 19] (fun ah t i wr => ∃ (k p T : Nat) (e : Int) (S : ByteArray) (L : List ByteArray), k ≤ n ∧ i = .int .i64 k ∧ ah = .string S ∧ t = .int .i64 (T : Int) ∧ Hid (OM B w wr B gl a len cap xs e p n k L ∧ OT xs k e p T S L)) (fun _ _ i _ => n - (intOf i).toNat)
  case atStart => exact ⟨0, pc, 0, ec, ByteArray.empty, [], Nat.zero_le _, rfl, rfl, rfl, H4.out, H5.out⟩
  case round =>
    obtain ⟨k, P, T, e, S, L, hk, rfl, rfl, rfl, hr⟩ := hrel
    clear H4 H5
    have hT : (T : Int) ≤ 268435456 := by have := hr.out.2.1; omega
    have HSS : Hid (S.size ≤ 65536) := hr.out.2.2.1
    by_cases hlt : k < n
    · have hi1 : (k : Int) < n := by omega
      by_cases he : e = 0
      · subst he
        obtain ⟨V, hV⟩ : ∃ V, V = ov xs P := ⟨_, rfl⟩
        obtain ⟨E1, hE1⟩ : ∃ E, E = (ri xs P 65536).2.2 := ⟨_, rfl⟩
        obtain ⟨P1, hP1⟩ : ∃ P1, P1 = (ri xs P 65536).2.1 := ⟨_, rfl⟩
        obtain ⟨t, ht⟩ : ∃ t, t = ot xs P := ⟨_, rfl⟩
        obtain ⟨E2, hE2⟩ : ∃ E, E = (rt xs (ri xs P 65536).2.1 65536).2.2 := ⟨_, rfl⟩
        obtain ⟨P2, hP2⟩ : ∃ P2, P2 = oq xs P := ⟨_, rfl⟩
        have hri := ri_bd HS.out.2.1 P (by rw [HS.out.2.2.2.2]; exact hr.out.1.1.le) 65536
        have hrt := rt_bd HS.out.2.1 (ri xs P 65536).2.1 hri.2.2.2.1 65536
        have hVI : (ri xs P 65536).1 = (V : Int) := by rw [hV]; unfold ov; have := hri.1; omega
        have HIN : Hid (Calls Try.prog 42 #[.pointer (some ⟨B, 0, none⟩), .int .i64 65536] wr fun r w' => r = .returned (.int .i64 (V : Int)) ∧ OM B w w' B gl a len cap xs E1 P1 n k L) := by
          have := hr.out.1.int 65536 (by omega)
          rw [hVI, ← hE1, ← hP1] at this
          exact this
        have HTX : Hid (∀ W, OM B w W B gl a len cap xs 0 P1 n k L → Calls Try.prog 25 #[.pointer (some ⟨B, 0, none⟩), .int .i64 65536] W fun r w' => r = .returned (.string t) ∧ OM B w w' B gl a len cap xs E2 P2 n k L) := fun W h => by
          have := h.text 65536 (by omega)
          rw [ht, hE2, hP2]
          rw [hP1] at this
          exact this
        have HOE : Hid (oe xs k ⟨P, S, T, L, 0⟩ = if E1 ≠ 0 then E1 else if S.size < V then 32 else if E2 ≠ 0 then E2 else if 65536 < V + t.size ∨ 268435456 < T + (V + t.size) then 31 else if lcs (S.extract V S.size) t ≠ 0 then 32 else if k ≠ 0 ∧ gtS t (S.extract V S.size) = false then 33 else 0) := by
          show oe _ _ _ = _
          rw [hE1, hV, hE2, ht]
          rfl
        have HB1 : Hid (V ≤ 65536 ∧ t.size ≤ 1048576 ∧ (E1 ≠ 0 → V = 0) ∧ (E2 ≠ 0 → t = ByteArray.empty)) := by
          refine ⟨by rcases hri.2.1 with q | q <;> omega, ?_, fun q => ?_, fun q => ?_⟩
          · have e : t.size = (rt xs (ri xs P 65536).2.1 65536).1.length := by rw [ht]; unfold ot; rw [strOfNums_size]
            have := rt_most HS.out.2.1 (ri xs P 65536).2.1 hri.2.2.2.1 65536 (by omega)
            have := HS.out.2.2.2.2
            have := HLC.out.2.1
            omega
          · have := (hri.2.2.2.2 (by rw [← hE1]; exact q)).1
            omega
          · rw [ht]; unfold ot; rw [(hrt.2.2.2.1 (by rw [← hE2]; exact q)).1]; rfl
        have HNX : Hid (oe xs k ⟨P, S, T, L, 0⟩ = 0 → OT xs (k + 1) 0 P2 (T + (V + t.size)) (S.extract 0 V ++ t) (L ++ [S.extract 0 V ++ t]) ∨ 268435456 < T + (V + t.size) ∨ 65536 < (S.extract 0 V ++ t).size) := fun q => by
          rcases Nat.lt_or_ge 268435456 (T + (V + t.size)) with z | z
          · exact .inr (.inl z)
          rcases Nat.lt_or_ge 65536 (S.extract 0 V ++ t).size with z2 | z2
          · exact .inr (.inr z2)
          refine .inl ⟨z, z2, .inl ?_⟩
          rcases hr.out.2.2.2 with ⟨_, q1, q2⟩ | q1
          · have := ogo_next (xs := xs) (p0 := (rc xs 0 1048576 2).2.1) (k := k) (by rw [q2]) (by rw [q2]; exact q)
            rw [q2] at this
            refine ⟨rfl, q1, ?_⟩
            rw [this, hP2, ht, hV]
            rfl
          · exact absurd rfl q1.1
        have HKN : Hid (k < onum xs) := by show _ < _; rw [← HN.out.1]; exact hlt
        clear hri hrt hVI hV hE1 hP1 ht hE2 hP2
        by_cases h1 : E1 = 0
        · subst h1
          by_cases h2 : S.size < V
          · have HER : Hid (oans xs = 32) := (ans_err hr.out.2 HKN.out (E := 32) (by rw [HOE.out, if_neg (by simp), if_pos h2]) (by omega)).1
            have hd1 : ¬ (V : Int) ≤ (S.size : Int) := by omega
            have hd2 : (V : Int) ≤ 65536 := by have := HB1.out.1; omega
            have hz : ((ByteArray.empty).size : Int) = 0 := rfl
            clear h2
            by_cases hTV : (T : Int) + (V : Int) ≤ 268435456
            all_goals
              go_wp2_with (first
                | (go_at_call 42; go_must (refine (Calls.mono HIN.out ?_)); rintro r w4 ⟨rfl, h4⟩; have G4 : Hid (OM B w w4 B gl a len cap xs 0 P1 n k L) := h4; clear h4)
                | ((fail_if_success (have z := G5)); go_at_call 73; go_must (refine (G4.out.must_no 32 _ rfl (by first | rfl | (simp; omega) | simp | assumption)).mono ?_); rintro r w5 ⟨rfl, h5⟩; have G5 : Hid (OM B w w5 B gl a len cap xs 32 P1 n k L) := h5; clear h5)
                | (have z := G5; clear z; go_at_call 25; go_must (refine (G5.out.text_no _ rfl).mono ?_); rintro r w6 ⟨rfl, h6⟩; obtain rfl := h6.symm; rw [str_nil])
                | (have z := G5; clear z; go_at_call 73; go_must (refine (G5.out.must_late rfl _ _).mono ?_); rintro r w6 ⟨rfl, h6⟩; obtain rfl := h6.symm)
                | (have z := G5; clear z; go_at_call 20; go_must (refine (G5.out.fin).mono ?_); rintro r w7 ⟨rfl, h7⟩; rw [rend_err rfl]; have G7 : Hid (Below B w w7) := h7.2.2.1; clear h7))
              go_ret2
              exact .inl ⟨by rw [HER.out]; omega, by rw [HER.out]; rfl, by rw [← HBW.out]; exact G7.out⟩
          · have hd1 : (V : Int) ≤ (S.size : Int) := by omega
            by_cases h3 : E2 = 0
            · subst h3
              by_cases h4 : 65536 < V + t.size ∨ 268435456 < T + (V + t.size)
              · have HER : Hid (oans xs = 31) := (ans_err hr.out.2 HKN.out (E := 31) (by rw [HOE.out, if_neg (by simp), if_neg h2, if_neg (by simp), if_pos h4]) (by omega)).1
                have hw0 : (V : Int) + (t.size : Int) ≤ 1114112 := by have := HB1.out.1; have := HB1.out.2.1; omega
                have hw1 : (T : Int) + ((V : Int) + (t.size : Int)) ≤ 269549568 := by omega
                by_cases hd2 : (V : Int) + (t.size : Int) ≤ 65536
                · have hd3 : ¬ (T : Int) + ((V : Int) + (t.size : Int)) ≤ 268435456 := by omega
                  clear h4
                  go_wp2_with (first
                    | (go_at_call 42; go_must (refine (Calls.mono HIN.out ?_)); rintro r w4 ⟨rfl, h4⟩; have G4 : Hid (OM B w w4 B gl a len cap xs 0 P1 n k L) := h4; clear h4)
                    | ((fail_if_success (have z := G5)); go_at_call 73; go_must (refine (G4.out.must_so _ _ (by first | rfl | (simp; omega) | simp | assumption)).mono ?_); rintro r w5 ⟨rfl, h5⟩; obtain rfl := h5.symm)
                    | ((fail_if_success (have z := G5)); go_at_call 25; go_must (refine (HTX.out _ G4.out).mono ?_); rintro r w6 ⟨rfl, h6⟩; have G5 : Hid (OM B w w6 B gl a len cap xs 0 P2 n k L) := h6; clear h6)
                    | (have z := G5; clear z; (fail_if_success (have z := G6)); go_at_call 73; go_must (refine (G5.out.must_no 31 _ rfl (by first | rfl | (simp; omega) | simp | assumption)).mono ?_); rintro r w7 ⟨rfl, h7⟩; have G6 : Hid (OM B w w7 B gl a len cap xs 31 P2 n k L) := h7; clear h7)
                    | (have z := G6; clear z; go_at_call 20; go_must (refine (G6.out.fin).mono ?_); rintro r w7 ⟨rfl, h7⟩; rw [rend_err rfl]; have G7 : Hid (Below B w w7) := h7.2.2.1; clear h7))
                  go_ret2
                  exact .inl ⟨by rw [HER.out]; omega, by rw [HER.out]; rfl, by rw [← HBW.out]; exact G7.out⟩
                · clear h4
                  go_wp2_with (first
                    | (go_at_call 42; go_must (refine (Calls.mono HIN.out ?_)); rintro r w4 ⟨rfl, h4⟩; have G4 : Hid (OM B w w4 B gl a len cap xs 0 P1 n k L) := h4; clear h4)
                    | ((fail_if_success (have z := G5)); go_at_call 73; go_must (refine (G4.out.must_so _ _ (by first | rfl | (simp; omega) | simp | assumption)).mono ?_); rintro r w5 ⟨rfl, h5⟩; obtain rfl := h5.symm)
                    | ((fail_if_success (have z := G5)); go_at_call 25; go_must (refine (HTX.out _ G4.out).mono ?_); rintro r w6 ⟨rfl, h6⟩; have G5 : Hid (OM B w w6 B gl a len cap xs 0 P2 n k L) := h6; clear h6)
                    | (have z := G5; clear z; (fail_if_success (have z := G6)); go_at_call 73; go_must (refine (G5.out.must_no 31 _ rfl (by first | rfl | (simp; omega) | simp | assumption)).mono ?_); rintro r w7 ⟨rfl, h7⟩; have G6 : Hid (OM B w w7 B gl a len cap xs 31 P2 n k L) := h7; clear h7)
                    | (have z := G6; clear z; go_at_call 20; go_must (refine (G6.out.fin).mono ?_); rintro r w7 ⟨rfl, h7⟩; rw [rend_err rfl]; have G7 : Hid (Below B w w7) := h7.2.2.1; clear h7))
                  go_ret2
                  exact .inl ⟨by rw [HER.out]; omega, by rw [HER.out]; rfl, by rw [← HBW.out]; exact G7.out⟩
              · have hd2 : (V : Int) + (t.size : Int) ≤ 65536 := by omega
                have hd3 : (T : Int) + ((V : Int) + (t.size : Int)) ≤ 268435456 := by omega
                have hV0 : (0 : Int) ≤ (V : Int) := by omega
                have h42 : oe xs k ⟨P, S, T, L, 0⟩ = if lcs (S.extract V S.size) t ≠ 0 then 32 else if k ≠ 0 ∧ gtS t (S.extract V S.size) = false then 33 else 0 := by rw [HOE.out, if_neg (by simp), if_neg h2, if_neg (by simp), if_neg h4]
                obtain ⟨U, hU⟩ : ∃ U, U = S.extract V S.size := ⟨_, rfl⟩
                obtain ⟨N, hN⟩ : ∃ N, N = S.extract 0 V ++ t := ⟨_, rfl⟩
                have HNS : Hid (N = S.extract 0 V ++ t ∧ N.size = V + t.size ∧ U = S.extract V S.size) := ⟨hN, by rw [hN]; simp; omega, hU⟩
                rw [← hU] at h42
                obtain ⟨M, hM⟩ : ∃ M, M = lcs U t := ⟨_, rfl⟩
                have HSH : Hid (∀ W, Calls Try.prog 74 #[.string (S.extract V S.size), .string t] W fun r w' => r = .returned (.int .i64 (M : Int)) ∧ ∃ n, w' = W.drewN n) := fun W => by
                  rw [hM, hU]
                  exact shared_c _ t (by have := HSS.out; simp; omega) (by omega) W
                rw [← hM] at h42
                have H42 : Hid (oe xs k ⟨P, S, T, L, 0⟩ = if M ≠ 0 then 32 else if k ≠ 0 ∧ gtS t U = false then 33 else 0) := h42
                clear h42 hM HOE h4
                by_cases h5 : M = 0
                · subst h5
                  go_wp2_with (first
                    | (go_at_call 42; go_must (refine (Calls.mono HIN.out ?_)); rintro r w4 ⟨rfl, h4⟩; have G4 : Hid (OM B w w4 B gl a len cap xs 0 P1 n k L) := h4; clear h4)
                    | ((fail_if_success (have z := G5)); go_at_call 73; go_must (refine (G4.out.must_so _ _ (by first | rfl | (simp; omega) | simp | assumption)).mono ?_); rintro r w5 ⟨rfl, h5⟩; obtain rfl := h5.symm)
                    | ((fail_if_success (have z := G5)); go_at_call 25; go_must (refine (HTX.out _ G4.out).mono ?_); rintro r w6 ⟨rfl, h6⟩; have G5 : Hid (OM B w w6 B gl a len cap xs 0 P2 n k L) := h6; clear h6)
                    | (have z := G5; clear z; go_at_call 73; go_must (refine (G5.out.must_so _ _ (by first | rfl | (simp; omega) | simp | assumption)).mono ?_); rintro r w7 ⟨rfl, h7⟩; obtain rfl := h7.symm))
                  go_quiet (first
                    | (go_at_call 74; refine Calls.quiet_of (HSH.out _))
                    | (go_at_call 73; refine Calls.quiet_of_same ((G5.out.drewN _).must_so _ _ (by first | rfl | (simp; omega) | simp | assumption))))
                  generalize hW8 : World.drewN w6 _ = W8
                  have G8 : Hid (OM B w W8 B gl a len cap xs 0 P2 n k L) := by rw [← hW8]; exact G5.out.drewN _
                  clear hW8 G5 G4
                  obtain ⟨b1, hb1⟩ : ∃ b1, Op.bytesLess t.toList (S.extract V S.size).toList = b1 := ⟨_, rfl⟩
                  obtain ⟨b2, hb2⟩ : ∃ b2, (t.toList == (S.extract V S.size).toList) = b2 := ⟨_, rfl⟩
                  have HGT : Hid (gtS t U = !(b1 || b2)) := by rw [hU]; unfold gtS; rw [hb1, hb2]; rfl
                  by_cases hk0 : k = 0
                  · have hkb : ((k : Int) == 0) = true := by simp [hk0]
                    have HOK : Hid (oe xs k ⟨P, S, T, L, 0⟩ = 0) := by show _ = _; rw [H42.out, if_neg (by simp), if_neg (by simp [hk0])]
                    clear hk0 hb1 hb2 HGT
                    go_wp2
                    go_quiet (first
                      | (go_at_call 73; refine Calls.quiet_of_same ((G8.out.drewN _).must_so _ _ (by first | rfl | (simp; omega) | simp | assumption))))
                    generalize hW9 : World.drewN W8 _ = W9
                    have G9 : Hid (OM B w W9 B gl a len cap xs 0 P2 n k L) := by rw [← hW9]; exact G8.out.drewN _
                    clear hW9 G8
                    obtain ⟨y, c9, f9⟩ : ∃ y, W9.cell? ⟨gl, k, none⟩ = some (.string y) ∧ W9.frozen? ⟨gl, k, none⟩ = false := by
                      obtain ⟨_, ⟨Y, y1, y2, _⟩, _⟩ := G9.out
                      exact ⟨_, y1.cell k (by omega), y1.free k⟩
                    have hk00 : (0 : Int) ≤ (k : Int) := by omega
                    have c10 : (W9.setCell ⟨gl, k, none⟩ (.string (S.extract 0 V ++ t))).cell? ⟨gl, k, none⟩ = some (.string (S.extract 0 V ++ t)) := World.cell?_setCell_same W9 _ _ c9
                    have G10 : Hid (OM B w (W9.setCell ⟨gl, k, none⟩ (.string (S.extract 0 V ++ t))) B gl a len cap xs 0 P2 n (k + 1) (L ++ [S.extract 0 V ++ t])) := G9.out.put hlt _
                    have G11 : Hid (OT xs (k + 1) 0 P2 (T + (V + t.size)) (S.extract 0 V ++ t) (L ++ [S.extract 0 V ++ t])) := by
                      have z := HNS.out
                      rcases HNX.out HOK.out with q | q | q
                      · exact q
                      · omega
                      · rw [← z.1] at q; omega
                    go_wp2
                    go_roundw
                    case rel => exact ⟨k + 1, P2, T + (V + t.size), 0, S.extract 0 V ++ t, _, by omega, by go_num, rfl, by go_num, G10.out, G11.out⟩
                    case measure => simp [intOf]; omega
                  · have hkb : ((k : Int) == 0) = false := by simp [hk0]
                    by_cases h6 : (b1 || b2) = true
                    · have HER : Hid ((ofin xs).e = 33) := (ans_err hr.out.2 HKN.out (E := 33) (by rw [H42.out, if_neg (by simp), if_pos ⟨hk0, by rw [HGT.out, h6]; rfl⟩]) (by omega)).2
                      have hgt := run_gt hb1 hb2 (b := false) (by rw [h6]; rfl)
                      clear hk0 h6 HGT hb1 hb2
                      go_wp2
                      refine wp_region_lastR (fun W W' => W.grownBy W' none) (fun _ _ _ h k => gb_trans h k) (gb_drewN (World.grownBy.refl W8 none) 1) 12 rfl (by kernel_rfl) [64, 65, 66, 67, 68, 69, 70, 71, 72, 73, 74, 75, 76] [[], [0], [1], [], [3], [4], [5], [5], [5], [7, 8, 5], [6, 9, 5], [5, 10], [2, 11]] (by kernel_rfl) (by kernel_rfl) [fun u W => u = .pointer (some ⟨B, 0, none⟩), fun u W => u = .pointer (some ⟨B, 0, none⟩), fun u W => u = .pointer (some ⟨B, 0, none⟩), fun u W => u = .int .i64 (k : Int), fun u W => u = .bool false, fun u W => u = .bool false, fun u W => u = .string t, fun u W => u = .string S, fun u W => u = .int .i64 (V : Int), fun u W => u = .string (S.extract V S.size), fun u W => u = .bool false, fun u W => u = .bool false] ?stable ?step ?last
                      case stable =>
                        intro i v W W' h hg
                        match i, h with
                        | 0, h => exact h
                        | 1, h => exact h
                        | 2, h => exact h
                        | 3, h => exact h
                        | 4, h => exact h
                        | 5, h => exact h
                        | 6, h => exact h
                        | 7, h => exact h
                        | 8, h => exact h
                        | 9, h => exact h
                        | 10, h => exact h
                        | 11, h => exact h
                        | i + 12, h => exact trivial
                      case step =>
                        intro f W A hA hg i o hin ho hu K hK
                        match i, hin, ho, hu, hK with
                        | 0, hin, ho, hu, hK =>
                          cases ho
                          have e4 : A.eval (.tmp 4) = .pointer (some ⟨B, 0, none⟩) := ev_out hA 4 rfl
                          exact ph_move _ rfl rfl (.pointer (some ⟨B, 0, none⟩)) e4 (hK _ _ (gb_rr W _) rfl)
                        | 1, hin, ho, hu, hK =>
                          cases ho
                          have e64 : A.eval (.tmp 64) = .pointer (some ⟨B, 0, none⟩) := (ev_in hA 64 0 rfl rfl rfl).trans (show f 0 = .pointer (some ⟨B, 0, none⟩) from hu 0 (by decide))
                          exact ph_nil _ rfl rfl _ e64 (hK _ _ (gb_rr W _) rfl)
                        | 2, hin, ho, hu, hK =>
                          cases ho
                          have e65 : A.eval (.tmp 65) = .pointer (some ⟨B, 0, none⟩) := (ev_in hA 65 1 rfl rfl rfl).trans (show f 1 = .pointer (some ⟨B, 0, none⟩) from hu 1 (by decide))
                          exact ph_field _ _ _ rfl rfl _ (.pointer (some ⟨B, 0, none⟩)) e65 (by kernel_rfl) (hK _ _ (gb_rr W _) rfl)
                        | 3, hin, ho, hu, hK =>
                          cases ho
                          have e8 : A.eval (.tmp 8) = .int .i64 (k : Int) := ev_out hA 8 rfl
                          exact ph_move _ rfl rfl (.int .i64 (k : Int)) e8 (hK _ _ (gb_rr W _) rfl)
                        | 4, hin, ho, hu, hK =>
                          cases ho
                          have e67 : A.eval (.tmp 67) = .int .i64 (k : Int) := (ev_in hA 67 3 rfl rfl rfl).trans (show f 3 = .int .i64 (k : Int) from hu 3 (by decide))
                          refine ph_sem rfl rfl (r := .ok (.value (.bool false)) W) ?_ (hK _ _ (gb_rr W _) rfl)
                          have eC : ∀ c, A.eval (.const c) = c := fun _ => rfl; have eF : ∀ g, A.eval (.func g) = .func (.func g) #[] #[] := fun _ => rfl; generalize A.eval = ρ at *
                          clear hA hu hg
                          go_simp
                        | 5, hin, ho, hu, hK =>
                          cases ho
                          have e68 : A.eval (.tmp 68) = .bool false := (ev_in hA 68 4 rfl rfl rfl).trans (show f 4 = .bool false from hu 4 (by decide))
                          exact ph_move _ rfl rfl (.bool false) e68 (hK _ _ (gb_rr W _) rfl)
                        | 6, hin, ho, hu, hK =>
                          cases ho
                          have e10 : A.eval (.tmp 10) = .string t := ev_out hA 10 rfl
                          have e69 : A.eval (.tmp 69) = .bool false := (ev_in hA 69 5 rfl rfl rfl).trans (show f 5 = .bool false from hu 5 (by decide))
                          exact ph_move _ rfl (wanted_in hA 5 false rfl 69 rfl rfl e69) (.string t) e10 (hK _ _ (gb_rr W _) rfl)
                        | 7, hin, ho, hu, hK =>
                          cases ho
                          have e6 : A.eval (.tmp 6) = .string S := ev_out hA 6 rfl
                          have e69 : A.eval (.tmp 69) = .bool false := (ev_in hA 69 5 rfl rfl rfl).trans (show f 5 = .bool false from hu 5 (by decide))
                          exact ph_move _ rfl (wanted_in hA 5 false rfl 69 rfl rfl e69) (.string S) e6 (hK _ _ (gb_rr W _) rfl)
                        | 8, hin, ho, hu, hK =>
                          cases ho
                          have e9 : A.eval (.tmp 9) = .int .i64 (V : Int) := ev_out hA 9 rfl
                          have e69 : A.eval (.tmp 69) = .bool false := (ev_in hA 69 5 rfl rfl rfl).trans (show f 5 = .bool false from hu 5 (by decide))
                          exact ph_move _ rfl (wanted_in hA 5 false rfl 69 rfl rfl e69) (.int .i64 (V : Int)) e9 (hK _ _ (gb_rr W _) rfl)
                        | 9, hin, ho, hu, hK =>
                          cases ho
                          have e71 : A.eval (.tmp 71) = .string S := (ev_in hA 71 7 rfl rfl rfl).trans (show f 7 = .string S from hu 7 (by decide))
                          have e72 : A.eval (.tmp 72) = .int .i64 (V : Int) := (ev_in hA 72 8 rfl rfl rfl).trans (show f 8 = .int .i64 (V : Int) from hu 8 (by decide))
                          have e69 : A.eval (.tmp 69) = .bool false := (ev_in hA 69 5 rfl rfl rfl).trans (show f 5 = .bool false from hu 5 (by decide))
                          refine ph_sem rfl (wanted_in hA 5 false rfl 69 rfl rfl e69) (r := .ok (.value (.string (S.extract V S.size))) W) ?_ (hK _ _ (gb_rr W _) rfl)
                          have eC : ∀ c, A.eval (.const c) = c := fun _ => rfl; have eF : ∀ g, A.eval (.func g) = .func (.func g) #[] #[] := fun _ => rfl; generalize A.eval = ρ at *
                          clear hA hu hg
                          go_simp
                        | 10, hin, ho, hu, hK =>
                          cases ho
                          have e70 : A.eval (.tmp 70) = .string t := (ev_in hA 70 6 rfl rfl rfl).trans (show f 6 = .string t from hu 6 (by decide))
                          have e73 : A.eval (.tmp 73) = .string (S.extract V S.size) := (ev_in hA 73 9 rfl rfl rfl).trans (show f 9 = .string (S.extract V S.size) from hu 9 (by decide))
                          have e69 : A.eval (.tmp 69) = .bool false := (ev_in hA 69 5 rfl rfl rfl).trans (show f 5 = .bool false from hu 5 (by decide))
                          refine ph_sem rfl (wanted_in hA 5 false rfl 69 rfl rfl e69) (r := .ok (.value (.bool false)) W) ?_ (hK _ _ (gb_rr W _) rfl)
                          have eC : ∀ c, A.eval (.const c) = c := fun _ => rfl; have eF : ∀ g, A.eval (.func g) = .func (.func g) #[] #[] := fun _ => rfl; generalize A.eval = ρ at *
                          clear hA hu hg
                          go_simp
                        | 11, hin, ho, hu, hK =>
                          cases ho
                          have e69 : A.eval (.tmp 69) = .bool false := (ev_in hA 69 5 rfl rfl rfl).trans (show f 5 = .bool false from hu 5 (by decide))
                          have e74 : A.eval (.tmp 74) = .bool false := (ev_in hA 74 10 rfl rfl rfl).trans (show f 10 = .bool false from hu 10 (by decide))
                          exact ph_pick _ _ _ rfl rfl false (.bool true) (.bool false) e69 rfl e74 (hK _ _ (gb_rr W _) rfl)
                        | i + 12, hin, ho, hu, hK => omega
                      case last =>
                        intro f W A hA hg hu o ho K hK
                        cases ho
                        have e66 : A.eval (.tmp 66) = .pointer (some ⟨B, 0, none⟩) := (ev_in hA 66 2 rfl rfl rfl).trans (show f 2 = .pointer (some ⟨B, 0, none⟩) from hu 2 (by decide))
                        have e75 : A.eval (.tmp 75) = .bool false := (ev_in hA 75 11 rfl rfl rfl).trans (show f 11 = .bool false from hu 11 (by decide))
                        refine ph_fn 73 _ _ rfl rfl #[.pointer (some ⟨B, 0, none⟩), .bool false, .int .i64 33] (by simp [e66, e75]; rfl) (by kernel_rfl) ?_
                        refine (Calls.mono ((G8.out.new hg).must_no 33 false rfl rfl) ?_)
                        rintro _ W9 ⟨rfl, h9⟩
                        refine ⟨_, rfl, hK _ _ ?_⟩
                        have G9 : Hid (OM B w W9 B gl a len cap xs 33 P2 n k L) := h9
                        clear h9 hg e66 e75 G8
                        have hA2 := hA.trans (putAll_lit [(.pointer (some ⟨B, 0, none⟩)), (.pointer (some ⟨B, 0, none⟩)), (.pointer (some ⟨B, 0, none⟩)), (.int .i64 (k : Int)), (.bool false), (.bool false), (.string t), (.string S), (.int .i64 (V : Int)), (.string (S.extract V S.size)), (.bool false), (.bool false), (f 12)] (by
                          intro j hj
                          match j, hj with
                          | 0, _ => exact hu 0 (by decide)
                          | 1, _ => exact hu 1 (by decide)
                          | 2, _ => exact hu 2 (by decide)
                          | 3, _ => exact hu 3 (by decide)
                          | 4, _ => exact hu 4 (by decide)
                          | 5, _ => exact hu 5 (by decide)
                          | 6, _ => exact hu 6 (by decide)
                          | 7, _ => exact hu 7 (by decide)
                          | 8, _ => exact hu 8 (by decide)
                          | 9, _ => exact hu 9 (by decide)
                          | 10, _ => exact hu 10 (by decide)
                          | 11, _ => exact hu 11 (by decide)
                          | 12, _ => rfl
                          | j + 13, hj => exact absurd hj (by simp)))
                        clear hu hA
                        subst hA2
                        simp only [putAll, putL, List.mem_cons, List.not_mem_nil, List.idxOf_cons, Nat.reduceEqDiff, Nat.reduceBEq, Nat.reduceAdd, or_false, or_true, reduceIte, cond_true, cond_false, List.getD_cons_zero, List.getD_cons_succ, BEq.rfl]
                        obtain ⟨y, c9, f9⟩ : ∃ y, W9.cell? ⟨gl, k, none⟩ = some (.string y) ∧ W9.frozen? ⟨gl, k, none⟩ = false := by
                          obtain ⟨_, ⟨Y, y1, y2, _⟩, _⟩ := G9.out
                          exact ⟨_, y1.cell k (by omega), y1.free k⟩
                        have hk00 : (0 : Int) ≤ (k : Int) := by omega
                        have c10 : (W9.setCell ⟨gl, k, none⟩ (.string (S.extract 0 V ++ t))).cell? ⟨gl, k, none⟩ = some (.string (S.extract 0 V ++ t)) := World.cell?_setCell_same W9 _ _ c9
                        have G10 : Hid (OM B w (W9.setCell ⟨gl, k, none⟩ (.string (S.extract 0 V ++ t))) B gl a len cap xs 33 P2 n (k + 1) (L ++ [S.extract 0 V ++ t])) := G9.out.put hlt _
                        have G11 : Hid (OT xs (k + 1) 33 P2 (T + (V + t.size)) (S.extract 0 V ++ t) (L ++ [S.extract 0 V ++ t])) := ⟨by omega, by have z := HNS.out; rw [← z.1]; omega, .inr ⟨by omega, HER.out⟩⟩
                        go_wp2
                        go_roundw
                        case rel => exact ⟨k + 1, P2, T + (V + t.size), 33, S.extract 0 V ++ t, _, by omega, by go_num, rfl, by go_num, G10.out, G11.out⟩
                        case measure => simp [intOf]; omega
                    · obtain rfl : b1 = false := by cases b1 <;> simp at h6 ⊢
                      obtain rfl : b2 = false := by cases b2 <;> simp at h6 ⊢
                      have HOK : Hid (oe xs k ⟨P, S, T, L, 0⟩ = 0) := by show _ = _; rw [H42.out, if_neg (by simp), if_neg (by rw [HGT.out]; simp)]
                      clear hk0 h6 HGT
                      have hgt := run_gt hb1 hb2 (b := true) rfl
                      clear hb1 hb2
                      go_wp2
                      go_quiet (first
                        | (go_at_call 73; refine Calls.quiet_of_same ((G8.out.drewN _).must_so _ _ (by first | rfl | (simp; omega) | simp | assumption))))
                      generalize hW9 : World.drewN W8 _ = W9
                      have G9 : Hid (OM B w W9 B gl a len cap xs 0 P2 n k L) := by rw [← hW9]; exact G8.out.drewN _
                      clear hW9 G8
                      obtain ⟨y, c9, f9⟩ : ∃ y, W9.cell? ⟨gl, k, none⟩ = some (.string y) ∧ W9.frozen? ⟨gl, k, none⟩ = false := by
                        obtain ⟨_, ⟨Y, y1, y2, _⟩, _⟩ := G9.out
                        exact ⟨_, y1.cell k (by omega), y1.free k⟩
                      have hk00 : (0 : Int) ≤ (k : Int) := by omega
                      have c10 : (W9.setCell ⟨gl, k, none⟩ (.string (S.extract 0 V ++ t))).cell? ⟨gl, k, none⟩ = some (.string (S.extract 0 V ++ t)) := World.cell?_setCell_same W9 _ _ c9
                      have G10 : Hid (OM B w (W9.setCell ⟨gl, k, none⟩ (.string (S.extract 0 V ++ t))) B gl a len cap xs 0 P2 n (k + 1) (L ++ [S.extract 0 V ++ t])) := G9.out.put hlt _
                      have G11 : Hid (OT xs (k + 1) 0 P2 (T + (V + t.size)) (S.extract 0 V ++ t) (L ++ [S.extract 0 V ++ t])) := by
                        have z := HNS.out
                        rcases HNX.out HOK.out with q | q | q
                        · exact q
                        · omega
                        · rw [← z.1] at q; omega
                      go_wp2
                      go_roundw
                      case rel => exact ⟨k + 1, P2, T + (V + t.size), 0, S.extract 0 V ++ t, _, by omega, by go_num, rfl, by go_num, G10.out, G11.out⟩
                      case measure => simp [intOf]; omega
                · have HER : Hid ((ofin xs).e = 32) := (ans_err hr.out.2 HKN.out (E := 32) (by rw [H42.out, if_pos h5]) (by omega)).2
                  have hM0 : ((M : Int) == 0) = false := by simp; omega
                  clear h5 HNX
                  go_wp2_with (first
                    | (go_at_call 42; go_must (refine (Calls.mono HIN.out ?_)); rintro r w4 ⟨rfl, h4⟩; have G4 : Hid (OM B w w4 B gl a len cap xs 0 P1 n k L) := h4; clear h4)
                    | ((fail_if_success (have z := G5)); go_at_call 73; go_must (refine (G4.out.must_so _ _ (by first | rfl | (simp; omega) | simp | assumption)).mono ?_); rintro r w5 ⟨rfl, h5⟩; obtain rfl := h5.symm)
                    | ((fail_if_success (have z := G5)); go_at_call 25; go_must (refine (HTX.out _ G4.out).mono ?_); rintro r w6 ⟨rfl, h6⟩; have G5 : Hid (OM B w w6 B gl a len cap xs 0 P2 n k L) := h6; clear h6)
                    | (have z := G5; clear z; go_at_call 73; go_must (refine (G5.out.must_so _ _ (by first | rfl | (simp; omega) | simp | assumption)).mono ?_); rintro r w7 ⟨rfl, h7⟩; obtain rfl := h7.symm))
                  refine wp_region_lastR (fun W W' => W.grownBy W' none) (fun _ _ _ h k => gb_trans h k) (gb_drewN (World.grownBy.refl w6 none) 1) 9 rfl (by kernel_rfl) [54, 55, 56, 57, 58, 59, 60, 61, 62, 63] [[], [0], [1], [], [], [3, 4], [], [5, 6], [7], [2, 8]] (by kernel_rfl) (by kernel_rfl) [fun u W => u = .pointer (some ⟨B, 0, none⟩), fun u W => u = .pointer (some ⟨B, 0, none⟩), fun u W => u = .pointer (some ⟨B, 0, none⟩), fun u W => u = .string S, fun u W => u = .int .i64 (V : Int), fun u W => u = .string (S.extract V S.size), fun u W => u = .string t, fun u W => u = .int .i64 (M : Int), fun u W => u = .bool false] ?stable ?step ?last
                  case stable =>
                    intro i v W W' h hg
                    match i, h with
                    | 0, h => exact h
                    | 1, h => exact h
                    | 2, h => exact h
                    | 3, h => exact h
                    | 4, h => exact h
                    | 5, h => exact h
                    | 6, h => exact h
                    | 7, h => exact h
                    | 8, h => exact h
                    | i + 9, h => exact trivial
                  case step =>
                    intro f W A hA hg i o hin ho hu K hK
                    match i, hin, ho, hu, hK with
                    | 0, hin, ho, hu, hK =>
                      cases ho
                      have e4 : A.eval (.tmp 4) = .pointer (some ⟨B, 0, none⟩) := ev_out hA 4 rfl
                      exact ph_move _ rfl rfl (.pointer (some ⟨B, 0, none⟩)) e4 (hK _ _ (gb_rr W _) rfl)
                    | 1, hin, ho, hu, hK =>
                      cases ho
                      have e54 : A.eval (.tmp 54) = .pointer (some ⟨B, 0, none⟩) := (ev_in hA 54 0 rfl rfl rfl).trans (show f 0 = .pointer (some ⟨B, 0, none⟩) from hu 0 (by decide))
                      exact ph_nil _ rfl rfl _ e54 (hK _ _ (gb_rr W _) rfl)
                    | 2, hin, ho, hu, hK =>
                      cases ho
                      have e55 : A.eval (.tmp 55) = .pointer (some ⟨B, 0, none⟩) := (ev_in hA 55 1 rfl rfl rfl).trans (show f 1 = .pointer (some ⟨B, 0, none⟩) from hu 1 (by decide))
                      exact ph_field _ _ _ rfl rfl _ (.pointer (some ⟨B, 0, none⟩)) e55 (by kernel_rfl) (hK _ _ (gb_rr W _) rfl)
                    | 3, hin, ho, hu, hK =>
                      cases ho
                      have e6 : A.eval (.tmp 6) = .string S := ev_out hA 6 rfl
                      exact ph_move _ rfl rfl (.string S) e6 (hK _ _ (gb_rr W _) rfl)
                    | 4, hin, ho, hu, hK =>
                      cases ho
                      have e9 : A.eval (.tmp 9) = .int .i64 (V : Int) := ev_out hA 9 rfl
                      exact ph_move _ rfl rfl (.int .i64 (V : Int)) e9 (hK _ _ (gb_rr W _) rfl)
                    | 5, hin, ho, hu, hK =>
                      cases ho
                      have e57 : A.eval (.tmp 57) = .string S := (ev_in hA 57 3 rfl rfl rfl).trans (show f 3 = .string S from hu 3 (by decide))
                      have e58 : A.eval (.tmp 58) = .int .i64 (V : Int) := (ev_in hA 58 4 rfl rfl rfl).trans (show f 4 = .int .i64 (V : Int) from hu 4 (by decide))
                      refine ph_sem rfl rfl (r := .ok (.value (.string (S.extract V S.size))) W) ?_ (hK _ _ (gb_rr W _) rfl)
                      have eC : ∀ c, A.eval (.const c) = c := fun _ => rfl; have eF : ∀ g, A.eval (.func g) = .func (.func g) #[] #[] := fun _ => rfl; generalize A.eval = ρ at *
                      clear hA hu hg
                      go_simp
                    | 6, hin, ho, hu, hK =>
                      cases ho
                      have e10 : A.eval (.tmp 10) = .string t := ev_out hA 10 rfl
                      exact ph_move _ rfl rfl (.string t) e10 (hK _ _ (gb_rr W _) rfl)
                    | 7, hin, ho, hu, hK =>
                      cases ho
                      have e59 : A.eval (.tmp 59) = .string (S.extract V S.size) := (ev_in hA 59 5 rfl rfl rfl).trans (show f 5 = .string (S.extract V S.size) from hu 5 (by decide))
                      have e60 : A.eval (.tmp 60) = .string t := (ev_in hA 60 6 rfl rfl rfl).trans (show f 6 = .string t from hu 6 (by decide))
                      refine ph_fn 74 _ _ rfl rfl #[.string (S.extract V S.size), .string t] (by simp [e59, e60]) (by kernel_rfl) ?_
                      refine (Calls.mono (HSH.out W) ?_)
                      rintro e W' ⟨rfl, m, rfl⟩
                      exact ⟨_, rfl, hK _ _ (gb_drewN (World.grownBy.refl _ _) m) rfl⟩
                    | 8, hin, ho, hu, hK =>
                      cases ho
                      have e61 : A.eval (.tmp 61) = .int .i64 (M : Int) := (ev_in hA 61 7 rfl rfl rfl).trans (show f 7 = .int .i64 (M : Int) from hu 7 (by decide))
                      refine ph_sem rfl rfl (r := .ok (.value (.bool false)) W) ?_ (hK _ _ (gb_rr W _) rfl)
                      have eC : ∀ c, A.eval (.const c) = c := fun _ => rfl; have eF : ∀ g, A.eval (.func g) = .func (.func g) #[] #[] := fun _ => rfl; generalize A.eval = ρ at *
                      clear hA hu hg
                      go_simp
                    | i + 9, hin, ho, hu, hK => omega
                  case last =>
                    intro f W A hA hg hu o ho K hK
                    cases ho
                    have e56 : A.eval (.tmp 56) = .pointer (some ⟨B, 0, none⟩) := (ev_in hA 56 2 rfl rfl rfl).trans (show f 2 = .pointer (some ⟨B, 0, none⟩) from hu 2 (by decide))
                    have e62 : A.eval (.tmp 62) = .bool false := (ev_in hA 62 8 rfl rfl rfl).trans (show f 8 = .bool false from hu 8 (by decide))
                    refine ph_fn 73 _ _ rfl rfl #[.pointer (some ⟨B, 0, none⟩), .bool false, .int .i64 32] (by simp [e56, e62]; rfl) (by kernel_rfl) ?_
                    refine (Calls.mono ((G5.out.new hg).must_no 32 false rfl rfl) ?_)
                    rintro _ W9 ⟨rfl, h9⟩
                    refine ⟨_, rfl, hK _ _ ?_⟩
                    have G9 : Hid (OM B w W9 B gl a len cap xs 32 P2 n k L) := h9
                    clear h9 hg e56 e62 G5
                    have hA2 := hA.trans (putAll_lit [(.pointer (some ⟨B, 0, none⟩)), (.pointer (some ⟨B, 0, none⟩)), (.pointer (some ⟨B, 0, none⟩)), (.string S), (.int .i64 (V : Int)), (.string (S.extract V S.size)), (.string t), (.int .i64 (M : Int)), (.bool false), (f 9)] (by
                      intro j hj
                      match j, hj with
                      | 0, _ => exact hu 0 (by decide)
                      | 1, _ => exact hu 1 (by decide)
                      | 2, _ => exact hu 2 (by decide)
                      | 3, _ => exact hu 3 (by decide)
                      | 4, _ => exact hu 4 (by decide)
                      | 5, _ => exact hu 5 (by decide)
                      | 6, _ => exact hu 6 (by decide)
                      | 7, _ => exact hu 7 (by decide)
                      | 8, _ => exact hu 8 (by decide)
                      | 9, _ => rfl
                      | j + 10, hj => exact absurd hj (by simp)))
                    clear hu hA
                    subst hA2
                    simp only [putAll, putL, List.mem_cons, List.not_mem_nil, List.idxOf_cons, Nat.reduceEqDiff, Nat.reduceBEq, Nat.reduceAdd, or_false, or_true, reduceIte, cond_true, cond_false, List.getD_cons_zero, List.getD_cons_succ, BEq.rfl]
                    obtain ⟨b1, hb1⟩ : ∃ b1, Op.bytesLess t.toList (S.extract V S.size).toList = b1 := ⟨_, rfl⟩
                    obtain ⟨b2, hb2⟩ : ∃ b2, (t.toList == (S.extract V S.size).toList) = b2 := ⟨_, rfl⟩
                    obtain ⟨bb, hbb⟩ : ∃ bb, (!(b1 || b2)) = bb := ⟨_, rfl⟩
                    have hgt := run_gt hb1 hb2 hbb
                    clear hb1 hb2 hbb
                    obtain ⟨kb, hkb⟩ : ∃ kb, ((k : Int) == 0) = kb := ⟨_, rfl⟩
                    cases kb
                    all_goals
                      go_wp2
                      go_quiet (first
                        | (go_at_call 73; refine Calls.quiet_of_same ((G9.out.drewN _).must_late rfl _ _)))
                      generalize hW10 : World.drewN W9 _ = W10
                      have G12 : Hid (OM B w W10 B gl a len cap xs 32 P2 n k L) := by rw [← hW10]; exact G9.out.drewN _
                      clear hW10 G9
                      obtain ⟨y, c9, f9⟩ : ∃ y, W10.cell? ⟨gl, k, none⟩ = some (.string y) ∧ W10.frozen? ⟨gl, k, none⟩ = false := by
                        obtain ⟨_, ⟨Y, y1, y2, _⟩, _⟩ := G12.out
                        exact ⟨_, y1.cell k (by omega), y1.free k⟩
                      have hk00 : (0 : Int) ≤ (k : Int) := by omega
                      have c10 : (W10.setCell ⟨gl, k, none⟩ (.string (S.extract 0 V ++ t))).cell? ⟨gl, k, none⟩ = some (.string (S.extract 0 V ++ t)) := World.cell?_setCell_same W10 _ _ c9
                      have G10 : Hid (OM B w (W10.setCell ⟨gl, k, none⟩ (.string (S.extract 0 V ++ t))) B gl a len cap xs 32 P2 n (k + 1) (L ++ [S.extract 0 V ++ t])) := G12.out.put hlt _
                      have G11 : Hid (OT xs (k + 1) 32 P2 (T + (V + t.size)) (S.extract 0 V ++ t) (L ++ [S.extract 0 V ++ t])) := ⟨by omega, by have z := HNS.out; rw [← z.1]; omega, .inr ⟨by omega, HER.out⟩⟩
                      go_wp2
                      go_roundw
                      case rel => exact ⟨k + 1, P2, T + (V + t.size), 32, S.extract 0 V ++ t, _, by omega, by go_num, rfl, by go_num, G10.out, G11.out⟩
                      case measure => simp [intOf]; omega
            · have hE2 : (E2 == 0) = false := by simpa using h3
              have hE2n : (E2 != 0) = true := by simp [h3]
              obtain rfl := HB1.out.2.2.2 h3
              have HER : Hid (oans xs = E2 ∧ E2 ≠ 0) := ⟨(ans_err hr.out.2 HKN.out (E := E2) (by rw [HOE.out, if_neg (by simp), if_neg h2, if_pos h3]) h3).1, h3⟩
              have hd2 : (V : Int) ≤ 65536 := by have := HB1.out.1; omega
              have hz : ((ByteArray.empty).size : Int) = 0 := rfl
              clear h3 HOE HNX
              by_cases hTV : (T : Int) + (V : Int) ≤ 268435456
              all_goals
                go_wp2_with (first
                  | (go_at_call 42; go_must (refine (Calls.mono HIN.out ?_)); rintro r w4 ⟨rfl, h4⟩; have G4 : Hid (OM B w w4 B gl a len cap xs 0 P1 n k L) := h4; clear h4)
                  | ((fail_if_success (have z := G5)); go_at_call 73; go_must (refine (G4.out.must_so _ _ (by first | rfl | (simp; omega) | simp | assumption)).mono ?_); rintro r w5 ⟨rfl, h5⟩; obtain rfl := h5.symm)
                  | ((fail_if_success (have z := G5)); go_at_call 25; go_must (refine (HTX.out _ G4.out).mono ?_); rintro r w6 ⟨rfl, h6⟩; have G5 : Hid (OM B w w6 B gl a len cap xs E2 P2 n k L) := h6; clear h6)
                  | (have z := G5; clear z; go_at_call 73; go_must (refine (G5.out.must_late hE2 _ _).mono ?_); rintro r w7 ⟨rfl, h7⟩; obtain rfl := h7.symm)
                  | (have z := G5; clear z; go_at_call 20; go_must (refine (G5.out.fin).mono ?_); rintro r w7 ⟨rfl, h7⟩; rw [rend_err hE2]; have G7 : Hid (Below B w w7) := h7.2.2.1; clear h7))
                go_ret2
                exact .inl ⟨by rw [HER.out.1]; exact HER.out.2, by rw [HER.out.1]; rfl, by rw [← HBW.out]; exact G7.out⟩
        · have hE1 : (E1 == 0) = false := by simpa using h1
          have hE1n : (E1 != 0) = true := by simp [h1]
          obtain rfl := HB1.out.2.2.1 h1
          have HER : Hid (oans xs = E1 ∧ E1 ≠ 0) := ⟨(ans_err hr.out.2 HKN.out (E := E1) (by rw [HOE.out, if_pos h1]) h1).1, h1⟩
          have hz : ((ByteArray.empty).size : Int) = 0 := rfl
          have hs0 : (0 : Int) ≤ (S.size : Int) := by omega
          clear h1 HOE HNX
          go_wp2_with (first
            | (go_at_call 42; go_must (refine (Calls.mono HIN.out ?_)); rintro r w4 ⟨rfl, h4⟩; have G4 : Hid (OM B w w4 B gl a len cap xs E1 P1 n k L) := h4; clear h4)
            | (have z := G4; clear z; go_at_call 73; go_must (refine (G4.out.must_late hE1 _ _).mono ?_); rintro r w6 ⟨rfl, h6⟩; obtain rfl := h6.symm)
            | (have z := G4; clear z; go_at_call 25; go_must (refine (G4.out.text_no _ hE1).mono ?_); rintro r w6 ⟨rfl, h6⟩; obtain rfl := h6.symm; rw [str_nil])
            | (have z := G4; clear z; go_at_call 20; go_must (refine (G4.out.fin).mono ?_); rintro r w7 ⟨rfl, h7⟩; rw [rend_err hE1]; have G7 : Hid (Below B w w7) := h7.2.2.1; clear h7))
          go_ret2
          exact .inl ⟨by rw [HER.out.1]; exact HER.out.2, by rw [HER.out.1]; rfl, by rw [← HBW.out]; exact G7.out⟩
      · have heb : (e == 0) = false := by simpa using he
        have hne : (e != 0) = true := by simp [he]
        have HE : Hid (oans xs = e ∧ e ≠ 0) := ot_err hr.out.2 heb
        clear he
        have hz : ((ByteArray.empty).size : Int) = 0 := rfl
        go_wp2_with (first
          | (go_at_call 42; go_must (refine (hr.out.1.int_no _ heb).mono ?_); rintro r w4 ⟨rfl, h4⟩; obtain rfl := h4.symm)
          | (go_at_call 73; go_must (refine (hr.out.1.must_late heb _ _).mono ?_); rintro r w4 ⟨rfl, h4⟩; obtain rfl := h4.symm)
          | (go_at_call 25; go_must (refine (hr.out.1.text_no _ heb).mono ?_); rintro r w4 ⟨rfl, h4⟩; obtain rfl := h4.symm; rw [str_nil])
          | (go_at_call 20; go_must (refine (hr.out.1.fin).mono ?_); rintro r w5 ⟨rfl, h5⟩; rw [rend_err heb]; have H6 : Hid (Below B w w5) := h5.2.2.1; clear h5))
        go_ret2
        exact .inl ⟨by rw [HE.out.1]; exact HE.out.2, by rw [HE.out.1]; rfl, by rw [← HBW.out]; exact H6.out⟩
    · obtain rfl : k = n := by omega
      have hge : ¬ (k : Int) < k := by omega
      by_cases he : e = 0
      · subst he
        have HE : Hid (ofin xs = ⟨P, S, T, L, 0⟩) := by
          rcases hr.out.2.2.2 with ⟨_, q1, q2⟩ | q1
          · show ofin xs = _
            unfold ofin
            rw [if_neg (by simpa using q1), ← HN.out.1, q2]
          · exact absurd rfl q1.1
        obtain ⟨R, hR⟩ : ∃ R, R = rend len 0 P := ⟨_, rfl⟩
        have HRR : Hid (oans xs = R ∧ R = rend len 0 P) := by
          refine ⟨?_, hR⟩
          unfold oans
          rw [HE.out, HS.out.2.2.2.2, hR]
        clear hR
        by_cases hr0 : R = 0
        · subst hr0
          go_wp2_with (first
            | (go_at_call 20; go_must (refine (hr.out.1.fin).mono ?_); rintro r w5 ⟨rfl, h5⟩; rw [← HRR.out.2]; have H6 : Hid (OM B w w5 B gl a len cap xs 0 P k k L) := h5; clear h5))
          go_ret2
          obtain ⟨_, ⟨Y, y1, y2, y3⟩, y4, _, y5, _⟩ := H6.out
          refine .inr ⟨HRR.out.1, gl, k, rfl, by rw [← HBW.out]; exact y5, ?_, by rw [← HBW.out]; exact y4⟩
          rw [HE.out]
          rw [List.take_of_length_le (by omega)] at y3
          subst y3
          exact y1.str k y2.symm
        · have hrn : (R != 0) = true := by simp [hr0]
          have HR0 : Hid (R ≠ 0) := hr0
          clear hr0
          go_wp2_with (first
            | (go_at_call 20; go_must (refine (hr.out.1.fin).mono ?_); rintro r w5 ⟨rfl, h5⟩; rw [← HRR.out.2]; have H6 : Hid (Below B w w5) := h5.2.2.1; clear h5))
          go_ret2
          exact .inl ⟨by rw [HRR.out.1]; exact HR0.out, by rw [HRR.out.1]; rfl, by rw [← HBW.out]; exact H6.out⟩
      · have heb : (e == 0) = false := by simpa using he
        have hne : (e != 0) = true := by simp [he]
        have HE : Hid (oans xs = e ∧ e ≠ 0) := ot_err hr.out.2 heb
        clear he
        go_wp2_with (first
          | (go_at_call 20; go_must (refine (hr.out.1.fin).mono ?_); rintro r w5 ⟨rfl, h5⟩; rw [rend_err heb]; have H6 : Hid (Below B w w5) := h5.2.2.1; clear h5))
        go_ret2
        exact .inl ⟨by rw [HE.out.1]; exact HE.out.2, by rw [HE.out.1]; rfl, by rw [← HBW.out]; exact H6.out⟩
end Go.Proofs.Ytfnfkcafjfhnlaa

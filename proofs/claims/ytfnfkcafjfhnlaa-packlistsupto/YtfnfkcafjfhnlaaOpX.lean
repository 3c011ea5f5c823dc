/-
  What the document's Open answers: the texts, or the first error, as the program's. Condition: at most 2^47 bytes.
-/
import Derived.Test.YtfnfkcafjfhnlaaOpC
import Derived.Test.YtfnfkcafjfhnlaaXFl
import Derived.Test.YtfnfkcafjfhnlaaFa
namespace Go.Proofs.Ytfnfkcafjfhnlaa
open Go.RowKit
set_option linter.unusedVariables false

theorem SOwn.grown {B w w' v n X g} (h : SOwn B w v n X) (hb : w.grownBy w' (some g)) (hg : g < B) : SOwn B w' v n X := by
  refine ⟨h.1, ?_⟩
  rcases h.2 with h0 | ⟨k, cap, cur, rfl, hB, hk, r⟩
  · exact .inl h0
  · exact .inr ⟨k, cap, cur, rfl, hB, (hb.block k (lt_of_block hk) (fun e => by cases e; omega)).trans hk, r⟩
/-- The document's reader in block g, and a list of texts of one's own behind it. -/
def XO (w wr : World) (g : Nat) (v : Value) (a : Option Addr) (len cap : Nat) (xs : List Int) (e : Int) (p k : Nat) (L : List ByteArray) : Prop :=
  XS wr g a len cap xs e p ∧ SOwn (g + 1) wr v k L ∧ Below g w wr ∧ (len = 0 ∨ ∃ b off, a = some ⟨b, off, none⟩ ∧ b < g) ∧ g + 1 ≤ wr.heap.size
theorem XO.moves {w wr w' g v a len cap xs e p k L e' p'} (h : XO w wr g v a len cap xs e p k L) (hr : XS w' g a len cap xs e' p') (hg : wr.grownBy w' (some g)) : XO w w' g v a len cap xs e' p' k L := by
  obtain ⟨h1, h2, h3, h4, h5⟩ := h
  have := hg.size
  exact ⟨hr, h2.grown hg (by omega), h3.grown hg (by omega) (fun k hk => by cases hk; exact Nat.le_refl _), h4, by omega⟩
theorem XO.new {w wr w' g v a len cap xs e p k L} (h : XO w wr g v a len cap xs e p k L) (hg : wr.grownBy w' none) : XO w w' g v a len cap xs e p k L := h.moves (h.1.new hg) (gb_wide hg _)
theorem XO.drewN {w wr g v a len cap xs e p k L} (h : XO w wr g v a len cap xs e p k L) (m : Nat) : XO w (wr.drewN m) g v a len cap xs e p k L := h.new (gb_drewN (World.grownBy.refl _ _) m)
theorem XO.put {w wr w' g v v' a len cap xs e p k k' L L'} (h : XO w wr g v a len cap xs e p k L) (ho : SOwn (g + 1) w' v' k' L') (hb : Below (g + 1) wr w') : XO w w' g v' a len cap xs e p k' L' := by
  obtain ⟨h1, h2, h3, h4, h5⟩ := h
  have hs := hb.size
  refine ⟨⟨(hb.block g (by omega)).trans h1.rdr, ?_, h1.bytes, h1.off, h1.le, h1.lc, h1.lm, h1.cm⟩, ho, h3.trans (hb.mono (by omega)), h4, by omega⟩
  refine ⟨h1.seg.1, ?_⟩
  rcases h1.seg.2 with q | ⟨b, off, rfl, hbl, hc⟩
  · exact .inl q
  · rcases h4 with q | ⟨b', off', he, hlt⟩
    · exact .inl q
    · cases he
      exact .inr ⟨b, off, rfl, by omega, fun i hi => (hb.cell (p := ⟨b, off + i, none⟩) (by show b < g + 1; omega)).trans (hc i hi)⟩
theorem XO.int {w wr g v a len cap xs p k L} (h : XO w wr g v a len cap xs 0 p k L) (most : Int) (hm : most ≤ 9223372036854775807) : Calls Try.prog 43 #[.pointer (some ⟨g, 0, none⟩), .int .i64 most] wr fun r w' => r = .returned (.int .i64 (ri xs p most).1) ∧ XO w w' g v a len cap xs (ri xs p most).2.2 (ri xs p most).2.1 k L :=
  (xint_ok g a len cap xs p most wr h.1 hm).mono fun r w' ⟨h1, h2, h3⟩ => ⟨h1, h.moves h2 h3⟩
theorem XO.text {w wr g v a len cap xs p k L} (h : XO w wr g v a len cap xs 0 p k L) (most : Int) (hm : most ≤ 9223372036854775807) : Calls Try.prog 44 #[.pointer (some ⟨g, 0, none⟩), .int .i64 most] wr fun r w' => r = .returned (.string (strOfNums (rt xs p most).1)) ∧ XO w w' g v a len cap xs (rt xs p most).2.2 (rt xs p most).2.1 k L :=
  (xtext_ok g a len cap xs p most wr h.1 hm).mono fun r w' ⟨h1, h2, h3⟩ => ⟨h1, h.moves h2 h3⟩
theorem XO.text_no {w wr g v a len cap xs e p k L} (h : XO w wr g v a len cap xs e p k L) (most : Int) (he : (e == 0) = false) : Calls Try.prog 44 #[.pointer (some ⟨g, 0, none⟩), .int .i64 most] wr fun r w' => r = .returned (.string (strOfNums [])) ∧ w' = wr := xtext_no g a len cap xs e p most wr h.1 he
theorem XO.fail {w wr g v a len cap xs p k L} (h : XO w wr g v a len cap xs 0 p k L) (x : Int) : Calls Try.prog 52 #[.pointer (some ⟨g, 0, none⟩), .int .i64 x] wr fun r w' => r = .returned (.tuple #[]) ∧ XO w w' g v a len cap xs x p k L :=
  (xfail_c g a len cap xs 0 x p wr h.1).mono fun r w' ⟨h1, h2, h3⟩ => ⟨h1, h.moves (by simpa using h2) h3⟩
theorem XO.fin {w wr g v a len cap xs e p k L} (h : XO w wr g v a len cap xs e p k L) : Calls Try.prog 53 #[.pointer (some ⟨g, 0, none⟩)] wr fun r w' => r = .returned (.int .i64 (rend len e p)) ∧ XO w w' g v a len cap xs e p k L :=
  (xend_c g a len cap xs e p wr h.1).mono fun r w' ⟨h1, n, h2⟩ => ⟨h1, by rw [h2]; exact h.drewN n⟩
/-- What the document's Open answers. -/
def XpAns (xs : List Int) (w : World) (r : Ending) (w' : World) : Prop :=
  (oans xs ≠ 0 ∧ r = .returned (.tuple #[.slice none 0 0, .int .i64 (oans xs)]) ∧ Below w.heap.size w w') ∨
  (oans xs = 0 ∧ ∃ v, r = .returned (.tuple #[v, .int .i64 0]) ∧ SOwn (w.heap.size + 1) w' v (ofin xs).l.length (ofin xs).l ∧ Below w.heap.size w w')
theorem run_le {s t : ByteArray} {b1 b2 b : Bool} (h1 : Op.bytesLess s.toList t.toList = b1) (h2 : (s.toList == t.toList) = b2) (hb : (b1 || b2) = b) : ∀ W, (binOp .leq 9 (.string s) (.string t)).run Try.prog W = .ok (.bool b) W := fun W => by
  subst hb h1 h2
  rfl
theorem one_strS (w : World) (s : ByteArray) : StrS (w.alloc (.cells #[.string s] 9 (0, 0))) (some ⟨w.heap.size, 0, none⟩) 1 [s] := by
  refine ⟨rfl, .inr ⟨w.heap.size, 0, rfl, by simp, fun i hi => ?_⟩⟩
  rw [Nat.zero_add, cell_of_row _ _ i _ _ _ (heap_new w _)]
  obtain rfl : i = 0 := by omega
  rfl
set_option maxRecDepth 20000 in
set_option maxHeartbeats 1500000 in
theorem xopen_c (a : Option Addr) (len cap : Nat) (xs : List Int) (w : World) (h : Seg .u8 w a len xs) (hx : Bytes xs) (hlc : len ≤ cap) (hl : len ≤ 140737488355328) (hcm : cap ≤ 9223372036854775807) :
    Calls Try.prog 38 #[.slice a len cap] w fun r w' => XpAns xs w r w' := by
  have HS : Hid (Bytes xs ∧ xs.length = len ∧ len ≤ 140737488355328) := ⟨hx, h.1, hl⟩
  obtain ⟨g, hg⟩ : ∃ g, g = w.heap.size := ⟨_, rfl⟩
  have H0 : Hid (XO w (w.alloc (.cells #[.slice a len cap, .int .i64 0, .int .i64 0] 31)) g (.slice none 0 0) a len cap xs 0 0 0 []) := by
    have hgr : w.grownBy (w.alloc (.cells #[.slice a len cap, .int .i64 0, .int .i64 0] 31)) none := World.grownBy_alloc _ _ _
    have hal : len = 0 ∨ ∃ b off, a = some ⟨b, off, none⟩ ∧ b < g := by
      rcases h.2 with q | ⟨b, off, q1, q2, _⟩
      · exact .inl q
      · exact .inr ⟨b, off, q1, by omega⟩
    refine ⟨⟨by rw [hg]; exact heap_new w _, h.grew hgr (by simp), hx, ?_, Nat.zero_le _, hlc, by omega, hcm⟩, ⟨rfl, .inl ⟨rfl, rfl⟩⟩, by rw [hg]; exact (Below.refl _ _).grown hgr (Nat.le_refl _) (fun k hk => by cases hk), hal, by rw [hg]; simp⟩
    rcases hal with q | ⟨b, off, q1, q2⟩
    · exact .inl q
    · refine .inr fun b' o s e => ?_
      rw [q1] at e
      cases e
      omega
  have HBW : Hid (g = w.heap.size) := hg
  clear h hx hlc hl hcm
  obtain ⟨n, hn⟩ : ∃ n, n = onum xs := ⟨_, rfl⟩
  have hrc := rc_bd HS.out.1
  have hnI : (rc xs 0 1048576 2).1 = (n : Int) := by rw [hn]; unfold onum; omega
  have HN : Hid (n = onum xs ∧ n ≤ 1048576 ∧ ((rc xs 0 1048576 2).2.2 ≠ 0 → n = 0)) := ⟨hn, by omega, fun q => by have := hrc.2.2 q; omega⟩
  have HCN : Hid (Calls Try.prog 50 #[.pointer (some ⟨g, 0, none⟩), .int .i64 1048576, .int .i64 2] (w.alloc (.cells #[.slice a len cap, .int .i64 0, .int .i64 0] 31)) fun r w' => r = .returned (.int .i64 (n : Int)) ∧ XO w w' g (.slice none 0 0) a len cap xs (rc xs 0 1048576 2).2.2 (rc xs 0 1048576 2).2.1 0 []) := by
    refine (xcount_ok g a len cap xs 0 1048576 2 _ H0.out.1 (by omega) (by omega)).mono ?_
    rintro r w' ⟨h1, h2, h3⟩
    rw [hnI] at h1
    exact ⟨h1, H0.out.moves h2 h3⟩
  have H5 : Hid (OT xs 0 (rc xs 0 1048576 2).2.2 (rc xs 0 1048576 2).2.1 0 ByteArray.empty []) := by
    refine ⟨by omega, by simp, ?_⟩
    rcases Decidable.em ((rc xs 0 1048576 2).2.2 = 0) with q | q
    · exact .inl ⟨q, q, rfl⟩
    · exact .inr ⟨q, by unfold ofin; rw [if_pos q]⟩
  have HE0 : Hid ((rc xs 0 1048576 2).2.2 ≠ 0 → n = 0) := HN.out.2.2
  generalize (rc xs 0 1048576 2).2.2 = ec at HCN H5 HE0
  generalize (rc xs 0 1048576 2).2.1 = pc at HCN H5
  clear hn hrc hnI H0
  have hn2 : n ≤ 1048576 := HN.out.2.1
  go_enter Try.func38, Try.ntmps38
  go_wp2_with fail
  rw [← hg]
  clear hg
  refine (Calls.mono HCN.out ?_)
  rintro r w2 ⟨rfl, h2⟩
  have H4 : Hid (XO w w2 g (.slice none 0 0) a len cap xs ec pc 0 []) := h2
  clear h2 HCN
  go_wp2
  go_loopw [6, 7, 8, 9] (fun lv ah t i wr => ∃ (k p T : Nat) (e : Int) (S : ByteArray) (L : List ByteArray) (v : Value), k ≤ n ∧ lv = v ∧ i = .int .i64 k ∧ ah = .string S ∧ t = .int .i64 (T : Int) ∧ Hid (XO w wr g v a len cap xs e p k L ∧ OT xs k e p T S L ∧ (e ≠ 0 → k = n) ∧ (k = 0 → S = ByteArray.empty))) (fun _ _ _ i _ => n - (intOf i).toNat)
  case atStart => exact ⟨0, pc, 0, ec, ByteArray.empty, [], _, Nat.zero_le _, rfl, rfl, rfl, rfl, H4.out, H5.out, fun q => (HE0.out q).symm, fun _ => rfl⟩
  case round =>
    obtain ⟨k, P, T, e, S, L, v, hk, hlv, rfl, rfl, rfl, hr⟩ := hrel
    obtain rfl := hlv.symm
    clear H4 H5
    have hT : (T : Int) ≤ 268435456 := by have := hr.out.2.1.1; omega
    have HSS : Hid (S.size ≤ 65536) := hr.out.2.1.2.1
    by_cases hlt : k < n
    · have hi1 : (k : Int) < n := by omega
      obtain rfl : e = 0 := by
        rcases Decidable.em (e = 0) with q | q
        · exact q
        · have := hr.out.2.2.1 q; omega
      have c2 : wr.cell? ⟨g, 2, none⟩ = some (.int .i64 0) := hr.out.1.1.rdr.c2
      obtain ⟨V, hV⟩ : ∃ V, V = ov xs P := ⟨_, rfl⟩
      obtain ⟨E1, hE1⟩ : ∃ E, E = (ri xs P 65536).2.2 := ⟨_, rfl⟩
      obtain ⟨P1, hP1⟩ : ∃ P1, P1 = (ri xs P 65536).2.1 := ⟨_, rfl⟩
      obtain ⟨t, ht⟩ : ∃ t, t = ot xs P := ⟨_, rfl⟩
      obtain ⟨E2, hE2⟩ : ∃ E, E = (rt xs (ri xs P 65536).2.1 65536).2.2 := ⟨_, rfl⟩
      obtain ⟨P2, hP2⟩ : ∃ P2, P2 = oq xs P := ⟨_, rfl⟩
      have hri := ri_bd HS.out.1 P (by rw [HS.out.2.1]; exact hr.out.1.1.le) 65536
      have hrt := rt_bd HS.out.1 (ri xs P 65536).2.1 hri.2.2.2.1 65536
      have hVI : (ri xs P 65536).1 = (V : Int) := by rw [hV]; unfold ov; have := hri.1; omega
      have HIN : Hid (Calls Try.prog 43 #[.pointer (some ⟨g, 0, none⟩), .int .i64 65536] wr fun r w' => r = .returned (.int .i64 (V : Int)) ∧ XO w w' g v a len cap xs E1 P1 k L) := by
        have := hr.out.1.int 65536 (by omega)
        rw [hVI, ← hE1, ← hP1] at this
        exact this
      have HTX : Hid (∀ W, XO w W g v a len cap xs 0 P1 k L → Calls Try.prog 44 #[.pointer (some ⟨g, 0, none⟩), .int .i64 65536] W fun r w' => r = .returned (.string t) ∧ XO w w' g v a len cap xs E2 P2 k L) := fun W h => by
        have := h.text 65536 (by omega)
        rw [ht, hE2, hP2]
        rw [hP1] at this
        exact this
      have HOE : Hid (oe xs k ⟨P, S, T, L, 0⟩ = if E1 ≠ 0 then E1 else if S.size < V then 32 else if E2 ≠ 0 then E2 else if 65536 < V + t.size ∨ 268435456 < T + (V + t.size) then 31 else if lcs (S.extract V S.size) t ≠ 0 then 32 else if k ≠ 0 ∧ gtS t (S.extract V S.size) = false then 33 else 0) := by
        show oe _ _ _ = _
        rw [hE1, hV, hE2, ht]
        rfl
      have HB1 : Hid (V ≤ 65536 ∧ t.size ≤ 1048576 ∧ (E1 ≠ 0 → V = 0) ∧ (E2 ≠ 0 → t = ByteArray.empty)) := by
        refine ⟨by rcases hri.2.1 with q | q <;> omega, ?_, fun q => ?_, fun q => ?_⟩
        · have e : t.size = (rt xs (ri xs P 65536).2.1 65536).1.length := by rw [ht]; unfold ot; rw [strOfNums_size]
          have := rt_most HS.out.1 (ri xs P 65536).2.1 hri.2.2.2.1 65536 (by omega)
          have := HS.out.2.1
          have := HS.out.2.2
          omega
        · have := (hri.2.2.2.2 (by rw [← hE1]; exact q)).1
          omega
        · rw [ht]; unfold ot; rw [(hrt.2.2.2.1 (by rw [← hE2]; exact q)).1]; rfl
      have HNX : Hid (oe xs k ⟨P, S, T, L, 0⟩ = 0 → OT xs (k + 1) 0 P2 (T + (V + t.size)) (S.extract 0 V ++ t) (L ++ [S.extract 0 V ++ t]) ∨ 268435456 < T + (V + t.size) ∨ 65536 < (S.extract 0 V ++ t).size) := fun q => by
        rcases Nat.lt_or_ge 268435456 (T + (V + t.size)) with z | z
        · exact .inr (.inl z)
        rcases Nat.lt_or_ge 65536 (S.extract 0 V ++ t).size with z2 | z2
        · exact .inr (.inr z2)
        refine .inl ⟨z, z2, .inl ?_⟩
        rcases hr.out.2.1.2.2 with ⟨_, q1, q2⟩ | q1
        · have := ogo_next (xs := xs) (p0 := (rc xs 0 1048576 2).2.1) (k := k) (by rw [q2]) (by rw [q2]; exact q)
          rw [q2] at this
          refine ⟨rfl, q1, ?_⟩
          rw [this, hP2, ht, hV]
          rfl
        · exact absurd rfl q1.1
      have HKN : Hid (k < onum xs) := by show _ < _; rw [← HN.out.1]; exact hlt
      clear hri hrt hVI hV hE1 hP1 ht hE2 hP2
      by_cases h1 : E1 = 0
      · subst h1
        by_cases h2 : S.size < V
        · have HER : Hid (oans xs = 32) := (ans_err hr.out.2.1 HKN.out (E := 32) (by rw [HOE.out, if_neg (by simp), if_pos h2]) (by omega)).1
          have hd1 : ¬ (V : Int) ≤ (S.size : Int) := by omega
          clear h2
          go_wp2_with (first
            | (go_at_call 43; go_must (refine (Calls.mono HIN.out ?_)); rintro r w4 ⟨rfl, h4⟩; have G4 : Hid (XO w w4 g v a len cap xs 0 P1 k L) := h4; have d2 : w4.cell? ⟨g, 2, none⟩ = some (.int .i64 0) := h4.1.rdr.c2; clear h4)
            | ((fail_if_success (have z := G5)); go_at_call 52; go_must (refine (G4.out.fail 32).mono ?_); rintro r w5 ⟨rfl, h5⟩; have G5 : Hid (XO w w5 g v a len cap xs 32 P1 k L) := h5; have d5 : w5.cell? ⟨g, 2, none⟩ = some (.int .i64 32) := h5.1.rdr.c2; clear h5)
            | (have z := G5; clear z; go_at_call 44; go_must (refine (G5.out.text_no _ rfl).mono ?_); rintro r w6 ⟨rfl, h6⟩; obtain rfl := h6.symm; rw [str_nil])
            | (have z := G5; clear z; go_at_call 53; go_must (refine (G5.out.fin).mono ?_); rintro r w7 ⟨rfl, h7⟩; rw [rend_err rfl]; have G7 : Hid (Below g w w7) := h7.2.2.1; clear h7))
          go_ret2
          exact .inl ⟨by rw [HER.out]; omega, by rw [HER.out]; rfl, by rw [← HBW.out]; exact G7.out⟩
        · have hd1 : (V : Int) ≤ (S.size : Int) := by omega
          by_cases h3 : E2 = 0
          · subst h3
            have hw0 : (V : Int) + (t.size : Int) ≤ 1114112 := by have := HB1.out.1; have := HB1.out.2.1; omega
            have hw1 : (T : Int) + ((V : Int) + (t.size : Int)) ≤ 269549568 := by omega
            by_cases h4 : 65536 < V + t.size ∨ 268435456 < T + (V + t.size)
            · have HER : Hid (oans xs = 31) := (ans_err hr.out.2.1 HKN.out (E := 31) (by rw [HOE.out, if_neg (by simp), if_neg h2, if_neg (by simp), if_pos h4]) (by omega)).1
              by_cases hd2 : (V : Int) + (t.size : Int) ≤ 65536
              · have hd3 : ¬ (T : Int) + ((V : Int) + (t.size : Int)) ≤ 268435456 := by omega
                clear h4
                go_wp2_with (first
                  | (go_at_call 43; go_must (refine (Calls.mono HIN.out ?_)); rintro r w4 ⟨rfl, h4⟩; have G4 : Hid (XO w w4 g v a len cap xs 0 P1 k L) := h4; have d2 : w4.cell? ⟨g, 2, none⟩ = some (.int .i64 0) := h4.1.rdr.c2; clear h4)
                  | ((fail_if_success (have z := G5)); go_at_call 44; go_must (refine (HTX.out _ G4.out).mono ?_); rintro r w6 ⟨rfl, h6⟩; have G5 : Hid (XO w w6 g v a len cap xs 0 P2 k L) := h6; have d3 : w6.cell? ⟨g, 2, none⟩ = some (.int .i64 0) := h6.1.rdr.c2; clear h6)
                  | ((fail_if_success (have z := G6)); go_at_call 52; go_must (refine (G5.out.fail 31).mono ?_); rintro r w5 ⟨rfl, h5⟩; have G6 : Hid (XO w w5 g v a len cap xs 31 P2 k L) := h5; have d5 : w5.cell? ⟨g, 2, none⟩ = some (.int .i64 31) := h5.1.rdr.c2; clear h5)
                  | (have z := G6; clear z; go_at_call 53; go_must (refine (G6.out.fin).mono ?_); rintro r w7 ⟨rfl, h7⟩; rw [rend_err rfl]; have G7 : Hid (Below g w w7) := h7.2.2.1; clear h7))
                go_ret2
                exact .inl ⟨by rw [HER.out]; omega, by rw [HER.out]; rfl, by rw [← HBW.out]; exact G7.out⟩
              · clear h4
                go_wp2_with (first
                  | (go_at_call 43; go_must (refine (Calls.mono HIN.out ?_)); rintro r w4 ⟨rfl, h4⟩; have G4 : Hid (XO w w4 g v a len cap xs 0 P1 k L) := h4; have d2 : w4.cell? ⟨g, 2, none⟩ = some (.int .i64 0) := h4.1.rdr.c2; clear h4)
                  | ((fail_if_success (have z := G5)); go_at_call 44; go_must (refine (HTX.out _ G4.out).mono ?_); rintro r w6 ⟨rfl, h6⟩; have G5 : Hid (XO w w6 g v a len cap xs 0 P2 k L) := h6; have d3 : w6.cell? ⟨g, 2, none⟩ = some (.int .i64 0) := h6.1.rdr.c2; clear h6)
                  | ((fail_if_success (have z := G6)); go_at_call 52; go_must (refine (G5.out.fail 31).mono ?_); rintro r w5 ⟨rfl, h5⟩; have G6 : Hid (XO w w5 g v a len cap xs 31 P2 k L) := h5; have d5 : w5.cell? ⟨g, 2, none⟩ = some (.int .i64 31) := h5.1.rdr.c2; clear h5)
                  | (have z := G6; clear z; go_at_call 53; go_must (refine (G6.out.fin).mono ?_); rintro r w7 ⟨rfl, h7⟩; rw [rend_err rfl]; have G7 : Hid (Below g w w7) := h7.2.2.1; clear h7))
                go_ret2
                exact .inl ⟨by rw [HER.out]; omega, by rw [HER.out]; rfl, by rw [← HBW.out]; exact G7.out⟩
            · have hd2 : (V : Int) + (t.size : Int) ≤ 65536 := by omega
              have hd3 : (T : Int) + ((V : Int) + (t.size : Int)) ≤ 268435456 := by omega
              have hV0 : (0 : Int) ≤ (V : Int) := by omega
              have HNS : Hid ((S.extract 0 V ++ t).size ≤ 65536 ∧ (S.extract 0 V ++ t).size = V + t.size) := by
                have e : (S.extract 0 V ++ t).size = V + t.size := by simp; omega
                exact ⟨by rw [e]; omega, e⟩
              obtain ⟨M, hM⟩ : ∃ M, M = lcs (S.extract V S.size) t := ⟨_, rfl⟩
              have HSH : Hid (∀ W, Calls Try.prog 75 #[.string S, .string (S.extract 0 V ++ t)] W fun r w' => r = .returned (.int .i64 ((V : Int) + (M : Int))) ∧ ∃ n, w' = W.drewN n) := fun W => by
                have e := lcs_new S t V (by omega)
                rw [← hM] at e
                have z := xshared_c S (S.extract 0 V ++ t) (by have := HSS.out; omega) (by have := HNS.out.1; omega) W
                rw [e] at z
                simpa using z
              have HOE2 : Hid (oe xs k ⟨P, S, T, L, 0⟩ = if M ≠ 0 then 32 else if k ≠ 0 ∧ gtS t (S.extract V S.size) = false then 33 else 0) := by
                show _ = _
                rw [HOE.out, if_neg (by simp), if_neg h2, if_neg (by simp), if_neg h4, hM]
              have HGT : Hid (gtS (S.extract 0 V ++ t) S = gtS t (S.extract V S.size)) := gt_new S t V (by omega)
              have HM0 : Hid (k = 0 → M = 0) := fun q => by
                have := hr.out.2.2.2 q
                rw [hM, this]
                have e : (ByteArray.empty).extract V (ByteArray.empty).size = ByteArray.empty := by
                  apply ByteArray.ext
                  simp
                rw [e]
                exact lcs_none t
              have HMB : Hid (M ≤ t.size) := by
                show M ≤ _
                rw [hM]
                unfold lcs
                have := (lc_le (S.extract V S.size).data.toList t.data.toList).2
                simpa using this
              clear h4 HOE hM
              by_cases hk0 : k = 0
              · have hkz : ¬ (0 : Int) < (k : Int) := by omega
                have HOK : Hid (oe xs k ⟨P, S, T, L, 0⟩ = 0) := by show _ = _; rw [HOE2.out, if_neg (by rw [HM0.out hk0]; simp), if_neg (by simp [hk0])]
                have G11 : Hid (OT xs (k + 1) 0 P2 (T + (V + t.size)) (S.extract 0 V ++ t) (L ++ [S.extract 0 V ++ t])) := by
                  have z := HNS.out
                  rcases HNX.out HOK.out with q | q | q
                  · exact q
                  · omega
                  · rw [z.2] at q; omega
                clear hk0
                go_wp2_with (first
                  | (go_at_call 43; go_must (refine (Calls.mono HIN.out ?_)); rintro r w4 ⟨rfl, h4⟩; have G4 : Hid (XO w w4 g v a len cap xs 0 P1 k L) := h4; have d2 : w4.cell? ⟨g, 2, none⟩ = some (.int .i64 0) := h4.1.rdr.c2; clear h4)
                  | ((fail_if_success (have z := G5)); go_at_call 44; go_must (refine (HTX.out _ G4.out).mono ?_); rintro r w6 ⟨rfl, h6⟩; have G5 : Hid (XO w w6 g v a len cap xs 0 P2 k L) := h6; have d3 : w6.cell? ⟨g, 2, none⟩ = some (.int .i64 0) := h6.1.rdr.c2; clear h6)
                  | (at_builtin; go_must (refine wpList_catS rfl (.tmp 95) (.tmp 97) rfl (g + 1) k v L rfl (G5.out.new (World.grownBy_alloc w6 _ none)).2.1 (some ⟨w6.heap.size, 0, none⟩) 1 1 [S.extract 0 V ++ t] rfl (fun h => by cases h) (one_strS w6 _) (by omega) (by have := G5.out.2.2.2.2; simp; omega) ?_); intro v9 w9 h1 h2; have G9 : Hid (XO w w9 g v9 a len cap xs 0 P2 (k + 1) (L ++ [S.extract 0 V ++ t])) := (G5.out.new (World.grownBy_alloc w6 _ none)).put h1 h2; clear h1 h2))
                go_roundw
                case rel => exact ⟨k + 1, P2, T + (V + t.size), 0, S.extract 0 V ++ t, _, v9, by omega, rfl, by go_num, rfl, by go_num, G9.out, G11.out, fun q => absurd rfl q, fun q => by omega⟩
                case measure => simp [intOf]; omega
              · have hkz : (0 : Int) < (k : Int) := by omega
                have hM9 : (M : Int) ≤ 1048576 := by have := HMB.out; have := HB1.out.2.1; omega
                by_cases h5 : M = 0
                · subst h5
                  obtain ⟨b1, hb1⟩ : ∃ b1, Op.bytesLess (S.extract 0 V ++ t).toList S.toList = b1 := ⟨_, rfl⟩
                  obtain ⟨b2, hb2⟩ : ∃ b2, ((S.extract 0 V ++ t).toList == S.toList) = b2 := ⟨_, rfl⟩
                  have HG2 : Hid (gtS t (S.extract V S.size) = !(b1 || b2)) := by rw [← HGT.out]; unfold gtS; rw [hb1, hb2]; rfl
                  have hle := run_le hb1 hb2 rfl
                  have hvv : ¬ (V : Int) < (V : Int) + ((0 : Nat) : Int) := by omega
                  clear hb1 hb2
                  cases h6 : (b1 || b2) with
                  | true =>
                    have HER : Hid (oans xs = 33) := (ans_err hr.out.2.1 HKN.out (E := 33) (by rw [HOE2.out, if_neg (by simp), if_pos ⟨hk0, by rw [HG2.out, h6]; rfl⟩]) (by omega)).1
                    rw [h6] at hle
                    clear h6 HG2 hk0
                    go_wp2_with (first
                      | (go_at_call 43; go_must (refine (Calls.mono HIN.out ?_)); rintro r w4 ⟨rfl, h4⟩; have G4 : Hid (XO w w4 g v a len cap xs 0 P1 k L) := h4; have d2 : w4.cell? ⟨g, 2, none⟩ = some (.int .i64 0) := h4.1.rdr.c2; clear h4)
                      | ((fail_if_success (have z := G5)); go_at_call 44; go_must (refine (HTX.out _ G4.out).mono ?_); rintro r w6 ⟨rfl, h6⟩; have G5 : Hid (XO w w6 g v a len cap xs 0 P2 k L) := h6; have d3 : w6.cell? ⟨g, 2, none⟩ = some (.int .i64 0) := h6.1.rdr.c2; clear h6)
                      | (go_at_call 75; go_must (refine (Calls.mono (HSH.out _) ?_)); rintro r w8 ⟨rfl, m8, h8⟩; have G8 : Hid (XO w w8 g v a len cap xs 0 P2 k L) := (by rw [h8]; exact G5.out.drewN m8); clear h8)
                      | ((fail_if_success (have z := G6)); go_at_call 52; go_must (refine (G8.out.fail 33).mono ?_); rintro r w5 ⟨rfl, h5⟩; have G6 : Hid (XO w w5 g v a len cap xs 33 P2 k L) := h5; clear h5)
                      | (have z := G6; clear z; go_at_call 53; go_must (refine (G6.out.fin).mono ?_); rintro r w7 ⟨rfl, h7⟩; rw [rend_err rfl]; have G7 : Hid (Below g w w7) := h7.2.2.1; clear h7))
                    go_ret2
                    exact .inl ⟨by rw [HER.out]; omega, by rw [HER.out]; rfl, by rw [← HBW.out]; exact G7.out⟩
                  | false =>
                    have HOK : Hid (oe xs k ⟨P, S, T, L, 0⟩ = 0) := by show _ = _; rw [HOE2.out, if_neg (by simp), if_neg (by rw [HG2.out, h6]; simp)]
                    rw [h6] at hle
                    have G11 : Hid (OT xs (k + 1) 0 P2 (T + (V + t.size)) (S.extract 0 V ++ t) (L ++ [S.extract 0 V ++ t])) := by
                      have z := HNS.out
                      rcases HNX.out HOK.out with q | q | q
                      · exact q
                      · omega
                      · rw [z.2] at q; omega
                    clear h6 HG2 hk0
                    go_wp2_with (first
                      | (go_at_call 43; go_must (refine (Calls.mono HIN.out ?_)); rintro r w4 ⟨rfl, h4⟩; have G4 : Hid (XO w w4 g v a len cap xs 0 P1 k L) := h4; have d2 : w4.cell? ⟨g, 2, none⟩ = some (.int .i64 0) := h4.1.rdr.c2; clear h4)
                      | ((fail_if_success (have z := G5)); go_at_call 44; go_must (refine (HTX.out _ G4.out).mono ?_); rintro r w6 ⟨rfl, h6⟩; have G5 : Hid (XO w w6 g v a len cap xs 0 P2 k L) := h6; have d3 : w6.cell? ⟨g, 2, none⟩ = some (.int .i64 0) := h6.1.rdr.c2; clear h6)
                      | (go_at_call 75; go_must (refine (Calls.mono (HSH.out _) ?_)); rintro r w8 ⟨rfl, m8, h8⟩; have G8 : Hid (XO w w8 g v a len cap xs 0 P2 k L) := (by rw [h8]; exact G5.out.drewN m8); clear h8)
                      | (at_builtin; go_must (refine wpList_catS rfl (.tmp 95) (.tmp 97) rfl (g + 1) k v L rfl (G8.out.new (World.grownBy_alloc w8 _ none)).2.1 (some ⟨w8.heap.size, 0, none⟩) 1 1 [S.extract 0 V ++ t] rfl (fun h => by cases h) (one_strS w8 _) (by omega) (by have := G8.out.2.2.2.2; simp; omega) ?_); intro v9 w9 h1 h2; have G9 : Hid (XO w w9 g v9 a len cap xs 0 P2 (k + 1) (L ++ [S.extract 0 V ++ t])) := (G8.out.new (World.grownBy_alloc w8 _ none)).put h1 h2; clear h1 h2))
                    go_roundw
                    case rel => exact ⟨k + 1, P2, T + (V + t.size), 0, S.extract 0 V ++ t, _, v9, by omega, rfl, by go_num, rfl, by go_num, G9.out, G11.out, fun q => absurd rfl q, fun q => by omega⟩
                    case measure => simp [intOf]; omega
                · have HER : Hid (oans xs = 32) := (ans_err hr.out.2.1 HKN.out (E := 32) (by rw [HOE2.out, if_pos h5]) (by omega)).1
                  have hvv : (V : Int) < (V : Int) + (M : Int) := by omega
                  clear h5 hk0
                  go_wp2_with (first
                    | (go_at_call 43; go_must (refine (Calls.mono HIN.out ?_)); rintro r w4 ⟨rfl, h4⟩; have G4 : Hid (XO w w4 g v a len cap xs 0 P1 k L) := h4; have d2 : w4.cell? ⟨g, 2, none⟩ = some (.int .i64 0) := h4.1.rdr.c2; clear h4)
                    | ((fail_if_success (have z := G5)); go_at_call 44; go_must (refine (HTX.out _ G4.out).mono ?_); rintro r w6 ⟨rfl, h6⟩; have G5 : Hid (XO w w6 g v a len cap xs 0 P2 k L) := h6; have d3 : w6.cell? ⟨g, 2, none⟩ = some (.int .i64 0) := h6.1.rdr.c2; clear h6)
                    | (go_at_call 75; go_must (refine (Calls.mono (HSH.out _) ?_)); rintro r w8 ⟨rfl, m8, h8⟩; have G8 : Hid (XO w w8 g v a len cap xs 0 P2 k L) := (by rw [h8]; exact G5.out.drewN m8); clear h8)
                    | ((fail_if_success (have z := G6)); go_at_call 52; go_must (refine (G8.out.fail 32).mono ?_); rintro r w5 ⟨rfl, h5⟩; have G6 : Hid (XO w w5 g v a len cap xs 32 P2 k L) := h5; clear h5)
                    | (have z := G6; clear z; go_at_call 53; go_must (refine (G6.out.fin).mono ?_); rintro r w7 ⟨rfl, h7⟩; rw [rend_err rfl]; have G7 : Hid (Below g w w7) := h7.2.2.1; clear h7))
                  go_ret2
                  exact .inl ⟨by rw [HER.out]; omega, by rw [HER.out]; rfl, by rw [← HBW.out]; exact G7.out⟩
          · have hE2 : (E2 == 0) = false := by simpa using h3
            have hE2n : (E2 != 0) = true := by simp [h3]
            have HER : Hid (oans xs = E2 ∧ E2 ≠ 0) := ⟨(ans_err hr.out.2.1 HKN.out (E := E2) (by rw [HOE.out, if_neg (by simp), if_neg h2, if_pos h3]) h3).1, h3⟩
            clear h3 HOE HNX
            go_wp2_with (first
              | (go_at_call 43; go_must (refine (Calls.mono HIN.out ?_)); rintro r w4 ⟨rfl, h4⟩; have G4 : Hid (XO w w4 g v a len cap xs 0 P1 k L) := h4; have d2 : w4.cell? ⟨g, 2, none⟩ = some (.int .i64 0) := h4.1.rdr.c2; clear h4)
              | ((fail_if_success (have z := G5)); go_at_call 44; go_must (refine (HTX.out _ G4.out).mono ?_); rintro r w6 ⟨rfl, h6⟩; have G5 : Hid (XO w w6 g v a len cap xs E2 P2 k L) := h6; have d3 : w6.cell? ⟨g, 2, none⟩ = some (.int .i64 E2) := h6.1.rdr.c2; clear h6)
              | (have z := G5; clear z; go_at_call 53; go_must (refine (G5.out.fin).mono ?_); rintro r w7 ⟨rfl, h7⟩; rw [rend_err hE2]; have G7 : Hid (Below g w w7) := h7.2.2.1; clear h7))
            go_ret2
            exact .inl ⟨by rw [HER.out.1]; exact HER.out.2, by rw [HER.out.1]; rfl, by rw [← HBW.out]; exact G7.out⟩
      · have hE1 : (E1 == 0) = false := by simpa using h1
        have hE1n : (E1 != 0) = true := by simp [h1]
        have HER : Hid (oans xs = E1 ∧ E1 ≠ 0) := ⟨(ans_err hr.out.2.1 HKN.out (E := E1) (by rw [HOE.out, if_pos h1]) h1).1, h1⟩
        clear h1 HOE HNX
        go_wp2_with (first
          | (go_at_call 43; go_must (refine (Calls.mono HIN.out ?_)); rintro r w4 ⟨rfl, h4⟩; have G4 : Hid (XO w w4 g v a len cap xs E1 P1 k L) := h4; have d2 : w4.cell? ⟨g, 2, none⟩ = some (.int .i64 E1) := h4.1.rdr.c2; clear h4)
          | (have z := G4; clear z; go_at_call 44; go_must (refine (G4.out.text_no _ hE1).mono ?_); rintro r w6 ⟨rfl, h6⟩; obtain rfl := h6.symm; rw [str_nil])
          | (have z := G4; clear z; go_at_call 53; go_must (refine (G4.out.fin).mono ?_); rintro r w7 ⟨rfl, h7⟩; rw [rend_err hE1]; have G7 : Hid (Below g w w7) := h7.2.2.1; clear h7))
        go_ret2
        exact .inl ⟨by rw [HER.out.1]; exact HER.out.2, by rw [HER.out.1]; rfl, by rw [← HBW.out]; exact G7.out⟩
    · obtain rfl : k = n := by omega
      have hge : ¬ (k : Int) < k := by omega
      obtain ⟨R, hR⟩ : ∃ R, R = rend len e P := ⟨_, rfl⟩
      have HRR : Hid (oans xs = R ∧ R = rend len e P) := by
        refine ⟨?_, hR⟩
        rw [hR]
        rcases hr.out.2.1.2.2 with ⟨q0, q1, q2⟩ | ⟨q0, q1⟩
        · have HE : ofin xs = ⟨P, S, T, L, 0⟩ := by
            unfold ofin
            rw [if_neg (by simpa using q1), ← HN.out.1, q2]
          unfold oans
          rw [HE, HS.out.2.1, q0]
        · rw [oans_err (by rw [q1]; exact q0), q1, rend_err (by simpa using q0)]
      clear hR
      by_cases hr0 : R = 0
      · subst hr0
        go_wp2_with (first
          | (go_at_call 53; go_must (refine (hr.out.1.fin).mono ?_); rintro r w5 ⟨rfl, h5⟩; rw [← HRR.out.2]; have H6 : Hid (XO w w5 g v a len cap xs e P k L) := h5; clear h5))
        go_ret2
        refine .inr ⟨HRR.out.1, v, rfl, ?_, by rw [← HBW.out]; exact H6.out.2.2.1⟩
        rw [← HBW.out]
        rcases hr.out.2.1.2.2 with ⟨q0, q1, q2⟩ | ⟨q0, q1⟩
        · have HE : ofin xs = ⟨P, S, T, L, 0⟩ := by
            unfold ofin
            rw [if_neg (by simpa using q1), ← HN.out.1, q2]
          rw [HE]
          have z := H6.out.2.1
          have hl : L.length = k := by have := z.1; simpa using this
          show SOwn (g + 1) w5 v L.length L
          rw [hl]
          exact z
        · have z := HRR.out
          rw [rend_err (by simpa using q0)] at z
          exact absurd z.2.symm q0
      · have hrn : (R != 0) = true := by simp [hr0]
        have HR0 : Hid (R ≠ 0) := hr0
        clear hr0
        go_wp2_with (first
          | (go_at_call 53; go_must (refine (hr.out.1.fin).mono ?_); rintro r w5 ⟨rfl, h5⟩; rw [← HRR.out.2]; have H6 : Hid (Below g w w5) := h5.2.2.1; clear h5))
        go_ret2
        exact .inl ⟨by rw [HRR.out.1]; exact HR0.out, by rw [HRR.out.1]; rfl, by rw [← HBW.out]; exact H6.out⟩
end Go.Proofs.Ytfnfkcafjfhnlaa

/-
  What delta's Split answers of bytes: the updates at their front, and where these end. Condition: at most 2^37 bytes.
-/
import Derived.Test.YtfbbaodhlniiiaaDSk
import Derived.Test.YtfbbaodhlniiiaaWSb
namespace Go.Proofs.Ytfbbaodhlniiiaa.Dl
open Go.RowKit
set_option linter.unusedVariables false

theorem UOwn.low {B C : Nat} {w : World} {v : Value} {X : List Upd} (h : UOwn B w v X) (hb : C ≤ B) : UOwn C w v X := by
  refine ⟨h.1, ?_⟩
  rcases h.2 with q | ⟨g, cap, cur, q1, q2, q3⟩
  · exact .inl q
  · exact .inr ⟨g, cap, cur, q1, Nat.le_trans hb q2, q3⟩
/-- A reader, and updates of one's own behind it. -/
structure SI (B D : Nat) (w W : World) (g : Nat) (a : Option Addr) (len cap : Nat) (xs : List Int) (e : Int) (p : Nat) (v : Value) (L : List Upd) : Prop where
  rs : RS W g a len cap xs e p
  own : UOwn D W v L
  bel : Below B w W
  hi : D ≤ W.heap.size
  lt : g < D
  ge : B ≤ g
  off : ∀ b o s, a = some ⟨b, o, s⟩ → b < D
theorem SI.moves {B D w W W' g a len cap xs e p e' p' v L} (h : SI B D w W g a len cap xs e p v L) (hr : RS W' g a len cap xs e' p') (hg : W.grownBy W' (some g)) : SI B D w W' g a len cap xs e' p' v L :=
  ⟨hr, h.own.gb hg (fun k hk => by cases hk; exact h.lt), h.bel.trans ((Below.refl B W).grown hg (by have := h.hi; have := h.lt; have := h.ge; omega) (fun k hk => by cases hk; exact h.ge)), Nat.le_trans h.hi hg.size, h.lt, h.ge, h.off⟩
theorem SI.new {B D w W W' g a len cap xs e p v L} (h : SI B D w W g a len cap xs e p v L) (hg : W.grownBy W' none) : SI B D w W' g a len cap xs e p v L := h.moves (h.rs.new hg) (gb_wide hg _)
theorem SI.app {B D w W W' g a len cap xs e p v v' L L'} (h : SI B D w W g a len cap xs e p v L) (ho : UOwn D W' v' L') (hg : W.grownBy W' v.ownBlock) : SI B D w W' g a len cap xs e p v' L' := by
  have hlo := h.own.lo
  have hB : B ≤ W.heap.size := by have := h.hi; have := h.lt; have := h.ge; omega
  refine ⟨h.rs.other hg (fun q => by have := hlo _ q; have := h.lt; omega) (fun k hk b o s q e => by subst e; have := hlo _ hk; have := h.off _ _ _ q; omega), ho, h.bel.trans ((Below.refl B W).grown hg hB (fun k hk => by have := hlo k hk; have := h.lt; have := h.ge; omega)), Nat.le_trans h.hi hg.size, h.lt, h.ge, h.off⟩
theorem seg_takeQ {w : World} {a : Option Addr} {len : Nat} {xs : List Int} (h : Seg .u8 w a len xs) (n : Nat) (hn : n ≤ len) : Seg .u8 w a n (xs.take n) := by
  refine ⟨by simp [h.1]; omega, ?_⟩
  rcases h.2 with h0 | ⟨b, off, ha, hw, hc⟩
  · exact .inl (by omega)
  · exact .inr ⟨b, off, ha, hw, fun i hi => by rw [hc i (by omega), List.getElem?_take_of_lt hi]⟩
theorem own_keepQ {B : Nat} {w w' : World} {v : Value} {n : Nat} {xs : List Int} (h : Own B w v n xs) (hg : w.grownBy w' none) : Own B w' v n xs := by
  refine ⟨h.1, ?_⟩
  rcases h.2 with q | ⟨g, cap, cur, q1, q2, q3, q4⟩
  · exact .inl q
  · exact .inr ⟨g, cap, cur, q1, q2, (hg.block g (lt_of_block q3) (by simp)).trans q3, q4⟩
theorem own_below {B : Nat} {w w' : World} {v : Value} {n : Nat} {xs : List Int} (h : Own B w v n xs) (hg : Below w.heap.size w w') : Own B w' v n xs := own_keepQ h (below_gb hg)
theorem flat_len : ∀ L : List Upd, L.length ≤ (L.flatMap one).length
  | [] => Nat.zero_le _
  | u :: L => by
    rw [List.flatMap_cons, List.length_append, List.length_cons]
    have := flat_len L
    have := one_pos u
    omega
theorem SplitIs.few {xs : List Int} {L : List Upd} {p : Nat} (h : SplitIs xs L p) : L.length ≤ p := by
  rw [h.len]
  exact flat_len L
/-- The stream of what Split took. -/
theorem stream_of (a : Option Addr) (cap : Nat) (xs : List Int) (L : List Upd) (p : Nat) (w : World) (h : SplitIs xs L p) (hu : Upds w a L.length L) (hn : L.length ≤ 1073741824) :
    Calls Try.prog 9 #[.slice a L.length cap] w fun r w' => ∃ va vc, r = .returned (.tuple #[.slice va p vc, .int .i64 0]) ∧ Own w.heap.size w' (.slice va p vc) p (xs.take p) ∧ w.grownBy w' none := by
  have e1 : stE L L.length = 0 := stE_full L h.ok _ (Nat.le_refl _)
  have e2 : stZ L L.length = xs.take p := by rw [stZ_full L h.ok, h.pre]
  have e3 : (stZ L L.length).length = p := by rw [e2, List.length_take]; have := h.le; omega
  have k := stream_c a L.length cap L w hu hn
  rw [e1, e3, e2] at k
  exact k.mono fun r w' ⟨va, vc, k1, k2, k3⟩ => ⟨va, vc, k1, k2, below_gb k3⟩
theorem slice_hd (a : Option Addr) (len cap h : Nat) (hc : h ≤ cap) (W : World) : (Instr.slice 28 (.slice a len cap) none (some (.int .i64 (h : Int))) none).run Try.prog W = .ok (.slice a h cap) W := by
  obtain ⟨i0, hi, hz0, hz1, hz2⟩ := info_parts Try.infoU8
  have hel : Try.prog.elem 28 = 5 := by simp [Program.elem]
  rw [run_slice_h W 28 a len cap (by rw [hel]; exact Try.underlying28) .i64 h (by omega) (by omega)]
  rw [hel]
  have ea : ∀ (a : Option Addr), Option.map (fun x => x.add 0) a = a := fun a => by cases a <;> simp [Addr.add]
  simp [sizeOf, typeInfo, hi, sliced, hz1, ea]
set_option maxRecDepth 20000 in
set_option maxHeartbeats 2000000 in
theorem split_c (a : Option Addr) (len cap : Nat) (xs : List Int) (w : World) (h : Seg .u8 w a len xs) (hx : Bytes xs) (hl : len ≤ 137438953472) (hnz : a = none → cap = 0) :
    Calls Try.prog 14 #[.slice a len cap] w fun r w' => ∃ v L p, r = .returned (.tuple #[v, .int .i64 ((p : Nat) : Int)]) ∧ SplitIs xs L p ∧ UOwn w.heap.size w' v L ∧ Below w.heap.size w w' := by
  have hlen : xs.length = len := h.1
  have HS : Hid (Calls Try.prog 38 #[.slice a len cap] w fun r w' => ∃ g a' cap', r = .returned (.pointer (some ⟨g, 0, none⟩)) ∧ RS w' g a' len cap' xs 0 0 ∧ w.heap.size ≤ g ∧ (∀ b o s, a' = some ⟨b, o, s⟩ → w.heap.size ≤ b ∧ b < w'.heap.size) ∧ w.grownBy w' none) := new_c2 a len cap xs w h hx (by omega) hnz
  obtain ⟨B, hB⟩ : ∃ B, B = w.heap.size := ⟨_, rfl⟩
  have HBW : Hid (B = w.heap.size ∧ Bytes xs ∧ xs.length = len ∧ len ≤ 137438953472) := ⟨hB, hx, hlen, hl⟩
  clear h hx hnz hlen
  go_enter Try.func14, Try.ntmps14
  rw [← hB]
  clear hB
  go_wp2_with fail
  refine (Calls.mono HS.out ?_)
  rintro r w2 ⟨g, a', cap', rfl, h1, h2, h3, h4⟩
  obtain ⟨D, hD⟩ : ∃ D, D = w2.heap.size := ⟨_, rfl⟩
  have H0 : Hid (SI B D w w2 g a' len cap' xs 0 0 (.slice none 0 0) []) := ⟨h1, uown_nil _ _, by rw [HBW.out.1]; exact gb_below h4, by omega, by rw [hD]; exact lt_of_block h1.rdr, by have := HBW.out.1; omega, fun b o s q => by rw [hD]; exact (h3 b o s q).2⟩
  clear h1 h2 h3 h4 hD
  go_wp2_with fail
  go_loopw [4, 5] (fun v i wr => ∃ (p : Nat) (bv : Value) (L : List Upd), v = bv ∧ i = .int .i64 (p : Int) ∧ Hid (SI B D w wr g a' len cap' xs 0 p bv L ∧ xs.take p = L.flatMap one ∧ (∀ u ∈ L, Upd.err u = 0) ∧ L.length ≤ p)) (fun _ i _ => len - (intOf i).toNat)
  case atStart => exact ⟨0, _, [], rfl, rfl, H0.out, by simp, by simp, by simp⟩
  case round =>
    obtain ⟨p, bv, L, hbv, rfl, hr⟩ := hrel
    obtain rfl := hbv.symm
    clear H0
    have hple : p ≤ len := hr.out.1.rs.le
    obtain ⟨d, hd⟩ : ∃ d, d = len - p := ⟨_, rfl⟩
    have HLE : Hid (∀ W bv L, SI B D w W g a' len cap' xs 0 p bv L → Calls Try.prog 39 #[.pointer (some ⟨g, 0, none⟩)] W fun r w' => r = .returned (.int .i64 (d : Int)) ∧ SI B D w w' g a' len cap' xs 0 p bv L) := fun W bv L hs => by
      rw [hd]
      exact (left_r g a' len cap' xs 0 p W hs.rs).mono fun r w' ⟨k1, k2, k3⟩ => ⟨k1, hs.moves k2 k3⟩
    by_cases hlt : p < len
    · have hd0 : (0 : Int) < (d : Int) := by omega
      obtain ⟨T, hT⟩ : ∃ T, T = (rt xs p (len : Int)).1 := ⟨_, rfl⟩
      have hbd := rt_bd HBW.out.2.1 p (by rw [HBW.out.2.2.1]; exact hple) (len : Int)
      have hTL : T.length ≤ 137438953472 := by rw [hT]; have := hbd.2.2.1; have := HBW.out.2.2; omega
      have hTB : Bytes T := by rw [hT]; exact hbd.2.2.2.2
      obtain ⟨S, hS⟩ : ∃ S, S = strOfNums T := ⟨_, rfl⟩
      obtain ⟨z, hz⟩ : ∃ z, z = T.length := ⟨_, rfl⟩
      have HSS : Hid (S.size = z ∧ sb S = T ∧ z ≤ 137438953472) := ⟨by rw [hS, size_strOfNums, hz], by rw [hS]; exact sb_strOfNums _ hTB, by omega⟩
      cases hdk : dok T with
      | true =>
        obtain ⟨s1, s2, s3, s4, s5⟩ := sp_go HBW.out.2.1 (by rw [HBW.out.2.2.1]; exact hple) (by rw [← hT]; exact hdk)
        obtain ⟨q, hq⟩ : ∃ q, q = (rt xs p (len : Int)).2.1 := ⟨_, rfl⟩
        obtain ⟨u, hu⟩ : ∃ u, u = dupd T := ⟨_, rfl⟩
        rw [← hT, ← hu] at s4 s5
        rw [← hq] at s2 s3 s5
        have HG : Hid (q ≤ len ∧ p < q ∧ u.err = 0 ∧ xs.take q = (L ++ [u]).flatMap one) := ⟨by rw [← HBW.out.2.2.1]; exact s2, s3, s4, by rw [s5, hr.out.2.1, List.flatMap_append]; simp⟩
        have HT1 : Hid (∀ W bv L, SI B D w W g a' len cap' xs 0 p bv L → Calls Try.prog 40 #[.pointer (some ⟨g, 0, none⟩), .int .i64 (len : Int)] W fun r w' => r = .returned (.string S) ∧ SI B D w w' g a' len cap' xs 0 q bv L) := fun W bv L hs => by
          have k := text_ok g a' len cap' xs p (len : Int) W hs.rs (by omega)
          rw [← hT, s1, ← hq, ← hS] at k
          exact k.mono fun r w' ⟨k1, k2, k3⟩ => ⟨k1, hs.moves k2 k3⟩
        obtain ⟨q1, c1, m1, kd, key, val, ver⟩ := u
        have HDE : Hid (∀ W C b, Seg .u8 W (some ⟨b, 0, none⟩) z T → Calls Try.prog 30 #[.slice (some ⟨b, 0, none⟩) z C] W fun r w' => r = .returned (.tuple #[.agg #[.int .i64 q1, .int .i64 c1, .int .i64 m1, .int .i64 kd, .string key, .string val, .int .i64 ver], .int .i64 0]) ∧ W.grownBy w' none) := fun W C b hs => by
          have k := decode_c (some ⟨b, 0, none⟩) z C T W hs hTB (by omega) (fun e => by cases e)
          rw [show dres T = #[.int .i64 q1, .int .i64 c1, .int .i64 m1, .int .i64 kd, .string key, .string val, .int .i64 ver] from by unfold dres; rw [if_pos hdk, ← hu]; rfl, show derr T = 0 from by unfold derr; rw [if_pos hdk]] at k
          exact k.mono fun r w' ⟨k1, k2⟩ => ⟨k1, below_gb k2⟩
        have hLn : L.length ≤ 137438953472 := by have := hr.out.2.2.2; omega
        have HL : Hid (L.length ≤ p) := hr.out.2.2.2
        have HOK : Hid (∀ u ∈ L, Upd.err u = 0) := hr.out.2.2.1
        have HR1 : Hid (SI B D w wr g a' len cap' xs 0 p bv L) := hr.out.1
        clear hr hT hbd hTB hS hz hdk s1 s2 s3 s4 s5 hq hu hd hTL
        go_wp2_with (first
          | (go_at_call 39; go_must (refine (Calls.mono (HLE.out _ _ _ HR1.out) ?_)); rintro r w3 ⟨rfl, h3⟩; have H3 : Hid (SI B D w w3 g a' len cap' xs 0 p bv L) := h3; clear h3)
          | (have z := H3; clear z; go_at_call 40; go_must (refine (Calls.mono (HT1.out _ _ _ H3.out) ?_)); rintro r w4 ⟨rfl, h4⟩; obtain ⟨W5, C, hcv, hM5, hB5⟩ := str_bytes S w4 (by have := HSS.out; omega); rw [HSS.out.1] at hcv hM5; rw [HSS.out.2.1] at hM5; have H5 : Hid (SI B D w W5 g a' len cap' xs 0 q bv L ∧ Seg .u8 W5 (some ⟨w4.heap.size, 0, none⟩) z T) := ⟨h4.new (below_gb hB5), hM5.seg⟩; clear h4 hM5 hB5)
          | (have z := H5; clear z; go_at_call 30; go_must (refine (Calls.mono (HDE.out _ _ _ H5.out.2) ?_)); rintro r w6 ⟨rfl, h6⟩; have H6 : Hid (SI B D w (w6.alloc (.cells #[.int .i64 q1, .int .i64 c1, .int .i64 m1, .int .i64 kd, .string key, .string val, .int .i64 ver] 27)) g a' len cap' xs 0 q bv L ∧ Bk 27 (w6.alloc (.cells #[.int .i64 q1, .int .i64 c1, .int .i64 m1, .int .i64 kd, .string key, .string val, .int .i64 ver] 27)) w6.heap.size #[.int .i64 q1, .int .i64 c1, .int .i64 m1, .int .i64 kd, .string key, .string val, .int .i64 ver]) := ⟨(H5.out.1.new h6).new (gb_alloc _ _), (blk_new _ _ _).1⟩; clear h6)
          | (have z := H6; clear z; (fail_if_success (have z := H7)); refine wpList_load_bk 27 rfl (.tmp 7) rfl Try.underlying27 rfl infoUpd w6.heap.size _ rfl H6.out.2 rfl ?_)
          | (have z := H6; clear z; (fail_if_success (have z := H7)); at_builtin; go_must (refine wpList_upd rfl (.tmp 25) (.tmp 27) rfl D bv L ⟨q1, c1, m1, kd, key, val, ver⟩ rfl H6.out.1.own (by rw [World.size_alloc]; rfl) hLn H6.out.1.hi ?_); intro v7 w7 ho hg _; have H7 : Hid (SI B D w w7 g a' len cap' xs 0 q v7 (L ++ [⟨q1, c1, m1, kd, key, val, ver⟩])) := H6.out.1.app ho hg; clear ho hg)
          | (have z := H7; clear z; go_at_call 41; go_must (refine (at_c g 0 _ _ _ H7.out.rs.rdr).mono ?_); rintro r wq ⟨rfl, hq⟩; obtain rfl := hq.symm))
        go_roundw
        case rel => exact ⟨q, v7, _, rfl, rfl, H7.out, HG.out.2.2.2, fun u hu => by rcases List.mem_append.1 hu with z | z; exact HOK.out u z; simp at z; subst z; exact HG.out.2.2.1, by have := HL.out; have := HG.out.2.1; simp; omega⟩
        case measure => have := HG.out; simp [intOf]; omega
      | false =>
        have HN : Hid (SplitIs xs L p) := ⟨by rw [HBW.out.2.2.1]; exact hple, hr.out.2.1, hr.out.2.2.1, sp_no HBW.out.2.1 (by rw [HBW.out.2.2.1]; exact hple) (by have := HBW.out.2.2; omega) (by rw [HBW.out.2.2.1, ← hT]; exact hdk)⟩
        obtain ⟨e, he⟩ : ∃ e, e = (rt xs p (len : Int)).2.2 := ⟨_, rfl⟩
        obtain ⟨q, hq⟩ : ∃ q, q = (rt xs p (len : Int)).2.1 := ⟨_, rfl⟩
        have HT1 : Hid (∀ W bv L, SI B D w W g a' len cap' xs 0 p bv L → Calls Try.prog 40 #[.pointer (some ⟨g, 0, none⟩), .int .i64 (len : Int)] W fun r w' => r = .returned (.string S) ∧ SI B D w w' g a' len cap' xs e q bv L) := fun W bv L hs => by
          have k := text_ok g a' len cap' xs p (len : Int) W hs.rs (by omega)
          rw [← hT, ← he, ← hq, ← hS] at k
          exact k.mono fun r w' ⟨k1, k2, k3⟩ => ⟨k1, hs.moves k2 k3⟩
        have HDE : Hid (∀ W C b, Seg .u8 W (some ⟨b, 0, none⟩) z T → Calls Try.prog 30 #[.slice (some ⟨b, 0, none⟩) z C] W fun r w' => r = .returned (.tuple #[.agg #[.int .i64 0, .int .i64 0, .int .i64 0, .int .i64 0, .string { data := #[] }, .string { data := #[] }, .int .i64 0], .int .i64 86]) ∧ W.grownBy w' none) := fun W C b hs => by
          have k := decode_c (some ⟨b, 0, none⟩) z C T W hs hTB (by omega) (fun e => by cases e)
          rw [show dres T = #[.int .i64 0, .int .i64 0, .int .i64 0, .int .i64 0, .string { data := #[] }, .string { data := #[] }, .int .i64 0] from by unfold dres; rw [if_neg (by rw [hdk]; decide)]; rfl, show derr T = 86 from by unfold derr; rw [if_neg (by rw [hdk]; decide)]] at k
          exact k.mono fun r w' ⟨k1, k2⟩ => ⟨k1, below_gb k2⟩
        have HR1 : Hid (SI B D w wr g a' len cap' xs 0 p bv L) := hr.out.1
        clear hr hT hbd hTB hS hz hdk hq he hd hTL
        go_wp2_with (first
          | (go_at_call 39; go_must (refine (Calls.mono (HLE.out _ _ _ HR1.out) ?_)); rintro r w3 ⟨rfl, h3⟩; have H3 : Hid (SI B D w w3 g a' len cap' xs 0 p bv L) := h3; clear h3)
          | (have z := H3; clear z; go_at_call 40; go_must (refine (Calls.mono (HT1.out _ _ _ H3.out) ?_)); rintro r w4 ⟨rfl, h4⟩; obtain ⟨W5, C, hcv, hM5, hB5⟩ := str_bytes S w4 (by have := HSS.out; omega); rw [HSS.out.1] at hcv hM5; rw [HSS.out.2.1] at hM5; have H5 : Hid (SI B D w W5 g a' len cap' xs e q bv L ∧ Seg .u8 W5 (some ⟨w4.heap.size, 0, none⟩) z T) := ⟨h4.new (below_gb hB5), hM5.seg⟩; clear h4 hM5 hB5)
          | (have z := H5; clear z; go_at_call 30; go_must (refine (Calls.mono (HDE.out _ _ _ H5.out.2) ?_)); rintro r w6 ⟨rfl, h6⟩; have H6 : Hid (SI B D w (w6.alloc (.cells #[.int .i64 0, .int .i64 0, .int .i64 0, .int .i64 0, .string { data := #[] }, .string { data := #[] }, .int .i64 0] 27)) g a' len cap' xs e q bv L) := (H5.out.1.new h6).new (gb_alloc _ _); clear h6))
        go_ret2
        exact ⟨bv, L, p, rfl, HN.out, H6.out.own.low (by have := H6.out.lt; have := H6.out.ge; omega), H6.out.bel⟩
    · obtain rfl : p = len := by omega
      have hd0 : d = 0 := by omega
      subst hd0
      have HN : Hid (SplitIs xs L p) := ⟨by rw [HBW.out.2.2.1]; exact hple, hr.out.2.1, hr.out.2.2.1, by rw [List.drop_of_length_le (by rw [HBW.out.2.2.1]; exact Nat.le_refl _)]; exact noU_nil⟩
      have HR1 : Hid (SI B D w wr g a' p cap' xs 0 p bv L) := hr.out.1
      clear hr hd
      go_wp2_with (first
        | (go_at_call 39; go_must (refine (Calls.mono (HLE.out _ _ _ HR1.out) ?_)); rintro r w3 ⟨rfl, h3⟩; have H3 : Hid (SI B D w w3 g a' p cap' xs 0 p bv L) := h3; clear h3))
      go_ret2
      exact ⟨bv, L, p, rfl, HN.out, H3.out.own.low (by have := H3.out.lt; have := H3.out.ge; omega), H3.out.bel⟩
end Go.Proofs.Ytfbbaodhlniiiaa.Dl

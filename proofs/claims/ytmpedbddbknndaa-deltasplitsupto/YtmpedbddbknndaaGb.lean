/-
  The document's Decode and delta's take the same bytes, as the same update, as plain data. No condition of its own.
  What the document's Split answers of bytes: the updates at their front, and where these end. Condition: at most 2^36 bytes.
  What the law's sameUpdates answers of two lists that are the same: true. Condition: at most 2^30 updates.
-/
import Derived.Test.YtmpedbddbknndaaDGd
import Derived.Test.YtmpedbddbknndaaGa
import Derived.Test.YtmpedbddbknndaaDPa
import Derived.Laws.StructEq
import Derived.Deep.MidRow
namespace Go.Proofs.Ytmpedbddbknndaa.Dl
open Go.RowKit
set_option linter.unusedVariables false

theorem grd_num {xs rest : List Int} {p : Nat} {v : Int} (h0 : 0 ≤ v) (h1 : v ≤ 1152921504606846976) (h : xs.drop p = enc v.toNat ++ rest) : grd (xs.drop p) 0 0 = (v.toNat, (enc v.toNat).length) := by
  rw [h]
  have := grd_enc 9 v.toNat rest 0 0 (enc9 _ (by omega)) (by have := enc9 v.toNat (by omega); omega) (by omega) (.inl rfl)
  simpa using this
theorem gthere (u : Upd) (h : u.err = 0) : gok u.bytes = true ∧ gupd u.bytes = u := by
  obtain ⟨q, c, n, k, key, val, ver⟩ := u
  have h' : updE q c n k key val ver = 0 := h
  obtain ⟨b1, b2, b3, b4, b5, b6, b7, _, b9, b10⟩ := upd_bd h'
  obtain ⟨xs, hxs⟩ : ∃ xs, xs = Upd.bytes ⟨q, c, n, k, key, val, ver⟩ := ⟨_, rfl⟩
  obtain ⟨V, hV⟩ : ∃ V, V = (if k = 2 then [] else enc val.size ++ sb val) := ⟨_, rfl⟩
  obtain ⟨T, hT⟩ : ∃ T, T = (if k = 3 then enc ver.toNat else []) := ⟨_, rfl⟩
  have e0 : xs.drop (gp xs 0) = enc q.toNat ++ (enc c.toNat ++ (enc n.toNat ++ (enc k.toNat ++ ((enc key.size ++ sb key) ++ (V ++ T))))) := by
    show xs.drop 0 = _
    rw [hxs, hV, hT]
    unfold Upd.bytes updB updA
    simp only [List.drop_zero, List.append_assoc]
  have r0 := grd_num (by omega) (by omega) e0
  have p1 : gp xs 1 = gp xs 0 + (enc q.toNat).length := by show gp xs 0 + (grd (xs.drop (gp xs 0)) 0 0).2 = _; rw [r0]
  have e1 := drop_len e0
  rw [← p1] at e1
  have r1 := grd_num (by omega) (by omega) e1
  have p2 : gp xs 2 = gp xs 1 + (enc c.toNat).length := by show gp xs 1 + (grd (xs.drop (gp xs 1)) 0 0).2 = _; rw [r1]
  have e2 := drop_len e1
  rw [← p2] at e2
  have r2 := grd_num (by omega) (by omega) e2
  have p3 : gp xs 3 = gp xs 2 + (enc n.toNat).length := by show gp xs 2 + (grd (xs.drop (gp xs 2)) 0 0).2 = _; rw [r2]
  have e3 := drop_len e2
  rw [← p3] at e3
  have r3 := grd_num (by omega) (by omega) e3
  have p4 : gp xs 4 = gp xs 3 + (enc k.toNat).length := by show gp xs 3 + (grd (xs.drop (gp xs 3)) 0 0).2 = _; rw [r3]
  have e4 := drop_len e3
  rw [← p4] at e4
  have n0 : gn xs 0 = q.toNat := by unfold gn; rw [r0]
  have n1 : gn xs 1 = c.toNat := by unfold gn; rw [r1]
  have n2 : gn xs 2 = n.toNat := by unfold gn; rw [r2]
  have n3 : gn xs 3 = k.toNat := by unfold gn; rw [r3]
  have k0 : gk xs 0 ≠ 0 := by unfold gk; rw [r0]; have := enc_pos q.toNat; show (enc q.toNat).length ≠ 0; omega
  have k1 : gk xs 1 ≠ 0 := by unfold gk; rw [r1]; have := enc_pos c.toNat; show (enc c.toNat).length ≠ 0; omega
  have k2 : gk xs 2 ≠ 0 := by unfold gk; rw [r2]; have := enc_pos n.toNat; show (enc n.toNat).length ≠ 0; omega
  have k3 : gk xs 3 ≠ 0 := by unfold gk; rw [r3]; have := enc_pos k.toNat; show (enc k.toNat).length ≠ 0; omega
  have h5 : g5 xs = (sb key, (enc key.size ++ sb key).length) := by unfold g5; rw [e4]; exact gtk_text key (by omega) _
  have l5 : 0 < (enc key.size ++ sb key).length := by rw [List.length_append]; have := enc_pos key.size; omega
  have e5 := drop_len e4
  have h6 : g6 xs = (sb val, if k = 2 then (enc key.size ++ sb key).length else V.length) := by
    unfold g6
    rw [h5, n3]
    by_cases hk : k = 2
    · have := b9 hk
      rw [if_neg (by rintro ⟨_, z⟩; omega), if_pos hk, this]
      rfl
    · rw [if_pos ⟨l5, by omega⟩, if_neg hk]
      rw [hV, if_neg hk] at e5
      rw [hV, if_neg hk, e5]
      exact gtk_text val (by omega) T
  have l6 : 0 < (g6 xs).2 := by
    rw [h6]
    show 0 < if k = 2 then _ else _
    split
    · exact l5
    · rename_i hk
      rw [hV, if_neg hk, List.length_append]
      have := enc_pos val.size
      omega
  have h7 : (g7 xs).1 = ver.toNat ∧ (g7 xs).2 ≠ 0 := by
    unfold g7
    rw [n3]
    by_cases hk : k = 3
    · have hp6 : gp6 xs = gp xs 4 + (enc key.size ++ sb key).length + V.length := by
        unfold gp6
        rw [h5, n3, if_pos ⟨l5, by omega⟩, h6]
        show _ + _ + (if k = 2 then _ else V.length) = _
        rw [if_neg (by omega)]
      have e6 : xs.drop (gp6 xs) = enc ver.toNat ++ [] := by
        rw [hp6]
        have := congrArg (List.drop V.length) e5
        rw [List.drop_drop, List.drop_left] at this
        rw [List.append_nil, this, hT, if_pos hk]
      rw [if_pos ⟨l6, by omega⟩, grd_num (by omega) (by omega) e6]
      exact ⟨rfl, by have := enc_pos ver.toNat; show (enc ver.toNat).length ≠ 0; omega⟩
    · have := b10 hk
      rw [if_neg (by rintro ⟨_, z⟩; omega)]
      exact ⟨by rw [this]; rfl, by omega⟩
  have hu : gupd xs = ⟨q, c, n, k, key, val, ver⟩ := by
    unfold gupd
    rw [n0, n1, n2, n3, h5, h6, h7.1]
    simp only [strOfNums_sb]
    rw [Int.toNat_of_nonneg (by omega), Int.toNat_of_nonneg (by omega), Int.toNat_of_nonneg (by omega), Int.toNat_of_nonneg (by omega), Int.toNat_of_nonneg (by omega)]
  rw [← hxs]
  refine ⟨?_, hu⟩
  unfold gok gfour
  rw [decide_eq_true k0, decide_eq_true k1, decide_eq_true k2, decide_eq_true k3, decide_eq_true h7.2, hu, h, ← hxs, decide_eq_true rfl]
  rfl
theorem gagain {xs : List Int} (h : gok xs = true) : (gupd xs).err = 0 ∧ (gupd xs).bytes = xs := by
  unfold gok at h
  simp only [Bool.and_eq_true, beq_iff_eq, decide_eq_true_eq] at h
  exact ⟨h.1.2, h.2⟩
theorem same_ans {xs : List Int} (hx : Bytes xs) : gres xs = dres xs ∧ gerr xs = derr xs := by
  cases hg : gok xs with
  | true =>
    have h1 := gagain hg
    have h2 := there (gupd xs) h1.1
    rw [h1.2] at h2
    unfold gres dres gerr derr
    rw [if_pos hg, if_pos h2.1, if_pos hg, if_pos h2.1, h2.2]
    exact ⟨rfl, rfl⟩
  | false =>
    have hd : dok xs = false := by
      cases hd : dok xs with
      | false => rfl
      | true =>
        have h1 := again hx hd
        have h2 := (gthere (dupd xs) h1.1).1
        rw [h1.2, hg] at h2
        cases h2
    unfold gres dres gerr derr
    rw [if_neg (by rw [hg]; decide), if_neg (by rw [hd]; decide), if_neg (by rw [hg]; decide), if_neg (by rw [hd]; decide)]
    exact ⟨rfl, rfl⟩
end Go.Proofs.Ytmpedbddbknndaa.Dl
namespace Go.Proofs.Ytmpedbddbknndaa.Dl
open Go.RowKit
set_option linter.unusedVariables false

theorem bytes_tl {x : Int} {r : List Int} (h : Bytes (x :: r)) : (0 ≤ x ∧ x < 256) ∧ Bytes r :=
  ⟨by simpa using h 0 (by simp), fun i hi => by simpa using h (i + 1) (by simp; omega)⟩
theorem grd_back : ∀ (xs : List Int) (i v : Nat), Bytes xs → (grd xs i v).2 ≠ 0 → ∃ m, (grd xs i v).1 = v + m * 128 ^ i ∧ (grd xs i v).2 = i + (enc m).length ∧ xs.take (enc m).length = enc m ∧ (0 < i → m ≠ 0)
  | [], i, v, _, h => by simp [grd] at h
  | x :: r, i, v, hx, h => by
    obtain ⟨⟨b0, b1⟩, hr⟩ := bytes_tl hx
    unfold grd at h ⊢
    by_cases h9 : 9 ≤ i
    · rw [if_pos h9] at h; simp at h
    rw [if_neg h9] at h ⊢
    by_cases h1 : x < 128
    · rw [if_pos h1] at h ⊢
      by_cases h2 : (0 < i ∧ x = 0) ∨ 4611686018427387904 < v + x.toNat % 128 * 128 ^ i
      · rw [if_pos h2] at h; simp at h
      · rw [if_neg h2]
        have e : x.toNat % 128 = x.toNat := by omega
        have es : enc x.toNat = [x] := by rw [enc_small (by omega)]; simp; omega
        refine ⟨x.toNat, by rw [e], by rw [es]; rfl, by rw [es]; rfl, fun hi z => h2 (.inl ⟨hi, by omega⟩)⟩
    · rw [if_neg h1] at h ⊢
      obtain ⟨m, e1, e2, e3, e4⟩ := grd_back r (i + 1) _ hr h
      have hm := e4 (by omega)
      have hb : enc (m * 128 + x.toNat % 128) = x :: enc m := by
        rw [enc_big (by omega)]
        have q1 : (m * 128 + x.toNat % 128) % 128 = x.toNat % 128 := by omega
        have q2 : (m * 128 + x.toNat % 128) / 128 = m := by omega
        rw [q1, q2]
        congr 1
        omega
      refine ⟨m * 128 + x.toNat % 128, ?_, ?_, ?_, fun _ => by omega⟩
      · rw [e1, Nat.pow_succ, Nat.add_mul, Nat.mul_comm (128 ^ i) 128, ← Nat.mul_assoc]
        omega
      · rw [e2, hb, List.length_cons]
        omega
      · rw [hb, List.length_cons, List.take_succ_cons, e3]
theorem gtk_back {xs : List Int} (hx : Bytes xs) (h : (gtk xs).2 ≠ 0) : xs.take (gtk xs).2 = enc (gtk xs).1.length ++ (gtk xs).1 := by
  unfold gtk at h ⊢
  by_cases hc : (grd xs 0 0).2 = 0 ∨ xs.length - (grd xs 0 0).2 < (grd xs 0 0).1
  · rw [if_pos hc] at h; simp at h
  · rw [if_neg hc]
    obtain ⟨m, e1, e2, e3, _⟩ := grd_back xs 0 0 hx (fun z => hc (.inl z))
    simp only [Nat.zero_add, Nat.pow_zero, Nat.mul_one] at e1 e2
    rw [e1, e2] at hc ⊢
    have hl : ((xs.drop (enc m).length).take m).length = m := by rw [List.length_take, List.length_drop]; omega
    simp only
    rw [hl, List.take_add, e3]
theorem bytes_gtk {xs : List Int} (hx : Bytes xs) : Bytes (gtk xs).1 := by
  unfold gtk
  split
  · intro i hi; simp at hi
  · intro i hi
    simp only [List.length_take, List.length_drop] at hi ⊢
    rw [List.getElem?_take_of_lt (by omega), List.getElem?_drop]
    exact hx _ (by omega)
theorem gs_no {ys : List Int} (h : (gtk ys).2 = 0 ∨ gok (gtk ys).1 = false) : NoU ys := by
  intro u rest hu e
  have hs : (strOfNums u.bytes).size = u.bytes.length := size_strOfNums _
  have hsb := sb_strOfNums _ (bytesU u)
  have lu : u.bytes.length ≤ 66640 := updB_len hu
  have g := gtk_text (strOfNums u.bytes) (by omega) rest
  rw [hs, hsb, show (enc u.bytes.length ++ u.bytes) ++ rest = ys from e.symm] at g
  rw [g] at h
  rcases h with h | h
  · have := one_pos u
    unfold one at this
    simp only at h
    omega
  · simp only [(gthere u hu).1] at h
    cases h
theorem gs_go {xs : List Int} (hx : Bytes xs) {p : Nat} (hp : p ≤ xs.length) (h : gok (gtk (xs.drop p)).1 = true) (h0 : (gtk (xs.drop p)).2 ≠ 0) :
    p + (gtk (xs.drop p)).2 ≤ xs.length ∧ 0 < (gtk (xs.drop p)).2 ∧ (gupd (gtk (xs.drop p)).1).err = 0 ∧ xs.take (p + (gtk (xs.drop p)).2) = xs.take p ++ one (gupd (gtk (xs.drop p)).1) := by
  have hb := (gtk_bd (xs.drop p)).1
  rw [List.length_drop] at hb
  obtain ⟨a1, a2⟩ := gagain h
  refine ⟨by omega, by omega, a1, ?_⟩
  rw [List.take_add, gtk_back (bytes_drop hx p) h0]
  unfold one
  rw [a2]
theorem GOwn.low {B C : Nat} {w : World} {v : Value} {X : List Upd} (h : GOwn B w v X) (hb : C ≤ B) : GOwn C w v X := by
  refine ⟨h.1, ?_⟩
  rcases h.2 with q | ⟨g, cap, cur, q1, q2, q3⟩
  · exact .inl q
  · exact .inr ⟨g, cap, cur, q1, Nat.le_trans hb q2, q3⟩
set_option maxRecDepth 20000 in
set_option maxHeartbeats 2000000 in
theorem gsplit_c (a : Option Addr) (len cap : Nat) (xs : List Int) (w : World) (h : Seg .u8 w a len xs) (hx : Bytes xs) (hl : len ≤ 68719476736) (hlc : len ≤ cap) :
    Calls Try.prog 20 #[.slice a len cap] w fun r w' => ∃ v L p, r = .returned (.tuple #[v, .int .i64 ((p : Nat) : Int)]) ∧ SplitIs xs L p ∧ GOwn w.heap.size w' v L ∧ Below w.heap.size w w' := by
  have hlen : xs.length = len := h.1
  obtain ⟨B, hB⟩ : ∃ B, B = w.heap.size := ⟨_, rfl⟩
  have HBW : Hid (B = w.heap.size ∧ Bytes xs ∧ xs.length = len ∧ len ≤ 68719476736 ∧ Seg .u8 w a len xs ∧ len ≤ cap) := ⟨hB, hx, hlen, hl, h, hlc⟩
  clear h hx hlen hlc
  go_enter Try.func20, Try.ntmps20
  rw [← hB]
  clear hB
  go_wp2_with fail
  go_loopw [4, 5] (fun v i wr => ∃ (p : Nat) (bv : Value) (L : List Upd), v = bv ∧ i = .int .i64 (p : Int) ∧ Hid (p ≤ len ∧ GOwn B wr bv L ∧ Below B w wr ∧ B ≤ wr.heap.size ∧ xs.take p = L.flatMap one ∧ (∀ u ∈ L, Upd.err u = 0) ∧ L.length ≤ p)) (fun _ i _ => len - (intOf i).toNat)
  case atStart => exact ⟨0, _, [], rfl, rfl, Nat.zero_le _, gown_nil _ _, by rw [HBW.out.1]; exact Below.refl _ _, by rw [HBW.out.1]; exact Nat.le_refl _, by simp, by simp, by simp⟩
  case round =>
    obtain ⟨p, bv, L, hbv, rfl, hr⟩ := hrel
    obtain rfl := hbv.symm
    have hple : p ≤ len := hr.out.1
    have hpx : p ≤ xs.length := by rw [HBW.out.2.2.1]; exact hple
    have hsl := slice_l a len cap p hple
    have hsg : Seg .u8 w (cutA a cap p) (len - p) (xs.drop p) := seg_cutA HBW.out.2.2.2.2.1 p HBW.out.2.2.2.2.2
    obtain ⟨A, hA⟩ : ∃ A, A = cutA a cap p := ⟨_, rfl⟩
    obtain ⟨ys, hys⟩ : ∃ ys, ys = xs.drop p := ⟨_, rfl⟩
    rw [← hA] at hsl hsg
    rw [← hys] at hsg
    have hyb : Bytes ys := by rw [hys]; exact bytes_drop HBW.out.2.1 p
    obtain ⟨T, hT⟩ : ∃ T, T = (gtk ys).1 := ⟨_, rfl⟩
    obtain ⟨k, hk⟩ : ∃ k, k = (gtk ys).2 := ⟨_, rfl⟩
    obtain ⟨S, hS⟩ : ∃ S, S = strOfNums T := ⟨_, rfl⟩
    obtain ⟨M, hM⟩ : ∃ M, M = len - p := ⟨_, rfl⟩
    obtain ⟨C, hC⟩ : ∃ M, M = cap - p := ⟨_, rfl⟩
    have hTB : Bytes T := by rw [hT]; exact bytes_gtk hyb
    have hTL : T.length ≤ 68719476736 := by
      have h1 := (gtk_bd ys).2.2
      have h2 : ys.length = len - p := hsg.1
      rw [← hT] at h1
      omega
    have hkl : k ≤ 68719476736 := by
      have h1 := (gtk_bd ys).1
      have h2 : ys.length = len - p := hsg.1
      rw [← hk] at h1
      omega
    have hMC : len - p ≤ cap - p := by have := HBW.out.2.2.2.2.2; omega
    have HT1 : Hid (∀ W, Below B w W → Calls Try.prog 37 #[.slice A M C] W fun r w' => r = .returned (.tuple #[.string S, .int .i64 (k : Int)]) ∧ w' = W) := fun W hW => by
      have q := gtaken_c A M C ys W (by rw [hM]; exact hsg.below (by rw [← HBW.out.1]; exact hW)) hyb (by omega) (by rw [hM, hC]; exact hMC)
      rw [← hT, ← hk, ← hS] at q
      exact q
    rw [← hM, ← hC] at hsl
    by_cases hk0 : k = 0
    · have HN : Hid (SplitIs xs L p) := ⟨hpx, hr.out.2.2.2.2.1, hr.out.2.2.2.2.2.1, by rw [← hys]; exact gs_no (.inl (by rw [← hk]; exact hk0))⟩
      subst hk0
      clear hA hys hT hk hS hM hC hTB hTL hkl hyb hsg hMC hpx
      go_wp2_with (go_at_call 37; go_must (refine (Calls.mono (HT1.out _ hr.out.2.2.1) ?_)); rintro r wq ⟨rfl, hq⟩; obtain rfl := hq.symm)
      go_ret2
      exact ⟨bv, L, p, rfl, HN.out, hr.out.2.1, hr.out.2.2.1⟩
    · have hkb : ((k : Int) == 0) = false := by simp; omega
      obtain ⟨z, hz⟩ : ∃ z, z = T.length := ⟨_, rfl⟩
      have HSS : Hid (S.size = z ∧ sb S = T ∧ z ≤ 68719476736) := ⟨by rw [hS, size_strOfNums, hz], by rw [hS]; exact sb_strOfNums _ hTB, by omega⟩
      cases hdk : gok T with
      | true =>
        obtain ⟨s1, s2, s3, s4⟩ := gs_go HBW.out.2.1 hpx (by rw [← hys, ← hT]; exact hdk) (by rw [← hys, ← hk]; exact hk0)
        rw [← hys, ← hk] at s1 s2
        rw [← hys, ← hT] at s3
        rw [← hys, ← hk, ← hT] at s4
        obtain ⟨u, hu⟩ : ∃ u, u = gupd T := ⟨_, rfl⟩
        rw [← hu] at s3 s4
        have HG : Hid (p + k ≤ len ∧ 0 < k ∧ u.err = 0 ∧ xs.take (p + k) = (L ++ [u]).flatMap one) := ⟨by rw [← HBW.out.2.2.1]; exact s1, s2, s3, by rw [s4, hr.out.2.2.2.2.1, List.flatMap_append]; simp⟩
        obtain ⟨q1, c1, m1, kd, key, val, ver⟩ := u
        have HDE : Hid (∀ W C b, Seg .u8 W (some ⟨b, 0, none⟩) z T → z ≤ C → Calls Try.prog 14 #[.slice (some ⟨b, 0, none⟩) z C] W fun r w' => r = .returned (.tuple #[.agg #[.int .i64 q1, .int .i64 c1, .int .i64 m1, .int .i64 kd, .string key, .string val, .int .i64 ver], .int .i64 0]) ∧ W.grownBy w' none) := fun W C b hs hc => by
          have k := gdecode_c (some ⟨b, 0, none⟩) z C T W hs hTB (by omega) hc
          unfold GA at k
          rw [show gres T = #[.int .i64 q1, .int .i64 c1, .int .i64 m1, .int .i64 kd, .string key, .string val, .int .i64 ver] from by unfold gres; rw [if_pos hdk, ← hu]; rfl, show gerr T = 0 from by unfold gerr; rw [if_pos hdk]] at k
          exact k.mono fun r w' ⟨k1, k2⟩ => ⟨k1, below_gb k2⟩
        have hLn : L.length ≤ 68719476736 := by have := hr.out.2.2.2.2.2.2; omega
        have HL : Hid (L.length ≤ p ∧ ∀ u ∈ L, Upd.err u = 0) := ⟨hr.out.2.2.2.2.2.2, hr.out.2.2.2.2.2.1⟩
        have HR1 : Hid (GOwn B wr bv L ∧ Below B w wr ∧ B ≤ wr.heap.size) := ⟨hr.out.2.1, hr.out.2.2.1, hr.out.2.2.2.1⟩
        have hpk : p + k ≤ len := HG.out.1
        clear hr hA hys hT hk hS hM hC hTB hTL hyb hsg hMC hpx hz hdk s1 s2 s3 s4 hu
        obtain ⟨W5, Cc, hcv, hM5, hB5⟩ := str_bytes S wr (by have := HSS.out; omega)
        rw [HSS.out.1] at hcv hM5
        rw [HSS.out.2.1] at hM5
        have H5 : Hid (GOwn B W5 bv L ∧ Below B w W5 ∧ B ≤ W5.heap.size ∧ Seg .u8 W5 (some ⟨wr.heap.size, 0, none⟩) z T ∧ z ≤ Cc) := ⟨HR1.out.1.gb (below_gb hB5) (fun k hk => by cases hk), HR1.out.2.1.trans (hB5.mono HR1.out.2.2), Nat.le_trans HR1.out.2.2 hB5.size, hM5.seg, hM5.le⟩
        clear hM5 hB5
        go_wp2_with (first
          | (go_at_call 37; go_must (refine (Calls.mono (HT1.out _ HR1.out.2.1) ?_)); rintro r wq ⟨rfl, hq⟩; obtain rfl := hq.symm)
          | ((fail_if_success (have z := H6)); go_at_call 14; go_must (refine (Calls.mono (HDE.out _ _ _ H5.out.2.2.2.1 H5.out.2.2.2.2) ?_)); rintro r w6 ⟨rfl, h6⟩; have h7 : W5.grownBy (w6.alloc (.cells #[.int .i64 q1, .int .i64 c1, .int .i64 m1, .int .i64 kd, .string key, .string val, .int .i64 ver] 36)) none := gb_trans h6 (gb_alloc _ _); have H6 : Hid (GOwn B (w6.alloc (.cells #[.int .i64 q1, .int .i64 c1, .int .i64 m1, .int .i64 kd, .string key, .string val, .int .i64 ver] 36)) bv L ∧ Below B w (w6.alloc (.cells #[.int .i64 q1, .int .i64 c1, .int .i64 m1, .int .i64 kd, .string key, .string val, .int .i64 ver] 36)) ∧ B ≤ (w6.alloc (.cells #[.int .i64 q1, .int .i64 c1, .int .i64 m1, .int .i64 kd, .string key, .string val, .int .i64 ver] 36)).heap.size ∧ Bk 36 (w6.alloc (.cells #[.int .i64 q1, .int .i64 c1, .int .i64 m1, .int .i64 kd, .string key, .string val, .int .i64 ver] 36)) w6.heap.size #[.int .i64 q1, .int .i64 c1, .int .i64 m1, .int .i64 kd, .string key, .string val, .int .i64 ver]) := ⟨H5.out.1.gb h7 (fun k hk => by cases hk), H5.out.2.1.trans ((gb_below h7).mono H5.out.2.2.1), Nat.le_trans H5.out.2.2.1 h7.size, (blk_new _ _ _).1⟩; clear h6 h7)
          | (have z := H6; clear z; (fail_if_success (have z := H7)); refine wpList_load_bk 36 rfl (.tmp 8) rfl Try.underlying36 rfl infoGupd w6.heap.size _ rfl H6.out.2.2.2 rfl ?_)
          | (have z := H6; clear z; (fail_if_success (have z := H7)); at_builtin; go_must (refine wpList_gupd rfl (.tmp 31) (.tmp 33) rfl B bv L ⟨q1, c1, m1, kd, key, val, ver⟩ rfl H6.out.1 (by rw [World.size_alloc]; rfl) hLn H6.out.2.2.1 ?_); intro v7 w7 ho hg; have H7 : Hid (GOwn B w7 v7 (L ++ [⟨q1, c1, m1, kd, key, val, ver⟩]) ∧ Below B w w7 ∧ B ≤ w7.heap.size) := ⟨ho, H6.out.2.1.trans ((Below.refl _ _).grown hg H6.out.2.2.1 (fun z hz => H6.out.1.lo z hz)), Nat.le_trans H6.out.2.2.1 hg.size⟩; clear ho hg))
        go_roundw
        case rel => exact ⟨p + k, v7, _, rfl, by go_num, hpk, H7.out.1, H7.out.2.1, H7.out.2.2, HG.out.2.2.2, fun u hu => by rcases List.mem_append.1 hu with z | z; exact HL.out.2 u z; simp at z; subst z; exact HG.out.2.2.1, by have := HL.out.1; have := HG.out.2.1; simp; omega⟩
        case measure => have := HG.out; simp [intOf]; omega
      | false =>
        have HN : Hid (SplitIs xs L p) := ⟨hpx, hr.out.2.2.2.2.1, hr.out.2.2.2.2.2.1, by rw [← hys]; exact gs_no (.inr (by rw [← hT]; exact hdk))⟩
        have HDE : Hid (∀ W C b, Seg .u8 W (some ⟨b, 0, none⟩) z T → z ≤ C → Calls Try.prog 14 #[.slice (some ⟨b, 0, none⟩) z C] W fun r w' => r = .returned (.tuple #[.agg #[.int .i64 0, .int .i64 0, .int .i64 0, .int .i64 0, .string { data := #[] }, .string { data := #[] }, .int .i64 0], .int .i64 86]) ∧ W.grownBy w' none) := fun W C b hs hc => by
          have k := gdecode_c (some ⟨b, 0, none⟩) z C T W hs hTB (by omega) hc
          unfold GA at k
          rw [show gres T = #[.int .i64 0, .int .i64 0, .int .i64 0, .int .i64 0, .string { data := #[] }, .string { data := #[] }, .int .i64 0] from by unfold gres; rw [if_neg (by rw [hdk]; decide)]; rfl, show gerr T = 86 from by unfold gerr; rw [if_neg (by rw [hdk]; decide)]] at k
          exact k.mono fun r w' ⟨k1, k2⟩ => ⟨k1, below_gb k2⟩
        have HR1 : Hid (GOwn B wr bv L ∧ Below B w wr ∧ B ≤ wr.heap.size) := ⟨hr.out.2.1, hr.out.2.2.1, hr.out.2.2.2.1⟩
        clear hr hA hys hT hk hS hM hC hTB hTL hyb hsg hMC hpx hz hdk
        obtain ⟨W5, Cc, hcv, hM5, hB5⟩ := str_bytes S wr (by have := HSS.out; omega)
        rw [HSS.out.1] at hcv hM5
        rw [HSS.out.2.1] at hM5
        have H5 : Hid (GOwn B W5 bv L ∧ Below B w W5 ∧ B ≤ W5.heap.size ∧ Seg .u8 W5 (some ⟨wr.heap.size, 0, none⟩) z T ∧ z ≤ Cc) := ⟨HR1.out.1.gb (below_gb hB5) (fun k hk => by cases hk), HR1.out.2.1.trans (hB5.mono HR1.out.2.2), Nat.le_trans HR1.out.2.2 hB5.size, hM5.seg, hM5.le⟩
        clear hM5 hB5
        go_wp2_with (first
          | (go_at_call 37; go_must (refine (Calls.mono (HT1.out _ HR1.out.2.1) ?_)); rintro r wq ⟨rfl, hq⟩; obtain rfl := hq.symm)
          | ((fail_if_success (have z := H6)); go_at_call 14; go_must (refine (Calls.mono (HDE.out _ _ _ H5.out.2.2.2.1 H5.out.2.2.2.2) ?_)); rintro r w6 ⟨rfl, h6⟩; have h7 : W5.grownBy (w6.alloc (.cells #[.int .i64 0, .int .i64 0, .int .i64 0, .int .i64 0, .string { data := #[] }, .string { data := #[] }, .int .i64 0] 36)) none := gb_trans h6 (gb_alloc _ _); have H6 : Hid (GOwn B (w6.alloc (.cells #[.int .i64 0, .int .i64 0, .int .i64 0, .int .i64 0, .string { data := #[] }, .string { data := #[] }, .int .i64 0] 36)) bv L ∧ Below B w (w6.alloc (.cells #[.int .i64 0, .int .i64 0, .int .i64 0, .int .i64 0, .string { data := #[] }, .string { data := #[] }, .int .i64 0] 36))) := ⟨H5.out.1.gb h7 (fun k hk => by cases hk), H5.out.2.1.trans ((gb_below h7).mono H5.out.2.2.1)⟩; clear h6 h7))
        go_ret2
        exact ⟨bv, L, p, rfl, HN.out, H6.out.1, H6.out.2⟩
end Go.Proofs.Ytmpedbddbknndaa.Dl
namespace Go.Proofs.Ytmpedbddbknndaa.Dl
open Go.RowKit
set_option linter.unusedVariables false
theorem zInt (d : Nat) (n : Int) (w : World) : (Op.equalIn (d + 1) 3 (.int .i64 n) (.int .i64 n)).run Try.prog w = .ok true w := by simp [Op.equalIn, run_underlying Try.underlying3]
theorem zStr (d : Nat) (s : ByteArray) (w : World) : (Op.equalIn (d + 1) 9 (.string s) (.string s)).run Try.prog w = .ok true w := by
  simp [Op.equalIn, run_underlying Try.underlying9]
  cases s
  rename_i dt
  show (dt == dt) = true
  exact beq_self_eq_true dt
theorem zOp (d : Nat) (k : Int) (key val : ByteArray) (ver : Int) (w : World) : (Op.equalIn (d + 2) 34 (.agg #[.int .i64 k, .string key, .string val, .int .i64 ver]) (.agg #[.int .i64 k, .string key, .string val, .int .i64 ver])).run Try.prog w = .ok true w := by
  have hs := fun s => zStr d s w
  have hi := fun n => zInt d n w
  rw [Op.equalIn]
  simp [run_underlying Try.underlying34, part, isAgg, run_underlying Try.underlying9, run_underlying Try.underlying3, hs, hi]
theorem zUpdE (q c n k : Int) (key val : ByteArray) (ver : Int) (w : World) : (Op.equalIn 10000 36 (.agg #[.int .i64 q, .int .i64 c, .int .i64 n, .int .i64 k, .string key, .string val, .int .i64 ver]) (.agg #[.int .i64 q, .int .i64 c, .int .i64 n, .int .i64 k, .string key, .string val, .int .i64 ver])).run Try.prog w = .ok true w := by
  have ho := zOp 9997 k key val ver w
  have hi := fun n => zInt 9998 n w
  rw [Op.equalIn]
  simp [run_underlying Try.underlying36, part, isAgg, run_underlying Try.underlying34, run_underlying Try.underlying3, hi, ho]
set_option maxRecDepth 20000 in
set_option maxHeartbeats 2000000 in
theorem sameU_c (a a' : Option Addr) (n cap cap' : Nat) (X : List Upd) (w : World) (h : Upds w a n X) (h' : Upds w a' n X) (hn : n ≤ 1073741824) :
    Calls Try.prog 18 #[.slice a n cap, .slice a' n cap'] w fun r w' => r = .returned (.bool true) ∧ w.grownBy w' none := by
  have HX : Hid (Upds w a n X) := h
  have HY : Hid (Upds w a' n X) := h'
  clear h h'
  go_enter Try.func18, Try.ntmps18
  go_wp2_with fail
  go_loopw [5] (fun i wr => ∃ (k : Nat), k ≤ n ∧ i = .int .i64 (k : Int) ∧ Hid (w.grownBy wr none)) (fun i _ => n - (intOf i).toNat)
  case atStart => exact ⟨0, Nat.zero_le _, rfl, gb_refl _⟩
  case round =>
    obtain ⟨k, hk, rfl, hr⟩ := hrel
    by_cases hlt : k < n
    · have hi1 : (k : Int) < n := by omega
      rcases HX.out.2 with z | ⟨b, off, rfl, hbl, hcl⟩
      · omega
      rcases HY.out.2 with z | ⟨b', off', rfl, hbl', hcl'⟩
      · omega
      obtain ⟨u, hu⟩ : ∃ u, u = upAt X k := ⟨_, rfl⟩
      have HRG : Hid (wr.rangeAt b (off + k * 7) u.cells ∧ wr.rangeAt b' (off' + k * 7) u.cells) := by
        rw [hu]
        exact ⟨fun j v hv => ((gb_below hr.out).cell (p := ⟨b, off + k * 7 + j, none⟩) hbl).trans (hcl k hlt j v hv), fun j v hv => ((gb_below hr.out).cell (p := ⟨b', off' + k * 7 + j, none⟩) hbl').trans (hcl' k hlt j v hv)⟩
      have hb1 : b < wr.heap.size := Nat.lt_of_lt_of_le hbl hr.out.size
      have hb2 : b' < wr.heap.size := Nat.lt_of_lt_of_le hbl' hr.out.size
      clear hu hcl hcl'
      obtain ⟨q, c, m, kd, key, val, ver⟩ := u
      have HL : Hid (∀ W, Calls Try.prog 11 #[.agg #[.int .i64 q, .int .i64 c, .int .i64 m, .int .i64 kd, .string key, .string val, .int .i64 ver]] W fun r w' => r = .returned (.agg #[.int .i64 q, .int .i64 c, .int .i64 m, .int .i64 kd, .string key, .string val, .int .i64 ver]) ∧ W.grownBy w' none) := plain_c q c m kd key val ver
      have r1 : ∀ p, (loadVar 26 ⟨b, off + k * 7, none⟩).run Try.prog (gw wr p) = .ok (.agg #[.int .i64 q, .int .i64 c, .int .i64 m, .int .i64 kd, .string key, .string val, .int .i64 ver]) (gw wr p) := fun p => run_loadVar_mid (gw wr p) b (off + k * 7) 26 _ _ (fun j v hv => ((gb_below (gw_gb wr p)).cell (p := ⟨b, off + k * 7 + j, none⟩) hb1).trans (HRG.out.1 j v hv)) Try.underlying26 rfl (by kernel_rfl)
      have r2 : ∀ p, (loadVar 36 ⟨b', off' + k * 7, none⟩).run Try.prog (gw wr p) = .ok (.agg #[.int .i64 q, .int .i64 c, .int .i64 m, .int .i64 kd, .string key, .string val, .int .i64 ver]) (gw wr p) := fun p => run_loadVar_mid (gw wr p) b' (off' + k * 7) 36 _ _ (fun j v hv => ((gb_below (gw_gb wr p)).cell (p := ⟨b', off' + k * 7 + j, none⟩) hb2).trans (HRG.out.2 j v hv)) Try.underlying36 rfl (by kernel_rfl)
      have heg : Try.prog.eqGuardType Try.prog.depth 36 = false := by kernel_rfl
      have heq := zUpdE q c m kd key val ver
      go_wp2_with fail
      refine wp_region_gb (by kernel_rfl) (by kernel_rfl) ?_
      repeat (first
        | (refine wpQuiet_loadv rfl 26 _ rfl ⟨b, off + k * 7, none⟩ _ (by first | rfl | simp) (fun w hw => by obtain ⟨p, rfl⟩ := hw; exact r1 p) ?_)
        | (refine wpQuiet_loadv rfl 36 _ rfl ⟨b', off' + k * 7, none⟩ _ (by first | rfl | simp) (fun w hw => by obtain ⟨p, rfl⟩ := hw; exact r2 p) ?_)
        | quiet_step (first
          | (go_at_call 11; exact calls_gb (HL.out _))))
      refine wpQuiet_nil ?_
      intro _ hw'
      obtain ⟨pq, rfl⟩ := hw'
      go_wp2_with fail
      go_roundw
      case rel => exact ⟨k + 1, by omega, by go_num, gb_trans hr.out (gw_gb _ _)⟩
      case measure => simp [intOf]; omega
    · obtain rfl : k = n := by omega
      have hge : ¬ (k : Int) < k := by omega
      go_wp2_with fail
      go_ret
      exact ⟨rfl, hr.out⟩
end Go.Proofs.Ytmpedbddbknndaa.Dl

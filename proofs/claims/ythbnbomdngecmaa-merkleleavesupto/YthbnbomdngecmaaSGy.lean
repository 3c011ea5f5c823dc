/-
  What the document's Sum of a hasher answers. Condition: the hasher holds what is behind the last whole block.
-/
import Derived.Test.YthbnbomdngecmaaSGx
import Derived.Test.YthbnbomdngecmaaSCo
import Derived.Test.YthbnbomdngecmaaSDg
namespace Go.Proofs.Ythbnbomdngecmaa
set_option linter.unusedVariables false
open Go.RowKit

def be8 (n : Nat) : List Int := [((8 * n / 72057594037927936 % 256 : Nat) : Int), ((8 * n / 281474976710656 % 256 : Nat) : Int), ((8 * n / 1099511627776 % 256 : Nat) : Int), ((8 * n / 4294967296 % 256 : Nat) : Int), ((8 * n / 16777216 % 256 : Nat) : Int), ((8 * n / 65536 % 256 : Nat) : Int), ((8 * n / 256 % 256 : Nat) : Int), ((8 * n % 256 : Nat) : Int)]
theorem be8_eq (n : Nat) (h : n < 2305843009213693952) : b4 (BitVec.ofNat 32 (8 * n / 4294967296)) ++ b4 (BitVec.ofNat 32 (8 * n)) = be8 n := by
  simp only [b4, be8, List.cons_append, List.nil_append, BitVec.toNat_ushiftRight, BitVec.toNat_ofNat, Nat.shiftRight_eq_div_pow]
  simp only [List.cons.injEq, and_true]
  refine ⟨?_, ?_, ?_, ?_, ?_, ?_, ?_, ?_⟩ <;> congr 1 <;> omega
def fz (m : Nat) : Nat := (128 - m - 9) % 64
theorem fill_be (n : Nat) (h : n < 2305843009213693952) : fill n = 128 :: (List.replicate (fz (n % 64)) 0 ++ be8 n) := by
  unfold fill fz
  rw [List.append_assoc, be8_eq n h]
theorem fz_ne (m j : Nat) (hm : m < 64) (hj : j < fz m) : (m + 1 + j) % 64 ≠ 56 := by unfold fz at hj; omega
theorem fz_eq (m : Nat) (hm : m < 64) : (m + 1 + fz m) % 64 = 56 := by unfold fz; omega
theorem be8_next (n k : Nat) (x X : Int) (hk : k < 8) (hx : x = 7 - (k : Int)) (hX : X = (n : Int) * 8) : (be8 n).take k ++ [X / 2 ^ (8 * x).toNat % 256] = (be8 n).take (k + 1) := by
  subst hx hX
  rw [take_snoc (be8 n) k hk]
  congr 2
  rcases (by omega : k = 0 ∨ k = 1 ∨ k = 2 ∨ k = 3 ∨ k = 4 ∨ k = 5 ∨ k = 6 ∨ k = 7) with rfl | rfl | rfl | rfl | rfl | rfl | rfl | rfl
  · rw [show (2 : Int) ^ (8 * (7 - ((0 : Nat) : Int))).toNat = 72057594037927936 from by decide]
    show _ = (((8 * n / 72057594037927936 % 256 : Nat)) : Int)
    omega
  · rw [show (2 : Int) ^ (8 * (7 - ((1 : Nat) : Int))).toNat = 281474976710656 from by decide]
    show _ = (((8 * n / 281474976710656 % 256 : Nat)) : Int)
    omega
  · rw [show (2 : Int) ^ (8 * (7 - ((2 : Nat) : Int))).toNat = 1099511627776 from by decide]
    show _ = (((8 * n / 1099511627776 % 256 : Nat)) : Int)
    omega
  · rw [show (2 : Int) ^ (8 * (7 - ((3 : Nat) : Int))).toNat = 4294967296 from by decide]
    show _ = (((8 * n / 4294967296 % 256 : Nat)) : Int)
    omega
  · rw [show (2 : Int) ^ (8 * (7 - ((4 : Nat) : Int))).toNat = 16777216 from by decide]
    show _ = (((8 * n / 16777216 % 256 : Nat)) : Int)
    omega
  · rw [show (2 : Int) ^ (8 * (7 - ((5 : Nat) : Int))).toNat = 65536 from by decide]
    show _ = (((8 * n / 65536 % 256 : Nat)) : Int)
    omega
  · rw [show (2 : Int) ^ (8 * (7 - ((6 : Nat) : Int))).toNat = 256 from by decide]
    show _ = (((8 * n / 256 % 256 : Nat)) : Int)
    omega
  · rw [show (2 : Int) ^ (8 * (7 - ((7 : Nat) : Int))).toNat = 1 from by decide]
    show _ = (((8 * n % 256 : Nat)) : Int)
    omega
theorem zD32 (w : World) : (zeroValue 24).run Try.prog w = .ok (.agg (u8s dz32)) w := by
  have h : (Try.prog.info? 24).map (fun i => (i.zero, i.size)) = some (some (.agg (u8s dz32)), 32) := by kernel_rfl
  exact (zero_of_info h).1 w
theorem mine_below {w w' : World} {B b n cap : Nat} {xs : List Int} (h : Mine w B b n cap xs) (hb : Below w.heap.size w w') : Mine w' B b n cap xs := by
  have hs := hb.size
  have e : ∀ i, w'.cell? ⟨b, i, none⟩ = w.cell? ⟨b, i, none⟩ := fun i => hb.cell (p := ⟨b, i, none⟩) h.lt
  have f : ∀ i, w'.frozen? ⟨b, i, none⟩ = w.frozen? ⟨b, i, none⟩ := fun i => by
    have := hb.block b h.lt
    simp only [World.frozen?]
    rw [this]
  exact ⟨h.len, h.le, h.max, h.lo, by have := h.lt; omega, fun i hi => (e i).trans (h.cell i hi), fun i hi => by rw [e i]; exact h.there i hi, fun i hi => (f i).trans (h.free i hi)⟩

theorem mine_lit {W1 w2 : World} {N b2 m cap2 : Nat} {xs : List Int} (h : Mine w2 (N + 1) b2 m cap2 xs) (hb : Below (N + 1) W1 w2) (hs : W1.heap.size = N + 1) (z : Int) : Mine (w2.alloc (.cells #[.int .u8 z] 5)) (N + 1) b2 m cap2 xs ∧ Below (N + 1) W1 (w2.alloc (.cells #[.int .u8 z] 5)) ∧ Seg .u8 (w2.alloc (.cells #[.int .u8 z] 5)) (some ⟨w2.heap.size, 0, none⟩) 1 [z] :=
  ⟨mine_below h ((Below.refl _ _).alloc (Nat.le_refl _) _), hb.alloc (by have := hb.size; omega) _, seg_new w2 .u8 _ 5 1 [z] rfl rfl⟩
def lenS : Value → Nat
  | .slice _ n _ => n
  | _ => 0
def Rda (w : World) (b T : Nat) (tot : List Int) : Prop := b < w.heap.size ∧ ∀ i, i < T → w.cell? ⟨b, i, none⟩ = some (.int .u8 (tot[i]?.getD 0))
/-- What lies there while the blocks are taken. -/
def GSt (W1 : World) (N : Nat) (V : World) (M : Nat) (q : St) (b T : Nat) (tot : List Int) : Prop := Bk 72 V M (wds q.words) ∧ Rda V b T tot ∧ Below (N + 1) W1 V
theorem Rda.grew {w w' : World} {b T : Nat} {tot : List Int} {row : Option Nat} (h : Rda w b T tot) (hg : w.grownBy w' row) (hn : row ≠ some b) : Rda w' b T tot := ⟨Nat.lt_of_lt_of_le h.1 hg.size, fun i hi => cell_far (h.2 i hi) hg hn⟩
theorem GSt.gb {W1 N V V' M q b T tot} (h : GSt W1 N V M q b T tot) (hN : N + 1 ≤ M) (hg : V.grownBy V' none) : GSt W1 N V' M q b T tot := ⟨h.1.gb hg, h.2.1.grew hg (by simp), h.2.2.grown hg (by have := lt_of_block h.1; omega) (fun k hk => by cases hk)⟩
theorem GSt.rd {W1 N V M q b T tot} (h : GSt W1 N V M q b T tot) (A : Nat) (hA : A + 64 ≤ T) : Rd64 V b A ((tot.drop A).take 64) := ⟨h.2.1.1, fun i hi => by
  rw [h.2.1.2 (A + i) (by omega), List.getD_eq_getElem?_getD, List.getElem?_take_of_lt hi, List.getElem?_drop]⟩
theorem GSt.range {W1 N V M q b T tot} (h : GSt W1 N V M q b T tot) : V.rangeAt M 0 [.int .u32 (W q.a), .int .u32 (W q.b), .int .u32 (W q.c), .int .u32 (W q.d), .int .u32 (W q.e), .int .u32 (W q.f), .int .u32 (W q.g), .int .u32 (W q.h)] := fun j v hv => by
  rw [Nat.zero_add, h.1.cell j, show (wds q.words)[j]? = (q.words.map fun x => Value.int .u32 (W x))[j]? from List.getElem?_toArray ..]
  exact hv
theorem byte_at (q : St) (d r : Nat) (hd : d < 8) (hr : r < 4) : (q.bytes)[4 * d + r]?.getD 0 = W (q.words.getD d 0) / 2 ^ (24 - 8 * (r : Int)).toNat % 256 := by
  have hx : ∀ x : Wd, (b4 x)[r]?.getD 0 = W x / 2 ^ (24 - 8 * (r : Int)).toNat % 256 := fun x => by
    rcases (by omega : r = 0 ∨ r = 1 ∨ r = 2 ∨ r = 3) with rfl | rfl | rfl | rfl
    · rw [show (24 - 8 * ((0 : Nat) : Int)).toNat = 24 from rfl, W_shr]; show (((x >>> 24).toNat % 256 : Nat) : Int) = _; unfold W; omega
    · rw [show (24 - 8 * ((1 : Nat) : Int)).toNat = 16 from rfl, W_shr]; show (((x >>> 16).toNat % 256 : Nat) : Int) = _; unfold W; omega
    · rw [show (24 - 8 * ((2 : Nat) : Int)).toNat = 8 from rfl, W_shr]; show (((x >>> 8).toNat % 256 : Nat) : Int) = _; unfold W; omega
    · rw [show (24 - 8 * ((3 : Nat) : Int)).toNat = 0 from rfl, W_shr]; show ((x.toNat % 256 : Nat) : Int) = _; unfold W; simp
  have he : (q.bytes)[4 * d + r]?.getD 0 = (b4 (q.words.getD d 0))[r]?.getD 0 := by
    rcases (by omega : d = 0 ∨ d = 1 ∨ d = 2 ∨ d = 3 ∨ d = 4 ∨ d = 5 ∨ d = 6 ∨ d = 7) with rfl | rfl | rfl | rfl | rfl | rfl | rfl | rfl <;> rcases (by omega : r = 0 ∨ r = 1 ∨ r = 2 ∨ r = 3) with rfl | rfl | rfl | rfl <;> rfl
  rw [he, hx]
/-- The first k bytes, and zeros. -/
def dzk (bs : List Int) (k : Nat) : List Int := bs.take k ++ List.replicate (32 - k) 0
theorem dzk_len (bs : List Int) (h : bs.length = 32) (k : Nat) (hk : k ≤ 32) : (dzk bs k).length = 32 := by simp [dzk, h]; omega
theorem dzk_set (bs : List Int) (h : bs.length = 32) (k : Nat) (hk : k < 32) : (dzk bs k).set k (bs[k]?.getD 0) = dzk bs (k + 1) := by
  unfold dzk
  have hl : (bs.take k).length = k := by simp [h]; omega
  rw [List.set_append_right _ _ (by rw [hl]; exact Nat.le_refl _), hl, Nat.sub_self, show 32 - k = (32 - (k + 1)) + 1 from by omega, List.replicate_succ, List.set_cons_zero, take_snoc bs k (by omega), List.append_assoc]
  rfl
/-- What lies there while the bytes are laid. -/
def GSu (w V : World) (N M R : Nat) (q : St) (l : List Int) : Prop := Bk 72 V M (wds q.words) ∧ Bk 24 V R (u8s l) ∧ Bk 24 V N (u8s dz32) ∧ w.grownBy V none ∧ N < R ∧ N = w.heap.size ∧ M ≠ R
theorem GSu.set {w V N M R q l} (h : GSu w V N M R q l) (k : Nat) (z : Int) : GSu w (V.setCell ⟨R, k, none⟩ (.int .u8 z)) N M R q (l.set k z) := by
  have hg := gb_cell V R k (.int .u8 z)
  refine ⟨h.1.grew hg (fun e => h.2.2.2.2.2.2 (Option.some.inj e).symm), ?_, h.2.2.1.grew hg (fun e => by have := Option.some.inj e; have := h.2.2.2.2.1; omega), gb_newer h.2.2.2.1 hg (by have := h.2.2.2.2; omega), h.2.2.2.2⟩
  have := h.2.1.set k (.int .u8 z)
  rw [u8s_set] at this
  exact this
theorem info32 : (Try.prog.info? 24).map (·.size) = some 32 := by kernel_rfl
theorem bytes_fill (xs : List Int) (n : Nat) (hx : Bytes xs) : Bytes (xs ++ fill n) := by
  refine bytes_of_mem (fun z hz => ?_)
  rcases List.mem_append.1 hz with h | h
  · exact hx.mem z h
  · simp only [fill, b4, List.mem_cons, List.mem_append, List.mem_replicate, List.not_mem_nil, or_false] at h
    omega
theorem shz_block (s : St) (tot : List Int) (A : Nat) (hA : A + 64 ≤ tot.length) (h64 : A % 64 = 0) : (shz (s, []) (tot.take (A + 64))).1 = blk (shz (s, []) (tot.take A)).1 ((tot.drop A).take 64) := by
  have hl := shz_len (s, []) (tot.take A) (by simp)
  have h0 : (shz (s, []) (tot.take A)).2 = [] := by
    apply List.eq_nil_of_length_eq_zero
    rw [hl]; simp; omega
  rw [List.take_add, shz_app]
  obtain ⟨s1, hd⟩ : ∃ s1, shz (s, []) (tot.take A) = (s1, []) := ⟨_, Prod.ext rfl h0⟩
  rw [hd, shz_full s1 [] _ (by simp; omega) (by simp)]
  simp
set_option maxRecDepth 20000 in
set_option maxHeartbeats 1000000 in
theorem gsum_c (g : Nat) (p : St × List Int) (n : Nat) (w : World) (hH : GH w g p n) (hp : p.2.length = n % 64) (hpb : Bytes p.2) (hn : n < 2305843009213693952) :
    Calls Try.prog 34 #[.pointer (some ⟨g, 0, none⟩)] w fun r w' => r = .returned (.agg (u8s (dgs p n))) ∧ w.grownBy w' none := by
  obtain ⟨v, hv⟩ := hH
  obtain ⟨va, vc, rfl⟩ := hv.form
  have HV : Hid (GHv w g p n (.slice va p.2.length vc)) := hv
  have HP : Hid (p.2.length = n % 64 ∧ Bytes p.2) := ⟨hp, hpb⟩
  obtain ⟨N, hN⟩ : ∃ N, N = w.heap.size := ⟨_, rfl⟩
  have HA := blk_new w 24 (u8s dz32)
  have HA1 : Hid (Bk 24 (w.alloc (.cells (u8s dz32) 24)) N (u8s dz32) ∧ w.grownBy (w.alloc (.cells (u8s dz32) 24)) none ∧ (w.alloc (.cells (u8s dz32) 24)).heap.size = N + 1 ∧ N = w.heap.size) := ⟨by rw [hN]; exact HA.1, HA.2, by rw [hN]; simp, hN⟩
  have c9 : (w.alloc (.cells (u8s dz32) 24)).cell? ⟨g, 9, none⟩ = some (.slice va p.2.length vc) := (hv.1.gb HA.2).cell 9
  have hz := zD32
  clear HA hv hp hpb
  obtain ⟨m, hm⟩ : ∃ m, m = p.2.length := ⟨_, rfl⟩
  rw [← hm] at c9 HV HP
  have HM : Hid (m = p.2.length) := hm
  clear hm
  have HM64 : Hid (m < 64) := by have := HP.out.1; show _ < _; omega
  go_enter Try.func34, Try.ntmps34
  go_wp2_with fail
  rw [← hN]
  generalize hW1 : World.alloc w _ = W1 at HA1 c9 ⊢
  have HSG : Hid (Seg .u8 W1 va m p.2) := by
    have hO : Own (g + 1) W1 (.slice va m vc) p.2.length p.2 := own_gb HV.out.2 HA1.out.2.1
    obtain ⟨a0, c0, e0, hs0, _⟩ := hO.seg
    rw [← HM.out] at e0 hs0
    injection e0 with e1 e2 e3
    rw [e1]; exact hs0
  refine (copy_c va m vc p.2 W1 HSG.out HP.out.2 (by have := HM64.out; omega)).mono ?_
  rintro r w2 ⟨b2, cap2, rfl, hm2, hb2⟩
  have H2 : Hid (Mine w2 (N + 1) b2 m cap2 p.2 ∧ Below (N + 1) W1 w2) := by
    rw [HA1.out.2.2.1] at hm2 hb2
    exact ⟨hm2, hb2⟩
  clear hm2 hb2 hz c9 hW1 hN
  have HA2 : Hid (Mine (w2.alloc (.cells #[.int .u8 128] 5)) (N + 1) b2 m cap2 p.2 ∧ Below (N + 1) W1 (w2.alloc (.cells #[.int .u8 128] 5)) ∧ Seg .u8 (w2.alloc (.cells #[.int .u8 128] 5)) (some ⟨w2.heap.size, 0, none⟩) 1 [128]) := mine_lit H2.out.1 H2.out.2 HA1.out.2.2.1 128
  obtain ⟨iu, hiu, hz0, hz1, hz2⟩ := info_parts' Try.infoU8
  go_wp2_with (first
    | (at_builtin; go_must (refine wpList_append_mine _ rfl _ _ 48 rfl 5 iu Try.underlying48 hiu hz0 hz1 hz2 (N + 1) b2 m cap2 p.2 rfl HA2.out.1 (some ⟨w2.heap.size, 0, none⟩) 1 1 [128] rfl (fun h => by cases h) HA2.out.2.2 (by have := HM64.out; omega) ?_); intro b3 cap3 w3 hm3 hb3; have H3 : Hid (Mine w3 (N + 1) b3 (m + 1) cap3 (p.2 ++ [128]) ∧ Below (N + 1) W1 w3) := ⟨hm3, HA2.out.2.1.trans hb3⟩; clear hm3 hb3))
  clear HA2 H2
  go_loopw [3] (fun u wr => ∃ j b cap, j ≤ fz m ∧ u = .slice (some ⟨b, 0, none⟩) (m + 1 + j) cap ∧ Hid (Mine wr (N + 1) b (m + 1 + j) cap (p.2 ++ [128] ++ List.replicate j 0) ∧ Below (N + 1) W1 wr)) (fun u _ => m + 1 + fz m - lenS u)
  case atStart => exact ⟨0, b3, cap3, Nat.zero_le _, rfl, by rw [List.replicate_zero, List.append_nil]; exact H3⟩
  case round =>
    obtain ⟨j, b, cap, hj, rfl, hr⟩ := hrel
    clear H3
    by_cases hlt : j < fz m
    · have hne := fz_ne m j HM64.out hlt
      have e0 : ((m + 1 + j : Nat) : Int) = (m : Int) + 1 + j := by omega
      have e1 : ((m : Int) + 1 + j).tmod 64 ≠ 56 := by rw [Int.tmod_eq_emod_of_nonneg (by omega)]; omega
      have e2 : ((m : Int) + 1 + j) % 64 ≠ 56 := by omega
      have HA2 : Hid (Mine (wr.alloc (.cells #[.int .u8 0] 5)) (N + 1) b (m + 1 + j) cap (p.2 ++ [128] ++ List.replicate j 0) ∧ Below (N + 1) W1 (wr.alloc (.cells #[.int .u8 0] 5)) ∧ Seg .u8 (wr.alloc (.cells #[.int .u8 0] 5)) (some ⟨wr.heap.size, 0, none⟩) 1 [0]) := mine_lit hr.out.1 hr.out.2 HA1.out.2.2.1 0
      have HRP : Hid (p.2 ++ [128] ++ List.replicate j 0 ++ [0] = p.2 ++ [128] ++ List.replicate (j + 1) 0) := by
        show _ = _
        rw [List.replicate_succ', List.append_assoc _ _ [0]]
      have HFZ : Hid (fz m < 64) := Nat.mod_lt _ (by decide)
      go_wp2_with (first
        | (at_builtin; go_must (refine wpList_append_mine _ rfl _ _ 48 rfl 5 iu Try.underlying48 hiu hz0 hz1 hz2 (N + 1) b (m + 1 + j) cap _ rfl HA2.out.1 (some ⟨wr.heap.size, 0, none⟩) 1 1 [0] rfl (fun h => by cases h) HA2.out.2.2 (by have := HM64.out; have := HFZ.out; omega) ?_); intro b4' cap4 w4 hm4 hb4; have H4 : Hid (Mine w4 (N + 1) b4' (m + 1 + (j + 1)) cap4 (p.2 ++ [128] ++ List.replicate (j + 1) 0) ∧ Below (N + 1) W1 w4) := ⟨by rw [← HRP.out]; exact hm4, HA2.out.2.1.trans hb4⟩; clear hm4 hb4))
      go_roundw
      case rel => exact ⟨j + 1, b4', cap4, by omega, rfl, H4⟩
      case measure => simp [lenS]; omega
    · obtain rfl : j = fz m := by omega
      have heq := fz_eq m HM64.out
      have e0 : ((m + 1 + fz m : Nat) : Int) = (m : Int) + 1 + (fz m : Nat) := by omega
      have e2 : ((m : Int) + 1 + (fz m : Nat)) % 64 = 56 := by omega
      have HGN : Hid (g < N) := by have := lt_of_block HV.out.1; have := HA1.out.2.2.2; show _ < _; omega
      have HC8 : Hid (∀ W, Below (N + 1) W1 W → W.cell? ⟨g, 8, none⟩ = some (.int .i64 n)) := fun W hW => (hW.cell (p := ⟨g, 8, none⟩) (by have := HGN.out; show g < N + 1; omega)).trans ((HV.out.1.gb HA1.out.2.1).cell 8)
      have c8 := HC8.out wr hr.out.2
      have e3 : (n : Int) * 8 < 18446744073709551616 := by omega
      have e4 : IntKind.u64.wrap ((n : Int) * 8) = (n : Int) * 8 := by rw [IntKind.wrap_u64]; omega
      have e5 : IntKind.u64.wrap (n : Int) = (n : Int) := by rw [IntKind.wrap_u64]; omega
      obtain ⟨L, hL⟩ : ∃ L, L = m + 1 + fz m := ⟨_, rfl⟩
      have HL : Hid (L = m + 1 + fz m ∧ L < 128) := ⟨hL, by have := HM64.out; have : fz m < 64 := Nat.mod_lt _ (by decide); omega⟩
      obtain ⟨ys, hys⟩ : ∃ ys, ys = p.2 ++ [128] ++ List.replicate (fz m) 0 := ⟨_, rfl⟩
      have HYS : Hid (ys = p.2 ++ [128] ++ List.replicate (fz m) 0) := hys
      rw [← hL, ← hys] at hr
      clear hys
      go_wp2
      rw [← hL]
      clear hL e4 e5
      generalize hX : (n : Int) * 8 = X at e3 ⊢
      have HX : Hid (X = (n : Int) * 8) := hX.symm
      clear hX
      go_loopw [3, 5] (fun u i wr => ∃ (k b cap : Nat) (x : Int), k ≤ 8 ∧ i = .int .i64 x ∧ Hid (x = 7 - (k : Int)) ∧ u = .slice (some ⟨b, 0, none⟩) (L + k) cap ∧ Hid (Mine wr (N + 1) b (L + k) cap (ys ++ (be8 n).take k) ∧ Below (N + 1) W1 wr)) (fun _ i _ => (intOf i + 1).toNat)
      case atStart => exact ⟨0, b, cap, 7, by omega, rfl, rfl, rfl, by rw [List.take_zero, List.append_nil]; exact hr⟩
      case round =>
        clear hr c8 heq e0 e2 hlt hj
        obtain ⟨k, b, cap, x, hk, rfl, hxk, rfl, hr⟩ := hrel
        by_cases hlt : k < 8
        · have HA2 : Hid (∀ z, Mine (wr.alloc (.cells #[.int .u8 z] 5)) (N + 1) b (L + k) cap (ys ++ (be8 n).take k) ∧ Below (N + 1) W1 (wr.alloc (.cells #[.int .u8 z] 5)) ∧ Seg .u8 (wr.alloc (.cells #[.int .u8 z] 5)) (some ⟨wr.heap.size, 0, none⟩) 1 [z]) := fun z => mine_lit hr.out.1 hr.out.2 HA1.out.2.2.1 z
          have f1 : (0 : Int) ≤ x := by have := hxk.out; omega
          have f0 : x ≤ 7 := by have := hxk.out; omega
          have f2 : IntKind.i64.wrap (8 * x) = 8 * x := IntWalk.i64_in _ ⟨by omega, by omega⟩
          have f3 : (0 : Int) ≤ 8 * x := by omega
          have f4 : IntKind.i64.wrap (x - 1) = x - 1 := IntWalk.i64_in _ ⟨by omega, by omega⟩
          go_wp2_with (first
            | (at_builtin; go_must (refine wpList_append_mine _ rfl _ _ 48 rfl 5 iu Try.underlying48 hiu hz0 hz1 hz2 (N + 1) b (L + k) cap _ rfl (HA2.out _).1 (some ⟨wr.heap.size, 0, none⟩) 1 1 [_] rfl (fun h => by cases h) (HA2.out _).2.2 (by have := HL.out.2; omega) ?_); intro b4' cap4 w4 hm4 hb4; replace hm4 : Hid _ := hm4; replace hb4 : Hid (Below (N + 1) W1 w4) := (HA2.out _).2.1.trans hb4))
          go_roundw
          case rel => exact ⟨k + 1, b4', cap4, x - 1, by omega, rfl, by have := hxk.out; show _ = _; omega, rfl, by have := hm4.out; rw [List.append_assoc, be8_next n k x X hlt hxk.out HX.out] at this; exact this, hb4.out⟩
          case measure => simp [intOf]; omega
        · obtain rfl : k = 8 := by omega
          have hxm : x = -1 := by have := hxk.out; omega
          subst hxm
          have HT8 : Hid ((be8 n).take 8 = be8 n) := rfl
          have HTOT : Hid (ys ++ be8 n = p.2 ++ fill n) := by
            show _ = _
            rw [HYS.out, fill_be n hn, HP.out.1]; simp
          have HTL : Hid ((L + 8) % 64 = 0) := by
            have h1 := fz_eq m HM64.out
            have h2 := HL.out.1
            show _ = _
            omega
          rw [HT8.out, HTOT.out] at hr
          have HR8 : Hid (∀ V, Below (N + 1) W1 V → V.rangeAt g 0 [.int .u32 (W p.1.a), .int .u32 (W p.1.b), .int .u32 (W p.1.c), .int .u32 (W p.1.d), .int .u32 (W p.1.e), .int .u32 (W p.1.f), .int .u32 (W p.1.g), .int .u32 (W p.1.h)]) := fun V hV => by
            have h1 : GHv W1 g p n (.slice va m vc) := (HV.out).gb HA1.out.2.1
            intro j v hv
            have := h1.range j v hv
            rw [← this]
            exact hV.cell (p := ⟨g, 0 + j, none⟩) (by have := HGN.out; show g < N + 1; omega)
          have hz8 := zz8u
          go_wp2_with (first
            | (refine wpList_load_mid rfl 72 (.tmp 44) rfl g 0 rfl _ _ (HR8.out wr hr.out.2) Try.underlying72 rfl (by kernel_rfl) ?_)
            | (refine wpList_store_bk 72 rfl (.tmp 6) (.tmp 45) rfl info8u wr.heap.size (wds (List.replicate 8 0)) (wds p.1.words) rfl rfl (blk_new wr 72 (wds (List.replicate 8 0))).1 rfl rfl (wds_one _) ?_; intro w5 h1 h2; have H5 : Hid (Bk 72 w5 wr.heap.size (wds p.1.words) ∧ wr.grownBy w5 none) := ⟨h1, gb_new (blk_new wr 72 (wds (List.replicate 8 0))).2 h2⟩; clear h1 h2))
          have HT : Hid (Rda w5 b (L + 8) (p.2 ++ fill n) ∧ Below (N + 1) W1 w5 ∧ N + 1 ≤ wr.heap.size ∧ b ≠ wr.heap.size ∧ L + 8 ≤ cap ∧ (p.2 ++ fill n).length = L + 8) := by
            have h1 := mine_below hr.out.1 (gb_below H5.out.2)
            have h2 := hr.out.2.size
            have h3 := HA1.out.2.2.1
            have h4 := hr.out.1.lt
            refine ⟨⟨h1.lt, h1.cell⟩, hr.out.2.grown H5.out.2 (by omega) (fun k hk => by cases hk), by omega, by omega, h1.le, h1.len⟩
          have HBY : Hid (Bytes (p.2 ++ fill n)) := bytes_fill p.2 n HP.out.2
          obtain ⟨tot, htot⟩ : ∃ tot, tot = p.2 ++ fill n := ⟨_, rfl⟩
          have HDG : Hid (dgs p n = (shz (p.1, []) tot).1.bytes) := by
            show _ = _
            rw [htot, shz_app, shz_short p.1 p.2 [] (by have := HM.out; have := HM64.out; simp; omega)]; rfl
          rw [← htot] at HT HBY
          clear htot HTOT HT8 hr
          obtain ⟨T, hT⟩ : ∃ T, T = L + 8 := ⟨_, rfl⟩
          rw [← hT] at HT HTL
          have HTS : Hid (T < 136 + 8) := by have := HL.out.2; show _ < _; omega
          have H6 : Hid (GSt W1 N w5 wr.heap.size (shz (p.1, []) (tot.take (64 * 0))).1 b T tot) := ⟨H5.out.1, HT.out.1, HT.out.2.1⟩
          have HTC : Hid (N + 1 ≤ wr.heap.size ∧ b ≠ wr.heap.size ∧ T ≤ cap ∧ tot.length = T) := HT.out.2.2
          rw [← hT]
          clear hT H5 HT HR8 hz8
          generalize wr.heap.size = M at H6 HTC ⊢
          go_loopw [7] (fun u wr => ∃ t : Nat, 64 * t ≤ T ∧ u = .int .i64 ((64 * t : Nat) : Int) ∧ Hid (GSt W1 N wr M (shz (p.1, []) (tot.take (64 * t))).1 b T tot)) (fun u _ => T - (intOf u).toNat)
          case atStart => exact ⟨0, by omega, rfl, H6⟩
          case round =>
            clear H6
            obtain ⟨t, ht, rfl, hr⟩ := hrel
            by_cases hlt : 64 * t < T
            · have hle : 64 * t + 64 ≤ T := by have := HTL.out; omega
              obtain ⟨A, hA⟩ : ∃ A, A = 64 * t := ⟨_, rfl⟩
              have HAT : Hid (A = 64 * t) := hA
              rw [← hA] at hr hlt hle ht ⊢
              clear hA
              obtain ⟨q, hq⟩ : ∃ q, q = (shz (p.1, []) (tot.take A)).1 := ⟨_, rfl⟩
              have HQ : Hid ((shz (p.1, []) (tot.take (A + 64))).1 = blk q ((tot.drop A).take 64)) := by
                show _ = _
                rw [hq]; exact shz_block p.1 tot A (by rw [HTC.out.2.2.2]; exact hle) (by have := HAT.out; omega)
              rw [← hq] at hr
              clear hq
              obtain ⟨S', hS'⟩ : ∃ S', S' = blk q ((tot.drop A).take 64) := ⟨_, rfl⟩
              have HSS : Hid (blk q ((tot.drop A).take 64) = S') := hS'.symm
              rw [← hS'] at HQ
              clear hS'
              have HBk : Hid (∀ V, GSt W1 N V M q b T tot → Calls Try.prog 48 #[.agg #[.int .u32 (W q.a), .int .u32 (W q.b), .int .u32 (W q.c), .int .u32 (W q.d), .int .u32 (W q.e), .int .u32 (W q.f), .int .u32 (W q.g), .int .u32 (W q.h)], .slice (some ⟨b, A, none⟩) 64 (cap - A)] V fun r w' => r = .returned (.agg (wds S'.words)) ∧ V.grownBy w' none) := fun V hV => by
                have := gblock_c q b A (cap - A) ((tot.drop A).take 64) (by simp [HTC.out.2.2.2]; omega) (bytes_of_mem (fun z hz => HBY.out.mem z (List.mem_of_mem_drop (List.mem_of_mem_take hz)))) V (hV.rd A (by omega))
                rw [HSS.out] at this
                exact this
              have i1 : (0 : Int) ≤ (A : Int) := by omega
              have i2 : (A : Int) < (T : Int) := by omega
              have i3 : IntKind.i64.wrap ((A : Int) + 64) = (A : Int) + 64 := IntWalk.i64_in _ ⟨by omega, by have := HTS.out; omega⟩
              have i4 : (A : Int) ≤ (A : Int) + 64 := by omega
              have i5 : (A : Int) + 64 ≤ (cap : Int) := by have := HTC.out.2.2.1; omega
              have i6 : ¬ cap = A := by have := HTC.out.2.2.1; omega
              have i7 : ((A : Int) + 64).toNat = A + 64 := by omega
              go_wp2
              refine wp_region_last 7 rfl (by kernel_rfl) [52, 53, 54, 55, 56, 57, 58, 100007] [[], [], [], [], [3], [1, 2, 4], [0, 5], [6]] (by kernel_rfl) (by kernel_rfl) [fun u V => u = .agg #[.int .u32 (W q.a), .int .u32 (W q.b), .int .u32 (W q.c), .int .u32 (W q.d), .int .u32 (W q.e), .int .u32 (W q.f), .int .u32 (W q.g), .int .u32 (W q.h)], fun u V => u = .slice (some ⟨b, 0, none⟩) T cap, fun u V => u = .int .i64 (A : Int), fun u V => u = .int .i64 (A : Int), fun u V => u = .int .i64 ((A : Int) + 64), fun u V => u = .slice (some ⟨b, A, none⟩) 64 (cap - A), fun u V => u = .agg (wds S'.words)] ?stable ?step ?last
              case stable =>
                intro i v V V' h hg
                match i, h with
                | 0, h => exact h
                | 1, h => exact h
                | 2, h => exact h
                | 3, h => exact h
                | 4, h => exact h
                | 5, h => exact h
                | 6, h => exact h
                | i + 7, h => exact trivial
              case step =>
                intro f V A' hA hg i o hin ho hu K hK
                match i, hin, ho, hu, hK with
                | 0, hin, ho, hu, hK =>
                  cases ho
                  have hw : GSt W1 N V M q b T tot := hr.out.gb HTC.out.1 hg
                  have e6 : A'.eval (.tmp 6) = .pointer (some ⟨M, 0, none⟩) := ev_out hA 6 rfl
                  exact ph_load rfl 72 _ rfl Try.underlying72 rfl M 0 [.int .u32 (W q.a), .int .u32 (W q.b), .int .u32 (W q.c), .int .u32 (W q.d), .int .u32 (W q.e), .int .u32 (W q.f), .int .u32 (W q.g), .int .u32 (W q.h)] (by kernel_rfl) e6 (hw.range) (hK _ _ (gb_rr V _) rfl)
                | 1, hin, ho, hu, hK =>
                  cases ho
                  have hw : GSt W1 N V M q b T tot := hr.out.gb HTC.out.1 hg
                  have e3 : A'.eval (.tmp 3) = .slice (some ⟨b, 0, none⟩) T cap := ev_out hA 3 rfl
                  exact ph_move _ rfl rfl (.slice (some ⟨b, 0, none⟩) T cap) e3 (hK _ _ (gb_rr V _) rfl)
                | 2, hin, ho, hu, hK =>
                  cases ho
                  have hw : GSt W1 N V M q b T tot := hr.out.gb HTC.out.1 hg
                  have e7 : A'.eval (.tmp 7) = .int .i64 (A : Int) := ev_out hA 7 rfl
                  exact ph_move _ rfl rfl (.int .i64 (A : Int)) e7 (hK _ _ (gb_rr V _) rfl)
                | 3, hin, ho, hu, hK =>
                  cases ho
                  have hw : GSt W1 N V M q b T tot := hr.out.gb HTC.out.1 hg
                  have e7 : A'.eval (.tmp 7) = .int .i64 (A : Int) := ev_out hA 7 rfl
                  exact ph_move _ rfl rfl (.int .i64 (A : Int)) e7 (hK _ _ (gb_rr V _) rfl)
                | 4, hin, ho, hu, hK =>
                  cases ho
                  have hw : GSt W1 N V M q b T tot := hr.out.gb HTC.out.1 hg
                  have e55 : A'.eval (.tmp 55) = .int .i64 (A : Int) := (ev_in hA 55 3 rfl rfl rfl).trans (show f 3 = .int .i64 (A : Int) from hu 3 (by decide))
                  refine ph_sem rfl rfl (r := .ok (.value (.int .i64 ((A : Int) + 64))) V) ?_ (hK _ _ (gb_rr V _) rfl)
                  have eC : ∀ c, A'.eval (.const c) = c := fun _ => rfl; have eF : ∀ g, A'.eval (.func g) = .func (.func g) #[] #[] := fun _ => rfl; generalize A'.eval = ρ at *
                  clear hA hu
                  go_simp
                | 5, hin, ho, hu, hK =>
                  cases ho
                  have hw : GSt W1 N V M q b T tot := hr.out.gb HTC.out.1 hg
                  have e53 : A'.eval (.tmp 53) = .slice (some ⟨b, 0, none⟩) T cap := (ev_in hA 53 1 rfl rfl rfl).trans (show f 1 = .slice (some ⟨b, 0, none⟩) T cap from hu 1 (by decide))
                  have e54 : A'.eval (.tmp 54) = .int .i64 (A : Int) := (ev_in hA 54 2 rfl rfl rfl).trans (show f 2 = .int .i64 (A : Int) from hu 2 (by decide))
                  have e56 : A'.eval (.tmp 56) = .int .i64 ((A : Int) + 64) := (ev_in hA 56 4 rfl rfl rfl).trans (show f 4 = .int .i64 ((A : Int) + 64) from hu 4 (by decide))
                  refine ph_sem rfl rfl (r := .ok (.value (.slice (some ⟨b, A, none⟩) 64 (cap - A))) V) ?_ (hK _ _ (gb_rr V _) rfl)
                  have eC : ∀ c, A'.eval (.const c) = c := fun _ => rfl; have eF : ∀ g, A'.eval (.func g) = .func (.func g) #[] #[] := fun _ => rfl; generalize A'.eval = ρ at *
                  clear hA hu
                  go_simp
                | 6, hin, ho, hu, hK =>
                  cases ho
                  have hw : GSt W1 N V M q b T tot := hr.out.gb HTC.out.1 hg
                  have e52 : A'.eval (.tmp 52) = .agg #[.int .u32 (W q.a), .int .u32 (W q.b), .int .u32 (W q.c), .int .u32 (W q.d), .int .u32 (W q.e), .int .u32 (W q.f), .int .u32 (W q.g), .int .u32 (W q.h)] := (ev_in hA 52 0 rfl rfl rfl).trans (show f 0 = .agg #[.int .u32 (W q.a), .int .u32 (W q.b), .int .u32 (W q.c), .int .u32 (W q.d), .int .u32 (W q.e), .int .u32 (W q.f), .int .u32 (W q.g), .int .u32 (W q.h)] from hu 0 (by decide))
                  have e57 : A'.eval (.tmp 57) = .slice (some ⟨b, A, none⟩) 64 (cap - A) := (ev_in hA 57 5 rfl rfl rfl).trans (show f 5 = .slice (some ⟨b, A, none⟩) 64 (cap - A) from hu 5 (by decide))
                  refine ph_fn 48 _ _ rfl rfl #[.agg #[.int .u32 (W q.a), .int .u32 (W q.b), .int .u32 (W q.c), .int .u32 (W q.d), .int .u32 (W q.e), .int .u32 (W q.f), .int .u32 (W q.g), .int .u32 (W q.h)], .slice (some ⟨b, A, none⟩) 64 (cap - A)] (by simp [e52, e57]) (by kernel_rfl) ?_
                  refine (Calls.mono (HBk.out V hw) ?_)
                  rintro e V' ⟨rfl, hq⟩
                  exact ⟨_, rfl, hK _ _ hq rfl⟩
                | i + 7, hin, ho, hu, hK => omega
              case last =>
                intro f V A' hA hg hu o ho K hK
                cases ho
                have hw : GSt W1 N V M q b T tot := hr.out.gb HTC.out.1 hg
                obtain ⟨V9, h1, h2, h3⟩ := bk_store (P := Try.prog) (T := 72) (es := wds S'.words) info8u hw.1 rfl rfl (wds_one _)
                have e58 : A'.eval (.tmp 58) = .agg (wds S'.words) := (ev_in hA 58 6 rfl rfl rfl).trans (show f 6 = .agg (wds S'.words) from hu 6 (by decide))
                have e6 : A'.eval (.tmp 6) = .pointer (some ⟨M, 0, none⟩) := ev_out hA 6 rfl
                refine ph_store 72 _ _ rfl rfl ⟨M, 0, none⟩ (.agg (wds S'.words)) e6 e58 V9 h1 (hK _ _ ?_)
                show _
                have H9 : Hid (GSt W1 N V9 M S' b T tot) := ⟨h2, hw.2.1.grew h3 (fun e => HTC.out.2.1 (Option.some.inj e).symm), hw.2.2.grown h3 (by have := lt_of_block hw.1; have := HTC.out.1; omega) (fun k hk => by cases hk; exact HTC.out.1)⟩
                clear h1 h2 h3 e58 e6 hg hw
                have hA2 := hA.trans (putAll_lit [(.agg #[.int .u32 (W q.a), .int .u32 (W q.b), .int .u32 (W q.c), .int .u32 (W q.d), .int .u32 (W q.e), .int .u32 (W q.f), .int .u32 (W q.g), .int .u32 (W q.h)]), (.slice (some ⟨b, 0, none⟩) T cap), (.int .i64 (A : Int)), (.int .i64 (A : Int)), (.int .i64 ((A : Int) + 64)), (.slice (some ⟨b, A, none⟩) 64 (cap - A)), (.agg (wds S'.words)), (f 7)] (by
                  intro j hj
                  match j, hj with
                  | 0, _ => exact hu 0 (by decide)
                  | 1, _ => exact hu 1 (by decide)
                  | 2, _ => exact hu 2 (by decide)
                  | 3, _ => exact hu 3 (by decide)
                  | 4, _ => exact hu 4 (by decide)
                  | 5, _ => exact hu 5 (by decide)
                  | 6, _ => exact hu 6 (by decide)
                  | 7, _ => rfl
                  | j + 8, hj => exact absurd hj (by simp)))
                clear hu hA
                subst hA2
                simp only [putAll, putL, List.mem_cons, List.not_mem_nil, List.idxOf_cons, Nat.reduceEqDiff, Nat.reduceBEq, Nat.reduceAdd, or_false, or_true, reduceIte, cond_true, cond_false, List.getD_cons_zero, List.getD_cons_succ, BEq.rfl]
                go_wp2
                go_roundw
                case rel => exact ⟨t + 1, by have := HAT.out; omega, by (have := HAT.out; congr 1; omega), by rw [show 64 * (t + 1) = A + 64 from by have := HAT.out; omega, HQ.out]; exact H9⟩
                case measure => simp [intOf]; omega
            · have hTA : 64 * t = T := by omega
              have HQE : Hid ((shz (p.1, []) (tot.take (64 * t))).1 = (shz (p.1, []) tot).1) := by
                show _ = _
                rw [hTA, List.take_of_length_le (by rw [HTC.out.2.2.2]; exact Nat.le_refl _)]
              rw [HQE.out] at hr
              clear HQE
              obtain ⟨q, hq⟩ : ∃ q, q = (shz (p.1, []) tot).1 := ⟨_, rfl⟩
              rw [← hq] at hr HDG
              clear hq
              have hz := zD32
              have i2 : ¬ ((64 * t : Nat) : Int) < (T : Int) := by omega
              have HBL : Hid (q.bytes.length = 32) := bytes_len q
              have H7 : Hid (GSu w (wr.alloc (.cells (u8s dz32) 24)) N M wr.heap.size q (dzk q.bytes 0)) := by
                have ha := blk_new wr 24 (u8s dz32)
                have h1 := hr.out.2.2
                have h2 := h1.size
                have h3 := HA1.out.2.2.1
                have h4 : Bk 24 wr N (u8s dz32) := HA1.out.1.below h1 (by omega)
                have h5 : W1.grownBy wr none := ⟨h1.os, h1.tape, h1.output, h1.size, fun i hi _ => h1.block i (by omega)⟩
                refine ⟨hr.out.1.gb ha.2, ha.1, h4.gb ha.2, gb_trans (gb_trans HA1.out.2.1 h5) ha.2, by omega, HA1.out.2.2.2, ?_⟩
                have := lt_of_block hr.out.1; omega
              clear hr i2 hTA
              have i3 : ¬ ((64 * (t : Int)) < (T : Int)) := by omega
              go_wp2
              generalize World.alloc wr _ = w7 at H7 ⊢
              generalize wr.heap.size = R at H7 ⊢
              clear hz
              go_loopw [9] (fun u wr => ∃ k : Nat, k ≤ 32 ∧ u = .int .i64 k ∧ Hid (GSu w wr N M R q (dzk q.bytes k))) (fun u _ => 32 - (intOf u).toNat)
              case atStart => exact ⟨0, Nat.zero_le _, rfl, H7⟩
              case round =>
                clear H7
                obtain ⟨k, hk, rfl, hr⟩ := hrel
                by_cases hlt2 : k < 32
                · obtain ⟨d, r, hd, hrr, hkd⟩ : ∃ d r : Nat, d < 8 ∧ r < 4 ∧ k = 4 * d + r := ⟨k / 4, k % 4, by omega, by omega, by omega⟩
                  have HB : Hid ((q.bytes)[k]?.getD 0 = W (q.words.getD d 0) / 2 ^ (24 - 8 * (r : Int)).toNat % 256) := by rw [hkd]; exact byte_at q d r hd hrr
                  have HS : Hid (GSu w (wr.setCell ⟨R, k, none⟩ (.int .u8 (W (q.words.getD d 0) / 2 ^ (24 - 8 * (r : Int)).toNat % 256))) N M R q (dzk q.bytes (k + 1))) := by
                    have := hr.out.set k ((q.bytes)[k]?.getD 0)
                    rw [dzk_set _ HBL.out k hlt2, HB.out] at this
                    exact this
                  have cM : wr.cell? ⟨M, d, none⟩ = some (.int .u32 (W (q.words.getD d 0))) := by
                    rw [hr.out.1.cell d, wds_at _ _ (by show d < 8; exact hd)]
                  have cR : wr.cell? ⟨R, k, none⟩ = some (.int .u8 ((dzk q.bytes k).getD k 0)) := by
                    rw [hr.out.2.1.cell k, u8s_at _ _ (by rw [dzk_len _ HBL.out k hk]; exact hlt2)]
                  have fR : wr.frozen? ⟨R, k, none⟩ = false := frozen_of_row wr R k _ 24 hr.out.2.1
                  generalize q.words.getD d 0 = X at HS cM
                  have g1 : (k : Int) / 4 = (d : Int) := by omega
                  have g2 : (k : Int) % 4 = (r : Int) := by omega
                  have g3 : (d : Int) < 8 := by omega
                  have g4 : (k : Int) < 32 := by omega
                  have g5 : IntKind.i64.wrap (8 * (r : Int)) = 8 * (r : Int) := IntWalk.i64_in _ ⟨by omega, by omega⟩
                  have g6 : IntKind.i64.wrap (24 - 8 * (r : Int)) = 24 - 8 * (r : Int) := IntWalk.i64_in _ ⟨by omega, by omega⟩
                  have g7 : (0 : Int) ≤ 24 - 8 * (r : Int) := by omega
                  clear HB hr hkd
                  go_wp2
                  go_roundw
                  case rel => exact ⟨k + 1, by omega, by go_num, by rw [show (24 - 8 * (r : Int)).toNat = 24 - 8 * r from by omega] at HS; exact HS⟩
                  case measure => simp [intOf]; omega
                · obtain rfl : k = 32 := by omega
                  have HDE : Hid (dzk q.bytes 32 = q.bytes) := by
                    show _ = _
                    unfold dzk
                    rw [List.take_of_length_le (by rw [HBL.out]; exact Nat.le_refl _)]; simp
                  rw [HDE.out] at hr
                  go_wp2_with (first
                    | (refine wpList_load_bk 24 rfl (.tmp 8) rfl Try.underlying24 rfl info32 R (u8s q.bytes) rfl hr.out.2.1 (by rw [u8s_size]; exact HBL.out) ?_)
                    | (refine wpList_store_bk 24 rfl (.tmp 2) (.tmp 75) rfl info32 N (u8s dz32) (u8s q.bytes) rfl rfl hr.out.2.2.1 rfl (by rw [u8s_size]; exact HBL.out) (u8s_one _) ?_; intro w4 h1 h2; have H4 : Hid (Bk 24 w4 N (u8s q.bytes) ∧ w.grownBy w4 none) := ⟨h1, gb_newer hr.out.2.2.2.1 h2 (by have := hr.out.2.2.2.2; omega)⟩; clear h1 h2))
                  refine bodyPost_ret (results_cell1 Try.results34 _ _ _ ⟨N, 0, none⟩ (.agg (u8s q.bytes)) rfl (bk_load (T := 24) Try.underlying24 rfl info32 H4.out.1 (by rw [u8s_size]; exact HBL.out))) rfl ?_
                  rw [HDG.out]
                  exact ⟨rfl, H4.out.2⟩
end Go.Proofs.Ythbnbomdngecmaa

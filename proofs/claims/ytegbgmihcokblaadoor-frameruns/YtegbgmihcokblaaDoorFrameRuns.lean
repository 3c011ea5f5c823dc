/-
  Proved: for every frame, place and word, hawserlaw04.FrameRuns answers true: a frame with any bits turned within 32 that follow one another is refused, by Decode, by One and by a Splitter. No condition (the card ties the table of package crc to the program's text).
-/
import Derived.Test.YtegbgmihcokblaaDoorRows
import Derived.Test.YtegbgmihcokblaaDoorCards
import Derived.Test.YtegbgmihcokblaaDoorTie
import Derived.Test.YtegbgmihcokblaaDoorFRf
import Derived.Test.YtegbgmihcokblaaDoorFRq
import Derived.Test.YtegbgmihcokblaaDoorFEn
import Derived.WalkKit
import Derived.ProofKit
import Derived.OpenShut
import Derived.ShutString
import Derived.ChangeOld
import Derived.Below
import Derived.Lib.SmallJoins
import Derived.JoinedCond
import Derived.Deep.DeepHandedRow
import Derived.Lib.LaidTab
namespace Go.Proofs.YtegbgmihcokblaaDoor.frameRuns
open Go.ChangeShapes Go.WideShapes Go.ChangeAt Go.RowKit
set_option linter.unusedVariables false

theorem own : ownKnob Tryd.prog.godebug = none := by kernel_rfl
theorem laidOut : laidOutB Tryd.prog = true := by kernel_rfl

/-- What the walk is told of a slice of integers that came in. -/
def IsRow (k : IntKind) (R : Nat) (w : World) (a : Option Addr) (len cap : Nat) (zs : List Int) : Prop :=
  (a = none ∧ len = 0 ∧ cap = 0 ∧ zs = []) ∨
  ∃ x, a = some x ∧ len ≤ cap ∧ cap ≤ R ∧ zs.length = cap ∧ (∀ i, i < zs.length → w.cell? (x.add i) = some (.int k (zs.getD i 0))) ∧ ∀ n ∈ zs, (Lit.int k n).wf = true

theorem row_nil {k : IntKind} {R : Nat} {w : World} {a : Option Addr} {len cap : Nat} {zs : List Int} (h : IsRow k R w a len cap zs) : a = none → cap = 0 := by
  rcases h with ⟨_, _, h, _⟩ | ⟨x, h, _⟩
  · exact fun _ => h
  · intro h'; rw [h] at h'; cases h'
set_option maxRecDepth 20000 in
set_option maxHeartbeats 4000000 in
theorem walk (T : Int) (a : Option Addr) (len cap : Nat) (zs : List Int) (f a2 : Int) (w : World) (wT : (Lit.int .i64 T).wf = true) (x0 : IsRow .u8 maxLen w a len cap zs) (w1 : (Lit.int .u64 f).wf = true) (w2 : (Lit.int .u32 a2).wf = true) (ht : Tab w) :
    Calls Tryd.prog 7 #[.agg #[.int .i64 T, .slice a len cap], .int .u64 f, .int .u32 a2] w fun e w' => e = .returned (.bool true) ∧ Below w.heap.size w w' := by
  have b1 := wf_u64 w1
  have b2 : 0 ≤ a2 ∧ a2 < 4294967296 := by simp [Lit.wf, IntKind.min, IntKind.max, IntKind.signed, IntKind.bits] at w2; omega
  obtain ⟨v, hv⟩ : ∃ v : Wd, a2 = W v := ⟨BitVec.ofNat 32 a2.toNat, by unfold W; rw [BitVec.toNat_ofNat]; omega⟩
  obtain ⟨hs, hlc, hcr, hwf⟩ := seg_of_row x0
  have HN : Hid (a = none → cap = 0) := row_nil x0
  have HX : Hid (Bytes (zs.take len)) := fun i hi => wf_u8 (hwf i hi)
  obtain ⟨xs, hxs⟩ : ∃ xs, xs = zs.take len := ⟨_, rfl⟩
  rw [← hxs] at hs HX
  have HLN : Hid (xs.length = len) := hs.1
  obtain ⟨Wx, hW⟩ : ∃ Wx, Wx = w.alloc (.cells #[.int .i64 T, .slice a len cap] 42) := ⟨_, rfl⟩
  obtain ⟨N0, hN0⟩ : ∃ N0, N0 = w.heap.size := ⟨_, rfl⟩
  have HB0 : Hid (Below w.heap.size w Wx ∧ Wx.heap.size = N0 + 1) := by rw [hW, hN0]; exact ⟨(Below.refl _ _).alloc (Nat.le_refl _) _, by simp⟩
  have HBK : Hid (Bk 42 Wx N0 #[.int .i64 T, .slice a len cap]) := by rw [hW, hN0]; exact heap_new w _
  have HS : Hid (Seg .u8 Wx a len xs ∧ Tab Wx) := ⟨hs.below HB0.out.1, ht.below HB0.out.1⟩
  have k0 : Wx.cell? ⟨N0, 0, none⟩ = some (.int .i64 T) := HBK.out.cell 0
  have k1 : Wx.cell? ⟨N0, 1, none⟩ = some (.slice a len cap) := HBK.out.cell 1
  have HF0 : Hid (0 ≤ f ∧ f < 18446744073709551616) := b1
  subst hv
  clear ht w1 w2 x0 hwf hxs hs hlc hcr b1 b2
  by_cases hT : 1 ≤ T ∧ T ≤ 255 ∧ len ≤ 1048576
  · have HMY : Hid (∀ W', Calls Tryd.prog 23 #[.agg #[.int .i64 T, .slice a len cap]] W' fun r w' => r = .returned (.bool true) ∧ Below W'.heap.size W' w') := fun W' => may_c T a len cap W' true (decide_eq_true hT)
    have HE : Hid (fee T len = 0 ∧ feb T xs = fenc T xs) := by
      have q : fee T len = 0 := by unfold fee; rw [if_neg (by omega), if_neg (by omega)]
      refine ⟨q, ?_⟩
      unfold feb; rw [HLN.out, q]; rfl
    have HBF : Hid (Bytes (fenc T xs) ∧ (fenc T xs).length = len + 14) := ⟨fenc_bytes (by omega) (by omega) HX.out, by rw [fenc_length, HLN.out]⟩
    have HO : Hid (ftp1 (fenc T xs) = T ∧ fone (fenc T xs) = 0 ∧ fbd1 (fenc T xs) = xs) := by
      obtain ⟨q1, q2, q3, q4⟩ := fdec_fenc T xs [] hT.1 hT.2.1 (by rw [HLN.out]; exact hT.2.2)
      rw [List.append_nil] at q1 q2 q3 q4
      have q5 : fdec (fenc T xs) = 0 := q4 1048576 (by rw [HLN.out]; exact hT.2.2)
      have q6 : fone (fenc T xs) = 0 := by unfold fone; rw [q5, if_neg (by rw [q1, HBF.out.2, HLN.out]; omega)]
      unfold ftp1 fbd1
      rw [q6, q2, q3]; exact ⟨rfl, rfl, rfl⟩
    have HEN : Hid (∀ W', Below Wx.heap.size Wx W' → Calls Tryd.prog 24 #[.agg #[.int .i64 T, .slice a len cap]] W' fun e w' => ∃ gb cb, e = .returned (.tuple #[.slice (some ⟨gb, 0, none⟩) (len + 14) cb, .int .i64 0]) ∧ Own W'.heap.size w' (.slice (some ⟨gb, 0, none⟩) (len + 14) cb) (len + 14) (fenc T xs) ∧ Below W'.heap.size W' w') := fun W' hb => by
      refine (encode_c T a len cap xs W' HN.out (HS.out.1.below hb) HX.out (by omega) (HS.out.2.below hb)).mono ?_
      rintro e w' ⟨v, q1, q2, q3⟩
      rw [HE.out.2, HBF.out.2] at q2
      obtain ⟨gb, cb, rfl, _⟩ := q2.form (by omega)
      rw [HE.out.1] at q1
      exact ⟨gb, cb, q1, q2, q3⟩
    have HON : Hid (∀ W' gb cb, Seg .u8 W' (some ⟨gb, 0, none⟩) (len + 14) (fenc T xs) → len + 14 ≤ cb → Tab W' → Calls Tryd.prog 25 #[.slice (some ⟨gb, 0, none⟩) (len + 14) cb] W' fun e w' => ∃ ua uc, e = .returned (.tuple #[.agg #[.int .i64 T, .slice ua len uc], .int .i64 0]) ∧ Own W'.heap.size w' (.slice ua len uc) len xs ∧ Below W'.heap.size W' w') := fun W' gb cb q1 q2 q3 => by
      refine (one_c (some ⟨gb, 0, none⟩) (len + 14) cb (fenc T xs) W' q2 q1 HBF.out.1 (by omega) q3).mono ?_
      rintro e w' ⟨u, z1, z2, z3⟩
      rw [HO.out.2.2, HLN.out] at z2
      obtain ⟨ua, uc, rfl, _⟩ := z2.seg
      rw [HO.out.1, HO.out.2.1] at z1
      exact ⟨ua, uc, z1, z2, z3⟩
    have hl : len ≤ 1048576 := hT.2.2
    have HTT : Hid (1 ≤ T ∧ T ≤ 255) := ⟨hT.1, hT.2.1⟩
    obtain ⟨bs, hbs⟩ : ∃ bs, bs = fenc T xs := ⟨_, rfl⟩
    rw [← hbs] at HEN HON HBF
    have HBS : Hid (bs = fenc T xs) := hbs
    clear hT HE HO hbs
    go_enter Tryd.func7, Tryd.ntmps7
    go_wp2_with (first
      | (go_at_call 23; rw [← hN0, ← hW]; have HNW : Hid (N0 = w.heap.size) := hN0; clear hN0 hW; go_must (refine (Calls.mono (HMY.out Wx) ?_)); rintro r w3 ⟨rfl, h3⟩; have H3 : Hid (Below Wx.heap.size Wx w3 ∧ Bk 42 w3 N0 #[.int .i64 T, .slice a len cap]) := ⟨h3, HBK.out.below h3 (by have := HB0.out.2; omega)⟩; clear h3)
      | (go_at_call 24; go_must (refine (Calls.mono (HEN.out w3 H3.out.1) ?_)); rintro r w4 ⟨gb, cb, rfl, h1, h2⟩; have H4 : Hid (Below Wx.heap.size Wx w4 ∧ Seg .u8 w4 (some ⟨gb, 0, none⟩) (len + 14) bs ∧ len + 14 ≤ cb ∧ Tab w4 ∧ Bk 42 w4 N0 #[.int .i64 T, .slice a len cap]) := (by have b4 := H3.out.1.trans (h2.mono H3.out.1.size); obtain ⟨za, zc, ze, z1, _, z2⟩ := h1.seg; cases ze; exact ⟨b4, z1, z2, HS.out.2.below b4, H3.out.2.below h2 (lt_of_block H3.out.2)⟩); clear h1 h2)
      | (go_at_call 25; go_must (refine (Calls.mono (HON.out w4 gb cb H4.out.2.1 H4.out.2.2.1 H4.out.2.2.2.1) ?_)); rintro r w5 ⟨ua, uc, rfl, h1, h2⟩; have H5 : Hid (Below Wx.heap.size Wx w5 ∧ Seg .u8 w5 (some ⟨gb, 0, none⟩) (len + 14) bs ∧ Own w4.heap.size w5 (.slice ua len uc) len xs ∧ Bk 42 w5 N0 #[.int .i64 T, .slice a len cap]) := ⟨H4.out.1.trans (h2.mono H4.out.1.size), H4.out.2.1.below h2, h1, H4.out.2.2.2.2.below h2 (lt_of_block H4.out.2.2.2.2)⟩; clear h1 h2; have HZ : Hid _ := fr_new w5)
      | (refine wpList_store_bk 42 rfl (.tmp 9) (.tmp 26) rfl Tryd.infoFrame w5.heap.size _ _ rfl rfl HZ.out.1 rfl rfl (own_one _ H5.out.2.2.1) ?_; intro w6 h1 h2; have H6 : Hid (Below Wx.heap.size Wx w6 ∧ Seg .u8 w6 (some ⟨gb, 0, none⟩) (len + 14) bs ∧ Seg .u8 w6 ua len xs ∧ Bk 42 w6 N0 #[.int .i64 T, .slice a len cap] ∧ Bk 42 w6 w5.heap.size #[.int .i64 T, .slice ua len uc]) := (by have b56 : Below w5.heap.size w5 w6 := HZ.out.2.grown h2 HZ.out.2.size (fun k hk => by cases hk; exact Nat.le_refl _); obtain ⟨za, zc, ze, z1, _⟩ := H5.out.2.2.1.seg; cases ze; exact ⟨H5.out.1.trans (b56.mono H5.out.1.size), H5.out.2.1.below b56, z1.below b56, H5.out.2.2.2.below b56 (lt_of_block H5.out.2.2.2), h1⟩); clear h1 h2)
      | (have z9 := H6; clear z9; refine wpList_load_bkG 42 rfl (.tmp 3) rfl Tryd.underlying42 rfl Tryd.infoFrame N0 _ rfl H6.out.2.2.2.1 rfl ?_)
      | (have z9 := H6; clear z9; refine wpList_load_bkG 42 rfl (.tmp 9) rfl Tryd.underlying42 rfl Tryd.infoFrame w5.heap.size _ rfl H6.out.2.2.2.2 rfl ?_)
      | (have z9 := H3; clear z9; refine wpList_load_bk 42 rfl (.tmp 3) rfl Tryd.underlying42 rfl Tryd.infoFrame N0 _ rfl H3.out.2 rfl ?_)
      | (go_at_call 26; go_must (refine (Calls.mono (is2_c T a ua len cap len uc xs w6 (HS.out.1.below H6.out.1) H6.out.2.2.1) ?_)); rintro r w7 ⟨rfl, h2⟩; have H7 : Hid (Below Wx.heap.size Wx w7 ∧ Seg .u8 w7 (some ⟨gb, 0, none⟩) (len + 14) bs ∧ Bk 42 w7 N0 #[.int .i64 T, .slice a len cap] ∧ Tab w7) := ⟨H6.out.1.trans (h2.mono H6.out.1.size), H6.out.2.1.below h2, H6.out.2.2.2.1.below h2 (lt_of_block H6.out.2.2.2.1), HS.out.2.below (H6.out.1.trans (h2.mono H6.out.1.size))⟩; clear h2)
      | (at_builtin; go_must (refine wpList_append_grow _ rfl _ _ rfl w7.heap.size 0 _ [] rfl (own_nil _ _) (some ⟨gb, 0, none⟩) (len + 14) cb bs rfl (fun h => by cases h) H7.out.2.1 (by omega) (Nat.le_refl _) ?_); intro v8 w8 h1 h2; rw [Nat.zero_add, List.nil_append] at h1; obtain ⟨g, c1, rfl, hg0, _⟩ := h1.form (by omega); have H8 : Hid (Own w7.heap.size w8 (.slice (some ⟨g, 0, none⟩) (len + 14) c1) (len + 14) bs ∧ Below w7.heap.size w7 w8 ∧ w7.heap.size ≤ g ∧ len + 14 ≤ c1) := ⟨h1, h2, hg0, by obtain ⟨za, zc, ze, _, _, z2⟩ := h1.seg; cases ze; exact z2⟩; clear h1 h2 hg0))
    have HK : Hid (∀ W', Below w7.heap.size w7 W' → Seg .u8 W' (some ⟨gb, 0, none⟩) (len + 14) bs ∧ Tab W' ∧ Bk 42 W' N0 #[.int .i64 T, .slice a len cap]) := fun W' hb => by
      obtain ⟨h1, h2, h3, h4⟩ := H7.out
      exact ⟨h2.below hb, h4.below hb, h3.below hb (lt_of_block h3)⟩
    have HB7 : Hid (Below w.heap.size w w7) := HB0.out.1.trans (H7.out.1.mono HB0.out.1.size)
    have HCL : Hid (len + 14 ≤ c1 ∧ w7.heap.size ≤ g) := ⟨H8.out.2.2.2, H8.out.2.2.1⟩
    have HI0 : Hid (Own w7.heap.size w8 (.slice (some ⟨g, 0, none⟩) (len + 14) c1) (len + 14) bs ∧ Below w7.heap.size w7 w8) := ⟨H8.out.1, H8.out.2.1⟩
    clear HMY HEN HON H3 H4 H5 HZ H6 H7 H8 HBK HB0 HS HNW HN k0 k1
    obtain ⟨n, hn⟩ : ∃ n, n = len + 14 := ⟨_, rfl⟩
    have hnI : (len : Int) + 14 = (n : Int) := by omega
    have HNL : Hid (n = len + 14) := hn
    rw [← hn] at HK HI0 HCL HBF
    rw [← hn, hnI]
    have hn1 : n ≤ 1048590 := by omega
    have hn0 : 14 ≤ n := by omega
    clear hn hnI
    obtain ⟨F, hF⟩ : ∃ F : Int, f.tmod (8 * (n : Int)) = F := ⟨_, rfl⟩
    have hF2 : F = f % (8 * (n : Int)) := by rw [← hF]; exact Int.tmod_eq_emod_of_nonneg HF0.out.1
    have hF0 : 0 ≤ F := by rw [hF2]; exact Int.emod_nonneg _ (by omega)
    have hF1 : F < 8 * (n : Int) := by rw [hF2]; exact Int.emod_lt_of_pos _ (by omega)
    have hfb : 0 ≤ f ∧ f < 18446744073709551616 := HF0.out
    clear hF2
    go_loopw [13, 14] (fun i _ wr => ∃ (k : Nat), k ≤ 32 ∧ i = .int .u64 (k : Int) ∧ Hid (Own w7.heap.size wr (.slice (some ⟨g, 0, none⟩) n c1) n (runOf F.toNat v k bs) ∧ Below w7.heap.size w7 wr)) (fun i _ _ => 32 - (intOf i).toNat)
    case atStart => exact ⟨0, Nat.zero_le _, rfl, HI0.out⟩
    case round =>
      clear HI0
      obtain ⟨k, hk, rfl, HI⟩ := hrel
      by_cases hlt : k < 32
      · have hci : (k : Int) < 32 := by omega
        have hbit := W_bit v k hlt
        obtain ⟨J, hJ⟩ : ∃ J : Int, F + (k : Int) = J := ⟨_, rfl⟩
        have HLT : Hid (k + 1 ≤ 32) := hlt
        by_cases hJ1 : J < 8 * (n : Int)
        · cases hv : v.getLsbD k with
          | false =>
            have hc2 : (bits .and .u32 (W v / (2 : Int) ^ k) 1 == 1) = false := by rw [hbit, hv]; rfl
            have HR : Hid (runOf F.toNat v (k + 1) bs = runOf F.toNat v k bs) := by
              show _ = _
              conv => lhs; unfold runOf
              rw [if_neg (fun z => by rw [hv] at z; cases z.1)]
            clear hbit hv
            go_wp2_with fail
            go_roundw
            case rel => exact ⟨k + 1, HLT.out, by go_num, by rw [HR.out]; exact HI.out⟩
            case measure => have := HLT.out; simp [intOf]; omega
          | true =>
            have hc2 : (bits .and .u32 (W v / (2 : Int) ^ k) 1 == 1) = true := by rw [hbit, hv]; rfl
            have hJ0 : 0 ≤ J := by omega
            have eJ : J.toNat = F.toNat + k := by omega
            have HR : Hid (runOf F.toNat v (k + 1) bs = flip (runOf F.toNat v k bs) J.toNat) := by
              show _ = _
              conv => lhs; unfold runOf
              rw [if_pos ⟨hv, by rw [HBF.out.2]; omega⟩, eJ]
            obtain ⟨D, hD⟩ : ∃ D : Int, J / (8 : Int) = D := ⟨_, rfl⟩
            obtain ⟨E, hE⟩ : ∃ E : Int, J % (8 : Int) = E := ⟨_, rfl⟩
            have hD' : J.tdiv (8 : Int) = D := by rw [← hD]; exact Int.tdiv_eq_ediv_of_nonneg hJ0
            have hE' : J.tmod (8 : Int) = E := by rw [← hE]; exact Int.tmod_eq_emod_of_nonneg hJ0
            have hD0 : (0 : Int) ≤ D := by omega
            have hD1 : D < (n : Int) := by omega
            have hE0 : (0 : Int) ≤ E := by omega
            have hE1 : E < 8 := by omega
            have e1 : D.toNat = J.toNat / 8 := by omega
            have e2 : E.toNat = J.toNat % 8 := by omega
            obtain ⟨ys, hys⟩ : ∃ ys, ys = runOf F.toNat v k bs := ⟨_, rfl⟩
            have hown := HI.out.1
            rw [← hys] at hown HR
            obtain ⟨hco, hfree⟩ := hown.cell D.toNat (by omega)
            have hybs : Bytes ys := by rw [hys]; exact bytes_of_mem (runOf_bytes _ _ _ _ HBF.out.1.mem)
            have hyj : 0 ≤ ys[D.toNat]?.getD 0 ∧ ys[D.toNat]?.getD 0 < 256 := hybs D.toNat (by have := hown.1; simp at this; omega)
            obtain ⟨Y, hY⟩ : ∃ Y, Y = ys[D.toNat]?.getD 0 := ⟨_, rfl⟩
            rw [← hY] at hco hyj
            have HVV : Hid (bits .xor .u8 Y ((2 : Int) ^ E.toNat % 256) = bx (ys[J.toNat / 8]?.getD 0) ((2 ^ (J.toNat % 8) : Nat) : Int)) := by
              have e3 : ((2 : Int) ^ (J.toNat % 8) % 256) = ((2 ^ (J.toNat % 8) : Nat) : Int) := by
                have := pow8 (J.toNat % 8) (by omega)
                have h2 : ((2 ^ (J.toNat % 8) : Nat) : Int) < 256 := by omega
                rw [Int.natCast_pow] at h2 ⊢
                exact Int.emod_eq_of_lt (Int.le_of_lt (Int.pow_pos (by decide))) h2
              have h2 := pow8 (J.toNat % 8) (by omega)
              show _ = _
              rw [e2, e3, ← e1, ← hY]
              exact u8_xor _ _ hyj.1 hyj.2 (Int.natCast_nonneg _) (by omega)
            have HO2 : Hid (Own w7.heap.size (wr.setCell ⟨g, D.toNat, none⟩ (.int .u8 (bits .xor .u8 Y ((2 : Int) ^ E.toNat % 256)))) (.slice (some ⟨g, 0, none⟩) n c1) n (flip ys J.toNat) ∧ Below w7.heap.size w7 (wr.setCell ⟨g, D.toNat, none⟩ (.int .u8 (bits .xor .u8 Y ((2 : Int) ^ E.toNat % 256))))) := by
              rw [HVV.out]
              have := hown.set D.toNat (by omega) (bx (ys[J.toNat / 8]?.getD 0) ((2 ^ (J.toNat % 8) : Nat) : Int))
              refine ⟨?_, HI.out.2.setCell HCL.out.2 _⟩
              unfold flip
              rw [← e1] at this ⊢
              exact this
            clear hbit hv eJ hD hE e1 e2 hys hown hybs hY HI
            go_wp2_with fail
            go_roundw
            case rel => exact ⟨k + 1, HLT.out, by go_num, by rw [HR.out]; exact HO2.out⟩
            case measure => have := HLT.out; simp [intOf]; omega
        · have HR : Hid (runOf F.toNat v (k + 1) bs = runOf F.toNat v k bs) := by
            show _ = _
            conv => lhs; unfold runOf
            rw [if_neg (fun z => by have := z.2; rw [HBF.out.2] at this; omega)]
          have hJ2 : ¬ (J < 8 * (n : Int)) := hJ1
          clear hbit
          go_wp2_with fail
          go_roundw
          case rel => exact ⟨k + 1, HLT.out, by go_num, by rw [HR.out]; exact HI.out⟩
          case measure => have := HLT.out; simp [intOf]; omega
      · have hci : ¬ ((k : Int) < 32) := by omega
        obtain rfl : k = 32 := by omega
        obtain ⟨cs, hcs⟩ : ∃ cs, cs = runOf F.toNat v 32 bs := ⟨_, rfl⟩
        have HTL : Hid (Tells bs cs) := by rw [hcs]; exact tells_run bs HBF.out.1 _ _ 32 (by decide)
        rw [← hcs] at HI
        obtain ⟨g1, g2, g3⟩ := HK.out wr HI.out.2
        obtain ⟨za, zc, ze, zs1, zn, zl⟩ := HI.out.1.seg
        cases ze
        have r1 := seg_string (P := Tryd.prog) 28 9 5 c1 zs1 Tryd.underlying28 Tryd.underlying5 Tryd.underlying9
        have r2 := seg_string (P := Tryd.prog) 28 9 5 cb g1 Tryd.underlying28 Tryd.underlying5 Tryd.underlying9
        have HG3 : Hid (Bk 42 wr N0 #[.int .i64 T, .slice a len cap]) := g3
        have HBE : Hid (Below w.heap.size w wr) := HB7.out.trans (HI.out.2.mono HB7.out.size)
        by_cases heq : cs = bs
        · rw [heq] at r1
          clear g1 g2 g3 zs1 zn zl HI heq hcs
          go_wp2_with fail
          go_ret
          exact ⟨by simp, HBE.out⟩
        · have HRF : Hid (Calls Tryd.prog 27 #[.agg #[.int .i64 T, .slice a len cap], .slice (some ⟨g, 0, none⟩) n c1] wr fun r w' => r = .returned (.bool true) ∧ Below wr.heap.size wr w') := by
            rw [HBS.out] at HTL heq
            exact refused_c T a len cap (some ⟨g, 0, none⟩) n c1 cs wr zs1 HTL.out.2.1 zl zn HNL.out hl (spoilt_none HTT.out.1 HTT.out.2 (by rw [HLN.out]; exact hl) HTL.out heq 1048576) g2
          have hst : ((strOfNums cs).toList == (strOfNums bs).toList) = false := by rw [str_eq HTL.out.2.1 HBF.out.1]; exact decide_eq_false heq
          have hst3 : ¬ (strOfNums cs = strOfNums bs) := fun e => heq (strOfNums_inj HTL.out.2.1 HBF.out.1 e)
          clear g1 g2 g3 zs1 zn zl HI heq hcs
          go_wp2_with (first
            | (refine wpList_load_bkG 42 rfl (.tmp 3) rfl Tryd.underlying42 rfl Tryd.infoFrame N0 _ rfl HG3.out rfl ?_)
            | (go_at_call 27; go_must (refine (Calls.mono HRF.out ?_)); rintro r w9 ⟨rfl, h9⟩; have H9 : Hid (Below w.heap.size w w9) := HBE.out.trans (h9.mono HBE.out.size); clear h9))
          go_ret
          exact ⟨by simp, H9.out⟩
  · have HMY : Hid (∀ W', Calls Tryd.prog 23 #[.agg #[.int .i64 T, .slice a len cap]] W' fun r w' => r = .returned (.bool false) ∧ Below W'.heap.size W' w') := fun W' => may_c T a len cap W' false (decide_eq_false hT)
    go_enter Tryd.func7, Tryd.ntmps7
    go_wp2_with (go_at_call 23; go_must (rw [← hW]; refine (Calls.mono (HMY.out Wx) ?_)); rintro r w3 ⟨rfl, h3⟩; have H3 : Hid _ := h3; clear h3)
    go_ret
    exact ⟨rfl, HB0.out.1.trans (H3.out.mono HB0.out.1.size)⟩

theorem gTab : Tryd.prog.globalNamed "hawser/crc.halves" = some 0 := by kernel_rfl
theorem gTabType : (Tryd.prog.globals[0]?).map (·.type) = some 106 := by kernel_rfl
theorem cellsT : Tryd.prog.cellsOf 106 = 16 := by kernel_rfl
theorem cellsE : Tryd.prog.cellsOf 64 = 1 := by kernel_rfl
/-- What the row's list gives: the table's cells. -/
theorem table {W : World} (h : laidMetH Tryd.prog Rows.frameRunsRow.laid W) : Lib.TabIs Tryd.prog W "hawser/crc.halves" .u32 tabl :=
  Lib.tabIs_of_head (rest := []) gTab gTabType Tryd.underlying106 Tryd.underlying64 cellsE cellsT h
theorem tab_of {W : World} (h : laidMetH Tryd.prog Rows.frameRunsRow.laid W) : Tab W := fun i hi => (table h).cell gTab i (show i < tabl.length from hi)
theorem laid_met (os : Os) : laidMet Tryd.prog Rows.frameRunsRow.laid (({ World.holding Tryd.prog os ⟨#[], #[], []⟩ with heap := (World.holding Tryd.prog os ⟨#[], #[], []⟩).heap.modify 0 fun | .cells _ t frozen => .cells (tabl.map fun z => Value.int .u32 z).toArray t frozen | o => o } : World).forCall (fun _ _ => 0) ⟨#[], #[.agg #[.int .i64 0, .slice none 0 0], .int .u64 0, .int .u32 0], []⟩).memory :=
  laidMet_of_run' 8 (by kernel_rfl) (by kernel_rfl)
theorem reads (os : Os) {H : Type} (enc : TypeId × Value → H) : ∃ places, DataW.whole enc Tryd.prog (({ World.holding Tryd.prog os ⟨#[], #[], []⟩ with heap := (World.holding Tryd.prog os ⟨#[], #[], []⟩).heap.modify 0 fun | .cells _ t frozen => .cells (tabl.map fun z => Value.int .u32 z).toArray t frozen | o => o } : World).forCall (fun _ _ => 0) ⟨#[], #[.agg #[.int .i64 0, .slice none 0 0], .int .u64 0, .int .u32 0], []⟩).memory Tryd.f7.params.toList Rows.frameRunsSpec.vars false (#[.agg #[.int .i64 0, .slice none 0 0], .int .u64 0, .int .u32 0] : Array Value).toList 8 = some ([.agg [.lit (.int .i64 0), .nil], .lit (.int .u64 0), .lit (.int .u32 0)], [], places) :=
  ⟨[], by kernel_rfl⟩

set_option maxRecDepth 100000 in
theorem lifted (os : Os) (started : os.Started) (H : Type) (enc : TypeId × Value → H) (F : Stop.Interp) :
    ReturnsInHanded {} Tryd.checked os 7 .any ((OpenSpec.ofChange Rows.frameRunsSpec).preRow enc Tryd.prog Tryd.f7 Rows.frameRunsRow.domain false Rows.frameRunsRow.laid) (((OpenSpec.ofChange Rows.frameRunsSpec).at F).post enc Tryd.prog Tryd.f7 false true false false) := by
  obtain ⟨places, hx⟩ := reads os enc
  refine returnsInHanded_of_row (C := Tryd.checked) (s := OpenSpec.ofChange Rows.frameRunsSpec) own started (by kernel_rfl) Tryd.func7
    (witness_row_at (enc := enc) (C := Tryd.checked) false ({ World.holding Tryd.prog os ⟨#[], #[], []⟩ with heap := (World.holding Tryd.prog os ⟨#[], #[], []⟩).heap.modify 0 fun | .cells _ t frozen => .cells (tabl.map fun z => Value.int .u32 z).toArray t frozen | o => o } : World) #[.agg #[.int .i64 0, .slice none 0 0], .int .u64 0, .int .u32 0] rfl (by kernel_rfl) (by kernel_rfl) (by kernel_rfl)
      (OpenSpec.preRow_of_cond 8 hx (by kernel_rfl) (fun k hk => by cases hk) (by kernel_rfl) (laid_met os))) ?_
  intro W base args ds gs before hval0 hW _ hcond0 hsz0 hL _ _
  have hval : ∀ (j : Nat) t v, Tryd.f7.params[j]? = some t → args[j]? = some v → Value.okWide Tryd.prog W .any base t v := hval0
  have hW' := hW
  obtain ⟨p, q, hA0, hV, rfl, hfz, hnd⟩ := hW
  have hA : DataW.TrodAll enc Tryd.prog W 0 (fun _ => true) true Tryd.f7.params.toList args.toList ds p := hA0
  rw [Tryd.params7] at hA hval
  obtain ⟨v0, vs0, d0, ds0, p0, q0, hargs, rfl, rfl, h0, r0⟩ := trodAll_cons hA
  obtain ⟨v1, vs1, d1, ds1, p1, q1, rfl, rfl, rfl, h1, r1⟩ := trodAll_cons r0
  obtain ⟨v2, vs2, d2, ds2, p2, q2, rfl, rfl, rfl, h2, r2⟩ := trodAll_cons r1
  obtain ⟨rfl, rfl, rfl⟩ := trodAll_nil r2
  obtain rfl : args = #[v0, v1, v2] := by cases args; simp_all
  obtain ⟨rfl, rfl⟩ := trodVars_none hV
  have k0 := h0
  have lt0 : ∀ x ∈ p0, x.block < W.heap.size := by obtain ⟨m, hm⟩ := k0; exact DataW.trod_lt m _ _ _ hm
  obtain ⟨c00, c10, y00, y10, m0, rfl, hd0, hp0, hy00, hy10⟩ := Go.Joins.open_agg2 Tryd.underlying42 (by kernel_rfl) (by kernel_rfl) (hval 0 42 v0 rfl rfl) h0
  obtain ⟨T0, eT0, _, wT0⟩ := DataW.trod_int Tryd.underlying3 hy00
  simp at eT0
  subst eT0
  obtain ⟨a0, len0, cap0, z0, rfl, x0⟩ : ∃ a len cap zs, c10 = .slice a len cap ∧ IsRow .u8 maxLen W a len cap zs := by
    rcases open_ints Tryd.underlying28 Tryd.underlying5 (by kernel_rfl) hy10 with ⟨hcs, _⟩ | ⟨x, l, c, zs, hcs, _, hl, hm, hz, hx, hcell, hwz⟩
    · simp at hcs
      exact ⟨none, 0, 0, [], hcs, .inl ⟨rfl, rfl, rfl, rfl⟩⟩
    · simp at hcs
      have hz' : zs.length = c := by simpa using hz
      exact ⟨some x, l, c, zs, hcs, .inr ⟨_, rfl, hl, hm, hz', hcell, hwz⟩⟩
  obtain ⟨a1, rfl, rfl, rfl, w1⟩ := open_int Tryd.underlying54 (hval 1 54 v1 rfl rfl) h1
  obtain ⟨a2, rfl, rfl, rfl, w2⟩ := open_int Tryd.underlying64 (hval 2 64 v2 rfl rfl) h2
  clear hA0 hval0
  simp only [List.append_nil] at hW'
  refine (walk T0 a0 len0 cap0 z0 a1 a2 W wT0 x0 w1 w2 (tab_of hL)).mono fun e W' ⟨he, bel⟩ => ?_
  subst he
  exact ⟨_, rfl, _, _, _, [], _, [], hW', trodAll_mk1 (shut_bool Tryd.underlying4 _), (trodAll_cons_mk (Below.trod laidOut (by kernel_rfl) (of_decide_eq_true (by kernel_rfl)) k0 bel lt0) (trodAll_cons_mk (shut_int Tryd.underlying54 w1) (trodAll_cons_mk (shut_int Tryd.underlying64 w2) trodAll_mk0))), rfl, bel.frame _, fun h => by cases h⟩

theorem over : Rows.frameRunsRow.holds Tryd.pinned (OpenSpec.ofChange Rows.frameRunsSpec) :=
  OpenClaim.holds_of_cond 7 Tryd.f7 rfl rfl rfl rfl rfl rfl rfl ⟨rfl, rfl, rfl, rfl, rfl⟩ rfl rfl rfl rfl rfl (by kernel_rfl) Tryd.func7 (by kernel_rfl)
    (of_decide_eq_true (by kernel_rfl)) (by unfold Func.isWrapper; first | (rw [if_pos (by decide +kernel)]; kernel_rfl) | (rw [if_neg (by decide +kernel)]; exact ⟨rfl, rfl⟩))
    (fun os started H enc _ F => by rw [OpenClaim.pre_eq_preRow]; exact lifted os started H enc F)

/-- No parameter wants a stand-in; the program's own looks are off. -/
theorem plain (f : FuncId) (fn : Func) (hf : Tryd.pinned.checked.prog.funcNamed "hawser/hawserlaw04.FrameRuns" = some f) (hfn : Tryd.pinned.checked.prog.funcs[f]? = some fn) :
    false = Tryd.pinned.checked.prog.looks [] ∧ ∀ (j : Nat) t, fn.params[j]? = some t → Tryd.pinned.checked.prog.wantsStandIn t = false := by
  obtain rfl : f = 7 := Option.some.inj ((show Tryd.prog.funcNamed "hawser/hawserlaw04.FrameRuns" = some 7 by kernel_rfl).symm.trans hf) |>.symm
  obtain rfl : fn = Tryd.f7 := (Option.some.inj (Tryd.func7.symm.trans hfn)).symm
  refine ⟨by kernel_rfl, fun j t ht => ?_⟩
  rw [Tryd.params7] at ht
  have hm : t ∈ [42, 54, 64] := by simpa using Array.mem_of_getElem? ht
  have hall : (([42, 54, 64] : List TypeId).all fun u => !Tryd.prog.wantsStandIn u) = true := by kernel_rfl
  exact (show Tryd.prog.wantsStandIn t = false by simpa using List.all_eq_true.1 hall t hm)
theorem card : Rows.FrameRunsCardSaid :=
  Claim7.holds_tied_plain_at .later [] _ _ _ _ over (fun _ h => by cases h) (by kernel_rfl) (fun _ h => by cases h) frameRuns_row_tie rfl ⟨rfl, rfl⟩ (by kernel_rfl) rfl plain (by kernel_rfl)

end Go.Proofs.YtegbgmihcokblaaDoor.frameRuns
namespace Go.Proofs.YtegbgmihcokblaaDoor
theorem frameRuns_holds : Rows.FrameRunsCardSaid := frameRuns.card
#print axioms frameRuns_holds
end Go.Proofs.YtegbgmihcokblaaDoor

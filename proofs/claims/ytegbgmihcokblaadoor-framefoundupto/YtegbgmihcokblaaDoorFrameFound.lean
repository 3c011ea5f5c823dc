/-
  Proved, in its second form: for every number, all frames and all bytes that hold together at most 2^20 values, hawserlaw04.FrameFound answers true: frames that stand behind one another are found, all of them, behind any bytes without a 48, and nothing more is junk (the card ties the table of package crc to the program's text).
-/
import Derived.Test.YtegbgmihcokblaaDoorRows
import Derived.Test.YtegbgmihcokblaaDoorCards
import Derived.Test.YtegbgmihcokblaaDoorTie
import Derived.Test.YtegbgmihcokblaaDoorFLe
import Derived.WalkKit
import Derived.ProofKit
import Derived.OpenShut
import Derived.ShutString
import Derived.ChangeOld
import Derived.Below
import Derived.Lib.SmallJoins
import Derived.JoinedCond
import Derived.Deep.DeepHandedRow
import Derived.Lib.LaidTab
import Derived.Sort.AtCall
namespace Go.Proofs.YtegbgmihcokblaaDoor.frameFound
open Go.ChangeShapes Go.WideShapes Go.ChangeAt Go.RowKit
set_option linter.unusedVariables false

theorem own : ownKnob Tryd.prog.godebug = none := by kernel_rfl
theorem laidOut : laidOutB Tryd.prog = true := by kernel_rfl

/-- What the walk is told of a slice of integers that came in. -/
def IsRow (k : IntKind) (R : Nat) (w : World) (a : Option Addr) (len cap : Nat) (zs : List Int) : Prop :=
  (a = none ∧ len = 0 ∧ cap = 0 ∧ zs = []) ∨
  ∃ x, a = some x ∧ len ≤ cap ∧ cap ≤ R ∧ zs.length = cap ∧ (∀ i, i < zs.length → w.cell? (x.add i) = some (.int k (zs.getD i 0))) ∧ ∀ n ∈ zs, (Lit.int k n).wf = true

theorem row_nil {k : IntKind} {R : Nat} {w : World} {a : Option Addr} {len cap : Nat} {zs : List Int} (h : IsRow k R w a len cap zs) : a = none → cap = 0 := by
  rcases h with ⟨_, _, h, _⟩ | ⟨x, h, _⟩
  · exact fun _ => h
  · intro h'; rw [h] at h'; cases h'
/-- The bytes that are no magic's first. -/
def noH (xs : List Int) : List Int := xs.filter fun z => z != 72
theorem noH_yes (xs : List Int) (k : Nat) (h : k < xs.length) (hz : xs[k]?.getD 0 ≠ 72) : noH (xs.take (k + 1)) = noH (xs.take k) ++ [xs[k]?.getD 0] := by
  unfold noH
  rw [List.take_add_one, List.filter_append]
  rw [List.getElem?_eq_getElem h] at hz ⊢
  simp at hz
  simp [hz]
theorem noH_no (xs : List Int) (k : Nat) (h : k < xs.length) (hz : xs[k]?.getD 0 = 72) : noH (xs.take (k + 1)) = noH (xs.take k) := by
  unfold noH
  rw [List.take_add_one, List.filter_append]
  rw [List.getElem?_eq_getElem h] at hz ⊢
  simp at hz
  simp [hz]
theorem noH_len (xs : List Int) : (noH xs).length ≤ xs.length := List.length_filter_le _ _
theorem noH_ne (xs : List Int) : ∀ z ∈ noH xs, z ≠ 72 := fun z hz => by
  have := (List.mem_filter.1 hz).2
  simpa using this
theorem seg_new1 (w : World) (z : Int) : Seg .u8 (w.alloc (.cells #[.int .u8 z] 5)) (some ⟨w.heap.size, 0, none⟩) 1 [z] :=
  ⟨rfl, .inr ⟨w.heap.size, 0, rfl, by simp, fun i hi => by
    obtain rfl : i = 0 := by omega
    exact Bk.cell (T := 5) (heap_new w _) 0⟩⟩
set_option maxRecDepth 20000 in
set_option maxHeartbeats 4000000 in
theorem walk (V : Int) (a : Option Addr) (n cap : Nat) (X : List FrM) (ja : Option Addr) (len jc : Nat) (zs : List Int) (w : World) (wV : (Lit.int .i64 V).wf = true) (x1 : Frs w a n X) (y1 : frsW X ≤ 1048576) (nz1 : a = none → cap = 0) (x2 : IsRow .u8 1048576 w ja len jc zs) (ht : Tab w) :
    Calls Tryd.prog 5 #[.int .i64 V, .slice a n cap, .slice ja len jc] w fun e w' => e = .returned (.bool true) ∧ Below w.heap.size w w' := by
  by_cases h1 : V < 0
  · clear x1 y1 ht wV x2
    go_enter Tryd.func5, Tryd.ntmps5
    go_wp2
    go_ret
    exact ⟨rfl, Below.refl _ _⟩
  by_cases h2 : 1048576 < V
  · clear x1 y1 ht wV x2
    go_enter Tryd.func5, Tryd.ntmps5
    go_wp2
    go_ret
    exact ⟨rfl, Below.refl _ _⟩
  obtain ⟨most, rfl⟩ : ∃ most : Nat, V = (most : Int) := ⟨V.toNat, by omega⟩
  have hm : most ≤ 1048576 := by omega
  obtain ⟨hs, hlc, hcr, hwf⟩ := seg_of_row x2
  have hjn := row_nil x2
  obtain ⟨xs, hxs⟩ : ∃ xs, xs = zs.take len := ⟨_, rfl⟩
  rw [← hxs] at hs hwf
  have hlb : len ≤ 1048576 := by omega
  have HX : Hid (Bytes xs ∧ xs.length = len) := ⟨fun i hi => wf_u8 (hwf i hi), hs.1⟩
  have HS : Hid (Seg .u8 w ja len xs) := hs
  have HP : Hid (Frs w a n X ∧ frsW X ≤ 1048576 ∧ (a = none → cap = 0) ∧ Tab w) := ⟨x1, y1, nz1, ht⟩
  clear x1 y1 ht wV x2 hs hwf hjn hxs nz1
  go_enter Tryd.func5, Tryd.ntmps5
  go_wp2_with fail
  go_loopw [7, 8] (fun u i wr => ∃ k : Nat, k ≤ len ∧ i = .int .i64 (k : Int) ∧ Hid (Own w.heap.size wr u (noH (xs.take k)).length (noH (xs.take k)) ∧ Below w.heap.size w wr)) (fun _ i _ => len - (intOf i).toNat)
  case atStart => exact ⟨0, Nat.zero_le _, rfl, own_nil _ _, Below.refl _ _⟩
  case round =>
    obtain ⟨k, hk, rfl, HO⟩ := hrel
    by_cases hlt : k < len
    · have hci : (k : Int) < (len : Int) := by omega
      obtain ⟨b, off, rfl, hbw, hc⟩ := HS.out.2.resolve_left (by omega)
      obtain ⟨z, hz⟩ : ∃ z, z = xs[k]?.getD 0 := ⟨_, rfl⟩
      have hcw : wr.cell? ⟨b, off + k, none⟩ = some (.int .u8 z) := by rw [hz]; exact (HO.out.2.cell (p := ⟨b, off + k, none⟩) hbw).trans (hc k hlt)
      have HLT : Hid (k + 1 ≤ len) := hlt
      by_cases h72 : z = 72
      · have HN : Hid (noH (xs.take (k + 1)) = noH (xs.take k)) := noH_no xs k (by have := HX.out; omega) (by rw [← hz]; exact h72)
        subst h72
        clear hz hc
        go_wp2_with fail
        go_roundw
        case rel => exact ⟨k + 1, HLT.out, by go_num, by rw [HN.out]; exact HO.out⟩
        case measure => have := HLT.out; simp [intOf]; omega
      · have HN : Hid (noH (xs.take (k + 1)) = noH (xs.take k) ++ [z]) := by rw [hz]; exact noH_yes xs k (by have := HX.out; omega) (by rw [← hz]; exact h72)
        have hne : (z == 72) = false := by simp [h72]
        have HLN : Hid ((noH (xs.take k)).length ≤ 1048576) := by
          have := noH_len (xs.take k)
          rw [List.length_take] at this
          show _ ≤ _
          omega
        obtain ⟨f, hf⟩ : ∃ f, f = noH (xs.take k) := ⟨_, rfl⟩
        rw [← hf] at HO HN HLN
        clear hz hc hf
        go_wp2_with (at_builtin; go_must (refine wpList_append_grow _ rfl (.tmp 32) (.tmp 37) rfl w.heap.size f.length _ f rfl (HO.out.1.below ((Below.refl _ _).alloc (Nat.le_refl _) _)) (some ⟨wr.heap.size, 0, none⟩) 1 1 [z] rfl (fun h => by cases h) (seg_new1 wr z) (by have := HLN.out; omega) (by have := HO.out.2.size; simp; omega) ?_); intro v' w2 y1 y2; have H2 : Hid (Own w.heap.size w2 v' (f.length + 1) (f ++ [z]) ∧ Below w.heap.size w w2) := ⟨y1, (HO.out.2.alloc HO.out.2.size _).trans y2⟩; clear y1 y2)
        go_roundw
        case rel => exact ⟨k + 1, HLT.out, by go_num, by rw [HN.out, List.length_append]; exact H2.out⟩
        case measure => have := HLT.out; simp [intOf]; omega
    · have hci : ¬ ((k : Int) < (len : Int)) := by omega
      have HK : Hid (xs.take k = xs) := List.take_of_length_le (by have := HX.out; omega)
      rw [HK.out] at HO
      obtain ⟨js, hjs⟩ : ∃ js, js = noH xs := ⟨_, rfl⟩
      have HJ : Hid (js.length ≤ 1048576 ∧ Bytes js ∧ (∀ z ∈ js, z ≠ 72)) := by
        rw [hjs]
        refine ⟨by have := noH_len xs; have := HX.out.2; omega, bytes_of_mem (fun z hz => HX.out.1.mem z (List.mem_filter.1 hz).1), noH_ne xs⟩
      rw [← hjs] at HO
      obtain ⟨va, vc, rfl, _, _, _⟩ := HO.out.1.seg
      obtain ⟨N, hN⟩ : ∃ N, N = js.length := ⟨_, rfl⟩
      rw [← hN] at HO ⊢
      have HN : Hid (N = js.length) := hN
      have hNb : N ≤ 1048576 := by rw [hN]; exact HJ.out.1
      clear hjs hN HK HX HS
      obtain ⟨L, hL⟩ : ∃ L : List FrM, L = [⟨3, [], .slice none 0 0⟩] ++ X := ⟨_, rfl⟩
      have HLX : Hid (fsz L ≤ 1073741824 ∧ L.length ≤ 1048577) := by
        have z1 := fsz_frsW X
        have z2 := fsz_len X
        have z3 : fsz L = 14 + fsz X := by rw [hL]; unfold fsz; simp
        have z4 : L.length = 1 + X.length := by rw [hL]; simp; omega
        have z5 : X.length ≤ frsW X := by
          unfold frsW
          clear z1 z2 z3 z4 HP hL
          induction X with
          | nil => simp
          | cons f X ih => simp; omega
        have := HP.out.2.1
        exact ⟨by omega, by omega⟩
      have HFX : Hid (∀ W, Below w.heap.size w W → ∀ f ∈ L, FrB W f) := fun W hb f hf => by
        rw [hL] at hf
        rcases List.mem_append.1 hf with z | z
        · obtain rfl : f = ⟨3, [], .slice none 0 0⟩ := by simpa using z
          exact ⟨⟨none, 0, rfl, ⟨rfl, .inl rfl⟩, Nat.le_refl _, fun _ => rfl⟩, fun i hi => absurd hi (by simp)⟩
        · exact (HP.out.1.2.1 f z).below hb
      obtain ⟨M, hM⟩ : ∃ M, M = L.length := ⟨_, rfl⟩
      obtain ⟨SS, hSS⟩ : ∃ SS, SS = fgood most L := ⟨_, rfl⟩
      have HSG : Hid ((∀ f ∈ SS, fkeep most f = true ∧ f ∈ L) ∧ fsz SS ≤ 1073741824) := by
        rw [hSS]
        exact ⟨fgood_keep most L, Nat.le_trans (fsz_good most L) HLX.out.1⟩
      obtain ⟨E, hE⟩ : ∃ E, E = (fencs SS).length := ⟨_, rfl⟩
      obtain ⟨G, hG⟩ : ∃ G, G = SS.length := ⟨_, rfl⟩
      have HLD : Hid (∀ W fa fc, Below w.heap.size w W → W.ownsRow wr.heap.size 42 2 (.slice fa M fc) M (flF L) → Calls Tryd.prog 22 #[.slice fa M fc, .int .i64 (most : Int)] W fun r w' => ∃ ba bc sa sc, r = .returned (.tuple #[.slice ba E bc, .slice sa G sc, .bool true]) ∧ LdI W w' (.slice ba E bc) (.slice sa G sc) SS) := fun W fa fc hb ho => by
        rw [hM] at ho ⊢
        refine (laidf_c most fa fc L W (rdl_of ho (HFX.out W hb)) (HFX.out W hb) (HP.out.2.2.2.below hb) hm HLX.out.1).mono ?_
        rintro r w' ⟨bv, sv, rfl, z1⟩
        rw [← hSS] at z1
        obtain ⟨ba, bc, rfl, _, _, _⟩ := z1.b.seg
        obtain ⟨sa, sc, rfl⟩ := (own_shape z1.s).1
        rw [← hE, ← hG] at z1 ⊢
        exact ⟨ba, bc, sa, sc, rfl, z1⟩
      have hEb : E ≤ 1073741824 := by rw [hE, fencs_len]; exact HSG.out.2
      have HAL : Hid (∀ W, Below w.heap.size w W → ∀ ba bc, Seg .u8 W va N js → N ≤ vc → (va = none → vc = 0) → Seg .u8 W ba E (fencs SS) → E ≤ bc → (ba = none → bc = 0) → Calls Tryd.prog 20 #[.int .i64 (most : Int), .slice (some ⟨W.heap.size, 0, none⟩) 2 2] (W.alloc (.cells #[.slice va N vc, .slice ba E bc] 28)) fun r w' => ∃ S fa fc L2 Q F, r = .returned (.tuple #[.slice fa G fc, .pointer (some ⟨S, 0, none⟩), .bool true]) ∧ L2.length = G ∧ L2.map FrM.fr = SS.map FrM.fr ∧ Go.Proofs.YtegbgmihcokblaaDoor.SS Q w' S 2097180 [] most N 0 (.slice none 0 0) [] ∧ FrL F w' (.slice fa G fc) L2 ∧ Below W.heap.size W w') := fun W hbW ba bc q1 q2 q3 q4 q5 q6 => by
        have hba : Below W.heap.size W (W.alloc (.cells #[.slice va N vc, .slice ba E bc] 28)) := (Below.refl _ _).alloc (Nat.le_refl _) _
        have hbk : Bk 28 (W.alloc (.cells #[.slice va N vc, .slice ba E bc] 28)) W.heap.size #[.slice va N vc, .slice ba E bc] := heap_new W _
        have hpc : Pcs (W.alloc (.cells #[.slice va N vc, .slice ba E bc] 28)) (some ⟨W.heap.size, 0, none⟩) 2 [js, fencs SS] := by
          refine ⟨rfl, .inr ⟨W.heap.size, 0, rfl, by simp, fun i hi => ?_⟩⟩
          match i, hi with
          | 0, _ => exact ⟨va, N, vc, hbk.cell 0, q1.below hba, HJ.out.2.1, q2, q3⟩
          | 1, _ => exact ⟨ba, E, bc, hbk.cell 1, q4.below hba, fencs_bytes most SS (fun f hf => (HSG.out.1 f hf).1) (fun f hf => (HFX.out W hbW f (HSG.out.1 f hf).2).bt), q5, q6⟩
        have hfl : [js, fencs SS].flatten = js ++ fencs SS := by simp
        have hc := all_c most (some ⟨W.heap.size, 0, none⟩) 2 2 [js, fencs SS] _ hpc ((HP.out.2.2.2.below hbW).below hba) hm (by rw [hfl, List.length_append, ← hE]; have := HJ.out.1; omega) (by decide)
        rw [hfl] at hc
        refine hc.mono ?_
        rintro r w' ⟨S, fa, fc, L2, Q, F, rfl, a1, a2, a3, a4, a5, a6, a7⟩
        rw [fseen_laid most SS (fun f hf => (HSG.out.1 f hf).1) js HJ.out.2.2] at a1 a2
        have hll : L2.length = G := by have := congrArg List.length a1; simp at this; rw [hG]; exact this
        rw [hll] at a3 ⊢
        rw [HN.out]
        exact ⟨S, fa, fc, L2, Q, F, rfl, hll, a1, a2, a3, hba.trans (a7.mono hba.size)⟩
      have hnb : n ≤ 1048576 := by have q1 := HLX.out.2; have q2 := HP.out.1.1; rw [hL] at q1; simp at q1; omega
      have HL : Hid ([(⟨3, [], .slice none 0 0⟩ : FrM)] ++ X = L ∧ L.length = M) := ⟨hL.symm, hM.symm⟩
      have HE : Hid (E = (fencs SS).length ∧ G = SS.length) := ⟨hE, hG⟩
      clear hL hM hSS hE hG
      go_wp2_with (first
        | (at_builtin; go_must (refine wpList_moreF rfl (.tmp 41) (.tmp 42) rfl _ wr.heap.size _ [⟨3, [], .slice none 0 0⟩] X a n cap rfl rfl (own_newF wr wr.heap.size 3 _ [] (Nat.le_refl _)) ((HP.out.1.below HO.out.2).below ((Below.refl _ _).alloc (Nat.le_refl _) _)) HP.out.2.2.1 (by simp; omega) (by simp) ?_); intro v' w2 y1 y2 y3; rw [HL.out.1, HL.out.2] at y1; obtain ⟨fa, fc, rfl⟩ := (own_shape y1).1; have H2 : Hid (w2.ownsRow wr.heap.size 42 2 (.slice fa M fc) M (flF L) ∧ Below wr.heap.size wr w2) := ⟨y1, ((Below.refl _ _).alloc (Nat.le_refl _) _).grown y2 (by simp) (fun k hk => by cases hk; exact Nat.le_refl _)⟩; clear y1 y2 y3)
        | (go_at_call 22; go_must (refine (Calls.mono (HLD.out w2 fa fc (HO.out.2.trans (H2.out.2.mono HO.out.2.size)) H2.out.1) ?_)); rintro r w3 ⟨ba, bc, sa, sc, rfl, z1⟩; have H3 : Hid (LdI w2 w3 (.slice ba E bc) (.slice sa G sc) SS) := z1; clear z1))
      have HB3 : Hid (Below w.heap.size w w3 ∧ Below wr.heap.size wr w3) := by
        have q1 := HO.out.2.size
        have q2 := H2.out.2.size
        have q : Below wr.heap.size wr w3 := H2.out.2.trans (H3.out.bel.mono q2)
        exact ⟨HO.out.2.trans (q.mono q1), q⟩
      obtain ⟨va', vc', ev, s1, s2, s3⟩ := (HO.out.1.below HB3.out.2).seg
      cases ev
      have hob := H3.out.b
      rw [← HE.out.1] at hob
      obtain ⟨ba', bc', eb, s4, s5, s6⟩ := hob.seg
      cases eb
      refine (Calls.mono (HAL.out w3 HB3.out.1 ba bc s1 s3 s2 s4 s6 s5) ?_)
      rintro r w5 ⟨T, fa2, fc2, L2, Q2, F2, rfl, z0, z1, z2, z3, z4⟩
      have hGb : G ≤ 1073741824 := by have := fsz_len SS; have := HSG.out.2; rw [HE.out.2]; omega
      have HC : Hid (∀ W, w5.grownBy W none → Calls Tryd.prog 17 #[.pointer (some ⟨T, 0, none⟩)] W (fun r w' => r = .returned (.int .i64 0) ∧ W.grownBy w' none) ∧ Calls Tryd.prog 18 #[.pointer (some ⟨T, 0, none⟩)] W (fun r w' => r = .returned (.int .i64 (N : Int)) ∧ W.grownBy w' none) ∧ Calls Tryd.prog 19 #[.pointer (some ⟨T, 0, none⟩)] W (fun r w' => r = .returned (.int .i64 0) ∧ W.grownBy w' none) ∧ Calls Tryd.prog 21 #[.slice fa2 G fc2, .slice sa G sc] W (fun r w' => r = .returned (.bool true) ∧ W.grownBy w' none)) := fun W hg => by
        refine ⟨ss_waits (z2.gb hg) (by decide), ss_junk (z2.gb hg), ss_lost (z2.gb hg), ?_⟩
        have f1 := (z3.gb hg).rd
        have hbW : Below w3.heap.size w3 W := z4.trans ((gb_below hg).mono z4.size)
        have f2 : RdL W (.slice sa SS.length sc) SS := by
          have hs0 := own_gr H3.out.s (Gr.ofB (G := fun _ => False) hbW) (fun _ _ z => z)
          rw [HE.out.2] at hs0
          exact rdl_of hs0 (fun f hf => HFX.out W (HB3.out.1.trans (hbW.mono HB3.out.1.size)) f (HSG.out.1 f hf).2)
        have := alike_r W fa2 sa fc2 sc L2 SS (by rw [z0]; exact f1) f2 z1 (by omega)
        rw [z0, ← HE.out.2] at this
        exact this
      have HB5 : Hid (Below w.heap.size w w5) := HB3.out.1.trans (z4.mono HB3.out.1.size)
      have HG : Hid (w5.grownBy w5 none) := World.grownBy.refl _ _
      clear z0 z1 z2 z3 z4 s1 s2 s3 s4 s5 s6 hob HAL HLD HB3 H2 H3 HO HE HL HLX HFX HSG HJ HN HP
      go_wp2_with (first
        | (go_at_call 17; go_must (refine (Calls.mono (HC.out _ HG.out).1 ?_)); rintro r wq ⟨rfl, hq⟩; replace HG : Hid (w5.grownBy wq none) := gb_trans HG.out hq; clear hq)
        | (go_at_call 18; go_must (refine (Calls.mono (HC.out _ HG.out).2.1 ?_)); rintro r wq ⟨rfl, hq⟩; replace HG : Hid (w5.grownBy wq none) := gb_trans HG.out hq; clear hq)
        | (go_at_call 19; go_must (refine (Calls.mono (HC.out _ HG.out).2.2.1 ?_)); rintro r wq ⟨rfl, hq⟩; replace HG : Hid (w5.grownBy wq none) := gb_trans HG.out hq; clear hq)
        | (go_at_call 21; go_must (refine (Calls.mono (HC.out _ HG.out).2.2.2 ?_)); rintro r wq ⟨rfl, hq⟩; replace HG : Hid (w5.grownBy wq none) := gb_trans HG.out hq; clear hq))
      go_ret
      exact ⟨by simp, HB5.out.trans ((gb_below HG.out).mono HB5.out.size)⟩

theorem bulk_len {H : Type} (l : List (DataW H)) : l.length ≤ Rows.uptoBulkAll l := by
  induction l with
  | nil => simp
  | cons d r ih =>
    have : 1 ≤ Rows.uptoBulk d := by
      cases d with
      | lit x => cases x <;> simp [Rows.uptoBulk]
      | _ => simp [Rows.uptoBulk]
    simp only [Rows.uptoBulkAll, List.length_cons]; omega
theorem bulk_mem {H : Type} {d : DataW H} {l : List (DataW H)} (h : d ∈ l) : Rows.uptoBulk d ≤ Rows.uptoBulkAll l := by
  induction l with
  | nil => cases h
  | cons x r ih =>
    simp only [Rows.uptoBulkAll]
    rcases List.mem_cons.1 h with rfl | h
    · omega
    · have := ih h; omega
theorem bulk_slice {H : Type} {ds : List (DataW H)} {d : DataW H} {l r : List (DataW H)} (hk : Rows.uptoSmall H ds = true) (hd : d ∈ ds) (e : d = .slice l r) : l.length + r.length ≤ 1048576 := by
  have h0 : Rows.uptoBulkAll ds ≤ 1048576 := of_decide_eq_true hk
  have h1 := bulk_mem hd
  have h3 := bulk_len l
  have h4 := bulk_len r
  rw [e] at h1
  simp only [Rows.uptoBulk] at h1
  omega

theorem gTab : Tryd.prog.globalNamed "hawser/crc.halves" = some 0 := by kernel_rfl
theorem gTabType : (Tryd.prog.globals[0]?).map (·.type) = some 106 := by kernel_rfl
theorem cellsT : Tryd.prog.cellsOf 106 = 16 := by kernel_rfl
theorem cellsE : Tryd.prog.cellsOf 64 = 1 := by kernel_rfl
/-- What the row's list gives: the table's cells. -/
theorem table {W : World} (h : laidMetH Tryd.prog Rows.frameFoundUptoRow.laid W) : Lib.TabIs Tryd.prog W "hawser/crc.halves" .u32 tabl :=
  Lib.tabIs_of_head (rest := []) gTab gTabType Tryd.underlying106 Tryd.underlying64 cellsE cellsT h
theorem tab_of {W : World} (h : laidMetH Tryd.prog Rows.frameFoundUptoRow.laid W) : Tab W := fun i hi => (table h).cell gTab i (show i < tabl.length from hi)
theorem laid_met (os : Os) : laidMet Tryd.prog Rows.frameFoundUptoRow.laid (({ World.holding Tryd.prog os ⟨#[], #[], []⟩ with heap := (World.holding Tryd.prog os ⟨#[], #[], []⟩).heap.modify 0 fun | .cells _ t frozen => .cells (tabl.map fun z => Value.int .u32 z).toArray t frozen | o => o } : World).forCall (fun _ _ => 0) ⟨#[], #[.int .i64 0, .slice none 0 0, .slice none 0 0], []⟩).memory :=
  laidMet_of_run' 8 (by kernel_rfl) (by kernel_rfl)
theorem reads (os : Os) {H : Type} (enc : TypeId × Value → H) : ∃ places, DataW.whole enc Tryd.prog (({ World.holding Tryd.prog os ⟨#[], #[], []⟩ with heap := (World.holding Tryd.prog os ⟨#[], #[], []⟩).heap.modify 0 fun | .cells _ t frozen => .cells (tabl.map fun z => Value.int .u32 z).toArray t frozen | o => o } : World).forCall (fun _ _ => 0) ⟨#[], #[.int .i64 0, .slice none 0 0, .slice none 0 0], []⟩).memory Tryd.f5.params.toList Rows.frameFoundSpec.vars false (#[.int .i64 0, .slice none 0 0, .slice none 0 0] : Array Value).toList 8 = some ([.lit (.int .i64 0), .nil, .nil], [], places) :=
  ⟨[], by kernel_rfl⟩

set_option maxRecDepth 100000 in
theorem lifted (os : Os) (started : os.Started) (H : Type) (enc : TypeId × Value → H) (F : Stop.Interp) :
    ReturnsInHanded {} Tryd.checked os 5 .any ((Rows.OpenSpec.upto Rows.frameFoundSpec).preRow enc Tryd.prog Tryd.f5 Rows.frameFoundUptoRow.domain false Rows.frameFoundUptoRow.laid) (((Rows.OpenSpec.upto Rows.frameFoundSpec).at F).post enc Tryd.prog Tryd.f5 false true false false) := by
  obtain ⟨places, hx⟩ := reads os enc
  refine returnsInHanded_of_row (C := Tryd.checked) (s := Rows.OpenSpec.upto Rows.frameFoundSpec) own started (by kernel_rfl) Tryd.func5
    (witness_row_at (enc := enc) (C := Tryd.checked) false ({ World.holding Tryd.prog os ⟨#[], #[], []⟩ with heap := (World.holding Tryd.prog os ⟨#[], #[], []⟩).heap.modify 0 fun | .cells _ t frozen => .cells (tabl.map fun z => Value.int .u32 z).toArray t frozen | o => o } : World) #[.int .i64 0, .slice none 0 0, .slice none 0 0] rfl (by kernel_rfl) (by kernel_rfl) (by kernel_rfl)
      (OpenSpec.preRow_of_cond 8 hx (by kernel_rfl) (fun k hk => by cases hk; kernel_rfl) (by kernel_rfl) (laid_met os))) ?_
  intro W base args ds gs before hval0 hW _ hcond0 hsz0 hL _ _
  have hk : Rows.uptoSmall H (ds ++ gs) = true := hcond0 _ rfl
  have hval : ∀ (j : Nat) t v, Tryd.f5.params[j]? = some t → args[j]? = some v → Value.okWide Tryd.prog W .any base t v := hval0
  have hW' := hW
  obtain ⟨p, q, hA0, hV, rfl, hfz, hnd⟩ := hW
  have hA : DataW.TrodAll enc Tryd.prog W 0 (fun _ => true) true Tryd.f5.params.toList args.toList ds p := hA0
  rw [Tryd.params5] at hA hval
  obtain ⟨v0, vs0, d0, ds0, p0, q0, hargs, rfl, rfl, h0, r0⟩ := trodAll_cons hA
  obtain ⟨v1, vs1, d1, ds1, p1, q1, rfl, rfl, rfl, h1, r1⟩ := trodAll_cons r0
  obtain ⟨v2, vs2, d2, ds2, p2, q2, rfl, rfl, rfl, h2, r2⟩ := trodAll_cons r1
  obtain ⟨rfl, rfl, rfl⟩ := trodAll_nil r2
  obtain rfl : args = #[v0, v1, v2] := by cases args; simp_all
  obtain ⟨rfl, rfl⟩ := trodVars_none hV
  obtain ⟨a0, rfl, rfl, rfl, w0⟩ := open_int Tryd.underlying3 (hval 0 3 v0 rfl rfl) h0
  have k1 := h1
  have lt1 : ∀ x ∈ p1, x.block < W.heap.size := by obtain ⟨m, hm⟩ := k1; exact DataW.trod_lt m _ _ _ hm
  obtain ⟨a1, n1, cap1, X1, rfl, x1, y1, nz1⟩ : ∃ a n cap X, v1 = .slice a n cap ∧ Frs W a n X ∧ frsW X ≤ 1048576 ∧ (a = none → cap = 0) := by
    obtain ⟨sa, sl, sc, hv⟩ := okWide_slice Tryd.underlying31 (hval 1 31 v1 rfl rfl)
    have hAll : Rows.uptoBulkAll _ ≤ 1048576 := of_decide_eq_true hk
    exact frs_open sa sl sc hv h1 (Nat.le_trans (bulk_mem (show d1 ∈ _ by simp)) hAll)
  have k2 := h2
  have lt2 : ∀ x ∈ p2, x.block < W.heap.size := by obtain ⟨m, hm⟩ := k2; exact DataW.trod_lt m _ _ _ hm
  obtain ⟨a2, len2, cap2, z2, rfl, x2⟩ : ∃ a len cap zs, v2 = .slice a len cap ∧ IsRow .u8 1048576 W a len cap zs := by
    obtain ⟨sa, sl, sc, rfl⟩ := okWide_slice Tryd.underlying28 (hval 2 28 v2 rfl rfl)
    obtain ⟨fuel, hf⟩ := h2
    rcases open_ints Tryd.underlying28 Tryd.underlying5 (by kernel_rfl) hf with ⟨hcs, _⟩ | ⟨x, l, c, zs, hcs, _, hl, hm, hz, hx, hcell, hwz⟩
    · simp [Value.cells] at hcs; obtain ⟨rfl, rfl, rfl⟩ := hcs
      exact ⟨none, 0, 0, [], rfl, .inl ⟨rfl, rfl, rfl, rfl⟩⟩
    · simp [Value.cells] at hcs; obtain ⟨rfl, rfl, rfl⟩ := hcs
      have hz' : zs.length = sc := by simpa using hz
      have hd : d2 = _ := congrArg Prod.fst hx
      have hb := bulk_slice hk (show d2 ∈ _ by simp) hd
      simp only [lits, List.length_map, List.length_take, List.length_drop] at hb
      exact ⟨some x, sl, sc, zs, rfl, .inr ⟨_, rfl, hl, by omega, hz', hcell, hwz⟩⟩
  clear hA0 hval0
  simp only [List.append_nil] at hW'
  refine (walk a0 a1 n1 cap1 X1 a2 len2 cap2 z2 W w0 x1 y1 nz1 x2 (tab_of hL)).mono fun e W' ⟨he, bel⟩ => ?_
  subst he
  exact ⟨_, rfl, _, _, _, [], _, [], hW', trodAll_mk1 (shut_bool Tryd.underlying4 _), (trodAll_cons_mk (shut_int Tryd.underlying3 w0) (trodAll_cons_mk (Below.trod laidOut (by kernel_rfl) (of_decide_eq_true (by kernel_rfl)) k1 bel lt1) (trodAll_cons_mk (Below.trod laidOut (by kernel_rfl) (of_decide_eq_true (by kernel_rfl)) k2 bel lt2) trodAll_mk0))), rfl, bel.frame _, fun h => by cases h⟩

theorem over : Rows.frameFoundUptoRow.holds Tryd.pinned (Rows.OpenSpec.upto Rows.frameFoundSpec) :=
  OpenClaim.holds_of_cond 5 Tryd.f5 rfl rfl rfl rfl rfl rfl rfl ⟨rfl, rfl, rfl, rfl, rfl⟩ rfl rfl rfl rfl rfl (by kernel_rfl) Tryd.func5 (by kernel_rfl)
    (of_decide_eq_true (by kernel_rfl)) (by unfold Func.isWrapper; first | (rw [if_pos (by decide +kernel)]; kernel_rfl) | (rw [if_neg (by decide +kernel)]; exact ⟨rfl, rfl⟩))
    (fun os started H enc _ F => by rw [OpenClaim.pre_eq_preRow]; exact lifted os started H enc F)

/-- No parameter wants a stand-in; the program's own looks are off. -/
theorem plain (f : FuncId) (fn : Func) (hf : Tryd.pinned.checked.prog.funcNamed "hawser/hawserlaw04.FrameFound" = some f) (hfn : Tryd.pinned.checked.prog.funcs[f]? = some fn) :
    false = Tryd.pinned.checked.prog.looks [] ∧ ∀ (j : Nat) t, fn.params[j]? = some t → Tryd.pinned.checked.prog.wantsStandIn t = false := by
  obtain rfl : f = 5 := Option.some.inj ((show Tryd.prog.funcNamed "hawser/hawserlaw04.FrameFound" = some 5 by kernel_rfl).symm.trans hf) |>.symm
  obtain rfl : fn = Tryd.f5 := (Option.some.inj (Tryd.func5.symm.trans hfn)).symm
  refine ⟨by kernel_rfl, fun j t ht => ?_⟩
  rw [Tryd.params5] at ht
  have hm : t ∈ [3, 31, 28] := by simpa using Array.mem_of_getElem? ht
  have hall : (([3, 31, 28] : List TypeId).all fun u => !Tryd.prog.wantsStandIn u) = true := by kernel_rfl
  exact (show Tryd.prog.wantsStandIn t = false by simpa using List.all_eq_true.1 hall t hm)
theorem card : Rows.FrameFoundUptoCardSaid :=
  Claim7.holds_tied_plain_at .later [] _ _ _ _ over (fun _ h => by cases h) (by kernel_rfl) (fun _ h => by cases h) frameFoundUpto_row_tie rfl ⟨rfl, rfl⟩ (by kernel_rfl) rfl plain (by kernel_rfl)

end Go.Proofs.YtegbgmihcokblaaDoor.frameFound
namespace Go.Proofs.YtegbgmihcokblaaDoor
theorem frameFound_holds : Rows.FrameFoundUptoCardSaid := frameFound.card
#print axioms frameFound_holds
end Go.Proofs.YtegbgmihcokblaaDoor

/-
  Proved, in its second form: for all frames that hold together at most 2^20 values, hawserlaw04.FrameOwn answers true: bodies that were answered, and bytes that Encode made, are the caller's: each has memory of its own, spare room too, whatever is asked, fed and written between (the card ties the table of package crc to the program's text).
-/
import Derived.Test.YtegbgmihcokblaaDoorRows
import Derived.Test.YtegbgmihcokblaaDoorCards
import Derived.Test.YtegbgmihcokblaaDoorTie
import Derived.Test.YtegbgmihcokblaaDoorFOf
import Derived.WalkKit
import Derived.ProofKit
import Derived.OpenShut
import Derived.ShutString
import Derived.ChangeOld
import Derived.Below
import Derived.Lib.SmallJoins
import Derived.JoinedCond
import Derived.Deep.DeepHandedRow
import Derived.Lib.LaidTab
import Derived.Sort.AtCall
namespace Go.Proofs.YtegbgmihcokblaaDoor.frameOwn
open Go.ChangeShapes Go.WideShapes Go.ChangeAt Go.RowKit
set_option linter.unusedVariables false

theorem own : ownKnob Tryd.prog.godebug = none := by kernel_rfl
theorem laidOut : laidOutB Tryd.prog = true := by kernel_rfl

/-- What stands when all is laid down, whatever is made later. -/
structure Laid3 (w W : World) (SSl : List FrM) (ba : Option Addr) (E bc : Nat) (sa : Option Addr) (G sc : Nat) : Prop where
  bs : Seg .u8 W ba E (fencs SSl)
  nz : ba = none → bc = 0
  rd : RdL W (.slice sa G sc) SSl
  fb : ∀ f ∈ SSl, FrB W f
  tb : Tab W
  be : Below w.heap.size w W
theorem Laid3.below {w W W' : World} {SSl : List FrM} {ba : Option Addr} {E bc : Nat} {sa : Option Addr} {G sc : Nat} (h : Laid3 w W SSl ba E bc sa G sc) (hb : Below W.heap.size W W') : Laid3 w W' SSl ba E bc sa G sc :=
  ⟨h.bs.below hb, h.nz, ⟨own_gr h.rd.own (Gr.ofB (G := fun _ => False) hb) (fun _ _ z => z), fun f hf => by
    obtain ⟨ua, uc, e, hs⟩ := h.rd.body f hf
    exact ⟨ua, uc, e, hs.below hb⟩⟩, fun f hf => (h.fb f hf).below hb, h.tb.below hb, h.be.trans (hb.mono h.be.size)⟩
/-- What a round has found, while only the row of what is held changes. -/
structure R6 (w W : World) (SSl : List FrM) (ba : Option Addr) (E bc : Nat) (sa : Option Addr) (G sc : Nat) (T fb fc : Nat) (got : Value) (L2 : List FrM) (Q F : Nat → Prop) : Prop where
  frl : FrL F W got L2
  ss : SS Q W T 2097180 [] 2000 0 0 (.slice none 0 0) []
  fed : Own 0 W (.slice (some ⟨fb, 0, none⟩) E fc) E (fencs SSl)
  ld : Laid3 w W SSl ba E bc sa G sc
set_option maxRecDepth 20000 in
set_option maxHeartbeats 8000000 in
theorem walk (a : Option Addr) (n cap : Nat) (X : List FrM) (w : World) (x1 : Frs w a n X) (y1 : frsW X ≤ 1048576) (nz1 : a = none → cap = 0) (ht : Tab w) :
    Calls Tryd.prog 8 #[.slice a n cap] w fun e w' => e = .returned (.bool true) ∧ Below w.heap.size w w' := by
  have HP : Hid (Frs w a n X ∧ frsW X ≤ 1048576 ∧ (a = none → cap = 0) ∧ Tab w) := ⟨x1, y1, nz1, ht⟩
  obtain ⟨W1, hcv, hW1b, hW1s, hW1c⟩ := convert_own w #[.int .u8 111, .int .u8 119, .int .u8 110] 3
  obtain ⟨N0, hN0⟩ : ∃ N0, N0 = w.heap.size := ⟨_, rfl⟩
  obtain ⟨L, hL⟩ : ∃ L : List FrM, L = [⟨5, [111, 119, 110], .slice (some ⟨w.heap.size, 0, none⟩) 3 3⟩] ++ X := ⟨_, rfl⟩
  obtain ⟨M, hM⟩ : ∃ M, M = L.length := ⟨_, rfl⟩
  obtain ⟨SSl, hSS⟩ : ∃ S, S = fgood 2000 L := ⟨_, rfl⟩
  obtain ⟨E, hE⟩ : ∃ E, E = (fencs SSl).length := ⟨_, rfl⟩
  obtain ⟨G, hG⟩ : ∃ G, G = SSl.length := ⟨_, rfl⟩
  have hXl : X.length ≤ frsW X := by
    unfold frsW
    clear hL x1 y1 HP
    induction X with
    | nil => simp
    | cons f X ih => simp; omega
  have HLX : Hid (fsz L ≤ 1073741824 ∧ L.length ≤ 1048577) := by
    have z1 := fsz_frsW X
    have z3 : fsz L = 17 + fsz X := by rw [hL]; unfold fsz; simp
    have z4 : L.length = 1 + X.length := by rw [hL]; simp; omega
    exact ⟨by omega, by omega⟩
  have HFX : Hid (∀ W, Below W1.heap.size W1 W → ∀ f ∈ L, FrB W f) := fun W hb f hf => by
    rw [hL] at hf
    rcases List.mem_append.1 hf with z | z
    · obtain rfl : f = ⟨5, [111, 119, 110], .slice (some ⟨w.heap.size, 0, none⟩) 3 3⟩ := by simpa using z
      refine ⟨⟨_, 3, rfl, ⟨rfl, .inr ⟨w.heap.size, 0, rfl, by have := hb.size; omega, fun i hi => ?_⟩⟩, Nat.le_refl _, fun h => by cases h⟩, bytes_of_mem (fun z hz => by simp at hz; omega)⟩
      rw [hb.cell (p := ⟨w.heap.size, 0 + i, none⟩) (show w.heap.size < W1.heap.size by omega), hW1c]
      match i, hi with
      | 0, _ => rfl
      | 1, _ => rfl
      | 2, _ => rfl
    · exact ((x1.2.1 f z).below hW1b).below hb
  have HSG : Hid ((∀ f ∈ SSl, fkeep 2000 f = true ∧ f ∈ L) ∧ fsz SSl ≤ 1073741824 ∧ 1 ≤ G ∧ 17 ≤ E ∧ G * 14 ≤ fsz SSl ∧ E = fsz SSl) := by
    have e1 : ∃ Y, SSl = ⟨5, [111, 119, 110], .slice (some ⟨w.heap.size, 0, none⟩) 3 3⟩ :: Y := by
      rw [hSS, hL]; unfold fgood; rw [List.filter_append]
      exact ⟨_, rfl⟩
    obtain ⟨Y, hY⟩ := e1
    have z := fsz_len SSl
    have z2 : fsz SSl = 17 + fsz Y := by rw [hY]; unfold fsz; simp
    have z3 : G = Y.length + 1 := by rw [hG, hY]; simp
    have z4 : E = fsz SSl := by rw [hE, fencs_len]
    refine ⟨by rw [hSS]; exact fgood_keep 2000 L, by rw [hSS]; exact Nat.le_trans (fsz_good 2000 L) HLX.out.1, by omega, by omega, by rw [hG]; exact z, z4⟩
  have hnb : n ≤ 1048576 := by have := x1.1; omega
  have HLD : Hid (∀ W fa fc, Below W1.heap.size W1 W → W.ownsRow W1.heap.size 42 2 (.slice fa M fc) M (flF L) → Calls Tryd.prog 22 #[.slice fa M fc, .int .i64 2000] W fun r w' => ∃ ba bc sa sc, r = .returned (.tuple #[.slice ba E bc, .slice sa G sc, .bool true]) ∧ LdI W w' (.slice ba E bc) (.slice sa G sc) SSl) := fun W fa fc hb ho => by
    rw [hM] at ho ⊢
    refine (laidf_c 2000 fa fc L W (rdl_of ho (HFX.out W hb)) (HFX.out W hb) ((ht.below hW1b).below hb) (by decide) HLX.out.1).mono ?_
    rintro r w' ⟨bv, sv, rfl, z1⟩
    rw [← hSS] at z1
    obtain ⟨ba, bc, rfl, _, _, _⟩ := z1.b.seg
    obtain ⟨sa, sc, rfl⟩ := (own_shape z1.s).1
    rw [← hE, ← hG] at z1 ⊢
    exact ⟨ba, bc, sa, sc, rfl, z1⟩
  have HL : Hid ([(⟨5, [111, 119, 110], .slice (some ⟨w.heap.size, 0, none⟩) 3 3⟩ : FrM)] ++ X = L ∧ L.length = M) := ⟨hL.symm, hM.symm⟩
  have HE : Hid (E = (fencs SSl).length ∧ G = SSl.length) := ⟨hE, hG⟩
  have HW1 : Hid (Below w.heap.size w W1 ∧ W1.heap.size = w.heap.size + 1 ∧ N0 = w.heap.size) := ⟨hW1b, hW1s, hN0⟩
  clear hL hM hSS hE hG hW1b hW1s hW1c x1 y1 ht nz1 hXl hN0
  go_enter Tryd.func8, Tryd.ntmps8
  go_wp2_with (first
    | (at_builtin; go_must (refine wpList_moreF rfl (.tmp 29) (.tmp 30) rfl _ W1.heap.size _ [⟨5, [111, 119, 110], .slice (some ⟨w.heap.size, 0, none⟩) 3 3⟩] X a n cap rfl rfl (own_newF W1 W1.heap.size 5 _ [111, 119, 110] (Nat.le_refl _)) ((HP.out.1.below HW1.out.1).below ((Below.refl _ _).alloc (Nat.le_refl _) _)) HP.out.2.2.1 (by simp; omega) (by simp) ?_); intro v' w2 y1 y2 y3; rw [HL.out.1, HL.out.2] at y1; obtain ⟨fa, fc, rfl⟩ := (own_shape y1).1; have H2 : Hid (w2.ownsRow W1.heap.size 42 2 (.slice fa M fc) M (flF L) ∧ Below W1.heap.size W1 w2) := ⟨y1, ((Below.refl _ _).alloc (Nat.le_refl _) _).grown y2 (by simp) (fun k hk => by cases hk; exact Nat.le_refl _)⟩; clear y1 y2 y3)
    | (go_at_call 22; go_must (refine (Calls.mono (HLD.out w2 fa fc H2.out.2 H2.out.1) ?_)); rintro r w3 ⟨ba, bc, sa, sc, rfl, z1⟩; have H3 : Hid (LdI w2 w3 (.slice ba E bc) (.slice sa G sc) SSl) := z1; clear z1))
  have HK3 : Hid (∀ W, Below w3.heap.size w3 W → Laid3 w W SSl ba E bc sa G sc) := fun W hb => by
    have q2 := H2.out.2.size
    have q : Below W1.heap.size W1 w3 := H2.out.2.trans (H3.out.bel.mono q2)
    have hbe : Below w.heap.size w w3 := HW1.out.1.trans (q.mono (by have := HW1.out.2.1; omega))
    have hob := H3.out.b
    rw [← HE.out.1] at hob
    obtain ⟨ba', bc', eb, s4, s5, s6⟩ := hob.seg
    cases eb
    have hfb : ∀ f ∈ SSl, FrB w3 f := fun f hf => HFX.out w3 q f (HSG.out.1 f hf).2
    have hs0 := H3.out.s
    rw [← HE.out.2] at hs0
    have h3 : Laid3 w w3 SSl ba E bc sa G sc := ⟨s4, s5, by have := rdl_of (L := SSl) (by rw [← HE.out.2]; exact hs0) hfb; exact this, hfb, HP.out.2.2.2.below hbe, hbe⟩
    exact h3.below hb
  have HKP : Hid ((∀ f ∈ SSl, fkeep 2000 f = true) ∧ (∀ f ∈ SSl, Bytes f.ys) ∧ fsz SSl ≤ 1073741824 ∧ E = (fencs SSl).length ∧ G = SSl.length ∧ (∀ f ∈ SSl, f.ys.length ≤ 2000)) := ⟨fun f hf => (HSG.out.1 f hf).1, fun f hf => ((HK3.out w3 (Below.refl _ _)).fb f hf).bt, HSG.out.2.1, HE.out.1, HE.out.2, fun f hf => by
    have := (HSG.out.1 f hf).1
    unfold fkeep at this
    rw [Bool.and_eq_true] at this
    exact of_decide_eq_true this.2⟩
  obtain ⟨B, hB⟩ : ∃ B, B = w3.heap.size := ⟨_, rfl⟩
  have hEb : E ≤ 1073741824 := by have := HSG.out; omega
  have hE1 : 17 ≤ E := HSG.out.2.2.2.1
  have hGb : G ≤ 76695845 := by have := HSG.out; omega
  have hG1 : 1 ≤ G := HSG.out.2.2.1
  have HBW : Hid (B = w3.heap.size ∧ w.heap.size ≤ B ∧ Tab w) := ⟨hB, by rw [hB]; exact (HK3.out w3 (Below.refl _ _)).be.size, HP.out.2.2.2⟩
  clear HLD HL HE HW1 HSG HFX HLX HP H2 H3 hcv hnb hB
  go_loopw [6, 7] (fun hv r wr => ∃ (k : Nat) (ha : Option Addr) (hc h0 : Nat) (H : List HdM), k ≤ 2 ∧ r = .int .i64 (k : Int) ∧ hv = .slice ha h0 hc ∧ Hid (Held B wr (fun _ => False) (.slice ha h0 hc) H ∧ H.length = h0 ∧ h0 = k * (5 * G) ∧ Below B w3 wr ∧ B ≤ wr.heap.size)) (fun _ r _ => 2 - (intOf r).toNat)
  case atStart => exact ⟨0, none, 0, 0, [], by omega, rfl, rfl, held_nil _ _ _, rfl, by simp, Below.refl _ _, by have := HBW.out.1; omega⟩
  case round =>
    obtain ⟨k, ha, hc, h0, H, hk, rfl, rfl, HH⟩ := hrel
    by_cases hlt : k < 2
    · have hci : (k : Int) < 2 := by omega
      have hh0 : h0 ≤ 5 * G := by
        have e := HH.out.2.2.1
        have z : k = 0 ∨ k = 1 := by omega
        rcases z with rfl | rfl
        · omega
        · omega
      have HLD : Hid (Laid3 w wr SSl ba E bc sa G sc) := HK3.out wr (by have := HH.out.2.2.2.1; rw [HBW.out.1] at this; exact this)
      go_wp2_with (first
        | (at_builtin; go_must (refine wpList_append_apart _ rfl _ (.tmp 42) rfl wr.heap.size 0 _ [] rfl (own_nil _ _) ba E bc (fencs SSl) rfl HLD.out.nz HLD.out.bs (by omega) (Nat.le_refl _) ?_); intro v4 w4 y1 y2 y3; rw [Nat.zero_add, List.nil_append] at y1; obtain ⟨fb, fc, rfl, hfb, hfc⟩ := y1.form (by omega); have H4 : Hid (Own wr.heap.size w4 (.slice (some ⟨fb, 0, none⟩) E fc) E (fencs SSl) ∧ wr.grownBy w4 none ∧ wr.heap.size ≤ fb ∧ E ≤ fc ∧ fb < w4.heap.size) := ⟨y1, y2, hfb, hfc, (own_lt y1 fb rfl).2⟩; have HSF : Hid (Seg .u8 w4 (some ⟨fb, 0, none⟩) E (fencs SSl) ∧ Laid3 w w4 SSl ba E bc sa G sc) := (by obtain ⟨xa, xc, ex, hx, _⟩ := y1.seg; cases ex; exact ⟨hx, HLD.out.below (gb_below y2)⟩); clear y1 y2 y3 hfb hfc)
        | (go_at_call 20; go_must (refine (Calls.mono (all_one HSF.out.1 H4.out.2.2.2.1 HKP.out.1 HKP.out.2.1 HKP.out.2.2.1 HKP.out.2.2.2.2.1 HSF.out.2.tb) ?_)); rintro r w5 ⟨T, ga, gc, L2, Q, F, rfl, z1⟩; have H5 : Hid (Got w4 w5 T G SSl (.slice ga G gc) L2 Q F) := z1; have HAK : Hid (Calls Tryd.prog 21 #[.slice ga G gc, .slice sa G sc] w5 fun r w' => r = .returned (.bool true) ∧ w5.grownBy w' none) := (by have q1 := z1.frl.rd; rw [← z1.len] at q1; have q2 := (HSF.out.2.below z1.bel).rd; have q := alike_r w5 ga sa gc sc L2 SSl q1 (by rw [← HKP.out.2.2.2.2.1]; exact q2) z1.fr (by rw [z1.len]; omega); rw [z1.len, ← HKP.out.2.2.2.2.1] at q; exact q); clear z1)
        | (go_at_call 21; go_must (refine (Calls.mono HAK.out ?_)); rintro r w6 ⟨rfl, hq⟩; have H6 : Hid (w5.grownBy w6 none) := hq; clear hq))
      have HB0 : Hid ((∀ k, (Value.slice ha h0 hc).ownBlock = some k → B ≤ k ∧ k < fb) ∧ (∀ f ∈ H, ∀ k, f.u.ownBlock = some k → k < fb) ∧ fb < w6.heap.size ∧ (∀ k, F k → fb < k ∧ k < w6.heap.size) ∧ (∀ k, Q k → fb < k ∧ k < w6.heap.size) ∧ (∀ k, F k → ¬ Q k) ∧ B ≤ fb ∧ E ≤ fc) := by
        have s1 := H4.out.2.1.size
        have s2 := H5.out.bel.size
        have s3 := H6.out.size
        have s4 := HH.out.2.2.2.2
        obtain ⟨_, _, c1, c2, c3⟩ := H4.out
        refine ⟨fun k e => ?_, fun f hf k e => ?_, by omega, fun k z => ?_, fun k z => ?_, H5.out.qf, by omega, c2⟩
        · have := own_lt HH.out.1.row k e; omega
        · have := own_lt (HH.out.1.own f hf) k e; omega
        · have := H5.out.f k z; omega
        · have := H5.out.q k z; omega
      have HR6 : Hid (∀ W, Gr (fun k => (Value.slice ha h0 hc).ownBlock = some k) w6 W → R6 w W SSl ba E bc sa G sc T fb fc (.slice ga G gc) L2 Q F) := fun W hg => by
        have g56 : Gr (fun _ => False) w5 w6 := Gr.of H6.out (by simp)
        have b6 : Below B w3 w6 := by
          have q1 := HH.out.2.2.2.1
          have q2 := (gb_below H4.out.2.1).trans ((H5.out.bel.trans ((gb_below H6.out).mono H5.out.bel.size)).mono H4.out.2.1.size)
          exact q1.trans (q2.mono HH.out.2.2.2.2)
        refine ⟨(H5.out.frl.gr g56 (fun _ _ z => z)).gr hg (fun k hk z => ?_), (H5.out.ss.gr g56 (fun _ _ z => z)).gr hg (fun k hk z => ?_), own_gr (own_gr ((H4.out.1.below H5.out.bel).base (Nat.zero_le _)) g56 (fun _ _ z => z)) hg (fun k e z => ?_), HK3.out W ?_⟩
        · have := HB0.out.1 k z; have := HB0.out.2.2.2.1 k hk; omega
        · have := HB0.out.1 k z; have := HB0.out.2.2.2.2.1 k hk; omega
        · cases e; have h := (HB0.out.1 _ z).2; exact absurd h (Nat.lt_irrefl _)
        · have := Gr.below b6 hg (fun k z => (HB0.out.1 k z).1) (by have := HB0.out; omega)
          rw [HBW.out.1] at this
          exact this
      have HB6 : Hid (∀ W, Gr (fun k => (Value.slice ha h0 hc).ownBlock = some k) w6 W → Below B w3 W) := fun W hg => by
        have q1 := HH.out.2.2.2.1
        have q2 := (gb_below H4.out.2.1).trans ((H5.out.bel.trans ((gb_below H6.out).mono H5.out.bel.size)).mono H4.out.2.1.size)
        exact Gr.below (q1.trans (q2.mono HH.out.2.2.2.2)) hg (fun k z => (HB0.out.1 k z).1) (by have := HB0.out; omega)
      obtain ⟨Av, hAv⟩ : ∃ Av : Nat → Prop, Av = fun k => Q k ∨ k = fb := ⟨_, rfl⟩
      have HAV : Hid ((∀ k, Av k → k < w6.heap.size ∧ fb ≤ k) ∧ (∀ k, F k → ¬ Av k) ∧ Av = fun k => Q k ∨ k = fb) := by
        rw [hAv]
        refine ⟨fun k z => ?_, fun k z q => ?_, rfl⟩
        · rcases z with z | z
          · have := HB0.out.2.2.2.2.1 k z; omega
          · have := HB0.out.2.2.1; omega
        · rcases q with q | q
          · exact HB0.out.2.2.2.2.2.1 k z q
          · have := HB0.out.2.2.2.1 k z; omega
      have HA6 : Hid (HI B Av w6 (.slice ha h0 hc) w6 (.slice ha h0 hc) H) := by
        refine HI.start ((HH.out.1.wide (fun k z => .inr ?_)).gr (Gr.ofB (G := fun _ => False) ?_) (fun k z => z.elim))
        · have := (HAV.out.1 k z).2; have := H4.out.2.2.1; omega
        · exact (gb_below H4.out.2.1).trans ((H5.out.bel.trans ((gb_below H6.out).mono H5.out.bel.size)).mono H4.out.2.1.size)
      have HLL : Hid ((∀ f ∈ L2, f.ys.length ≤ 2000) ∧ L2.length = G ∧ H.length = h0 ∧ FrL F w6 (.slice ga G gc) L2) := by
        refine ⟨fun f hf => ?_, H5.out.len, HH.out.2.1, (HR6.out w6 (Gr.refl _ _)).frl⟩
        have hm : f.fr ∈ SSl.map FrM.fr := by rw [← H5.out.fr]; exact List.mem_map.2 ⟨f, hf, rfl⟩
        obtain ⟨g, hg, e⟩ := List.mem_map.1 hm
        have := HKP.out.2.2.2.2.2 g hg
        have e2 : g.ys = f.ys := congrArg Prod.snd e
        rw [← e2]; exact this
      have HKK : Hid (h0 = k * (5 * G) ∧ k + 1 ≤ 2) := ⟨HH.out.2.2.1, hlt⟩
      clear HH H4 H5 H6 HAK HSF HLD hAv
      go_loopw [6, 12] (fun hv i wr => ∃ (q : Nat) (xa : Option Addr) (xc : Nat), q ≤ G ∧ i = .int .i64 (q : Int) ∧ hv = .slice xa (h0 + q) xc ∧ Hid (HI B Av w6 (.slice ha h0 hc) wr (.slice xa (h0 + q) xc) (H ++ (L2.take q).map hdOf))) (fun _ i _ => G - (intOf i).toNat)
      case atStart => exact ⟨0, ha, hc, Nat.zero_le _, rfl, rfl, by simp; exact HA6.out⟩
      case round =>
        clear HA6
        obtain ⟨q, xa, xc, hq, rfl, rfl, HI0⟩ := hrel
        by_cases hqlt : q < G
        · have hcq : (q : Int) < (G : Int) := by omega
          obtain ⟨f, hf⟩ : ∃ f, L2[q]? = some f := ⟨_, List.getElem?_eq_getElem (show q < L2.length by have := HLL.out.2.1; omega)⟩
          obtain ⟨g, gc', ua, uc, e1, hu, hs, hr, hgl⟩ := (HR6.out wr HI0.out.gr).frl.at q f hf
          have e3 : ga = some ⟨g, 0, none⟩ := by injection e1
          obtain ⟨m, hm'⟩ : ∃ m, m = f.ys.length := ⟨_, rfl⟩
          have hcb : wr.cell? ⟨g, q * 2 + 1, none⟩ = some (.slice ua m uc) := by rw [hm']; exact hr 1 _ rfl
          have HNW : Hid (New B wr Av (.slice xa (h0 + q) xc) (H ++ (L2.take q).map hdOf) [hdOf f]) := body_new HI0.out HLL.out.2.2.2 hf (fun k z => by have := HB0.out.2.2.2.1 k z; have := HB0.out.2.2.2.2.2.2.1; omega) HAV.out.2.1 (fun k z e => by have := HB0.out.2.2.2.1 k z; have := HB0.out.1 k e; omega) (fun g hg k e z => by have := HB0.out.2.1 g hg k e; have := HB0.out.2.2.2.1 k z; omega) (by have := HLL.out.1 f (List.mem_of_getElem? hf); omega)
          have HUS : Hid ([hdOf f].map HdM.u = [.slice ua m uc] ∧ (H ++ (L2.take q).map hdOf).length = h0 + q ∧ (L2.take (q + 1)).map hdOf = (L2.take q).map hdOf ++ [hdOf f]) := ⟨by rw [hm', ← hu]; rfl, by rw [List.length_append, HLL.out.2.2.1, List.length_map, List.length_take]; have := HLL.out.2.1; omega, take_hd L2 q f hf⟩
          have HWS : Hid ((∀ k, Av k → k < wr.heap.size) ∧ B ≤ wr.heap.size) := ⟨fun k z => by have := HAV.out.1 k z; have := HI0.out.gr.size; omega, by have := HI0.out.gr.size; have := HB0.out; omega⟩
          subst e3
          clear hf hu hs hr hgl hm' e1
          go_wp2_with (at_builtin; go_must (refine wpList_pushH rfl (.tmp 65) (.tmp 71) rfl _ B _ (h0 + q) ((H ++ (L2.take q).map hdOf).map HdM.u) wr.heap.size 1 [.slice ua m uc] rfl rfl (HI0.out.rowAt HUS.out.2.1 (World.grownBy_alloc _ _ none)) rfl (cells_new wr [.slice ua m uc] 28) (one_sl _ _ _) (by omega) (by have := HWS.out.2; simp; omega) ?_); intro v' w8 y1 y2 y3; obtain ⟨xa', xc', ev, hN⟩ := hi_push HI0.out HUS.out.2.1 HNW.out HWS.out.1 (World.grownBy_alloc _ _ none) rfl HUS.out.1 y1 y2 y3; have HN : Hid _ := hN; subst ev; clear y1 y2 y3 hN)
          go_roundw
          case rel => exact ⟨q + 1, xa', xc', hqlt, by go_num, rfl, by rw [HUS.out.2.2, ← List.append_assoc]; exact HN.out⟩
          case measure => simp [intOf]; omega
        · have hcq : ¬ ((q : Int) < (G : Int)) := by omega
          have eqG : G = q := by omega
          obtain ⟨H7, hH7⟩ : ∃ H7, H7 = H ++ L2.map hdOf := ⟨_, rfl⟩
          have HI7 : Hid (HI B Av w6 (.slice ha h0 hc) wr (.slice xa (h0 + q) xc) H7 ∧ H7.length = h0 + q) := by
            have e : L2.take q = L2 := List.take_of_length_le (by have := HLL.out.2.1; omega)
            have := HI0.out
            rw [e, ← hH7] at this
            exact ⟨this, by rw [hH7, List.length_append, HLL.out.2.2.1, List.length_map, HLL.out.2.1, eqG]⟩
          have HH7 : Hid (H7 = H ++ L2.map hdOf) := hH7
          subst eqG
          clear HI0 hH7 hq hqlt
          go_wp2_with fail
          go_loopw [6, 13, 14] (fun hv av iv wr => ∃ (q p z : Nat) (xa : Option Addr) (xc : Nat) (H3 : List HdM), q ≤ G ∧ p ≤ E ∧ z ≤ 10 * G ∧ iv = .int .i64 (q : Int) ∧ av = .int .i64 (p : Int) ∧ hv = .slice xa z xc ∧ Hid (HI B Av w6 (.slice ha h0 hc) wr (.slice xa z xc) H3 ∧ H3.length = z ∧ z = h0 + G + 3 * q ∧ p = fsz (SSl.take q))) (fun _ _ iv _ => G - (intOf iv).toNat)
          case atStart => exact ⟨0, 0, h0 + G, xa, xc, H7, Nat.zero_le _, Nat.zero_le _, by omega, rfl, rfl, rfl, HI7.out.1, HI7.out.2, by omega, by simp [fsz]⟩
          case round =>
            clear HI7 HH7
            obtain ⟨q, p, z, xa, xc, H3, hq, hp, hz, rfl, rfl, rfl, HI0⟩ := hrel
            by_cases hqlt : q < G
            · have hcq : (q : Int) < (G : Int) := by omega
              obtain ⟨f, hf⟩ : ∃ f, SSl[q]? = some f := ⟨_, List.getElem?_eq_getElem (show q < SSl.length by have := HKP.out.2.2.2.2.1; omega)⟩
              obtain ⟨g, gc', ua, uc, e1, hu, hs, hr, hgl⟩ := (HR6.out wr HI0.out.1.gr).ld.rd.at q f hf
              have e3 : sa = some ⟨g, 0, none⟩ := by injection e1
              obtain ⟨m, hm⟩ : ∃ m, m = f.ys.length := ⟨_, rfl⟩
              obtain ⟨N, hN⟩ : ∃ N, N = m + 14 := ⟨_, rfl⟩
              obtain ⟨t, ht⟩ : ∃ t, t = f.t := ⟨_, rfl⟩
              rw [← hm] at hu hs hr
              rw [← ht] at hr
              have hmf := List.mem_of_getElem? hf
              have hkf := HKP.out.1 f hmf
              have hml : m ≤ 2000 := by have := HKP.out.2.2.2.2.2 f hmf; omega
              have hES : E = fsz SSl := by rw [HKP.out.2.2.2.1, fencs_len]
              have HPN : Hid (p + N ≤ E ∧ p + N = fsz (SSl.take (q + 1))) := by
                have z1 := fsz_in SSl q f hf
                have z2 := fsz_cut SSl q f hf
                have z3 := HI0.out.2.2.2
                exact ⟨by omega, by omega⟩
              have HRW : Hid (∀ W, Below wr.heap.size wr W → R6 w W SSl ba E bc sa G sc T fb fc (.slice ga G gc) L2 Q F ∧ W.rangeAt g (q * 2) [.int .i64 t, .slice ua m uc] ∧ Seg .u8 W ua m f.ys) := fun W hb => ⟨HR6.out W (HI0.out.1.below hb).gr, range_gbO hr (gb_of hb) hgl, hs.below hb⟩
              have HEN : Hid (Calls Tryd.prog 24 #[.agg #[.int .i64 t, .slice ua m uc]] wr fun r w' => ∃ g c, r = .returned (.tuple #[.slice (some ⟨g, 0, none⟩) N c, .int .i64 0]) ∧ Own wr.heap.size w' (.slice (some ⟨g, 0, none⟩) N c) N (fenc f.t f.ys) ∧ N ≤ c ∧ Below wr.heap.size wr w') := enc_k hkf hu hm hN ht ((HRW.out wr (Below.refl _ _)).1.ld.fb f hmf) (HRW.out wr (Below.refl _ _)).1.ld.tb
              have HDE : Hid (∀ W, Below wr.heap.size wr W → Calls Tryd.prog 28 #[.slice (cutB (some ⟨fb, 0, none⟩) fc p) (E - p) (fc - p)] W fun r w' => ∃ va vc, r = .returned (.tuple #[.agg #[.int .i64 t, .slice va m vc], .int .i64 (N : Int), .int .i64 0]) ∧ Own W.heap.size w' (.slice va m vc) m f.ys ∧ Below W.heap.size W w') := fun W hb => dec_k (HRW.out W hb).1.fed hf HKP.out.1 HKP.out.2.1 HI0.out.2.2.2 hm hN ht HB0.out.2.2.2.2.2.2.2 hEb hES (HRW.out W hb).1.ld.tb
              have HON : Hid (∀ W, Below wr.heap.size wr W → ∀ g c, Own 0 W (.slice (some ⟨g, 0, none⟩) N c) N (fenc f.t f.ys) → N ≤ c → Calls Tryd.prog 25 #[.slice (some ⟨g, 0, none⟩) N c] W fun r w' => ∃ va vc, r = .returned (.tuple #[.agg #[.int .i64 t, .slice va m vc], .int .i64 0]) ∧ Own W.heap.size w' (.slice va m vc) m f.ys ∧ Below W.heap.size W w') := fun W hb g c ho hc => one_k ho hkf (HKP.out.2.1 f hmf) hm hN ht hc (HRW.out W hb).1.ld.tb
              have HMN : Hid (N = m + 14 ∧ m ≤ 2000) := ⟨hN, hml⟩
              have hNl : N ≤ 2014 := by omega
              have hsl := slice_bl (some ⟨fb, 0, none⟩) E fc p hp
              have HWS : Hid ((∀ k, Av k → k < wr.heap.size) ∧ B ≤ wr.heap.size) := ⟨fun k z => by have := HAV.out.1 k z; have := HI0.out.1.gr.size; omega, by have := HI0.out.1.gr.size; have := HB0.out; omega⟩
              subst e3
              clear hf hu hs hr hgl hm hN ht e1 hmf hkf hES
              go_wp2_with (first
                | (refine wpList_load_mid rfl 42 (.tmp 82) rfl g (q * 2) rfl [.int .i64 t, .slice ua m uc] _ (HRW.out wr (Below.refl _ _)).2.1 Tryd.underlying42 rfl (by kernel_rfl) ?_)
                | (go_at_call 24; go_must (refine (Calls.mono HEN.out ?_)); rintro r w7 ⟨xg, xcc, rfl, z1, z2, z3⟩; have H7 : Hid (Own wr.heap.size w7 (.slice (some ⟨xg, 0, none⟩) N xcc) N (fenc f.t f.ys) ∧ N ≤ xcc ∧ Below wr.heap.size wr w7) := ⟨z1, z2, z3⟩; clear z1 z2 z3)
                | (go_at_call 28; go_must (refine (Calls.mono (HDE.out w7 H7.out.2.2) ?_)); rintro r w8 ⟨ya, yc, rfl, z1, z2⟩; have H8 : Hid (Own w7.heap.size w8 (.slice ya m yc) m f.ys ∧ Below w7.heap.size w7 w8) := ⟨z1, z2⟩; clear z1 z2; have HZ8 : Hid _ := fr_new w8)
                | (refine wpList_store_bk 42 rfl (.tmp 17) (.tmp 92) rfl Tryd.infoFrame w8.heap.size _ _ rfl rfl HZ8.out.1 rfl rfl (own_one _ H8.out.1) ?_; intro w9 h1 h2; have H9 : Hid (Bk 42 w9 w8.heap.size #[.int .i64 t, .slice ya m yc] ∧ Below w8.heap.size w8 w9 ∧ Below wr.heap.size wr w9) := ⟨h1, stored_below h2, H7.out.2.2.trans ((H8.out.2.trans ((stored_below h2).mono H8.out.2.size)).mono H7.out.2.2.size)⟩; clear h1 h2)
                | (go_at_call 25; go_must (refine (Calls.mono (HON.out w9 H9.out.2.2 xg xcc ((H7.out.1.below (H8.out.2.trans (H9.out.2.1.mono H8.out.2.size))).base (Nat.zero_le _)) H7.out.2.1) ?_)); rintro r w10 ⟨va, vc, rfl, z1, z2⟩; have H10 : Hid (Own w9.heap.size w10 (.slice va m vc) m f.ys ∧ Below w9.heap.size w9 w10) := ⟨z1, z2⟩; clear z1 z2; have HZ10 : Hid _ := fr_new w10)
                | (refine wpList_store_bk 42 rfl (.tmp 20) (.tmp 98) rfl Tryd.infoFrame w10.heap.size _ _ rfl rfl HZ10.out.1 rfl rfl (own_one _ H10.out.1) ?_; intro w11 h1 h2; have H11 : Hid (Bk 42 w11 w10.heap.size #[.int .i64 t, .slice va m vc] ∧ Below w10.heap.size w10 w11) := ⟨h1, stored_below h2⟩; clear h1 h2))
              obtain ⟨P1, hP1⟩ : ∃ P1, P1 = w8.heap.size := ⟨_, rfl⟩
              obtain ⟨P2, hP2⟩ : ∃ P2, P2 = w10.heap.size := ⟨_, rfl⟩
              have HTH : Hid (∀ W, w11.grownBy W none → Below wr.heap.size wr W ∧ Bk 42 W P1 #[.int .i64 t, .slice ya m yc] ∧ Bk 42 W P2 #[.int .i64 t, .slice va m vc] ∧ New B W Av (.slice xa z xc) H3 [⟨.slice (some ⟨xg, 0, none⟩) N xcc, fenc f.t f.ys⟩, ⟨.slice ya m yc, f.ys⟩, ⟨.slice va m vc, f.ys⟩] ∧ Own 0 W (.slice ya m yc) m f.ys ∧ Own 0 W (.slice va m vc) m f.ys) := fun W hW => by
                rw [hP1, hP2]
                exact three_of HI0.out.1.held HWS.out.1 HWS.out.2 H7.out.1 H7.out.2.2 H8.out.1 H8.out.2 H9.out.1 H9.out.2.1 H10.out.1 H10.out.2 H11.out.1 H11.out.2 hW (by omega) (by omega)
              rw [← hP1, ← hP2]
              have HIS : Hid (∀ W, w11.grownBy W none → W.rangeAt P1 0 [.int .i64 t, .slice ya m yc] ∧ W.rangeAt P2 0 [.int .i64 t, .slice va m vc] ∧ W.rangeAt g (q * 2) [.int .i64 t, .slice ua m uc] ∧ (Calls Tryd.prog 26 #[.agg #[.int .i64 t, .slice ya m yc], .agg #[.int .i64 t, .slice ua m uc]] W fun r w' => r = .returned (.bool true) ∧ W.grownBy w' none) ∧ (Calls Tryd.prog 26 #[.agg #[.int .i64 t, .slice va m vc], .agg #[.int .i64 t, .slice ua m uc]] W fun r w' => r = .returned (.bool true) ∧ W.grownBy w' none)) := fun W hW => by
                obtain ⟨b1, b2, b3, b4, b5, b6⟩ := HTH.out W hW
                obtain ⟨_, _, e5, s5, _, _⟩ := b5.seg
                obtain ⟨_, _, e6, s6, _, _⟩ := b6.seg
                cases e5
                cases e6
                obtain ⟨_, c2, c3⟩ := HRW.out W b1
                exact ⟨bk_range b2, bk_range b3, c2, (is2_c t ya ua m yc m uc f.ys W s5 c3).mono (fun r w' ⟨z1, z2⟩ => ⟨z1, gb_of z2⟩), (is2_c t va ua m vc m uc f.ys W s6 c3).mono (fun r w' ⟨z1, z2⟩ => ⟨z1, gb_of z2⟩)⟩
              have HLT : Hid (q + 1 ≤ G) := hqlt
              clear H7 H8 H9 H10 H11 HZ8 HZ10 hP1 hP2 HEN HDE HON HRW hsl
              refine wp_region_lastR (fun a b => World.grownBy a b none) (fun _ _ _ h k => gb_trans h k) ⟨rfl, rfl, rfl, Nat.le_refl _, fun _ _ _ => rfl⟩ 27 rfl (by kernel_rfl) [100, 101, 102, 103, 104, 105, 106, 107, 108, 109, 110, 111, 112, 113, 114, 115, 116, 117, 118, 119, 120, 121, 122, 123, 124, 125, 126, 127] [[], [0], [1], [2], [3, 2], [2, 4], [5], [6], [7, 6], [6, 8], [9], [10], [10], [10], [12, 13, 10], [14, 10], [11, 15, 10], [16, 10], [10, 17], [18], [19], [19], [19], [21, 22, 19], [23, 19], [20, 24, 19], [25, 19], [19, 26]] (by kernel_rfl) (by kernel_rfl) [fun u W => u = .int .i64 0, fun u W => u = .bool false, fun u W => u = .bool false, fun u W => u = .int .i64 0, fun u W => u = .bool false, fun u W => u = .bool false, fun u W => u = .bool false, fun u W => u = .int .i64 0, fun u W => u = .bool false, fun u W => u = .bool false, fun u W => u = .bool false, fun u W => u = .agg #[.int .i64 t, .slice ya m yc], fun u W => u = .slice (some ⟨g, 0, none⟩) G sc, fun u W => u = .int .i64 (q : Int), fun u W => u = .pointer (some ⟨g, q * 2, none⟩), fun u W => u = .agg #[.int .i64 t, .slice ua m uc], fun u W => u = .bool true, fun u W => u = .bool false, fun u W => u = .bool false, fun u W => u = .bool false, fun u W => u = .agg #[.int .i64 t, .slice va m vc], fun u W => u = .slice (some ⟨g, 0, none⟩) G sc, fun u W => u = .int .i64 (q : Int), fun u W => u = .pointer (some ⟨g, q * 2, none⟩), fun u W => u = .agg #[.int .i64 t, .slice ua m uc], fun u W => u = .bool true, fun u W => u = .bool false] ?stable ?step ?last
              case stable =>
                intro i v W W' h hg
                match i, h with
                | 0, h => exact h
                | 1, h => exact h
                | 2, h => exact h
                | 3, h => exact h
                | 4, h => exact h
                | 5, h => exact h
                | 6, h => exact h
                | 7, h => exact h
                | 8, h => exact h
                | 9, h => exact h
                | 10, h => exact h
                | 11, h => exact h
                | 12, h => exact h
                | 13, h => exact h
                | 14, h => exact h
                | 15, h => exact h
                | 16, h => exact h
                | 17, h => exact h
                | 18, h => exact h
                | 19, h => exact h
                | 20, h => exact h
                | 21, h => exact h
                | 22, h => exact h
                | 23, h => exact h
                | 24, h => exact h
                | 25, h => exact h
                | 26, h => exact h
                | i + 27, h => exact trivial
              case step =>
                intro fs W A hA hg i o hin ho hu K hK
                match i, hin, ho, hu, hK with
                | 0, hin, ho, hu, hK =>
                  cases ho
                  have e16 : A.eval (.tmp 16) = .int .i64 0 := ev_out hA 16 rfl
                  exact ph_move _ rfl rfl (.int .i64 0) e16 (hK _ _ (gb_rr W _) rfl)
                | 1, hin, ho, hu, hK =>
                  cases ho
                  have e100 : A.eval (.tmp 100) = .int .i64 0 := (ev_in hA 100 0 rfl rfl rfl).trans (show fs 0 = .int .i64 0 from hu 0 (by decide))
                  refine ph_sem rfl rfl (r := .ok (.value (.bool false)) W) ?_ (hK _ _ (gb_rr W _) rfl)
                  have eC : ∀ c, A.eval (.const c) = c := fun _ => rfl; have eF : ∀ g, A.eval (.func g) = .func (.func g) #[] #[] := fun _ => rfl; generalize A.eval = ρ at *
                  clear hA hu hg hK hin
                  go_simp
                | 2, hin, ho, hu, hK =>
                  cases ho
                  have e101 : A.eval (.tmp 101) = .bool false := (ev_in hA 101 1 rfl rfl rfl).trans (show fs 1 = .bool false from hu 1 (by decide))
                  exact ph_move _ rfl rfl (.bool false) e101 (hK _ _ (gb_rr W _) rfl)
                | 3, hin, ho, hu, hK =>
                  cases ho
                  have e19 : A.eval (.tmp 19) = .int .i64 0 := ev_out hA 19 rfl
                  have e102 : A.eval (.tmp 102) = .bool false := (ev_in hA 102 2 rfl rfl rfl).trans (show fs 2 = .bool false from hu 2 (by decide))
                  exact ph_move _ rfl (wanted_in hA 2 false rfl 102 rfl rfl e102) (.int .i64 0) e19 (hK _ _ (gb_rr W _) rfl)
                | 4, hin, ho, hu, hK =>
                  cases ho
                  have e103 : A.eval (.tmp 103) = .int .i64 0 := (ev_in hA 103 3 rfl rfl rfl).trans (show fs 3 = .int .i64 0 from hu 3 (by decide))
                  have e102 : A.eval (.tmp 102) = .bool false := (ev_in hA 102 2 rfl rfl rfl).trans (show fs 2 = .bool false from hu 2 (by decide))
                  refine ph_sem rfl (wanted_in hA 2 false rfl 102 rfl rfl e102) (r := .ok (.value (.bool false)) W) ?_ (hK _ _ (gb_rr W _) rfl)
                  have eC : ∀ c, A.eval (.const c) = c := fun _ => rfl; have eF : ∀ g, A.eval (.func g) = .func (.func g) #[] #[] := fun _ => rfl; generalize A.eval = ρ at *
                  clear hA hu hg hK hin
                  go_simp
                | 5, hin, ho, hu, hK =>
                  cases ho
                  have e102 : A.eval (.tmp 102) = .bool false := (ev_in hA 102 2 rfl rfl rfl).trans (show fs 2 = .bool false from hu 2 (by decide))
                  have e104 : A.eval (.tmp 104) = .bool false := (ev_in hA 104 4 rfl rfl rfl).trans (show fs 4 = .bool false from hu 4 (by decide))
                  exact ph_pick _ _ _ rfl rfl false (.bool true) (.bool false) e102 rfl e104 (hK _ _ (gb_rr W _) rfl)
                | 6, hin, ho, hu, hK =>
                  cases ho
                  have e105 : A.eval (.tmp 105) = .bool false := (ev_in hA 105 5 rfl rfl rfl).trans (show fs 5 = .bool false from hu 5 (by decide))
                  exact ph_move _ rfl rfl (.bool false) e105 (hK _ _ (gb_rr W _) rfl)
                | 7, hin, ho, hu, hK =>
                  cases ho
                  have e21 : A.eval (.tmp 21) = .int .i64 0 := ev_out hA 21 rfl
                  have e106 : A.eval (.tmp 106) = .bool false := (ev_in hA 106 6 rfl rfl rfl).trans (show fs 6 = .bool false from hu 6 (by decide))
                  exact ph_move _ rfl (wanted_in hA 6 false rfl 106 rfl rfl e106) (.int .i64 0) e21 (hK _ _ (gb_rr W _) rfl)
                | 8, hin, ho, hu, hK =>
                  cases ho
                  have e107 : A.eval (.tmp 107) = .int .i64 0 := (ev_in hA 107 7 rfl rfl rfl).trans (show fs 7 = .int .i64 0 from hu 7 (by decide))
                  have e106 : A.eval (.tmp 106) = .bool false := (ev_in hA 106 6 rfl rfl rfl).trans (show fs 6 = .bool false from hu 6 (by decide))
                  refine ph_sem rfl (wanted_in hA 6 false rfl 106 rfl rfl e106) (r := .ok (.value (.bool false)) W) ?_ (hK _ _ (gb_rr W _) rfl)
                  have eC : ∀ c, A.eval (.const c) = c := fun _ => rfl; have eF : ∀ g, A.eval (.func g) = .func (.func g) #[] #[] := fun _ => rfl; generalize A.eval = ρ at *
                  clear hA hu hg hK hin
                  go_simp
                | 9, hin, ho, hu, hK =>
                  cases ho
                  have e106 : A.eval (.tmp 106) = .bool false := (ev_in hA 106 6 rfl rfl rfl).trans (show fs 6 = .bool false from hu 6 (by decide))
                  have e108 : A.eval (.tmp 108) = .bool false := (ev_in hA 108 8 rfl rfl rfl).trans (show fs 8 = .bool false from hu 8 (by decide))
                  exact ph_pick _ _ _ rfl rfl false (.bool true) (.bool false) e106 rfl e108 (hK _ _ (gb_rr W _) rfl)
                | 10, hin, ho, hu, hK =>
                  cases ho
                  have e109 : A.eval (.tmp 109) = .bool false := (ev_in hA 109 9 rfl rfl rfl).trans (show fs 9 = .bool false from hu 9 (by decide))
                  exact ph_move _ rfl rfl (.bool false) e109 (hK _ _ (gb_rr W _) rfl)
                | 11, hin, ho, hu, hK =>
                  cases ho
                  have e17 : A.eval (.tmp 17) = .pointer (some ⟨P1, 0, none⟩) := ev_out hA 17 rfl
                  have e110 : A.eval (.tmp 110) = .bool false := (ev_in hA 110 10 rfl rfl rfl).trans (show fs 10 = .bool false from hu 10 (by decide))
                  exact ph_load (wanted_in hA 10 false rfl 110 rfl rfl e110) 42 _ rfl Tryd.underlying42 rfl P1 0 [.int .i64 t, .slice ya m yc] (by kernel_rfl) e17 ((HIS.out W hg).1) (hK _ _ (gb_rr W _) rfl)
                | 12, hin, ho, hu, hK =>
                  cases ho
                  have e4 : A.eval (.tmp 4) = .slice (some ⟨g, 0, none⟩) G sc := ev_out hA 4 rfl
                  have e110 : A.eval (.tmp 110) = .bool false := (ev_in hA 110 10 rfl rfl rfl).trans (show fs 10 = .bool false from hu 10 (by decide))
                  exact ph_move _ rfl (wanted_in hA 10 false rfl 110 rfl rfl e110) (.slice (some ⟨g, 0, none⟩) G sc) e4 (hK _ _ (gb_rr W _) rfl)
                | 13, hin, ho, hu, hK =>
                  cases ho
                  have e14 : A.eval (.tmp 14) = .int .i64 (q : Int) := ev_out hA 14 rfl
                  have e110 : A.eval (.tmp 110) = .bool false := (ev_in hA 110 10 rfl rfl rfl).trans (show fs 10 = .bool false from hu 10 (by decide))
                  exact ph_move _ rfl (wanted_in hA 10 false rfl 110 rfl rfl e110) (.int .i64 (q : Int)) e14 (hK _ _ (gb_rr W _) rfl)
                | 14, hin, ho, hu, hK =>
                  cases ho
                  have e112 : A.eval (.tmp 112) = .slice (some ⟨g, 0, none⟩) G sc := (ev_in hA 112 12 rfl rfl rfl).trans (show fs 12 = .slice (some ⟨g, 0, none⟩) G sc from hu 12 (by decide))
                  have e113 : A.eval (.tmp 113) = .int .i64 (q : Int) := (ev_in hA 113 13 rfl rfl rfl).trans (show fs 13 = .int .i64 (q : Int) from hu 13 (by decide))
                  have e110 : A.eval (.tmp 110) = .bool false := (ev_in hA 110 10 rfl rfl rfl).trans (show fs 10 = .bool false from hu 10 (by decide))
                  have q8 : ¬ ((G : Int) ≤ (q : Int)) := by have := HLT.out; omega
                  have q9 : (q : Int) < (G : Int) := by have := HLT.out; omega
                  refine ph_sem rfl (wanted_in hA 10 false rfl 110 rfl rfl e110) (r := .ok (.value (.pointer (some ⟨g, q * 2, none⟩))) W) ?_ (hK _ _ (gb_rr W _) rfl)
                  have eC : ∀ c, A.eval (.const c) = c := fun _ => rfl; have eF : ∀ g, A.eval (.func g) = .func (.func g) #[] #[] := fun _ => rfl; generalize A.eval = ρ at *
                  clear hA hu hg hK hin
                  go_simp
                | 15, hin, ho, hu, hK =>
                  cases ho
                  have e114 : A.eval (.tmp 114) = .pointer (some ⟨g, q * 2, none⟩) := (ev_in hA 114 14 rfl rfl rfl).trans (show fs 14 = .pointer (some ⟨g, q * 2, none⟩) from hu 14 (by decide))
                  have e110 : A.eval (.tmp 110) = .bool false := (ev_in hA 110 10 rfl rfl rfl).trans (show fs 10 = .bool false from hu 10 (by decide))
                  exact ph_load (wanted_in hA 10 false rfl 110 rfl rfl e110) 42 _ rfl Tryd.underlying42 rfl g (q * 2) [.int .i64 t, .slice ua m uc] (by kernel_rfl) e114 ((HIS.out W hg).2.2.1) (hK _ _ (gb_rr W _) rfl)
                | 16, hin, ho, hu, hK =>
                  cases ho
                  have e111 : A.eval (.tmp 111) = .agg #[.int .i64 t, .slice ya m yc] := (ev_in hA 111 11 rfl rfl rfl).trans (show fs 11 = .agg #[.int .i64 t, .slice ya m yc] from hu 11 (by decide))
                  have e115 : A.eval (.tmp 115) = .agg #[.int .i64 t, .slice ua m uc] := (ev_in hA 115 15 rfl rfl rfl).trans (show fs 15 = .agg #[.int .i64 t, .slice ua m uc] from hu 15 (by decide))
                  have e110 : A.eval (.tmp 110) = .bool false := (ev_in hA 110 10 rfl rfl rfl).trans (show fs 10 = .bool false from hu 10 (by decide))
                  refine ph_fn 26 _ _ rfl (wanted_in hA 10 false rfl 110 rfl rfl e110) #[.agg #[.int .i64 t, .slice ya m yc], .agg #[.int .i64 t, .slice ua m uc]] (by simp [e111, e115]) (by kernel_rfl) ?_
                  refine (Calls.mono (HIS.out W hg).2.2.2.1 ?_)
                  rintro e W' ⟨rfl, hq⟩
                  exact ⟨_, rfl, hK _ _ hq rfl⟩
                | 17, hin, ho, hu, hK =>
                  cases ho
                  have e116 : A.eval (.tmp 116) = .bool true := (ev_in hA 116 16 rfl rfl rfl).trans (show fs 16 = .bool true from hu 16 (by decide))
                  have e110 : A.eval (.tmp 110) = .bool false := (ev_in hA 110 10 rfl rfl rfl).trans (show fs 10 = .bool false from hu 10 (by decide))
                  refine ph_sem rfl (wanted_in hA 10 false rfl 110 rfl rfl e110) (r := .ok (.value (.bool false)) W) ?_ (hK _ _ (gb_rr W _) rfl)
                  have eC : ∀ c, A.eval (.const c) = c := fun _ => rfl; have eF : ∀ g, A.eval (.func g) = .func (.func g) #[] #[] := fun _ => rfl; generalize A.eval = ρ at *
                  clear hA hu hg hK hin
                  go_simp
                | 18, hin, ho, hu, hK =>
                  cases ho
                  have e110 : A.eval (.tmp 110) = .bool false := (ev_in hA 110 10 rfl rfl rfl).trans (show fs 10 = .bool false from hu 10 (by decide))
                  have e117 : A.eval (.tmp 117) = .bool false := (ev_in hA 117 17 rfl rfl rfl).trans (show fs 17 = .bool false from hu 17 (by decide))
                  exact ph_pick _ _ _ rfl rfl false (.bool true) (.bool false) e110 rfl e117 (hK _ _ (gb_rr W _) rfl)
                | 19, hin, ho, hu, hK =>
                  cases ho
                  have e118 : A.eval (.tmp 118) = .bool false := (ev_in hA 118 18 rfl rfl rfl).trans (show fs 18 = .bool false from hu 18 (by decide))
                  exact ph_move _ rfl rfl (.bool false) e118 (hK _ _ (gb_rr W _) rfl)
                | 20, hin, ho, hu, hK =>
                  cases ho
                  have e20 : A.eval (.tmp 20) = .pointer (some ⟨P2, 0, none⟩) := ev_out hA 20 rfl
                  have e119 : A.eval (.tmp 119) = .bool false := (ev_in hA 119 19 rfl rfl rfl).trans (show fs 19 = .bool false from hu 19 (by decide))
                  exact ph_load (wanted_in hA 19 false rfl 119 rfl rfl e119) 42 _ rfl Tryd.underlying42 rfl P2 0 [.int .i64 t, .slice va m vc] (by kernel_rfl) e20 ((HIS.out W hg).2.1) (hK _ _ (gb_rr W _) rfl)
                | 21, hin, ho, hu, hK =>
                  cases ho
                  have e4 : A.eval (.tmp 4) = .slice (some ⟨g, 0, none⟩) G sc := ev_out hA 4 rfl
                  have e119 : A.eval (.tmp 119) = .bool false := (ev_in hA 119 19 rfl rfl rfl).trans (show fs 19 = .bool false from hu 19 (by decide))
                  exact ph_move _ rfl (wanted_in hA 19 false rfl 119 rfl rfl e119) (.slice (some ⟨g, 0, none⟩) G sc) e4 (hK _ _ (gb_rr W _) rfl)
                | 22, hin, ho, hu, hK =>
                  cases ho
                  have e14 : A.eval (.tmp 14) = .int .i64 (q : Int) := ev_out hA 14 rfl
                  have e119 : A.eval (.tmp 119) = .bool false := (ev_in hA 119 19 rfl rfl rfl).trans (show fs 19 = .bool false from hu 19 (by decide))
                  exact ph_move _ rfl (wanted_in hA 19 false rfl 119 rfl rfl e119) (.int .i64 (q : Int)) e14 (hK _ _ (gb_rr W _) rfl)
                | 23, hin, ho, hu, hK =>
                  cases ho
                  have e121 : A.eval (.tmp 121) = .slice (some ⟨g, 0, none⟩) G sc := (ev_in hA 121 21 rfl rfl rfl).trans (show fs 21 = .slice (some ⟨g, 0, none⟩) G sc from hu 21 (by decide))
                  have e122 : A.eval (.tmp 122) = .int .i64 (q : Int) := (ev_in hA 122 22 rfl rfl rfl).trans (show fs 22 = .int .i64 (q : Int) from hu 22 (by decide))
                  have e119 : A.eval (.tmp 119) = .bool false := (ev_in hA 119 19 rfl rfl rfl).trans (show fs 19 = .bool false from hu 19 (by decide))
                  have q8 : ¬ ((G : Int) ≤ (q : Int)) := by have := HLT.out; omega
                  have q9 : (q : Int) < (G : Int) := by have := HLT.out; omega
                  refine ph_sem rfl (wanted_in hA 19 false rfl 119 rfl rfl e119) (r := .ok (.value (.pointer (some ⟨g, q * 2, none⟩))) W) ?_ (hK _ _ (gb_rr W _) rfl)
                  have eC : ∀ c, A.eval (.const c) = c := fun _ => rfl; have eF : ∀ g, A.eval (.func g) = .func (.func g) #[] #[] := fun _ => rfl; generalize A.eval = ρ at *
                  clear hA hu hg hK hin
                  go_simp
                | 24, hin, ho, hu, hK =>
                  cases ho
                  have e123 : A.eval (.tmp 123) = .pointer (some ⟨g, q * 2, none⟩) := (ev_in hA 123 23 rfl rfl rfl).trans (show fs 23 = .pointer (some ⟨g, q * 2, none⟩) from hu 23 (by decide))
                  have e119 : A.eval (.tmp 119) = .bool false := (ev_in hA 119 19 rfl rfl rfl).trans (show fs 19 = .bool false from hu 19 (by decide))
                  exact ph_load (wanted_in hA 19 false rfl 119 rfl rfl e119) 42 _ rfl Tryd.underlying42 rfl g (q * 2) [.int .i64 t, .slice ua m uc] (by kernel_rfl) e123 ((HIS.out W hg).2.2.1) (hK _ _ (gb_rr W _) rfl)
                | 25, hin, ho, hu, hK =>
                  cases ho
                  have e120 : A.eval (.tmp 120) = .agg #[.int .i64 t, .slice va m vc] := (ev_in hA 120 20 rfl rfl rfl).trans (show fs 20 = .agg #[.int .i64 t, .slice va m vc] from hu 20 (by decide))
                  have e124 : A.eval (.tmp 124) = .agg #[.int .i64 t, .slice ua m uc] := (ev_in hA 124 24 rfl rfl rfl).trans (show fs 24 = .agg #[.int .i64 t, .slice ua m uc] from hu 24 (by decide))
                  have e119 : A.eval (.tmp 119) = .bool false := (ev_in hA 119 19 rfl rfl rfl).trans (show fs 19 = .bool false from hu 19 (by decide))
                  refine ph_fn 26 _ _ rfl (wanted_in hA 19 false rfl 119 rfl rfl e119) #[.agg #[.int .i64 t, .slice va m vc], .agg #[.int .i64 t, .slice ua m uc]] (by simp [e120, e124]) (by kernel_rfl) ?_
                  refine (Calls.mono (HIS.out W hg).2.2.2.2 ?_)
                  rintro e W' ⟨rfl, hq⟩
                  exact ⟨_, rfl, hK _ _ hq rfl⟩
                | 26, hin, ho, hu, hK =>
                  cases ho
                  have e125 : A.eval (.tmp 125) = .bool true := (ev_in hA 125 25 rfl rfl rfl).trans (show fs 25 = .bool true from hu 25 (by decide))
                  have e119 : A.eval (.tmp 119) = .bool false := (ev_in hA 119 19 rfl rfl rfl).trans (show fs 19 = .bool false from hu 19 (by decide))
                  refine ph_sem rfl (wanted_in hA 19 false rfl 119 rfl rfl e119) (r := .ok (.value (.bool false)) W) ?_ (hK _ _ (gb_rr W _) rfl)
                  have eC : ∀ c, A.eval (.const c) = c := fun _ => rfl; have eF : ∀ g, A.eval (.func g) = .func (.func g) #[] #[] := fun _ => rfl; generalize A.eval = ρ at *
                  clear hA hu hg hK hin
                  go_simp
                | i + 27, hin, ho, hu, hK => omega
              case last =>
                intro fs W A hA hg hu o ho K hK
                cases ho
                have e119 : A.eval (.tmp 119) = .bool false := (ev_in hA 119 19 rfl rfl rfl).trans (show fs 19 = .bool false from hu 19 (by decide))
                have e126 : A.eval (.tmp 126) = .bool false := (ev_in hA 126 26 rfl rfl rfl).trans (show fs 26 = .bool false from hu 26 (by decide))
                have HW : Hid (w11.grownBy W none) := hg
                refine ph_sem rfl rfl (r := .ok (.value (.bool false)) W) ?_ (hK _ _ ?_)
                · have eC : ∀ c, A.eval (.const c) = c := fun _ => rfl
                  generalize A.eval = ρ at *
                  clear hA hu hg hK
                  go_simp
                have hA2 := hA.trans (putAll_lit [(.int .i64 0), (.bool false), (.bool false), (.int .i64 0), (.bool false), (.bool false), (.bool false), (.int .i64 0), (.bool false), (.bool false), (.bool false), (.agg #[.int .i64 t, .slice ya m yc]), (.slice (some ⟨g, 0, none⟩) G sc), (.int .i64 (q : Int)), (.pointer (some ⟨g, q * 2, none⟩)), (.agg #[.int .i64 t, .slice ua m uc]), (.bool true), (.bool false), (.bool false), (.bool false), (.agg #[.int .i64 t, .slice va m vc]), (.slice (some ⟨g, 0, none⟩) G sc), (.int .i64 (q : Int)), (.pointer (some ⟨g, q * 2, none⟩)), (.agg #[.int .i64 t, .slice ua m uc]), (.bool true), (.bool false), (fs 27)] (by
                  intro j hj
                  match j, hj with
                  | 0, _ => exact hu 0 (by decide)
                  | 1, _ => exact hu 1 (by decide)
                  | 2, _ => exact hu 2 (by decide)
                  | 3, _ => exact hu 3 (by decide)
                  | 4, _ => exact hu 4 (by decide)
                  | 5, _ => exact hu 5 (by decide)
                  | 6, _ => exact hu 6 (by decide)
                  | 7, _ => exact hu 7 (by decide)
                  | 8, _ => exact hu 8 (by decide)
                  | 9, _ => exact hu 9 (by decide)
                  | 10, _ => exact hu 10 (by decide)
                  | 11, _ => exact hu 11 (by decide)
                  | 12, _ => exact hu 12 (by decide)
                  | 13, _ => exact hu 13 (by decide)
                  | 14, _ => exact hu 14 (by decide)
                  | 15, _ => exact hu 15 (by decide)
                  | 16, _ => exact hu 16 (by decide)
                  | 17, _ => exact hu 17 (by decide)
                  | 18, _ => exact hu 18 (by decide)
                  | 19, _ => exact hu 19 (by decide)
                  | 20, _ => exact hu 20 (by decide)
                  | 21, _ => exact hu 21 (by decide)
                  | 22, _ => exact hu 22 (by decide)
                  | 23, _ => exact hu 23 (by decide)
                  | 24, _ => exact hu 24 (by decide)
                  | 25, _ => exact hu 25 (by decide)
                  | 26, _ => exact hu 26 (by decide)
                  | 27, _ => rfl
                  | j + 28, hj => exact absurd hj (by simp)))
                clear hu hA
                subst hA2
                simp only [putAll, putL, List.mem_cons, List.not_mem_nil, List.idxOf_cons, Nat.reduceEqDiff, Nat.reduceBEq, Nat.reduceAdd, or_false, or_true, reduceIte, cond_true, cond_false, List.getD_cons_zero, List.getD_cons_succ, BEq.rfl]
                clear e119 e126 hg
                have p1 : W.cell? ⟨P1, 1, none⟩ = some (.slice ya m yc) := (HTH.out W HW.out).2.1.cell 1
                have p2 : W.cell? ⟨P2, 1, none⟩ = some (.slice va m vc) := (HTH.out W HW.out).2.2.1.cell 1
                have HIW : Hid (HI B Av w6 (.slice ha h0 hc) W (.slice xa z xc) H3) := HI0.out.1.below (HTH.out W HW.out).1
                have HWW : Hid ((∀ k, Av k → k < W.heap.size) ∧ B ≤ W.heap.size) := ⟨fun k z => by have := HWS.out.1 k z; have := (HTH.out W HW.out).1.size; omega, by have := HWS.out.2; have := (HTH.out W HW.out).1.size; omega⟩
                go_wp2_with (at_builtin; go_must (refine wpList_pushH rfl (.tmp 128) (.tmp 134) rfl _ B _ z (H3.map HdM.u) W.heap.size 3 [.slice (some ⟨xg, 0, none⟩) N xcc, .slice ya m yc, .slice va m vc] rfl rfl (HIW.out.rowAt HI0.out.2.1 (World.grownBy_alloc _ _ none)) rfl (cells_new W [.slice (some ⟨xg, 0, none⟩) N xcc, .slice ya m yc, .slice va m vc] 28) (three_sl _ _ _ _ _ _ _ _ _) (by omega) (by have := HWW.out.2; simp; omega) ?_); intro v' w12 y1 y2 y3; obtain ⟨xa', xc', ev, hN⟩ := hi_push HIW.out HI0.out.2.1 (HTH.out W HW.out).2.2.2.1 HWW.out.1 (World.grownBy_alloc _ _ none) rfl rfl y1 y2 y3; have HN : Hid _ := hN; subst ev; clear y1 y2 y3 hN)
                go_roundw
                case rel => exact ⟨q + 1, p + N, z + 3, xa', xc', _, HLT.out, HPN.out.1, by have := HI0.out.2.2.1; have := HLT.out; omega, by go_num, by go_num, rfl, HN.out, by rw [List.length_append, HI0.out.2.1]; rfl, by have := HI0.out.2.2.1; omega, HPN.out.2⟩
                case measure => have := HLT.out; simp [intOf]; omega
            · have hcq : ¬ ((q : Int) < (G : Int)) := by omega
              have HFD : Hid (Calls Tryd.prog 13 #[.pointer (some ⟨T, 0, none⟩), .slice (some ⟨fb, 0, none⟩) E fc] wr fun r w' => ∃ fa fcc L3 F3, r = .returned (.slice fa G fcc) ∧ L3.length = G ∧ L3.map FrM.fr = SSl.map FrM.fr ∧ FrL F3 w' (.slice fa G fcc) L3 ∧ (∀ k, F3 k → (Q k ∨ wr.heap.size ≤ k) ∧ k < w'.heap.size) ∧ Gr Q wr w') := by
                have r6 := HR6.out wr HI0.out.1.gr
                obtain ⟨a', c', e, hs, _, _⟩ := r6.fed.seg
                cases e
                exact feed_again r6.ss hs HB0.out.2.2.2.2.2.2.2 (fun z => by have := HB0.out.2.2.2.2.1 fb z; omega) HKP.out.1 HKP.out.2.1 HKP.out.2.2.1 HKP.out.2.2.2.2.1 r6.ld.tb (fun z => by have := HB0.out.2.2.2.2.1 0 z; omega)
              go_wp2_with (go_at_call 13; go_must (refine (Calls.mono HFD.out ?_)); rintro r w13 ⟨ka, kc, L3, F3, rfl, z1, z2, z3, z4, z5⟩; have H13 : Hid (L3.length = G ∧ L3.map FrM.fr = SSl.map FrM.fr ∧ FrL F3 w13 (.slice ka G kc) L3 ∧ (∀ k, F3 k → (Q k ∨ wr.heap.size ≤ k) ∧ k < w13.heap.size) ∧ Gr Q wr w13) := ⟨z1, z2, z3, z4, z5⟩; clear z1 z2 z3 z4 z5)
              have HW13 : Hid (Held B w13 Av (.slice xa z xc) H3 ∧ (∃ xs, Own 0 w13 (.slice (some ⟨fb, 0, none⟩) E fc) E xs) ∧ Below B w3 w13 ∧ B ≤ w13.heap.size ∧ (∀ k, F3 k → B ≤ k ∧ k ≠ fb ∧ (Value.slice xa z xc).ownBlock ≠ some k ∧ ∀ g ∈ H3, g.u.ownBlock ≠ some k) ∧ FrL F3 w13 (.slice ka G kc) L3) := by
                have r6 := HR6.out wr HI0.out.1.gr
                have g5 := H13.out.2.2.2.2
                have hsz := HI0.out.1.gr.size
                have hB6 := HB0.out.2.2.2.2.2.2.1
                have hf6 := HB0.out.2.2.1
                refine ⟨HI0.out.1.held.gr g5 (fun k z => by rw [HAV.out.2.2]; exact .inl z), ⟨_, own_gr r6.fed g5 (fun k e z => by cases e; have h := (HB0.out.2.2.2.2.1 _ z).1; exact absurd h (Nat.lt_irrefl _))⟩, Gr.below (HB6.out wr HI0.out.1.gr) g5 (fun k z => by have := HB0.out.2.2.2.2.1 k z; omega) (by omega), by have := g5.size; omega, fun k z => ?_, H13.out.2.2.1⟩
                rcases (H13.out.2.2.2.1 k z).1 with y | y
                · have y2 := HB0.out.2.2.2.2.1 k y
                  have yA : Av k := by rw [HAV.out.2.2]; exact .inl y
                  exact ⟨by omega, by omega, fun e => HI0.out.1.held.av k e yA, fun g hg e => (HI0.out.1.held.off g hg k e).2 yA⟩
                · exact ⟨by omega, by omega, fun e => by have := (own_lt HI0.out.1.held.row k e).2; omega, fun g hg e => by have := (own_lt (HI0.out.1.held.own g hg) k e).2; omega⟩
              have HZ : Hid (H3.length = z ∧ z + G = (k + 1) * (5 * G) ∧ L3.length = G ∧ L3.map FrM.fr = SSl.map FrM.fr ∧ (∀ f ∈ L3, f.ys.length ≤ 2000) ∧ B ≤ fb) := by
                refine ⟨HI0.out.2.1, ?_, H13.out.1, H13.out.2.1, fun f hf => ?_, HB0.out.2.2.2.2.2.2.1⟩
                · have e1 := HKK.out.1
                  have e2 := HI0.out.2.2.1
                  have e3 : q = G := by omega
                  rw [Nat.add_mul, Nat.one_mul, ← e1]
                  omega
                · have hm : f.fr ∈ SSl.map FrM.fr := by rw [← H13.out.2.1]; exact List.mem_map.2 ⟨f, hf, rfl⟩
                  obtain ⟨g, hg, e⟩ := List.mem_map.1 hm
                  have := HKP.out.2.2.2.2.2 g hg
                  have e2 : g.ys = f.ys := congrArg Prod.snd e
                  rw [← e2]; exact this
              have HAV2 : Hid (Av = fun k => Q k ∨ k = fb) := HAV.out.2.2
              clear HFD H13 HI0 HR6 HB6 HLL hq hqlt HB0 HAV
              go_loopw [23] (fun iv wr => ∃ (i : Nat) (xs : List Int), i ≤ E ∧ iv = .int .i64 (i : Int) ∧ Hid (Own 0 wr (.slice (some ⟨fb, 0, none⟩) E fc) E xs ∧ Gr (fun k => k = fb) w13 wr)) (fun iv _ => E - (intOf iv).toNat)
              case atStart =>
                obtain ⟨xs, hxs⟩ := HW13.out.2.1
                exact ⟨0, xs, Nat.zero_le _, rfl, hxs, Gr.refl _ _⟩
              case round =>
                obtain ⟨i, xs, hi, rfl, H4⟩ := hrel
                by_cases hil : i < E
                · have hci4 : (i : Int) < (E : Int) := by omega
                  obtain ⟨hc1, hc2⟩ := H4.out.1.cell i hil
                  have HST : Hid (Own 0 (wr.setCell ⟨fb, i, none⟩ (.int .u8 77)) (.slice (some ⟨fb, 0, none⟩) E fc) E (xs.set i 77) ∧ Gr (fun k => k = fb) w13 (wr.setCell ⟨fb, i, none⟩ (.int .u8 77))) := ⟨H4.out.1.set i hil 77, H4.out.2.then (Gr.of (G := fun k => k = fb) (grown_set wr fb i _) (fun k hk => by cases hk; exact .inl rfl)) (fun k _ z => z)⟩
                  obtain ⟨Zc, hZc⟩ : ∃ Zc, Zc = xs[i]?.getD 0 := ⟨_, rfl⟩
                  rw [← hZc] at hc1
                  clear hZc
                  go_wp2_with fail
                  go_roundw
                  case rel => exact ⟨i + 1, xs.set i 77, hil, by go_num, HST.out⟩
                  case measure => simp [intOf]; omega
                · have hci4 : ¬ ((i : Int) < (E : Int)) := by omega
                  have HB14 : Hid (Below B w3 wr ∧ B ≤ wr.heap.size ∧ FrL F3 wr (.slice ka G kc) L3 ∧ Held B wr (fun _ => False) (.slice xa z xc) H3) := by
                    have g5 := H4.out.2
                    have q := HW13.out
                    refine ⟨Gr.below q.2.2.1 g5 (fun k z => by subst z; exact HZ.out.2.2.2.2.2) q.2.2.2.1, by have := g5.size; have := q.2.2.2.1; omega, q.2.2.2.2.2.gr g5 (fun k z e => (q.2.2.2.2.1 k z).2.1 e), ?_⟩
                    exact (q.1.gr g5 (fun k z => by rw [HAV2.out]; exact .inr z)).wide (fun k z => z.elim)
                  have HAK : Hid (Calls Tryd.prog 21 #[.slice ka G kc, .slice sa G sc] wr fun r w' => r = .returned (.bool true) ∧ wr.grownBy w' none) := by
                    have q1 := HB14.out.2.2.1.rd
                    rw [← HZ.out.2.2.1] at q1
                    have hb3 := HB14.out.1
                    rw [HBW.out.1] at hb3
                    have q2 := (HK3.out wr hb3).rd
                    have q3 := alike_r wr ka sa kc sc L3 SSl q1 (by rw [← HKP.out.2.2.2.2.1]; exact q2) HZ.out.2.2.2.1 (by rw [HZ.out.2.2.1]; omega)
                    rw [HZ.out.2.2.1, ← HKP.out.2.2.2.2.1] at q3
                    exact q3
                  go_wp2_with (go_at_call 21; go_must (refine (Calls.mono HAK.out ?_)); rintro r w15 ⟨rfl, hq⟩; have H15 : Hid (wr.grownBy w15 none) := hq; clear hq)
                  have HA15 : Hid (HI B (fun _ => False) w15 (.slice xa z xc) w15 (.slice xa z xc) H3 ∧ FrL F3 w15 (.slice ka G kc) L3 ∧ Below B w3 w15 ∧ B ≤ w15.heap.size ∧ (∀ k, F3 k → B ≤ k ∧ (Value.slice xa z xc).ownBlock ≠ some k ∧ ∀ g ∈ H3, g.u.ownBlock ≠ some k)) := by
                    have g6 : Gr (fun _ => False) wr w15 := Gr.of H15.out (by simp)
                    obtain ⟨q1, q2, q3, q4⟩ := HB14.out
                    exact ⟨HI.start (q4.gr g6 (fun k z => z.elim)), q3.gr g6 (fun _ _ z => z), Gr.below q1 g6 (fun k z => z.elim) q2, by have := g6.size; omega, fun k z => by obtain ⟨y1, y2, y3, y4⟩ := HW13.out.2.2.2.2.1 k z; exact ⟨y1, y3, y4⟩⟩
                  clear HAK H15 HB14 H4 HW13 HAV2
                  go_loopw [6, 24] (fun hv i wr => ∃ (q : Nat) (xb : Option Addr) (xd : Nat), q ≤ G ∧ i = .int .i64 (q : Int) ∧ hv = .slice xb (z + q) xd ∧ Hid (HI B (fun _ => False) w15 (.slice xa z xc) wr (.slice xb (z + q) xd) (H3 ++ (L3.take q).map hdOf))) (fun _ i _ => G - (intOf i).toNat)
                  case atStart => exact ⟨0, xa, xc, Nat.zero_le _, rfl, rfl, by simp; exact HA15.out.1⟩
                  case round =>
                    obtain ⟨q, xb, xd, hq, rfl, rfl, HI5⟩ := hrel
                    by_cases hqlt : q < G
                    · have hcq : (q : Int) < (G : Int) := by omega
                      obtain ⟨f, hf⟩ : ∃ f, L3[q]? = some f := ⟨_, List.getElem?_eq_getElem (show q < L3.length by have := HZ.out.2.2.1; omega)⟩
                      obtain ⟨g, gc', ua, uc, e1, hu, hs, hr, hgl⟩ := (HA15.out.2.1.gr HI5.out.gr (fun k z e => (HA15.out.2.2.2.2 k z).2.1 e)).at q f hf
                      have e3 : ka = some ⟨g, 0, none⟩ := by injection e1
                      obtain ⟨m, hm'⟩ : ∃ m, m = f.ys.length := ⟨_, rfl⟩
                      have hcb : wr.cell? ⟨g, q * 2 + 1, none⟩ = some (.slice ua m uc) := by rw [hm']; exact hr 1 _ rfl
                      have HNW : Hid (New B wr (fun _ => False) (.slice xb (z + q) xd) (H3 ++ (L3.take q).map hdOf) [hdOf f]) := body_new HI5.out HA15.out.2.1 hf (fun k z => (HA15.out.2.2.2.2 k z).1) (fun k z e => e) (fun k z => (HA15.out.2.2.2.2 k z).2.1) (fun g hg k e z => (HA15.out.2.2.2.2 k z).2.2 g hg e) (by have := HZ.out.2.2.2.2.1 f (List.mem_of_getElem? hf); omega)
                      have HUS : Hid ([hdOf f].map HdM.u = [.slice ua m uc] ∧ (H3 ++ (L3.take q).map hdOf).length = z + q ∧ (L3.take (q + 1)).map hdOf = (L3.take q).map hdOf ++ [hdOf f]) := ⟨by rw [hm', ← hu]; rfl, by rw [List.length_append, HZ.out.1, List.length_map, List.length_take]; have := HZ.out.2.2.1; omega, take_hd L3 q f hf⟩
                      have HWS : Hid (B ≤ wr.heap.size) := by have := HI5.out.gr.size; have := HA15.out.2.2.2.1; show _ ≤ _; omega
                      subst e3
                      clear hf hu hs hr hgl hm' e1
                      go_wp2_with (at_builtin; go_must (refine wpList_pushH rfl (.tmp 161) (.tmp 167) rfl _ B _ (z + q) ((H3 ++ (L3.take q).map hdOf).map HdM.u) wr.heap.size 1 [.slice ua m uc] rfl rfl (HI5.out.rowAt HUS.out.2.1 (World.grownBy_alloc _ _ none)) rfl (cells_new wr [.slice ua m uc] 28) (one_sl _ _ _) (by omega) (by have := HWS.out; simp; omega) ?_); intro v' w8 y1 y2 y3; obtain ⟨xa', xc', ev, hN⟩ := hi_push HI5.out HUS.out.2.1 HNW.out (fun k z => z.elim) (World.grownBy_alloc _ _ none) rfl HUS.out.1 y1 y2 y3; have HN : Hid _ := hN; subst ev; clear y1 y2 y3 hN)
                      go_roundw
                      case rel => exact ⟨q + 1, xa', xc', hqlt, by go_num, rfl, by rw [HUS.out.2.2, ← List.append_assoc]; exact HN.out⟩
                      case measure => simp [intOf]; omega
                    · have hcq : ¬ ((q : Int) < (G : Int)) := by omega
                      have HFI : Hid (Held B wr (fun _ => False) (.slice xb (z + q) xd) (H3 ++ L3.map hdOf) ∧ (H3 ++ L3.map hdOf).length = z + q ∧ z + q = (k + 1) * (5 * G) ∧ Below B w3 wr ∧ B ≤ wr.heap.size) := by
                        have e0 : q = G := by omega
                        have e : L3.take q = L3 := List.take_of_length_le (by have := HZ.out.2.2.1; omega)
                        have h5 := HI5.out
                        rw [e] at h5
                        refine ⟨h5.held, by rw [List.length_append, HZ.out.1, List.length_map, HZ.out.2.2.1, e0], by rw [e0]; exact HZ.out.2.1, Gr.below HA15.out.2.2.1 h5.gr (fun k z => (own_lt HA15.out.1.held.row k z).1) HA15.out.2.2.2.1, by have := h5.gr.size; have := HA15.out.2.2.2.1; omega⟩
                      go_wp2_with fail
                      go_roundw
                      case rel => exact ⟨k + 1, xb, xd, z + q, _, HKK.out.2, by go_num, rfl, HFI.out⟩
                      case measure => simp [intOf]; omega
    · have hci : ¬ ((k : Int) < 2) := by omega
      have HAP : Hid (Calls Tryd.prog 29 #[.slice ha h0 hc] wr fun r w' => r = .returned (.bool true) ∧ Below B wr w') := by
        obtain ⟨V, l, X2, hA, hl⟩ := held_fam HH.out.1 HH.out.2.2.2.1 HH.out.2.2.2.2
        rw [HH.out.2.1] at hA hl
        exact apart_c wr B h0 ha hc V l X2 hA (by have e := HH.out.2.2.1; rw [show k = 2 from by omega] at e; omega) hl
      go_wp2_with (go_at_call 29; go_must (refine (Calls.mono HAP.out ?_)); rintro r w9 ⟨rfl, hq⟩; have H9 : Hid (Below B wr w9) := hq; clear hq)
      go_ret
      exact ⟨rfl, (HK3.out w3 (Below.refl _ _)).be.trans ((HH.out.2.2.2.1.trans H9.out).mono HBW.out.2.1)⟩

theorem bulk_len {H : Type} (l : List (DataW H)) : l.length ≤ Rows.uptoBulkAll l := by
  induction l with
  | nil => simp
  | cons d r ih =>
    have : 1 ≤ Rows.uptoBulk d := by
      cases d with
      | lit x => cases x <;> simp [Rows.uptoBulk]
      | _ => simp [Rows.uptoBulk]
    simp only [Rows.uptoBulkAll, List.length_cons]; omega
theorem bulk_mem {H : Type} {d : DataW H} {l : List (DataW H)} (h : d ∈ l) : Rows.uptoBulk d ≤ Rows.uptoBulkAll l := by
  induction l with
  | nil => cases h
  | cons x r ih =>
    simp only [Rows.uptoBulkAll]
    rcases List.mem_cons.1 h with rfl | h
    · omega
    · have := ih h; omega
theorem bulk_slice {H : Type} {ds : List (DataW H)} {d : DataW H} {l r : List (DataW H)} (hk : Rows.uptoSmall H ds = true) (hd : d ∈ ds) (e : d = .slice l r) : l.length + r.length ≤ 1048576 := by
  have h0 : Rows.uptoBulkAll ds ≤ 1048576 := of_decide_eq_true hk
  have h1 := bulk_mem hd
  have h3 := bulk_len l
  have h4 := bulk_len r
  rw [e] at h1
  simp only [Rows.uptoBulk] at h1
  omega

theorem gTab : Tryd.prog.globalNamed "hawser/crc.halves" = some 0 := by kernel_rfl
theorem gTabType : (Tryd.prog.globals[0]?).map (·.type) = some 106 := by kernel_rfl
theorem cellsT : Tryd.prog.cellsOf 106 = 16 := by kernel_rfl
theorem cellsE : Tryd.prog.cellsOf 64 = 1 := by kernel_rfl
/-- What the row's list gives: the table's cells. -/
theorem table {W : World} (h : laidMetH Tryd.prog Rows.frameOwnUptoRow.laid W) : Lib.TabIs Tryd.prog W "hawser/crc.halves" .u32 tabl :=
  Lib.tabIs_of_head (rest := []) gTab gTabType Tryd.underlying106 Tryd.underlying64 cellsE cellsT h
theorem tab_of {W : World} (h : laidMetH Tryd.prog Rows.frameOwnUptoRow.laid W) : Tab W := fun i hi => (table h).cell gTab i (show i < tabl.length from hi)
theorem laid_met (os : Os) : laidMet Tryd.prog Rows.frameOwnUptoRow.laid (({ World.holding Tryd.prog os ⟨#[], #[], []⟩ with heap := (World.holding Tryd.prog os ⟨#[], #[], []⟩).heap.modify 0 fun | .cells _ t frozen => .cells (tabl.map fun z => Value.int .u32 z).toArray t frozen | o => o } : World).forCall (fun _ _ => 0) ⟨#[], #[.slice none 0 0], []⟩).memory :=
  laidMet_of_run' 8 (by kernel_rfl) (by kernel_rfl)
theorem reads (os : Os) {H : Type} (enc : TypeId × Value → H) : ∃ places, DataW.whole enc Tryd.prog (({ World.holding Tryd.prog os ⟨#[], #[], []⟩ with heap := (World.holding Tryd.prog os ⟨#[], #[], []⟩).heap.modify 0 fun | .cells _ t frozen => .cells (tabl.map fun z => Value.int .u32 z).toArray t frozen | o => o } : World).forCall (fun _ _ => 0) ⟨#[], #[.slice none 0 0], []⟩).memory Tryd.f8.params.toList Rows.frameOwnSpec.vars false (#[.slice none 0 0] : Array Value).toList 8 = some ([.nil], [], places) :=
  ⟨[], by kernel_rfl⟩

set_option maxRecDepth 100000 in
theorem lifted (os : Os) (started : os.Started) (H : Type) (enc : TypeId × Value → H) (F : Stop.Interp) :
    ReturnsInHanded {} Tryd.checked os 8 .any ((Rows.OpenSpec.upto Rows.frameOwnSpec).preRow enc Tryd.prog Tryd.f8 Rows.frameOwnUptoRow.domain false Rows.frameOwnUptoRow.laid) (((Rows.OpenSpec.upto Rows.frameOwnSpec).at F).post enc Tryd.prog Tryd.f8 false true false false) := by
  obtain ⟨places, hx⟩ := reads os enc
  refine returnsInHanded_of_row (C := Tryd.checked) (s := Rows.OpenSpec.upto Rows.frameOwnSpec) own started (by kernel_rfl) Tryd.func8
    (witness_row_at (enc := enc) (C := Tryd.checked) false ({ World.holding Tryd.prog os ⟨#[], #[], []⟩ with heap := (World.holding Tryd.prog os ⟨#[], #[], []⟩).heap.modify 0 fun | .cells _ t frozen => .cells (tabl.map fun z => Value.int .u32 z).toArray t frozen | o => o } : World) #[.slice none 0 0] rfl (by kernel_rfl) (by kernel_rfl) (by kernel_rfl)
      (OpenSpec.preRow_of_cond 8 hx (by kernel_rfl) (fun k hk => by cases hk; kernel_rfl) (by kernel_rfl) (laid_met os))) ?_
  intro W base args ds gs before hval0 hW _ hcond0 hsz0 hL _ _
  have hk : Rows.uptoSmall H (ds ++ gs) = true := hcond0 _ rfl
  have hval : ∀ (j : Nat) t v, Tryd.f8.params[j]? = some t → args[j]? = some v → Value.okWide Tryd.prog W .any base t v := hval0
  have hW' := hW
  obtain ⟨p, q, hA0, hV, rfl, hfz, hnd⟩ := hW
  have hA : DataW.TrodAll enc Tryd.prog W 0 (fun _ => true) true Tryd.f8.params.toList args.toList ds p := hA0
  rw [Tryd.params8] at hA hval
  obtain ⟨v0, vs0, d0, ds0, p0, q0, hargs, rfl, rfl, h0, r0⟩ := trodAll_cons hA
  obtain ⟨rfl, rfl, rfl⟩ := trodAll_nil r0
  obtain rfl : args = #[v0] := by cases args; simp_all
  obtain ⟨rfl, rfl⟩ := trodVars_none hV
  have k0 := h0
  have lt0 : ∀ x ∈ p0, x.block < W.heap.size := by obtain ⟨m, hm⟩ := k0; exact DataW.trod_lt m _ _ _ hm
  obtain ⟨a0, n0, cap0, X0, rfl, x0, y0, nz0⟩ : ∃ a n cap X, v0 = .slice a n cap ∧ Frs W a n X ∧ frsW X ≤ 1048576 ∧ (a = none → cap = 0) := by
    obtain ⟨sa, sl, sc, hv⟩ := okWide_slice Tryd.underlying31 (hval 0 31 v0 rfl rfl)
    have hAll : Rows.uptoBulkAll _ ≤ 1048576 := of_decide_eq_true hk
    exact frs_open sa sl sc hv h0 (Nat.le_trans (bulk_mem (show d0 ∈ _ by simp)) hAll)
  clear hA0 hval0
  simp only [List.append_nil] at hW'
  refine (walk a0 n0 cap0 X0 W x0 y0 nz0 (tab_of hL)).mono fun e W' ⟨he, bel⟩ => ?_
  subst he
  exact ⟨_, rfl, _, _, _, [], _, [], hW', trodAll_mk1 (shut_bool Tryd.underlying4 _), (trodAll_cons_mk (Below.trod laidOut (by kernel_rfl) (of_decide_eq_true (by kernel_rfl)) k0 bel lt0) trodAll_mk0), rfl, bel.frame _, fun h => by cases h⟩

theorem over : Rows.frameOwnUptoRow.holds Tryd.pinned (Rows.OpenSpec.upto Rows.frameOwnSpec) :=
  OpenClaim.holds_of_cond 8 Tryd.f8 rfl rfl rfl rfl rfl rfl rfl ⟨rfl, rfl, rfl, rfl, rfl⟩ rfl rfl rfl rfl rfl (by kernel_rfl) Tryd.func8 (by kernel_rfl)
    (of_decide_eq_true (by kernel_rfl)) (by unfold Func.isWrapper; first | (rw [if_pos (by decide +kernel)]; kernel_rfl) | (rw [if_neg (by decide +kernel)]; exact ⟨rfl, rfl⟩))
    (fun os started H enc _ F => by rw [OpenClaim.pre_eq_preRow]; exact lifted os started H enc F)

/-- No parameter wants a stand-in; the program's own looks are off. -/
theorem plain (f : FuncId) (fn : Func) (hf : Tryd.pinned.checked.prog.funcNamed "hawser/hawserlaw04.FrameOwn" = some f) (hfn : Tryd.pinned.checked.prog.funcs[f]? = some fn) :
    false = Tryd.pinned.checked.prog.looks [] ∧ ∀ (j : Nat) t, fn.params[j]? = some t → Tryd.pinned.checked.prog.wantsStandIn t = false := by
  obtain rfl : f = 8 := Option.some.inj ((show Tryd.prog.funcNamed "hawser/hawserlaw04.FrameOwn" = some 8 by kernel_rfl).symm.trans hf) |>.symm
  obtain rfl : fn = Tryd.f8 := (Option.some.inj (Tryd.func8.symm.trans hfn)).symm
  refine ⟨by kernel_rfl, fun j t ht => ?_⟩
  rw [Tryd.params8] at ht
  have hm : t ∈ [31] := by simpa using Array.mem_of_getElem? ht
  have hall : (([31] : List TypeId).all fun u => !Tryd.prog.wantsStandIn u) = true := by kernel_rfl
  exact (show Tryd.prog.wantsStandIn t = false by simpa using List.all_eq_true.1 hall t hm)
theorem card : Rows.FrameOwnUptoCardSaid :=
  Claim7.holds_tied_plain_at .later [] _ _ _ _ over (fun _ h => by cases h) (by kernel_rfl) (fun _ h => by cases h) frameOwnUpto_row_tie rfl ⟨rfl, rfl⟩ (by kernel_rfl) rfl plain (by kernel_rfl)

end Go.Proofs.YtegbgmihcokblaaDoor.frameOwn
namespace Go.Proofs.YtegbgmihcokblaaDoor
theorem frameOwn_holds : Rows.FrameOwnUptoCardSaid := frameOwn.card
#print axioms frameOwn_holds
end Go.Proofs.YtegbgmihcokblaaDoor

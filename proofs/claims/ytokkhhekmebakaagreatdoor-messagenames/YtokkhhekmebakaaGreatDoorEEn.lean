/-
  What message.Encode answers of a message that may be: the frame of its body. Condition: the list of kinds and crc's table lie in memory as the program's text lays them.
-/
import Derived.Test.YtokkhhekmebakaaGreatDoorELa
import Derived.Test.YtokkhhekmebakaaGreatDoorWBy
import Derived.Test.YtokkhhekmebakaaGreatDoorFrA
import Derived.Test.YtokkhhekmebakaaGreatDoorSme
namespace Go.Proofs.YtokkhhekmebakaaGreatDoor
open Go.RowKit
set_option linter.unusedVariables false

theorem Cr.Tab.block {w w' : World} (h : Cr.Tab w) (hb : w'.heap[1]? = w.heap[1]?) : Cr.Tab w' := fun i hi => (World.cell?_of_block (w := w) (a := ⟨1, i, none⟩) hb).trans (h i hi)
theorem Cr.Tab.gb {w w' : World} (h : Cr.Tab w) (hb : w.grownBy w' none) : Cr.Tab w' := h.block (hb.block _ h.pos (by simp))
theorem zeroWE : Tryz.zeroCells92 = (wcells 0 (.pointer none) (List.replicate 256 0) 0 0).toArray := by kernel_rfl
theorem ws_zeroE {w : World} {g : Nat} (h : w.heap[g]? = some (.cells Tryz.zeroCells92 92 (0, 0))) : WS w g [] 0 [] := by
  rw [zeroWE] at h
  exact ⟨none, List.replicate 256 0, 0, [], ⟨h, List.length_replicate⟩, chain_nil _, by omega, rfl, by simp, fun i hi => by simp at hi⟩
theorem own_lower {B B' : Nat} {w : World} {v : Value} {n : Nat} {xs : List Int} (h : Cr.Own B w v n xs) (hB : B' ≤ B) : Cr.Own B' w v n xs := by
  refine ⟨h.1, ?_⟩
  rcases h.2 with z | ⟨g, cap, cur, e, z, rest⟩
  · exact .inl z
  · exact .inr ⟨g, cap, cur, e, Nat.le_trans hB z, rest⟩
/-- All that lies there beside the Writer at g. -/
def bes (g : Nat) (j : Nat) : Prop := j < g
theorem enc_start (M : Msg) (w : World) (h3 : 3 ≤ w.heap.size) : (⟨1, w.heap.size + 1, []⟩ : Wy).ok ((w.alloc (.cells M.cells 49)).alloc (.cells Tryz.zeroCells92 92)) (bes (w.heap.size + 1)) := by
  have h := two_new w 49 92 M.cells Tryz.zeroCells92
  exact .inr ⟨rfl, fun z => absurd z (Nat.lt_irrefl _), [], ws_zeroE h.2.1, fun j hj => by simp at hj⟩
set_option maxRecDepth 20000 in
set_option maxHeartbeats 2000000 in
theorem eencode_ok (M : Msg) (q' : Array Value) (S' : Wy) (w : World) (hk : isK M.kind = true) (HK : Knd w) (HM : Max w) (HT : Cr.Tab w) (hs1 : S'.k = 1) (hs2 : S'.g = w.heap.size + 1) (hl : S'.xs.length ≤ 1048576)
    (HC : ∀ W p A', St W p M.cells zMsg.cells ⟨1, w.heap.size + 1, []⟩ A' → Knd W → Max W → Calls Tryz.prog 52 #[.pointer (some ⟨p, 0, none⟩), .int .i64 M.kind] W (StepTo W p M.cells zMsg.cells ⟨1, w.heap.size + 1, []⟩ A' (some (q', S'))))
    (HAl : ∀ W, Calls Tryz.prog 24 #[.agg q', .agg M.cells] W fun r w' => r = .returned (.bool true) ∧ W.grownBy w' none) :
    Calls Tryz.prog 16 #[.agg M.cells] w fun r w' => ∃ v, r = .returned (.tuple #[v, .int .i64 0]) ∧ Cr.Own w.heap.size w' v (Cr.fenc M.kind S'.xs).length (Cr.fenc M.kind S'.xs) ∧ Below w.heap.size w w' := by
  have h3 : 3 ≤ w.heap.size := HM.pos
  obtain ⟨b1, b2, b3, b4⟩ := two_new w 49 92 M.cells Tryz.zeroCells92
  have hok := enc_start M w h3
  obtain ⟨W0, hW0⟩ : ∃ W0, W0 = (w.alloc (.cells M.cells 49)).alloc (.cells Tryz.zeroCells92 92) := ⟨_, rfl⟩
  rw [← hW0] at b1 b2 b3 b4 hok
  have HL : Hid _ := elay_c M ⟨1, w.heap.size + 1, []⟩ (bes (w.heap.size + 1)) (some (q', S')) true W0 hk hok (fun j hj => by have : j < w.heap.size + 1 := hj; omega) (fun j hj => by show j < w.heap.size + 1; omega) (by omega) (HK.gb b3) (HM.gb b3) rfl (fun W p A' a b c => HC W p A' a b c) (fun _ _ W e => by injection e with e; injection e with e1 e2; subst e1; exact HAl W)
  have hE : layE M.kind (some (q', S')) true = 0 := by unfold layE; rw [if_pos hk]; rfl
  have B : Hid (Bk 49 W0 w.heap.size M.cells ∧ w.grownBy W0 none ∧ W0.heap.size = w.heap.size + 2 ∧ Cr.Tab w) := ⟨b1, b3, b4, HT⟩
  have HX : Hid (S'.k = 1 ∧ S'.g = w.heap.size + 1 ∧ S'.xs.length ≤ 1048576 ∧ 3 ≤ w.heap.size ∧ 1 ≤ M.kind ∧ M.kind ≤ 28) := ⟨hs1, hs2, hl, h3, (isK_true hk).1, (isK_true hk).2⟩
  replace hW0 : Hid _ := hW0
  have HEh : Hid _ := hE
  clear b1 b2 b3 b4 hok HC HAl hE h3 HK HM HT hs1 hs2 hl hk
  go_enter Tryz.func16, Tryz.ntmps16
  go_wp2_with (first
    | (rw [← hW0.out]; refine wpList_load_bk 49 rfl (.tmp 1) rfl Tryz.underlying49 rfl infoMsg w.heap.size M.cells rfl B.out.1 rfl ?_)
    | (go_at_call 27; go_must (refine (Calls.mono HL.out ?_)); rintro r W1 ⟨rfl, g1, k1⟩; rw [HEh.out]; have H1 : Hid (Gr (Wy.blk ⟨1, w.heap.size + 1, []⟩) W0 W1 ∧ S'.ok W1 (bes (w.heap.size + 1))) := ⟨g1, by obtain ⟨q2, S2, e, e2⟩ := k1 HEh.out; injection e with e; injection e with e3 e4; subst e4; exact e2⟩; clear g1 k1))
  obtain ⟨fs, hws⟩ : ∃ fs, WS W1 (w.heap.size + 1) S'.xs 0 fs := by
    rcases H1.out.2 with y | ⟨_, _, fs, hw, _⟩
    · have := HX.out.1; omega
    · rw [HX.out.2.1] at hw; exact ⟨fs, hw⟩
  have HBy : Hid _ := wbytes_ok (w.heap.size + 1) S'.xs fs W1 hws (by have := HX.out.2.2.1; omega)
  have HBx : Hid (Bytes S'.xs) := hws.bytes
  have hn1 : ¬ Wy.blk ⟨1, w.heap.size + 1, []⟩ w.heap.size := fun z => by have : w.heap.size = w.heap.size + 1 := z.2; omega
  have HM1 : Hid (Bk 49 W1 w.heap.size M.cells ∧ Below w.heap.size w W1 ∧ Cr.Tab W1) := by
    have b := B.out.1.gr H1.out.1 hn1
    have bw : Below w.heap.size w W1 := ⟨H1.out.1.os.trans B.out.2.1.os, H1.out.1.tape.trans B.out.2.1.tape, H1.out.1.output.trans B.out.2.1.output, Nat.le_trans B.out.2.1.size H1.out.1.size, fun i hi => (H1.out.1.block i (Nat.lt_of_lt_of_le hi B.out.2.1.size) (fun z => by have : i = w.heap.size + 1 := z.2; omega)).trans (B.out.2.1.block i hi (by simp))⟩
    exact ⟨b, bw, B.out.2.2.2.below bw⟩
  clear hws hn1 HL
  go_wp2_with fail
  refine Calls.mono HBy.out ?_
  rintro r W2 ⟨b, rfl, hb1, hrow, hbel⟩
  have cK : W2.cell? ⟨w.heap.size, 0, none⟩ = some (.int .i64 M.kind) := (hbel.cell (p := ⟨w.heap.size, 0, none⟩) (lt_of_block HM1.out.1)).trans (HM1.out.1.cell 0)
  have HEn : Hid _ := Cr.encode_c M.kind (some ⟨b, 0, none⟩) S'.xs.length S'.xs.length S'.xs W2 (fun z => by cases z) (hrow.segAll _ rfl) HBx.out (by have := HX.out.2.2.1; omega) (HM1.out.2.2.below (hbel.mono (Nat.le_refl _)))
  have HB2 : Hid (Below w.heap.size w W2 ∧ w.heap.size ≤ W2.heap.size) := ⟨HM1.out.2.1.trans (hbel.mono HM1.out.2.1.size), Nat.le_trans HM1.out.2.1.size hbel.size⟩
  have hfe : Cr.fee M.kind S'.xs.length = 0 := by unfold Cr.fee; have := HX.out; rw [if_neg (by omega), if_neg (by omega)]
  have hfb : Cr.feb M.kind S'.xs = Cr.fenc M.kind S'.xs := by unfold Cr.feb; rw [hfe]; rfl
  rw [hfe, hfb] at HEn
  clear hb1 hrow hbel HBy hfe hfb
  go_wp2_with fail
  refine Calls.mono HEn.out ?_
  rintro r W3 ⟨v, rfl, ho, hb3⟩
  have H3 : Hid (Cr.Own w.heap.size W3 v (Cr.fenc M.kind S'.xs).length (Cr.fenc M.kind S'.xs) ∧ Below w.heap.size w W3) := ⟨own_lower ho HB2.out.2, HB2.out.1.trans (hb3.mono HB2.out.2)⟩
  clear ho hb3
  go_wp2
  go_ret2
  exact ⟨v, rfl, H3.out⟩
end Go.Proofs.YtokkhhekmebakaaGreatDoor

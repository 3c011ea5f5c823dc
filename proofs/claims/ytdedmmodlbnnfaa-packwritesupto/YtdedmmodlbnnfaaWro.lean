/-
  What the law's wrote answers of a pack Writer and the document's, through which the same calls went: true. Condition: what is laid down takes at most 2^47 bytes.
-/
import Derived.Test.YtdedmmodlbnnfaaWSz
import Derived.Test.YtdedmmodlbnnfaaWr2
import Derived.Test.YtdedmmodlbnnfaaXWb
import Derived.Test.YtdedmmodlbnnfaaSme
import Derived.Deep.RegionHeld3
namespace Go.Proofs.Ytdedmmodlbnnfaa
open Go.RowKit
set_option linter.unusedVariables false

theorem drawnN {w wr : World} {m : Nat} (h : wr = w.drewN m) : w.grownBy wr none := by rw [h]; exact gb_drewN (World.grownBy.refl _ _) m
theorem drawn_below {w wr : World} (h : ∃ m, wr = w.drewN m) : Below w.heap.size w wr := by
  obtain ⟨m, hm⟩ := h
  exact (Below.refl _ _).grown (drawnN hm) (Nat.le_refl _) (fun k hk => by cases hk)
theorem WS.drawn {w wr g ys e fs} (h : WS w g ys e fs) (hd : ∃ m, wr = w.drewN m) : WS wr g ys e fs := by
  obtain ⟨m, hm⟩ := hd
  exact h.new (drawnN hm)
theorem XW.drawn {B w wr g v ys e F} (h : XW B w g v ys e F) (hd : ∃ m, wr = w.drewN m) : XW B wr g v ys e F := by
  obtain ⟨m, hm⟩ := hd
  exact h.new (drawnN hm)
theorem drawn_step {w wr : World} (h : ∃ m, wr = w.drewN m) : ∃ m, wr.drew = w.drewN m := by
  obtain ⟨m, rfl⟩ := h
  exact ⟨m + 1, rfl⟩
theorem sameTrue (a b : Option Addr) (la ca lb cb : Nat) (w : World) (xs : List Int) (h1 : Seg .u8 w a la xs) (h2 : Seg .u8 w b lb xs) (hx : Bytes xs) :
    Calls Try.prog 18 #[.slice a la ca, .slice b lb cb] w fun e w' => e = .returned (.bool true) ∧ w' = w := by
  have := same_c a b la ca lb cb xs xs w h1 h2 hx hx
  rw [decide_eq_true rfl] at this
  exact this
theorem below_new {w w' : World} (h : Below w.heap.size w w') : w.grownBy w' none := ⟨h.os, h.tape, h.output, h.size, fun k hk _ => h.block k hk⟩

set_option maxRecDepth 20000 in
set_option maxHeartbeats 2000000 in
theorem wrote_c (B gw g : Nat) (ys : List Int) (e : Int) (S : Nat → Prop) (w : World) (h : Two B w gw g ys e ys e S) (hb : ys.length ≤ 140737488355328) :
    Calls Try.prog 6 #[.pointer (some ⟨gw, 0, none⟩), .pointer (some ⟨g, 0, none⟩)] w fun r w' => r = .returned (.bool true) ∧ Below w.heap.size w w' := by
  obtain ⟨fs, v, F, hw, hx, _⟩ := h
  obtain ⟨va, vc, rfl, _, _, _⟩ := hx.own.seg
  have HY : Hid (Bytes ys) := hw.bytes
  by_cases he : e = 0
  · subst he
    have HW : Hid (WS w gw ys 0 fs ∧ XW B w g (.slice va ys.length vc) ys 0 F) := ⟨hw, hx⟩
    obtain ⟨n, hn⟩ : ∃ n, n = ys.length := ⟨_, rfl⟩
    have HC1 : Hid _ := wbytes_ok gw ys fs w hw hb
    rw [← hn] at HC1 HW
    clear hw hx
    have HNL : Hid (n = ys.length) := hn
    clear hn
    go_enter Try.func6, Try.ntmps6
    go_wp2_with fail
    refine (Calls.mono HC1.out ?_)
    rintro r w1 ⟨b, rfl, hB, hr1, hb1⟩
    have H1 : Hid (WS w1 gw ys 0 fs ∧ XW B w1 g (.slice va n vc) ys 0 F ∧ Row .u8 5 w1 b ys ∧ Below w.heap.size w w1) := ⟨HW.out.1.new (below_new hb1), HW.out.2.new (below_new hb1), hr1, hb1⟩
    clear hB hr1 hb1 HC1
    go_wp2_with fail
    refine (xwbytes_c B g _ ys 0 F w1 H1.out.2.1).mono ?_
    rintro r w2 ⟨rfl, hd2⟩
    rw [if_pos rfl]
    have H2 : Hid (WS w2 gw ys 0 fs ∧ XW B w2 g (.slice va n vc) ys 0 F ∧ Seg .u8 w2 (some ⟨b, 0, none⟩) n ys ∧ Below w.heap.size w w2) := ⟨H1.out.1.drawn hd2, H1.out.2.1.drawn hd2, by (rw [HNL.out]; exact (H1.out.2.2.1.segAll _ rfl).below (drawn_below hd2)), H1.out.2.2.2.trans ((drawn_below hd2).mono H1.out.2.2.2.size)⟩
    have H2S : Hid (Seg .u8 w2 va n ys) := by
      obtain ⟨va', vc', hv, hs, _, _⟩ := H2.out.2.1.own.seg
      cases hv
      rw [HNL.out]; exact hs
    clear hd2 H1 HW
    go_wp2
    have hS0 : w2.cell? ⟨g, 0, none⟩ = some (.slice va n vc) ∧ Hid (∃ m, w2 = w2.drewN m) := ⟨H2.out.2.1.blk.c0, ⟨0, rfl⟩⟩
    have hSd : w2.drew.cell? ⟨g, 0, none⟩ = some (.slice va n vc) ∧ Hid (∃ m, w2.drew = w2.drewN m) := ⟨H2.out.2.1.blk.c0, ⟨1, rfl⟩⟩
    go_region_held3 (fun wr => wr.cell? ⟨g, 0, none⟩ = some (.slice va n vc) ∧ Hid (∃ m, wr = w2.drewN m)) (assumption) (first
      | (go_at_call 16; refine (wsize_c gw ys 0 fs _ (H2.out.1.drawn (by assumption : _ ∧ Hid (∃ m, _ = w2.drewN m)).2.out)).mono ?_; rintro r w3 ⟨rfl, rfl⟩; rw [← HNL.out])
      | (go_at_call 18; refine (sameTrue _ _ _ _ _ _ _ ys (H2.out.2.2.1.below (drawn_below (by assumption : _ ∧ Hid (∃ m, _ = w2.drewN m)).2.out)) (H2S.out.below (drawn_below (by assumption : _ ∧ Hid (∃ m, _ = w2.drewN m)).2.out)) HY.out).mono ?_; rintro r w3 ⟨rfl, rfl⟩))
    go_wp2
    go_ret
    exact ⟨rfl, H2.out.2.2.2.drew⟩
  · have HW : Hid (WS w gw ys e fs ∧ XW B w g (.slice va ys.length vc) ys e F) := ⟨hw, hx⟩
    have heb : (e == 0) = false := by simp [he]
    have HC1 : Hid _ := wbytes_no gw ys e fs w hw heb
    obtain ⟨n, hn⟩ : ∃ n, n = ys.length := ⟨_, rfl⟩
    rw [← hn] at HW
    clear hw hx
    have HNL : Hid (n = ys.length) := hn
    clear hn
    go_enter Try.func6, Try.ntmps6
    go_wp2_with fail
    refine (Calls.mono HC1.out ?_)
    rintro r w1 ⟨rfl, hd1⟩
    have H1 : Hid (WS w1 gw ys e fs ∧ XW B w1 g (.slice va n vc) ys e F ∧ Below w.heap.size w w1) := ⟨HW.out.1.drawn hd1, HW.out.2.drawn hd1, drawn_below hd1⟩
    clear hd1 HC1
    go_wp2_with fail
    refine (xwbytes_c B g _ ys e F w1 H1.out.2.1).mono ?_
    rintro r w2 ⟨rfl, hd2⟩
    rw [if_neg he]
    have H2 : Hid (WS w2 gw ys e fs ∧ XW B w2 g (.slice va n vc) ys e F ∧ Below w.heap.size w w2) := ⟨H1.out.1.drawn hd2, H1.out.2.1.drawn hd2, H1.out.2.2.trans ((drawn_below hd2).mono H1.out.2.2.size)⟩
    clear hd2 H1 HW
    go_wp2
    have hS0 : w2.cell? ⟨g, 0, none⟩ = some (.slice va n vc) ∧ Hid (∃ m, w2 = w2.drewN m) := ⟨H2.out.2.1.blk.c0, ⟨0, rfl⟩⟩
    have hSd : w2.drew.cell? ⟨g, 0, none⟩ = some (.slice va n vc) ∧ Hid (∃ m, w2.drew = w2.drewN m) := ⟨H2.out.2.1.blk.c0, ⟨1, rfl⟩⟩
    go_region_held3 (fun wr => wr.cell? ⟨g, 0, none⟩ = some (.slice va n vc) ∧ Hid (∃ m, wr = w2.drewN m)) (assumption) (first
      | (go_at_call 16; refine (wsize_c gw ys e fs _ (H2.out.1.drawn (by assumption : _ ∧ Hid (∃ m, _ = w2.drewN m)).2.out)).mono ?_; rintro r w3 ⟨rfl, rfl⟩; rw [← HNL.out])
      | (go_at_call 18; refine (sameTrue none none 0 0 0 0 _ [] ⟨rfl, .inl rfl⟩ ⟨rfl, .inl rfl⟩ (fun i hi => by simp at hi)).mono ?_; rintro r w3 ⟨rfl, rfl⟩))
    go_wp2
    go_ret
    exact ⟨rfl, H2.out.2.2.drew⟩
end Go.Proofs.Ytdedmmodlbnnfaa

/-
  What the laws' twin and same answer, called with whatever parts: the same parts in memory of one's own; whether parts are alike. Condition: the parts can be read, and are together at most 2^20 bytes.
-/
import Derived.Test.YtlfijnegmnploaaDoorRows
import Derived.Test.YtlfijnegmnploaaDoorJoinedC
import Derived.Test.YtlfijnegmnploaaDoorApart
import Derived.Test.YtlfijnegmnploaaDoorMstr
import Derived.Deep.RegionHeld3
namespace Go.Proofs.YtlfijnegmnploaaDoor
set_option linter.unusedVariables false
open Go.RowKit

theorem Tryd.infoS8 : (Tryd.prog.info? 22).map (fun i => (i.zero, i.size, i.bytes)) = some (some (.slice none 0 0), 1, 24) := by kernel_rfl

/-- Some parts, laid into a list of one's own so far: the list, and where each part lies. -/
def Twins (B : Nat) (w : World) (u : Value) (k : Nat) (X : List (List Int)) : Prop :=
  ∃ us : List Value, w.ownsRow B 22 1 u k us ∧ ∀ i, i < k → ∃ pa pl pc, us[i]? = some (.slice pa pl pc) ∧ Seg .u8 w pa pl (X[i]?.getD []) ∧ (pa = none → pc = 0) ∧ ∀ ad, pa = some ad → u.ownBlock ≠ some ad.block ∧ ad.block < w.heap.size
theorem Seg.grownAt {w w' : World} {a : Option Addr} {len : Nat} {xs : List Int} {row : Option Nat} (h : Seg .u8 w a len xs) (hg : w.grownBy w' row) (hne : ∀ ad, a = some ad → row ≠ some ad.block) : Seg .u8 w' a len xs := by
  refine ⟨h.1, ?_⟩
  rcases h.2 with h0 | ⟨b, off, rfl, hw, hc⟩
  · exact .inl h0
  · exact .inr ⟨b, off, rfl, Nat.lt_of_lt_of_le hw hg.size, fun i hi => (World.cell?_of_block (w := w) (w' := w') (a := ⟨b, off + i, none⟩) (hg.block b hw (Ne.symm (hne _ rfl)))).trans (hc i hi)⟩
theorem Twins.parts {B : Nat} {w : World} {u : Value} {X : List (List Int)} (h : Twins B w u X.length X) (hx : ∀ i, i < X.length → Bytes (X[i]?.getD []) ∧ (X[i]?.getD []).length ≤ 1048576) : ∃ a cap, u = .slice a X.length cap ∧ Parts w a X.length X := by
  obtain ⟨us, ho, hu⟩ := h
  have hlen : us.length = X.length := by have := ho.1; simpa using this
  rcases ho.2 with ⟨rfl, h0⟩ | ⟨g, cap, cur, rfl, hB, hg, hn, hm, hsz, htake⟩
  · exact ⟨none, 0, by rw [h0], rfl, .inl h0⟩
  · refine ⟨_, cap, rfl, rfl, .inr ⟨g, 0, rfl, lt_of_block hg, fun i hi => ?_⟩⟩
    obtain ⟨pa, pl, pc, h1, h2, h3, _⟩ := hu i hi
    refine ⟨pa, pl, pc, ?_, h2, (hx i hi).1, by rw [← h2.1]; exact (hx i hi).2, h3⟩
    rw [Nat.zero_add, ho.cellAt i (by omega), h1]

theorem rowBelow {B n : Nat} {e : TypeId} {w w' : World} {v : Value} {xs : List Value} (h : w.ownsRow B e 1 v n xs) (hb : Below w.heap.size w w') : w'.ownsRow B e 1 v n xs := by
  refine ⟨h.1, ?_⟩
  rcases h.2 with h0 | ⟨g, cap, cur, rfl, hB, hg, r⟩
  · exact .inl h0
  · exact .inr ⟨g, cap, cur, rfl, hB, (hb.block g (lt_of_block hg)).trans hg, r⟩
theorem rowLo {B n : Nat} {e : TypeId} {w : World} {v : Value} {xs : List Value} (h : w.ownsRow B e 1 v n xs) : ∀ g, v.ownBlock = some g → B ≤ g ∧ g < w.heap.size := by
  intro g hg
  rcases h.2 with ⟨rfl, _⟩ | ⟨g', cap, cur, rfl, hB, hgb, _⟩
  · cases hg
  · cases hg; exact ⟨hB, lt_of_block hgb⟩

theorem oneSlice {a : Option Addr} {l c : Nat} : ∀ u ∈ [Value.slice a l c], u.oneCell' = true := by
  intro u hu; rw [List.mem_singleton] at hu; rw [hu]; rfl
theorem twinBase {w wr w5 : World} {o : Obj} (h : Below w.heap.size w wr) (h5 : Below wr.heap.size wr w5) : w.heap.size ≤ (w5.alloc o).heap.size := by
  have := h.size; have := h5.size; rw [World.size_alloc]; omega

set_option maxHeartbeats 1000000 in
theorem twin_c (a : Option Addr) (n cap : Nat) (X : List (List Int)) (w : World) (hp : Parts w a n X) (hl : X.flatten.length + n ≤ 1048576) :
    Calls Tryd.prog 10 #[.slice a n cap] w fun e w' => ∃ v, e = .returned v ∧ Twins w.heap.size w' v n X ∧ Below w.heap.size w w' := by
  obtain ⟨i0, hi, hz0, hz1, hz2⟩ := info_parts' Tryd.infoS8
  have HP : Hid (Parts w a n X) := hp
  have HLN : Hid (X.length = n) := hp.1
  clear hp
  go_enter Tryd.func10, Tryd.ntmps10
  go_wp2
  go_loopw [3, 4] (fun u i wr => ∃ k : Nat, k ≤ n ∧ i = .int .i64 k ∧ Hid (Twins w.heap.size wr u k X) ∧ Hid (Below w.heap.size w wr)) (fun _ i _ => n - (intOf i).toNat)
  case atStart => exact ⟨0, Nat.zero_le _, rfl, ⟨[], ⟨rfl, .inl ⟨rfl, rfl⟩⟩, fun i hi => by omega⟩, Below.refl _ _⟩
  case round =>
    obtain ⟨k, hk, rfl, ho, hb⟩ := hrel
    by_cases hlt : k < n
    · obtain ⟨b, off, rfl, hbw, hc⟩ := HP.out.2.resolve_left (by omega)
      obtain ⟨pa, pl, pc, hcell, h2, h3, h4, h5⟩ := hc k hlt
      have hcell' := (hb.out.cell (p := ⟨b, off + k, none⟩) hbw).trans hcell
      have HSP : Hid (Seg .u8 wr pa pl (X[k]?.getD [])) := h2.below hb.out
      have HN5 : Hid (pa = none → pc = 0) := h5
      obtain ⟨us, hus, hut⟩ := ho.out
      have HUS : Hid (wr.ownsRow w.heap.size 22 1 u3 k us) := hus
      have HUT : Hid (∀ i, i < k → ∃ pa pl pc, us[i]? = some (.slice pa pl pc) ∧ Seg .u8 wr pa pl (X[i]?.getD []) ∧ (pa = none → pc = 0) ∧ ∀ ad, pa = some ad → u3.ownBlock ≠ some ad.block ∧ ad.block < wr.heap.size) := hut
      clear hc h2 h3 h5 hcell hus hut
      go_wp2_with (first
        | (at_builtin; refine wpList_append_grow _ rfl _ _ rfl wr.heap.size 0 _ [] rfl (own_nil _ _) pa pl pc _ rfl HN5.out HSP.out (by omega) (Nat.le_refl _) ?_; intro v5 w5 ho5 hb5; rw [Nat.zero_add, List.nil_append] at ho5; obtain ⟨a6, c6, rfl, hs6, hn6, _⟩ := ho5.seg; replace ho5 : Hid _ := ho5; replace hb5 : Hid _ := hb5; replace hs6 : Hid _ := hs6; replace hn6 : Hid _ := hn6)
        | (at_builtin; refine wpList_append_own_at _ rfl _ _ 28 rfl w.heap.size 22 i0 (.slice none 0 0) 1 24 Tryd.underlying28 hi hz0 hz1 hz2 rfl (by decide) _ k us rfl (rowBelow (rowBelow HUS.out hb5.out) ((Below.refl _ _).alloc (Nat.le_refl _) _)) ⟨w5.heap.size, 0, none⟩ 1 1 [.slice a6 pl c6] rfl rfl (cell_one_new _ _ _) oneSlice (by unfold maxLen; omega) (by omega) (twinBase hb.out hb5.out) ?_; intro v7 w7 ho7 hg7 hnil7 hat7))
      have HB6 : Hid (Below w.heap.size w (w5.alloc (Obj.cells #[.slice a6 pl c6] 22))) := by
        have h1 := hb.out.trans (hb5.out.mono hb.out.size)
        exact h1.alloc h1.size _
      have HB7 : Hid (Below w.heap.size w w7) := Below.grew HB6.out hg7 HB6.out.size (fun k hk => (rowLo HUS.out k hk).1)
      have HTW : Hid (Twins w.heap.size w7 v7 (k + 1) X) := by
        have hz5 := hb5.out.size
        have hz7 := hg7.size
        rw [World.size_alloc] at hz7
        have hul : us.length = k := by have := HUS.out.1; simpa using this
        refine ⟨us ++ [.slice a6 pl c6], ho7, fun i hi' => ?_⟩
        by_cases hik : i < k
        · obtain ⟨qa, ql, qc, q1, q2, q3, q4⟩ := HUT.out i hik
          refine ⟨qa, ql, qc, by rw [List.getElem?_append_left (by omega)]; exact q1, ((q2.below hb5.out).below ((Below.refl _ _).alloc (Nat.le_refl _) _)).grownAt hg7 (fun ad had => (q4 ad had).1), q3, fun ad had => ⟨?_, by have := (q4 ad had).2; omega⟩⟩
          rcases hat7 with h | h
          · rw [h]; exact (q4 ad had).1
          · rw [h]; intro e; have e' := Option.some.inj e; have := (q4 ad had).2; rw [World.size_alloc] at e'; omega
        · obtain rfl : i = k := by omega
          have hblk : ∀ ad, a6 = some ad → wr.heap.size ≤ ad.block ∧ ad.block < w5.heap.size := fun ad had => by
            have := Own.lo ho5.out ad.block (by rw [had]; rfl)
            exact this
          refine ⟨a6, pl, c6, by rw [List.getElem?_append_right (by omega), hul]; simp, (Seg.below hs6.out ((Below.refl _ _).alloc (Nat.le_refl _) _)).grownAt hg7 (fun ad had h => ?_), hn6.out, fun ad had => ⟨?_, by have := (hblk ad had).2; omega⟩⟩
          · have h1 := (rowLo HUS.out _ h).2
            have h2 := (hblk ad had).1
            omega
          · rcases hat7 with h | h
            · rw [h]; intro e; have h1 := (rowLo HUS.out _ e).2; have h2 := (hblk ad had).1; omega
            · rw [h]; intro e; have e' := Option.some.inj e; have := (hblk ad had).2; rw [World.size_alloc] at e'; omega
      clear ho7 hg7 hnil7 hat7
      go_roundw
      case rel => exact ⟨k + 1, by omega, by go_num, HTW, HB7⟩
      case measure => simp [intOf]; omega
    · go_wp2
      go_ret
      obtain rfl : k = n := by omega
      exact ⟨_, rfl, ho.out, hb.out⟩

theorem sameTrue (a b : Option Addr) (la ca lb cb : Nat) (w : World) (xs : List Int) (h1 : Seg .u8 w a la xs) (h2 : Seg .u8 w b lb xs) (hx : Bytes xs) :
    Calls Tryd.prog 16 #[.slice a la ca, .slice b lb cb] w fun e w' => e = .returned (.bool true) ∧ w' = w := by
  have := same_c a b la ca lb cb xs xs w h1 h2 hx hx
  rw [decide_eq_true rfl] at this
  exact this
theorem heldS {wr w' : World} {a : Option Addr} {len : Nat} {xs : List Int} {A B : Prop} (h : Seg .u8 wr a len xs) (hh : A ∧ B ∧ Hid (Below wr.heap.size wr w')) : Seg .u8 w' a len xs := h.below hh.2.2.out
set_option maxHeartbeats 1000000 in
theorem lsame_c (a b : Option Addr) (n ca cb : Nat) (X : List (List Int)) (w : World) (hp : Parts w a n X) (hq : Parts w b n X) (hl : n ≤ 1048576) :
    Calls Tryd.prog 13 #[.slice a n ca, .slice b n cb] w fun e w' => e = .returned (.bool true) ∧ Below w.heap.size w w' := by
  have HP : Hid (Parts w a n X) := hp
  have HQ : Hid (Parts w b n X) := hq
  clear hp hq
  have hnn : ((n : Int) == (n : Int)) = true := by simp
  go_enter Tryd.func13, Tryd.ntmps13
  go_wp2
  go_loopw [5] (fun i wr => ∃ k : Nat, k ≤ n ∧ i = .int .i64 k ∧ Hid (Below w.heap.size w wr)) (fun i _ => n - (intOf i).toNat)
  case atStart => exact ⟨0, Nat.zero_le _, rfl, Below.refl _ _⟩
  case round =>
    obtain ⟨k, hk, rfl, hb⟩ := hrel
    by_cases hlt : k < n
    · obtain ⟨b1, off1, rfl, hbw1, hc1⟩ := HP.out.2.resolve_left (by omega)
      obtain ⟨b2, off2, rfl, hbw2, hc2⟩ := HQ.out.2.resolve_left (by omega)
      obtain ⟨pa, pl, pc, p1, p2, p3, p4, p5⟩ := hc1 k hlt
      obtain ⟨qa, ql, qc, q1, q2, q3, q4, q5⟩ := hc2 k hlt
      have c1 := (hb.out.cell (p := ⟨b1, off1 + k, none⟩) hbw1).trans p1
      have c2 := (hb.out.cell (p := ⟨b2, off2 + k, none⟩) hbw2).trans q1
      have HS1 : Hid (Seg .u8 wr pa pl (X[k]?.getD [])) := p2.below hb.out
      have HS2 : Hid (Seg .u8 wr qa ql (X[k]?.getD [])) := q2.below hb.out
      have HX : Hid (Bytes (X[k]?.getD [])) := p3
      have i1 : (0 : Int) ≤ (k : Int) := by omega
      have i2 : (k : Int) < (n : Int) := by omega
      have hS : wr.cell? ⟨b1, off1 + k, none⟩ = some (.slice pa pl pc) ∧ wr.cell? ⟨b2, off2 + k, none⟩ = some (.slice qa ql qc) ∧ Hid (Below wr.heap.size wr wr) := ⟨c1, c2, Below.refl _ _⟩
      have hSd : wr.drew.cell? ⟨b1, off1 + k, none⟩ = some (.slice pa pl pc) ∧ wr.drew.cell? ⟨b2, off2 + k, none⟩ = some (.slice qa ql qc) ∧ Hid (Below wr.heap.size wr wr.drew) := ⟨c1, c2, (Below.refl _ _).drew⟩
      clear hc1 hc2 p1 p2 p3 p4 p5 q1 q2 q3 q4 q5 c1 c2
      go_wp2
      go_region_held3 (fun w' => w'.cell? ⟨b1, off1 + k, none⟩ = some (.slice pa pl pc) ∧ w'.cell? ⟨b2, off2 + k, none⟩ = some (.slice qa ql qc) ∧ Hid (Below wr.heap.size wr w')) (assumption) (first
        | (go_at_call 16; refine (sameTrue _ _ _ _ _ _ _ (X[k]?.getD []) (heldS HS1.out (by assumption)) (heldS HS2.out (by assumption)) HX.out).mono ?_; rintro e w9 ⟨rfl, rfl⟩))
      have HBD : Hid (Below w.heap.size w wr.drew) := hb.out.drew
      go_wp2
      go_roundw
      case rel => exact ⟨k + 1, by omega, by go_num, HBD⟩
      case measure => simp [intOf]; omega
    · go_wp2
      go_ret
      exact ⟨rfl, hb.out⟩

end Go.Proofs.YtlfijnegmnploaaDoor

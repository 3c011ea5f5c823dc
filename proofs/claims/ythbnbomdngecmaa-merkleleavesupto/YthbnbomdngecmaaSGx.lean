/-
  What the document's Write does. Condition: the bytes can be read, and lie below the hasher.
-/
import Derived.Test.YthbnbomdngecmaaSGw
import Derived.Test.YthbnbomdngecmaaTSs
import Derived.Test.YthbnbomdngecmaaRLs
namespace Go.Proofs.Ythbnbomdngecmaa
set_option linter.unusedVariables false
open Go.RowKit

theorem gb_cell (w : World) (g i : Nat) (u : Value) : w.grownBy (w.setCell ⟨g, i, none⟩ u) (some g) := ⟨rfl, rfl, rfl, by simp, fun k _ hk => Below.heap_setCell _ _ _ _ (fun e => hk (by rw [e]))⟩
theorem GHv.gb {w w' g p n v} (h : GHv w g p n v) (hg : w.grownBy w' none) : GHv w' g p n v := ⟨h.1.gb hg, own_gb h.2 hg⟩
theorem GHv.range {w g p n v} (h : GHv w g p n v) : w.rangeAt g 0 [.int .u32 (W p.1.a), .int .u32 (W p.1.b), .int .u32 (W p.1.c), .int .u32 (W p.1.d), .int .u32 (W p.1.e), .int .u32 (W p.1.f), .int .u32 (W p.1.g), .int .u32 (W p.1.h)] := fun j v hv => by
  rw [Nat.zero_add, h.1.cell j]
  match j, hv with
  | 0, hv => exact hv
  | 1, hv => exact hv
  | 2, hv => exact hv
  | 3, hv => exact hv
  | 4, hv => exact hv
  | 5, hv => exact hv
  | 6, hv => exact hv
  | 7, hv => exact hv
  | j + 8, hv => simp at hv
theorem hs0 (s : St) (n : Int) (v : Value) (x : Wd) : (hcs s n v).setIfInBounds 0 (.int .u32 (W x)) = hcs ⟨x, s.b, s.c, s.d, s.e, s.f, s.g, s.h⟩ n v := rfl
theorem hs1 (s : St) (n : Int) (v : Value) (x : Wd) : (hcs s n v).setIfInBounds 1 (.int .u32 (W x)) = hcs ⟨s.a, x, s.c, s.d, s.e, s.f, s.g, s.h⟩ n v := rfl
theorem hs2 (s : St) (n : Int) (v : Value) (x : Wd) : (hcs s n v).setIfInBounds 2 (.int .u32 (W x)) = hcs ⟨s.a, s.b, x, s.d, s.e, s.f, s.g, s.h⟩ n v := rfl
theorem hs3 (s : St) (n : Int) (v : Value) (x : Wd) : (hcs s n v).setIfInBounds 3 (.int .u32 (W x)) = hcs ⟨s.a, s.b, s.c, x, s.e, s.f, s.g, s.h⟩ n v := rfl
theorem hs4 (s : St) (n : Int) (v : Value) (x : Wd) : (hcs s n v).setIfInBounds 4 (.int .u32 (W x)) = hcs ⟨s.a, s.b, s.c, s.d, x, s.f, s.g, s.h⟩ n v := rfl
theorem hs5 (s : St) (n : Int) (v : Value) (x : Wd) : (hcs s n v).setIfInBounds 5 (.int .u32 (W x)) = hcs ⟨s.a, s.b, s.c, s.d, s.e, x, s.g, s.h⟩ n v := rfl
theorem hs6 (s : St) (n : Int) (v : Value) (x : Wd) : (hcs s n v).setIfInBounds 6 (.int .u32 (W x)) = hcs ⟨s.a, s.b, s.c, s.d, s.e, s.f, x, s.h⟩ n v := rfl
theorem hs7 (s : St) (n : Int) (v : Value) (x : Wd) : (hcs s n v).setIfInBounds 7 (.int .u32 (W x)) = hcs ⟨s.a, s.b, s.c, s.d, s.e, s.f, s.g, x⟩ n v := rfl
theorem gh_there {w : World} {g : Nat} {s : St} {n : Int} {v : Value} (h : Bk 94 w g (hcs s n v)) (j : Nat) (hj8 : j < 8) : (w.cell? ⟨g, 0 + j, none⟩).isSome = true := by
  rw [Nat.zero_add, h.cell j]
  match j, hj8 with
  | 0, _ => rfl
  | 1, _ => rfl
  | 2, _ => rfl
  | 3, _ => rfl
  | 4, _ => rfl
  | 5, _ => rfl
  | 6, _ => rfl
  | 7, _ => rfl
theorem gh_put {w : World} {g : Nat} {s : St} {n : Int} {v : Value} (h : Bk 94 w g (hcs s n v)) (s' : St) : ∃ w', Sem.run Try.prog (storeVar 72 ⟨g, 0, none⟩ (.agg (wds s'.words))) w = .ok () w' ∧ Bk 94 w' g (hcs s' n v) ∧ w.grownBy w' (some g) := by
  have hth : w.there g 0 (wds s'.words).size := fun j hj => ⟨gh_there h j hj, frozen_of_row w g _ _ 94 h⟩
  have hst := run_storeVar_mid (P := Try.prog) w g 0 72 (wds s'.words) hth info8u (wds_one _)
  have e : (wds s'.words).toList = [.int .u32 (W s'.a), .int .u32 (W s'.b), .int .u32 (W s'.c), .int .u32 (W s'.d), .int .u32 (W s'.e), .int .u32 (W s'.f), .int .u32 (W s'.g), .int .u32 (W s'.h)] := rfl
  rw [e] at hst
  simp only [World.setCells, Nat.zero_add, Nat.reduceAdd] at hst
  refine ⟨_, hst, ?_, ?_⟩
  · have k0 := h.set 0 (.int .u32 (W s'.a))
    rw [hs0] at k0
    have k1 := k0.set 1 (.int .u32 (W s'.b))
    rw [hs1] at k1
    have k2 := k1.set 2 (.int .u32 (W s'.c))
    rw [hs2] at k2
    have k3 := k2.set 3 (.int .u32 (W s'.d))
    rw [hs3] at k3
    have k4 := k3.set 4 (.int .u32 (W s'.e))
    rw [hs4] at k4
    have k5 := k4.set 5 (.int .u32 (W s'.f))
    rw [hs5] at k5
    have k6 := k5.set 6 (.int .u32 (W s'.g))
    rw [hs6] at k6
    have k7 := k6.set 7 (.int .u32 (W s'.h))
    rw [hs7] at k7
    exact k7
  · exact gb_trans (gb_cell _ g 0 _) (gb_trans (gb_cell _ g 1 _) (gb_trans (gb_cell _ g 2 _) (gb_trans (gb_cell _ g 3 _) (gb_trans (gb_cell _ g 4 _) (gb_trans (gb_cell _ g 5 _) (gb_trans (gb_cell _ g 6 _) (gb_cell _ g 7 _)))))))
set_option maxRecDepth 20000 in
set_option maxHeartbeats 1000000 in
theorem gwrite_c (g : Nat) (p : St × List Int) (n : Nat) (a : Option Addr) (len cap : Nat) (xs : List Int) (w : World) (hH : GH w g p n) (hp : p.2.length < 64) (hpb : Bytes p.2) (hs : Seg .u8 w a len xs) (hx : Bytes xs) (hlo : len = 0 ∨ ∀ b off, a = some ⟨b, off, none⟩ → b < g) (hn : n + len < 2305843009213693952) :
    Calls Try.prog 33 #[.pointer (some ⟨g, 0, none⟩), .slice a len cap] w fun r w' => r = .returned (.tuple #[]) ∧ GH w' g (shz p xs) ((n + len : Nat) : Int) ∧ Below g w w' := by
  have HH : Hid (GH w g p n) := hH
  have HS : Hid (Seg .u8 w a len xs) := hs
  have HXL : Hid (xs.length = len) := hs.1
  have HX : Hid (Bytes xs ∧ Bytes p.2 ∧ p.2.length < 64) := ⟨hx, hpb, hp⟩
  have HLO : Hid (len = 0 ∨ ∀ b off, a = some ⟨b, off, none⟩ → b < g) := hlo
  clear hH hs hx hlo hpb hp
  go_enter Try.func33, Try.ntmps33
  go_wp2_with fail
  go_loopw [4] (fun i wr => ∃ k : Nat, k ≤ len ∧ i = .int .i64 k ∧ Hid (GH wr g (shz p (xs.take k)) ((n + k : Nat) : Int) ∧ Below g w wr)) (fun i _ => len - (intOf i).toNat)
  case atStart => exact ⟨0, Nat.zero_le _, rfl, by rw [List.take_zero]; exact ⟨HH.out, Below.refl _ _⟩⟩
  case round =>
    obtain ⟨k, hk, rfl, hr⟩ := hrel
    by_cases hlt : k < len
    · obtain ⟨b, off, rfl, hbw, hc⟩ : ∃ b off, a = some ⟨b, off, none⟩ ∧ b < w.heap.size ∧ ∀ i, i < len → w.cell? ⟨b, off + i, none⟩ = some (.int .u8 (xs[i]?.getD 0)) := by
        rcases HS.out.2 with h0 | h
        · omega
        · exact h
      have hbg : b < g := (HLO.out.resolve_left (by omega)) b off rfl
      have cb : wr.cell? ⟨b, off + k, none⟩ = some (.int .u8 (xs[k]?.getD 0)) := (hr.out.2.cell (p := ⟨b, off + k, none⟩) hbg).trans (hc k hlt)
      have HT : Hid (shz p (xs.take (k + 1)) = sbyte (shz p (xs.take k)) (xs[k]?.getD 0)) := by
        show _ = _
        rw [take_snoc xs k (by rw [HXL.out]; exact hlt), shz_app]; rfl
      have HQ : Hid ((shz p (xs.take k)).2.length < 64) := by
        have := shz_len p (xs.take k) HX.out.2.2
        show _ < _
        omega
      have HQB : Hid (Bytes ((shz p (xs.take k)).2 ++ [xs[k]?.getD 0])) := by
        have h1 := gshz_bytes (xs.take k) (bytes_of_mem (fun z hz => HX.out.1.mem z (List.mem_of_mem_take hz))) p HX.out.2.1
        refine bytes_of_mem (fun z hz => ?_)
        rcases List.mem_append.1 hz with h | h
        · exact h1.mem z h
        · rw [List.mem_singleton.1 h]; exact HX.out.1 k (by rw [HXL.out]; exact hlt)
      obtain ⟨x, hx⟩ : ∃ x, x = xs[k]?.getD 0 := ⟨_, rfl⟩
      rw [← hx] at cb HT HQB
      obtain ⟨q, hq⟩ : ∃ q, q = shz p (xs.take k) := ⟨_, rfl⟩
      rw [← hq] at hr HT HQ HQB
      clear hx hq hc
      obtain ⟨v, hv⟩ := hr.out.1
      obtain ⟨va, vc, rfl⟩ := hv.form
      have HB : Hid (Below g w wr) := hr.out.2
      have HV : Hid (GHv wr g q ((n + k : Nat) : Int) (.slice va q.2.length vc)) := hv
      have c9 : wr.cell? ⟨g, 9, none⟩ = some (.slice va q.2.length vc) := hv.1.cell 9
      have hne : (Value.slice va q.2.length vc).ownBlock ≠ some b := fun e => by have := (Own.lo hv.2 b e).1; omega
      have hsz : g + 1 ≤ wr.heap.size := lt_of_block hv.1
      have HNE : Hid ((Value.slice va q.2.length vc).ownBlock ≠ some b ∧ g + 1 ≤ wr.heap.size ∧ (Value.slice va q.2.length vc).ownBlock ≠ some g) := ⟨hne, hsz, hv.ne⟩
      have HHH : Hid (GHv wr g q ((n + k : Nat) : Int) (.slice va q.2.length vc)) := hv
      clear hv hr hne hsz
      obtain ⟨nk, hnk⟩ : ∃ nk : Int, nk = ((n + k : Nat) : Int) := ⟨_, rfl⟩
      rw [← hnk] at HV HHH
      have HNK : Hid (nk = ((n + k : Nat) : Int)) := hnk
      have j1 : 0 ≤ nk := by omega
      have j2 : nk < 2305843009213693952 := by omega
      have j3 : IntKind.i64.wrap (nk + 1) = nk + 1 := IntWalk.i64_in _ ⟨by omega, by omega⟩
      clear hnk
      have i1 : (0 : Int) ≤ (k : Int) := by omega
      have i2 : (k : Int) < (len : Int) := by omega
      obtain ⟨m, hm⟩ : ∃ m, m = q.2.length := ⟨_, rfl⟩
      have HOW : Hid (wr.ownsRow (g + 1) 5 1 (.slice va q.2.length vc) q.2.length (q.2.map (Value.int .u8))) := HHH.out.2
      rw [← hm] at HV HQ c9 HNE HHH HOW
      have HM : Hid (m = q.2.length) := hm
      clear hm
      have c9a : (wr.alloc (Obj.cells #[.int .u8 x] 5)).drew.cell? ⟨g, 9, none⟩ = some (.slice va m vc) := cell_alloc c9 _
      go_wp2
      go_region_law (refine step_lit rfl _ _ 48 rfl (g + 1) 5 _ 1 1 Try.underlying48 Try.infoU8 rfl (by decide) wr #[.int .u8 x] rfl _ m (q.2.map (Value.int .u8)) rfl HOW.out rfl rfl (u8_one x) (by have := HQ.out; unfold maxLen; omega) (by have := HQ.out; omega) HNE.out.2.1 ?_; intro g4 cap4 w4 ho4 hb4 hg4 _; have HG4 : Hid (wr.grownBy w4 (Value.slice va m vc).ownBlock ∧ Own (g + 1) w4 (.slice (some ⟨g4, 0, none⟩) (m + 1) cap4) (m + 1) (q.2 ++ [x]) ∧ Below (g + 1) wr w4) := ⟨hg4, by (unfold Own; rw [List.map_append]; exact ho4), hb4⟩; have HK4 : Hid (Bk 94 w4 g (hcs q.1 nk (.slice va m vc))) := HHH.out.1.grew hg4 HNE.out.2.2; have f9 : w4.cell? ⟨g, 9, none⟩ = some (.slice va m vc) := HK4.out.cell 9; have z9 : w4.frozen? ⟨g, 9, none⟩ = false := frozen_of_row w4 g 9 _ 94 HK4.out; clear ho4 hb4 hg4)
      all_goals
        have HAPP : Hid (GHv ((w4.setCell ⟨g, 9, none⟩ (.slice (some ⟨g4, 0, none⟩) (m + 1) cap4)).setCell ⟨g, 8, none⟩ (.int .i64 (nk + 1))) g (q.1, q.2 ++ [x]) (nk + 1) (.slice (some ⟨g4, 0, none⟩) (m + 1) cap4)) := by
          have := ghv_app (w4 := w4) (x := x) (g4 := g4) (cap4 := cap4) HHH.out (by rw [← HM.out]; exact HG4.out.2.1) HG4.out.1
          rw [← HM.out] at this
          exact this
        have HBW : Hid (Below g w ((w4.setCell ⟨g, 9, none⟩ (.slice (some ⟨g4, 0, none⟩) (m + 1) cap4)).setCell ⟨g, 8, none⟩ (.int .i64 (nk + 1)))) := ghv_end HB.out HG4.out.2.2 (by have := HNE.out.2.1; omega)
        have HK5 : Hid (Bk 94 (w4.setCell ⟨g, 9, none⟩ (.slice (some ⟨g4, 0, none⟩) (m + 1) cap4)) g (hcs q.1 nk (.slice (some ⟨g4, 0, none⟩) (m + 1) cap4))) := HK4.out.set 9 _
        have c8 : (w4.setCell ⟨g, 9, none⟩ (.slice (some ⟨g4, 0, none⟩) (m + 1) cap4)).cell? ⟨g, 8, none⟩ = some (.int .i64 nk) := HK5.out.cell 8
        have c9b : (w4.setCell ⟨g, 9, none⟩ (.slice (some ⟨g4, 0, none⟩) (m + 1) cap4)).cell? ⟨g, 9, none⟩ = some (.slice (some ⟨g4, 0, none⟩) (m + 1) cap4) := HK5.out.cell 9
        have z8 : (w4.setCell ⟨g, 9, none⟩ (.slice (some ⟨g4, 0, none⟩) (m + 1) cap4)).frozen? ⟨g, 8, none⟩ = false := frozen_of_row _ g 8 _ 94 HK5.out
        generalize World.setCell w4 _ _ = w5 at HAPP HBW HK5 c8 c9b z8 ⊢
        clear HK4 f9 z9 HG4 c9 c9a HHH HV HOW HB HNE cb
        by_cases h63 : m = 63
        · subst h63
          have HSB : Hid (sbyte q x = (blk q.1 (q.2 ++ [x]), [])) := if_pos HM.out.symm
          have HBL : Hid ((q.2 ++ [x]).length = 64) := by
            show _ = _
            rw [List.length_append, ← HM.out]; rfl
          obtain ⟨S', hS'⟩ : ∃ S', S' = blk q.1 (q.2 ++ [x]) := ⟨_, rfl⟩
          have HSS : Hid (blk q.1 (q.2 ++ [x]) = S') := hS'.symm
          clear hS'
          go_wp2
          generalize World.setCell w5 _ _ = w6 at HAPP HBW ⊢
          have HBk : Hid (∀ V, GHv V g (q.1, q.2 ++ [x]) (nk + 1) (.slice (some ⟨g4, 0, none⟩) 64 cap4) → Calls Try.prog 48 #[.agg #[.int .u32 (W q.1.a), .int .u32 (W q.1.b), .int .u32 (W q.1.c), .int .u32 (W q.1.d), .int .u32 (W q.1.e), .int .u32 (W q.1.f), .int .u32 (W q.1.g), .int .u32 (W q.1.h)], .slice (some ⟨g4, 0, none⟩) 64 cap4] V fun r w' => r = .returned (.agg (wds S'.words)) ∧ V.grownBy w' none) := fun V hV => by
            have := gblock_c q.1 g4 0 cap4 (q.2 ++ [x]) HBL.out HQB.out V (rd_own hV HBL.out)
            rw [HSS.out] at this
            exact this
          clear c8 c9b z8 HK5
          refine wp_region_last 12 rfl (by kernel_rfl) [37, 38, 39, 40, 41, 42, 43, 44, 45, 46, 47, 48, 100012] [[], [], [1], [2], [3], [], [5], [6], [7], [4, 8], [0], [10], [11, 9]] (by kernel_rfl) (by kernel_rfl) [fun u V => u = .pointer (some ⟨g, 0, none⟩), fun u V => u = .pointer (some ⟨g, 0, none⟩), fun u V => u = .pointer (some ⟨g, 0, none⟩), fun u V => u = .pointer (some ⟨g, 0, none⟩), fun u V => u = .agg #[.int .u32 (W q.1.a), .int .u32 (W q.1.b), .int .u32 (W q.1.c), .int .u32 (W q.1.d), .int .u32 (W q.1.e), .int .u32 (W q.1.f), .int .u32 (W q.1.g), .int .u32 (W q.1.h)], fun u V => u = .pointer (some ⟨g, 0, none⟩), fun u V => u = .pointer (some ⟨g, 0, none⟩), fun u V => u = .pointer (some ⟨g, 9, none⟩), fun u V => u = .slice (some ⟨g4, 0, none⟩) 64 cap4, fun u V => u = .agg (wds S'.words), fun u V => u = .pointer (some ⟨g, 0, none⟩), fun u V => u = .pointer (some ⟨g, 0, none⟩)] ?stable ?step ?last
          case stable =>
            intro i v V V' h hg
            match i, h with
            | 0, h => exact h
            | 1, h => exact h
            | 2, h => exact h
            | 3, h => exact h
            | 4, h => exact h
            | 5, h => exact h
            | 6, h => exact h
            | 7, h => exact h
            | 8, h => exact h
            | 9, h => exact h
            | 10, h => exact h
            | 11, h => exact h
            | i + 12, h => exact trivial
          case step =>
            intro f V A hA hg i o hin ho hu K hK
            match i, hin, ho, hu, hK with
            | 0, hin, ho, hu, hK =>
              cases ho
              have hw : GHv V g (q.1, q.2 ++ [x]) (nk + 1) (.slice (some ⟨g4, 0, none⟩) 64 cap4) := HAPP.out.gb hg
              have e0 : A.eval (.tmp 0) = .pointer (some ⟨g, 0, none⟩) := ev_out hA 0 rfl
              exact ph_move _ rfl rfl (.pointer (some ⟨g, 0, none⟩)) e0 (hK _ _ (gb_rr V _) rfl)
            | 1, hin, ho, hu, hK =>
              cases ho
              have hw : GHv V g (q.1, q.2 ++ [x]) (nk + 1) (.slice (some ⟨g4, 0, none⟩) 64 cap4) := HAPP.out.gb hg
              have e0 : A.eval (.tmp 0) = .pointer (some ⟨g, 0, none⟩) := ev_out hA 0 rfl
              exact ph_move _ rfl rfl (.pointer (some ⟨g, 0, none⟩)) e0 (hK _ _ (gb_rr V _) rfl)
            | 2, hin, ho, hu, hK =>
              cases ho
              have hw : GHv V g (q.1, q.2 ++ [x]) (nk + 1) (.slice (some ⟨g4, 0, none⟩) 64 cap4) := HAPP.out.gb hg
              have e38 : A.eval (.tmp 38) = .pointer (some ⟨g, 0, none⟩) := (ev_in hA 38 1 rfl rfl rfl).trans (show f 1 = .pointer (some ⟨g, 0, none⟩) from hu 1 (by decide))
              exact ph_nil _ rfl rfl _ e38 (hK _ _ (gb_rr V _) rfl)
            | 3, hin, ho, hu, hK =>
              cases ho
              have hw : GHv V g (q.1, q.2 ++ [x]) (nk + 1) (.slice (some ⟨g4, 0, none⟩) 64 cap4) := HAPP.out.gb hg
              have e39 : A.eval (.tmp 39) = .pointer (some ⟨g, 0, none⟩) := (ev_in hA 39 2 rfl rfl rfl).trans (show f 2 = .pointer (some ⟨g, 0, none⟩) from hu 2 (by decide))
              exact ph_field _ _ _ rfl rfl _ (.pointer (some ⟨g, 0, none⟩)) e39 (by kernel_rfl) (hK _ _ (gb_rr V _) rfl)
            | 4, hin, ho, hu, hK =>
              cases ho
              have hw : GHv V g (q.1, q.2 ++ [x]) (nk + 1) (.slice (some ⟨g4, 0, none⟩) 64 cap4) := HAPP.out.gb hg
              have e40 : A.eval (.tmp 40) = .pointer (some ⟨g, 0, none⟩) := (ev_in hA 40 3 rfl rfl rfl).trans (show f 3 = .pointer (some ⟨g, 0, none⟩) from hu 3 (by decide))
              exact ph_load rfl 72 _ rfl Try.underlying72 rfl g 0 [.int .u32 (W q.1.a), .int .u32 (W q.1.b), .int .u32 (W q.1.c), .int .u32 (W q.1.d), .int .u32 (W q.1.e), .int .u32 (W q.1.f), .int .u32 (W q.1.g), .int .u32 (W q.1.h)] (by kernel_rfl) e40 (hw.range) (hK _ _ (gb_rr V _) rfl)
            | 5, hin, ho, hu, hK =>
              cases ho
              have hw : GHv V g (q.1, q.2 ++ [x]) (nk + 1) (.slice (some ⟨g4, 0, none⟩) 64 cap4) := HAPP.out.gb hg
              have e0 : A.eval (.tmp 0) = .pointer (some ⟨g, 0, none⟩) := ev_out hA 0 rfl
              exact ph_move _ rfl rfl (.pointer (some ⟨g, 0, none⟩)) e0 (hK _ _ (gb_rr V _) rfl)
            | 6, hin, ho, hu, hK =>
              cases ho
              have hw : GHv V g (q.1, q.2 ++ [x]) (nk + 1) (.slice (some ⟨g4, 0, none⟩) 64 cap4) := HAPP.out.gb hg
              have e42 : A.eval (.tmp 42) = .pointer (some ⟨g, 0, none⟩) := (ev_in hA 42 5 rfl rfl rfl).trans (show f 5 = .pointer (some ⟨g, 0, none⟩) from hu 5 (by decide))
              exact ph_nil _ rfl rfl _ e42 (hK _ _ (gb_rr V _) rfl)
            | 7, hin, ho, hu, hK =>
              cases ho
              have hw : GHv V g (q.1, q.2 ++ [x]) (nk + 1) (.slice (some ⟨g4, 0, none⟩) 64 cap4) := HAPP.out.gb hg
              have e43 : A.eval (.tmp 43) = .pointer (some ⟨g, 0, none⟩) := (ev_in hA 43 6 rfl rfl rfl).trans (show f 6 = .pointer (some ⟨g, 0, none⟩) from hu 6 (by decide))
              exact ph_field _ _ _ rfl rfl _ (.pointer (some ⟨g, 9, none⟩)) e43 (by kernel_rfl) (hK _ _ (gb_rr V _) rfl)
            | 8, hin, ho, hu, hK =>
              cases ho
              have hw : GHv V g (q.1, q.2 ++ [x]) (nk + 1) (.slice (some ⟨g4, 0, none⟩) 64 cap4) := HAPP.out.gb hg
              have e44 : A.eval (.tmp 44) = .pointer (some ⟨g, 9, none⟩) := (ev_in hA 44 7 rfl rfl rfl).trans (show f 7 = .pointer (some ⟨g, 9, none⟩) from hu 7 (by decide))
              have hc : V.cell? ⟨g, 9, none⟩ = some (.slice (some ⟨g4, 0, none⟩) 64 cap4) := hw.1.cell 9
              refine ph_sem rfl rfl (r := .ok (.value (.slice (some ⟨g4, 0, none⟩) 64 cap4)) V) ?_ (hK _ _ (gb_rr V _) rfl)
              have eC : ∀ c, A.eval (.const c) = c := fun _ => rfl; have eF : ∀ g, A.eval (.func g) = .func (.func g) #[] #[] := fun _ => rfl; generalize A.eval = ρ at *
              clear hA hu hg
              go_simp
            | 9, hin, ho, hu, hK =>
              cases ho
              have hw : GHv V g (q.1, q.2 ++ [x]) (nk + 1) (.slice (some ⟨g4, 0, none⟩) 64 cap4) := HAPP.out.gb hg
              have e41 : A.eval (.tmp 41) = .agg #[.int .u32 (W q.1.a), .int .u32 (W q.1.b), .int .u32 (W q.1.c), .int .u32 (W q.1.d), .int .u32 (W q.1.e), .int .u32 (W q.1.f), .int .u32 (W q.1.g), .int .u32 (W q.1.h)] := (ev_in hA 41 4 rfl rfl rfl).trans (show f 4 = .agg #[.int .u32 (W q.1.a), .int .u32 (W q.1.b), .int .u32 (W q.1.c), .int .u32 (W q.1.d), .int .u32 (W q.1.e), .int .u32 (W q.1.f), .int .u32 (W q.1.g), .int .u32 (W q.1.h)] from hu 4 (by decide))
              have e45 : A.eval (.tmp 45) = .slice (some ⟨g4, 0, none⟩) 64 cap4 := (ev_in hA 45 8 rfl rfl rfl).trans (show f 8 = .slice (some ⟨g4, 0, none⟩) 64 cap4 from hu 8 (by decide))
              refine ph_fn 48 _ _ rfl rfl #[.agg #[.int .u32 (W q.1.a), .int .u32 (W q.1.b), .int .u32 (W q.1.c), .int .u32 (W q.1.d), .int .u32 (W q.1.e), .int .u32 (W q.1.f), .int .u32 (W q.1.g), .int .u32 (W q.1.h)], .slice (some ⟨g4, 0, none⟩) 64 cap4] (by simp [e41, e45]) (by kernel_rfl) ?_
              refine (Calls.mono (HBk.out V hw) ?_)
              rintro e V' ⟨rfl, hq⟩
              exact ⟨_, rfl, hK _ _ hq rfl⟩
            | 10, hin, ho, hu, hK =>
              cases ho
              have hw : GHv V g (q.1, q.2 ++ [x]) (nk + 1) (.slice (some ⟨g4, 0, none⟩) 64 cap4) := HAPP.out.gb hg
              have e37 : A.eval (.tmp 37) = .pointer (some ⟨g, 0, none⟩) := (ev_in hA 37 0 rfl rfl rfl).trans (show f 0 = .pointer (some ⟨g, 0, none⟩) from hu 0 (by decide))
              exact ph_nil _ rfl rfl _ e37 (hK _ _ (gb_rr V _) rfl)
            | 11, hin, ho, hu, hK =>
              cases ho
              have hw : GHv V g (q.1, q.2 ++ [x]) (nk + 1) (.slice (some ⟨g4, 0, none⟩) 64 cap4) := HAPP.out.gb hg
              have e47 : A.eval (.tmp 47) = .pointer (some ⟨g, 0, none⟩) := (ev_in hA 47 10 rfl rfl rfl).trans (show f 10 = .pointer (some ⟨g, 0, none⟩) from hu 10 (by decide))
              exact ph_field _ _ _ rfl rfl _ (.pointer (some ⟨g, 0, none⟩)) e47 (by kernel_rfl) (hK _ _ (gb_rr V _) rfl)
            | i + 12, hin, ho, hu, hK => omega
          case last =>
            intro f V A hA hg hu o ho K hK
            cases ho
            have hw : GHv V g (q.1, q.2 ++ [x]) (nk + 1) (.slice (some ⟨g4, 0, none⟩) 64 cap4) := HAPP.out.gb hg
            obtain ⟨V9, h1, h2, h3⟩ := gh_put hw.1 S'
            have e46 : A.eval (.tmp 46) = .agg (wds S'.words) := (ev_in hA 46 9 rfl rfl rfl).trans (show f 9 = .agg (wds S'.words) from hu 9 (by decide))
            have e48 : A.eval (.tmp 48) = .pointer (some ⟨g, 0, none⟩) := (ev_in hA 48 11 rfl rfl rfl).trans (show f 11 = .pointer (some ⟨g, 0, none⟩) from hu 11 (by decide))
            refine ph_store 72 _ _ rfl rfl ⟨g, 0, none⟩ (.agg (wds S'.words)) e48 e46 V9 h1 (hK _ _ ?_)
            show _
            have H9 : Hid (Bk 94 V9 g (hcs S' (nk + 1) (.slice (some ⟨g4, 0, none⟩) 64 cap4)) ∧ Below g w V9) := ⟨h2, ((HBW.out.grown hg (Nat.le_of_lt (lt_of_block HAPP.out.1)) (fun k hk => by cases hk)).grown h3 (Nat.le_of_lt (lt_of_block hw.1)) (fun k hk => by cases hk; exact Nat.le_refl _))⟩
            clear h1 h2 h3 e46 e48 hg hw
            have hA2 := hA.trans (putAll_lit [(.pointer (some ⟨g, 0, none⟩)), (.pointer (some ⟨g, 0, none⟩)), (.pointer (some ⟨g, 0, none⟩)), (.pointer (some ⟨g, 0, none⟩)), (.agg #[.int .u32 (W q.1.a), .int .u32 (W q.1.b), .int .u32 (W q.1.c), .int .u32 (W q.1.d), .int .u32 (W q.1.e), .int .u32 (W q.1.f), .int .u32 (W q.1.g), .int .u32 (W q.1.h)]), (.pointer (some ⟨g, 0, none⟩)), (.pointer (some ⟨g, 0, none⟩)), (.pointer (some ⟨g, 9, none⟩)), (.slice (some ⟨g4, 0, none⟩) 64 cap4), (.agg (wds S'.words)), (.pointer (some ⟨g, 0, none⟩)), (.pointer (some ⟨g, 0, none⟩)), (f 12)] (by
              intro j hj
              match j, hj with
              | 0, _ => exact hu 0 (by decide)
              | 1, _ => exact hu 1 (by decide)
              | 2, _ => exact hu 2 (by decide)
              | 3, _ => exact hu 3 (by decide)
              | 4, _ => exact hu 4 (by decide)
              | 5, _ => exact hu 5 (by decide)
              | 6, _ => exact hu 6 (by decide)
              | 7, _ => exact hu 7 (by decide)
              | 8, _ => exact hu 8 (by decide)
              | 9, _ => exact hu 9 (by decide)
              | 10, _ => exact hu 10 (by decide)
              | 11, _ => exact hu 11 (by decide)
              | 12, _ => rfl
              | j + 13, hj => exact absurd hj (by simp)))
            clear hu hA
            subst hA2
            simp only [putAll, putL, List.mem_cons, List.not_mem_nil, List.idxOf_cons, Nat.reduceEqDiff, Nat.reduceBEq, Nat.reduceAdd, or_false, or_true, reduceIte, cond_true, cond_false, List.getD_cons_zero, List.getD_cons_succ, BEq.rfl]
            have k9 : V9.cell? ⟨g, 9, none⟩ = some (.slice (some ⟨g4, 0, none⟩) 64 cap4) := H9.out.1.cell 9
            have y9 : V9.frozen? ⟨g, 9, none⟩ = false := frozen_of_row _ _ _ _ _ H9.out.1
            have H10 : Hid (GHv (V9.setCell ⟨g, 9, none⟩ (.slice none 0 0)) g (S', []) (nk + 1) (.slice none 0 0) ∧ Below g w (V9.setCell ⟨g, 9, none⟩ (.slice none 0 0))) := ⟨⟨H9.out.1.set 9 (.slice none 0 0), own_nil _ _⟩, H9.out.2.grown (gb_cell _ _ _ _) (Nat.le_of_lt (lt_of_block H9.out.1)) (fun k hk => by cases hk; exact Nat.le_refl _)⟩
            go_wp2
            generalize World.setCell V9 _ _ = V10 at H10 ⊢
            go_roundw
            case rel =>
              refine ⟨k + 1, by omega, by go_num, ⟨.slice none 0 0, ?_⟩, H10.out.2⟩
              rw [HT.out, HSB.out, HSS.out, show ((n + (k + 1) : Nat) : Int) = nk + 1 from by have := HNK.out; omega]
              exact H10.out.1
            case measure => simp [intOf]; omega
        · have e63 : ¬ ((m : Int) + 1 = 64) := by omega
          go_wp2
          go_roundw
          case rel =>
            refine ⟨k + 1, by omega, by go_num, ⟨.slice (some ⟨g4, 0, none⟩) (m + 1) cap4, ?_⟩, HBW.out⟩
            rw [HT.out, show sbyte q x = (q.1, q.2 ++ [x]) from if_neg (by rw [← HM.out]; exact h63), show ((n + (k + 1) : Nat) : Int) = nk + 1 from by have := HNK.out; omega]
            exact HAPP.out
          case measure => simp [intOf]; omega
    · obtain rfl : k = len := by omega
      go_wp2
      refine bodyPost_end (results_none rfl _ _ _) rfl ?_
      rw [List.take_of_length_le (by rw [HXL.out]; exact Nat.le_refl _)] at hr
      exact ⟨rfl, hr.out.1, hr.out.2⟩
end Go.Proofs.Ythbnbomdngecmaa

/-
  What is done with a disk, as plain data: what a Sync and acts that are none leave. No condition of its own.
-/
import Derived.Test.YteoohgjoffpmkaaKSy
namespace Go.Proofs.Yteoohgjoffpmkaa
open Go.RowKit
set_option linter.unusedVariables false

theorem act_plain {D : Dk} {o : Dop} (hf : o.few) (h0 : D.fail = 0) : (o.r D).2.last = D.last ∧ (o.r D).2.down = D.down ∧ (o.r D).2.fail = 0 ∧ (o.r D).2.room = D.room := by
  have hb : ∀ need, (bgD D need).last = D.last ∧ (bgD D need).down = D.down ∧ (bgD D need).fail = 0 ∧ (bgD D need).room = D.room := fun need => by
    unfold bgD
    split
    · exact ⟨rfl, rfl, h0, rfl⟩
    · exact ⟨rfl, rfl, by show D.fail - 1 = 0; omega, rfl⟩
  rcases acR_cases D o with ⟨e, q⟩ | ⟨e, need, q⟩ | ⟨need, p, f, q, _⟩ | ⟨hn, _⟩
  · rw [q]; exact ⟨rfl, rfl, h0, rfl⟩
  · rw [q]; exact hb need
  · rw [q]; exact hb need
  · exact absurd ⟨hf.2.1, hf.2.2.1⟩ hn
theorem opT_few {D D' : Dk} {o : Dop} (hf : o.few) (h : OpT D o D') : D' = (o.r D).2 := by
  unfold OpT at h
  rwa [if_pos ⟨hf.2.1, by have := hf.2.2.1; omega⟩] at h
theorem play_plain {D D' : Dk} {Y : List Dop} (hf : ∀ o ∈ Y, o.few) (h0 : D.fail = 0) (h : PlR D Y D') : D'.last = D.last ∧ D'.down = D.down ∧ D'.fail = 0 ∧ D'.room = D.room := by
  induction Y generalizing D with
  | nil =>
    obtain rfl : D' = D := h
    exact ⟨rfl, rfl, h0, rfl⟩
  | cons o Y ih =>
    obtain ⟨D1, h1, h2⟩ := h
    have e := opT_few (hf o (List.mem_cons_self ..)) h1
    obtain ⟨q1, q2, q3, q4⟩ := act_plain (hf o (List.mem_cons_self ..)) h0
    rw [← e] at q1 q2 q3 q4
    obtain ⟨r1, r2, r3, r4⟩ := ih (fun p hp => hf p (List.mem_cons_of_mem _ hp)) q3 h2
    exact ⟨r1.trans q1, r2.trans q2, r3, r4.trans q4⟩
theorem sync_plain {D : Dk} (hd : D.down = false) (h0 : D.fail = 0) : syR D = (0, { D with acts := D.acts + 1, last := D.seen, steps := [] }) := by
  have h1 : rdE D [] = 0 := by simp [rdE, hd]
  have h2 : bgE D 0 = 0 := by
    unfold bgE
    rw [if_neg (by omega), if_neg (by omega)]
  have h3 : bgD D 0 = { D with acts := D.acts + 1, fail := D.fail - 1 } := by
    unfold bgD
    rw [if_neg (by omega)]
  unfold syR
  rw [h1, h2, if_neg (by simp), if_neg (by simp), h3]
  simp only [Prod.mk.injEq, Dk.mk.injEq, true_and, and_true]
  omega
theorem crash_plain {D D' : Dk} {keep : Int} (hd : D.down = false) (h : OpT D ⟨0, .empty, .empty, .empty, 0, 8, keep⟩ D') : D'.seen = sfirst D.last D.steps keep.toNat ∧ D'.steps = [] ∧ D'.fail = 0 ∧ D'.down = true := by
  unfold OpT at h
  rw [if_neg (by simp), if_neg (by simp), if_pos rfl] at h
  obtain ⟨_, h1, _, h2, _, h3, h4⟩ := h.2 hd
  exact ⟨h1, h2, h3, h4⟩
theorem left_none (F : ByteArray → Option (List Int)) (k : Nat) : sfirst F [] k = F := rfl
theorem left_all {D : Dk} (h : Dok D) (k : Nat) (hk : scnts D.steps ≤ k) : sfirst D.last D.steps k = D.seen := by
  rw [sfirst_all _ _ _ hk (soks_cnt h.ok), ← h.se]
theorem left_zero {D : Dk} : sfirst D.last D.steps 0 = D.last := sfirst_zero _ _
theorem dops_sm {w : World} {a : Option Addr} {n : Nat} {X : List Dop} (h : DOps w a n X) (hw : dopsW X ≤ 1048576) : (∀ o ∈ X, o.sm) ∧ n ≤ 1048576 := by
  refine ⟨fun o ho => ⟨h.2.1 o ho, ?_⟩, ?_⟩
  · have := dopsW_mem ho
    unfold Dop.weight at this
    omega
  · have := dopsW_len X
    rw [h.1] at this
    omega
end Go.Proofs.Yteoohgjoffpmkaa

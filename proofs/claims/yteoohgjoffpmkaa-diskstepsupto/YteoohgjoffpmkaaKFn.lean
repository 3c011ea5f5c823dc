/-
  What disk's find and begin answer. Condition: the numbers are below 2^62.
-/
import Derived.Test.YteoohgjoffpmkaaKDm
import Derived.Test.YteoohgjoffpmkaaKNa
namespace Go.Proofs.Yteoohgjoffpmkaa
open Go.RowKit
set_option linter.unusedVariables false

theorem txs_one (w : World) (n : ByteArray) : Txs (w.alloc (.cells #[.string n] 9)) w.heap.size [n] := fun i s hs => by
  match i, hs with
  | 0, hs => cases hs; exact Bk.cell (blk_new w 9 #[.string n]).1 0
  | i + 1, hs => simp at hs
/-- What disk's find answers. -/
def FindA (w : World) (V : ByteArray → Option Value) (D : Dk) (n : ByteArray) (r : Ending) (w' : World) : Prop :=
  Below w.heap.size w w' ∧ ((rdE D [n] ≠ 0 ∧ r = .returned (.tuple #[.slice none 0 0, .int .i64 (rdE D [n])])) ∨ (rdE D [n] = 0 ∧ D.seen n = none ∧ r = .returned (.tuple #[.slice none 0 0, .int .i64 121])) ∨ (rdE D [n] = 0 ∧ ∃ v, V n = some v ∧ r = .returned (.tuple #[v, .int .i64 0])))
set_option maxHeartbeats 1000000 in
theorem findA_c {g s l st V U vs Os Ol Od D} (n : ByteArray) (w : World) (h : DkI w g s l st V U vs Os Ol Od D) (hl : n.size ≤ 140737488355328) :
    Calls Try.prog 65 #[.pointer (some ⟨g, 0, none⟩), .string n] w (FindA w V D n) := by
  obtain ⟨W1, hW1⟩ : ∃ W1, W1 = w.alloc (.cells #[.string n] 9) := ⟨_, rfl⟩
  have b1 : Below w.heap.size w W1 := by rw [hW1]; exact (Below.refl _ _).alloc (Nat.le_refl _) _
  have z1 : W1.heap.size = w.heap.size + 1 := by rw [hW1]; exact World.size_alloc _ _
  have h1 := h.below b1
  have HR : Hid (Calls Try.prog 54 #[.pointer (some ⟨g, 0, none⟩), .slice (some ⟨w.heap.size, 0, none⟩) 1 1] W1 fun r w' => r = .returned (.int .i64 (rdE D [n])) ∧ Below W1.heap.size W1 w') :=
    readyA_c g w.heap.size 1 1 _ _ s l st _ _ _ _ [n] W1 h1.bk (by rw [hW1]; exact txs_one w n) rfl (by omega) (by omega) (by intro q hq; rcases List.mem_singleton.1 hq with rfl; exact hl)
  have HB : Hid (∀ w2, Below W1.heap.size W1 w2 → Below w.heap.size w w2 ∧ DkI w2 g s l st V U vs Os Ol Od D) := fun w2 hb => ⟨b1.trans ⟨hb.os, hb.tape, hb.output, hb.size, fun j hj => hb.block j (by omega)⟩, h1.below hb⟩
  clear h h1 b1 z1 hl
  rw [hW1] at HR
  by_cases he : rdE D [n] = 0
  · have HE : Hid (rdE D [n] = 0) := he
    rw [he] at HR
    clear he
    cases hs : D.seen n with
    | none =>
      have HN : Hid (D.seen n = none) := hs
      clear hs
      go_enter Try.func65, Try.ntmps65
      go_wp2_with (first
        | (go_at_call 54; go_must (refine (Calls.mono HR.out ?_)); rintro r x1 ⟨rfl, k1⟩; rw [← hW1] at k1; have H1 : Hid (Below w.heap.size w x1 ∧ DkI x1 g s l st V U vs Os Ol Od D) := HB.out x1 k1; have c2 : x1.cell? ⟨g, 2, none⟩ = some (.map (some s)) := Bk.cell H1.out.2.bk 2; clear k1 hW1)
        | (go_at_call 37; go_must (refine (Calls.mono (haveA_c s V D.seen n _ H1.out.2.seen) ?_)); rintro r wq ⟨rfl, hq⟩; obtain rfl := hq.symm; clear hq; rw [HN.out]))
      go_ret2
      exact ⟨H1.out.1, .inr (.inl ⟨HE.out, HN.out, rfl⟩)⟩
    | some xs =>
      have HN : Hid (D.seen n = some xs) := hs
      clear hs
      go_enter Try.func65, Try.ntmps65
      go_wp2_with (first
        | (go_at_call 54; go_must (refine (Calls.mono HR.out ?_)); rintro r x1 ⟨rfl, k1⟩; rw [← hW1] at k1; have H1 : Hid (Below w.heap.size w x1 ∧ DkI x1 g s l st V U vs Os Ol Od D) := HB.out x1 k1; have c2 : x1.cell? ⟨g, 2, none⟩ = some (.map (some s)) := Bk.cell H1.out.2.bk 2; obtain ⟨v, hv, _, _⟩ := H1.out.2.seen.value HN.out; have HV : Hid (V n = some v) := hv; have hlk := mps_look Try.underlying76 Try.underlying9 H1.out.2.seen.mp (.slice none 0 0) (hz_u8s x1) n false; rw [hv] at hlk; simp only [Bool.false_eq_true, if_false, Option.getD_some] at hlk; clear k1 hW1 hv)
        | (go_at_call 37; go_must (refine (Calls.mono (haveA_c s V D.seen n _ H1.out.2.seen) ?_)); rintro r wq ⟨rfl, hq⟩; obtain rfl := hq.symm; clear hq; rw [HN.out]))
      go_ret2
      exact ⟨H1.out.1, .inr (.inr ⟨HE.out, v, HV.out, rfl⟩)⟩
  · have HE : Hid (rdE D [n] ≠ 0) := he
    generalize hgE : rdE D [n] = E at HR he
    have HG : Hid (rdE D [n] = E) := hgE
    clear hgE
    have hb : (E == 0) = false := by simpa using he
    clear he
    go_enter Try.func65, Try.ntmps65
    go_wp2_with (go_at_call 54; go_must (refine (Calls.mono HR.out ?_)); rintro r x1 ⟨rfl, k1⟩; rw [← hW1] at k1; have H1 : Hid (Below w.heap.size w x1 ∧ DkI x1 g s l st V U vs Os Ol Od D) := HB.out x1 k1; clear k1 hW1)
    go_ret2
    exact ⟨H1.out.1, .inl ⟨HE.out, by rw [HG.out]; simp⟩⟩
/-- What disk's begin leaves of the numbers. -/
def bgE (D : Dk) (need : Int) : Int := if (D.free : Int) < need then 123 else if D.fail = 1 then 124 else 0
def bgD (D : Dk) (need : Int) : Dk := if (D.free : Int) < need then D else { D with acts := D.acts + 1, fail := D.fail - 1 }
theorem beginA_c {g s l st V U vs Os Ol Od D} (need : Int) (w : World) (h : DkI w g s l st V U vs Os Ol Od D) (ha : D.acts ≤ 1152921504606846976) (hf : D.fail ≤ 9223372036854775807) :
    Calls Try.prog 55 #[.pointer (some ⟨g, 0, none⟩), .int .i64 need] w fun r w' => r = .returned (.int .i64 (bgE D need)) ∧ DkI w' g s l st V U vs Os Ol Od (bgD D need) ∧ Gr (fun k => k = g) w w' ∧ w'.heap.size = w.heap.size := by
  have c1 : w.cell? ⟨g, 1, none⟩ = some (.int .i64 (D.free : Int)) := Bk.cell h.bk 1
  by_cases h1 : (D.free : Int) < need
  · have HE : Hid (bgE D need = 123 ∧ bgD D need = D) := by show _ ∧ _; simp [bgE, bgD, h1]
    have HD : Hid (DkI w g s l st V U vs Os Ol Od D) := h
    clear h ha hf
    go_enter Try.func55, Try.ntmps55
    go_wp2
    go_ret
    exact ⟨by rw [HE.out.1]; simp, by rw [HE.out.2]; exact HD.out, Gr.refl _ _, rfl⟩
  have c6 : w.cell? ⟨g, 6, none⟩ = some (.int .i64 (D.acts : Int)) := Bk.cell h.bk 6
  have f6 : w.frozen? ⟨g, 6, none⟩ = false := frozen_of_row w g 6 _ _ h.bk
  obtain ⟨A, hA⟩ : ∃ A, A = (D.acts : Int) + 1 := ⟨_, rfl⟩
  have hw : wrap64 ((D.acts : Int) + 1) = A := by rw [hA]; exact IntWalk.wrap64_in _ ⟨by omega, by omega⟩
  have hw2 : IntKind.i64.wrap ((D.acts : Int) + 1) = A := by rw [hA]; exact IntWalk.i64_in _ ⟨by omega, by omega⟩
  have H1 : Hid (Bk 83 (w.setCell ⟨g, 6, none⟩ (.int .i64 A)) g (dcells D.room D.free (some s) (some l) st (scnts D.steps) A D.fail D.down) ∧ Gr (fun k => k = g) w (w.setCell ⟨g, 6, none⟩ (.int .i64 A)) ∧ (w.setCell ⟨g, 6, none⟩ (.int .i64 A)).heap.size = w.heap.size) := ⟨bk_setK h.bk 6 _, ((Gr.refl (fun k => k = g) w).set g 6 rfl _), by simp [World.setCell]⟩
  have HA : Hid (A = (D.acts : Int) + 1) := hA
  have HK : Hid (∀ w' D', Bk 83 w' g (dcells D'.room D'.free (some s) (some l) st (scnts D'.steps) D'.acts D'.fail D'.down) → D'.seen = D.seen → D'.last = D.last → D'.steps = D.steps → Gr (fun k => k = g) w w' → DkI w' g s l st V U vs Os Ol Od D') := by
    show ∀ w' D', _
    intro w' D' k1 k2 k3 k4 k5
    exact ⟨k1, k2 ▸ h.seen.gr k5 (fun k hk => (h.hs k hk).2.1), k3 ▸ h.last.gr k5 (fun k hk => (h.hl k hk).2.1), k4 ▸ own_gr h.row k5 (fun b hb e => h.hg (by rw [hb, e])), k4 ▸ h.stl.gr k5 (fun k hk => (h.hd k hk).2.1), fun k hk => ⟨Nat.lt_of_lt_of_le (h.hs k hk).1 k5.size, (h.hs k hk).2⟩, fun k hk => ⟨Nat.lt_of_lt_of_le (h.hl k hk).1 k5.size, (h.hl k hk).2⟩, fun k hk => ⟨Nat.lt_of_lt_of_le (h.hd k hk).1 k5.size, (h.hd k hk).2⟩, h.hg⟩
  have c7 : (w.setCell ⟨g, 6, none⟩ (.int .i64 A)).cell? ⟨g, 7, none⟩ = some (.int .i64 (D.fail : Int)) := Bk.cell H1.out.1 7
  clear hA
  by_cases h0 : D.fail = 0
  · have HE : Hid (bgE D need = 0 ∧ bgD D need = { D with acts := D.acts + 1, fail := 0 }) := by show _ ∧ _; simp [bgE, bgD, h1, h0]
    have c7' : (w.setCell ⟨g, 6, none⟩ (.int .i64 A)).cell? ⟨g, 7, none⟩ = some (.int .i64 0) := by rw [c7, h0]; rfl
    have H0 : Hid (D.fail = 0) := h0
    clear ha hf h c7 h0
    go_enter Try.func55, Try.ntmps55
    go_wp2
    go_ret
    refine ⟨by rw [HE.out.1]; simp, ?_, H1.out.2.1, H1.out.2.2⟩
    rw [HE.out.2]
    refine HK.out _ _ ?_ rfl rfl rfl H1.out.2.1
    have := H1.out.1
    rw [HA.out, H0.out] at this
    rw [HA.out]
    exact this
  · have f7 : (w.setCell ⟨g, 6, none⟩ (.int .i64 A)).frozen? ⟨g, 7, none⟩ = false := frozen_of_row _ g 7 _ _ H1.out.1
    have e7 : ((D.fail : Int) == 0) = false := by simpa using h0
    obtain ⟨B, hB⟩ : ∃ B : Int, B = (D.fail : Int) - 1 := ⟨_, rfl⟩
    have hw3 : wrap64 ((D.fail : Int) - 1) = B := by rw [hB]; exact IntWalk.wrap64_in _ ⟨by omega, by omega⟩
    have hw4 : IntKind.i64.wrap ((D.fail : Int) - 1) = B := by rw [hB]; exact IntWalk.i64_in _ ⟨by omega, by omega⟩
    have H2 : Hid (Bk 83 ((w.setCell ⟨g, 6, none⟩ (.int .i64 A)).setCell ⟨g, 7, none⟩ (.int .i64 B)) g (dcells D.room D.free (some s) (some l) st (scnts D.steps) A B D.down) ∧ Gr (fun k => k = g) w ((w.setCell ⟨g, 6, none⟩ (.int .i64 A)).setCell ⟨g, 7, none⟩ (.int .i64 B)) ∧ ((w.setCell ⟨g, 6, none⟩ (.int .i64 A)).setCell ⟨g, 7, none⟩ (.int .i64 B)).heap.size = w.heap.size) := ⟨bk_setK H1.out.1 7 _, H1.out.2.1.set g 7 rfl _, by simp [World.setCell]⟩
    have d7 : ((w.setCell ⟨g, 6, none⟩ (.int .i64 A)).setCell ⟨g, 7, none⟩ (.int .i64 B)).cell? ⟨g, 7, none⟩ = some (.int .i64 B) := Bk.cell H2.out.1 7
    have HB : Hid (B = (D.fail : Int) - 1) := hB
    by_cases h2 : D.fail = 1
    · have HE : Hid (bgE D need = 124 ∧ bgD D need = { D with acts := D.acts + 1, fail := 0 }) := by show _ ∧ _; simp [bgE, bgD, h1, h2]
      have hB0 : B = 0 := by rw [hB, h2]; rfl
      have c7' : (w.setCell ⟨g, 6, none⟩ (.int .i64 A)).cell? ⟨g, 7, none⟩ = some (.int .i64 1) := by rw [c7, h2]; rfl
      clear hB ha hf h c7 e7 hw3 hw4 HB h2 h0
      subst hB0
      go_enter Try.func55, Try.ntmps55
      go_wp2
      go_ret
      refine ⟨by rw [HE.out.1]; simp, ?_, H2.out.2.1, H2.out.2.2⟩
      rw [HE.out.2]
      refine HK.out _ _ ?_ rfl rfl rfl H2.out.2.1
      have := H2.out.1
      rw [HA.out] at this
      rw [HA.out]
      exact this
    · have HE : Hid (bgE D need = 0 ∧ bgD D need = { D with acts := D.acts + 1, fail := D.fail - 1 }) := by show _ ∧ _; simp [bgE, bgD, h1, h2]
      have e8 : (B == 0) = false := by rw [hB]; simp; omega
      have HF : Hid (B = ((D.fail - 1 : Nat) : Int)) := by show _ = _; omega
      clear hB ha hf h h2 h0
      generalize (D.fail : Int) = fl at c7 e7 hw3 hw4
      go_enter Try.func55, Try.ntmps55
      go_wp2
      go_ret
      refine ⟨by rw [HE.out.1]; simp, ?_, H2.out.2.1, H2.out.2.2⟩
      rw [HE.out.2]
      refine HK.out _ _ ?_ rfl rfl rfl H2.out.2.1
      have := H2.out.1
      rw [HA.out, HF.out] at this
      rw [HA.out, HF.out]
      exact this
end Go.Proofs.Yteoohgjoffpmkaa

/-
  What delta's Decode answers of bytes: the update that they are, or ErrDeltaForm: what takeUpdate gives up by panic is caught. Condition: at most 2^47 bytes.
-/
import Derived.Test.YtfbbaodhlniiiaaDDe
import Derived.Test.YtfbbaodhlniiiaaDTs
namespace Go.Proofs.Ytfbbaodhlniiiaa.Dl
open Go.RowKit
set_option linter.unusedVariables false

/-- No update. -/
def noUpd : Array Value := #[.int .i64 0, .int .i64 0, .int .i64 0, .int .i64 0, .string { data := #[] }, .string { data := #[] }, .int .i64 0]
theorem infoErr : (Try.prog.info? 29).map (·.size) = some 1 := by kernel_rfl
/-- Two variables were laid anew, nothing else below. -/
def Laid (B p q : Nat) (cs : Array Value) (e : Int) (w w' : World) : Prop := Bk 27 w' p cs ∧ Bk 29 w' q #[.int .i64 e] ∧ Below B w w'
theorem lay_two {B p q : Nat} {cs : Array Value} {e0 : Int} {w : World} (h1 : Bk 27 w p cs) (hl : cs.size = 7) (h2 : Bk 29 w q #[.int .i64 e0]) (hp : B ≤ p) (hq : B ≤ q) (hpq : p ≠ q) (hB : B ≤ w.heap.size) (es : Array Value) (hes : es.size = 7) (hone : es.all (·.oneCell') = true) (e : Int) :
    ∃ W1, (storeVar 27 ⟨p, 0, none⟩ (.agg es)).run Try.prog w = .ok () W1 ∧ W1.cell? ⟨q, 0, none⟩ = some (.int .i64 e0) ∧ W1.frozen? ⟨q, 0, none⟩ = false ∧ Laid B p q es e w (W1.setCell ⟨q, 0, none⟩ (.int .i64 e)) := by
  obtain ⟨W1, s1, s2, s3⟩ := bk_store (P := Try.prog) infoUpd h1 hl hes hone
  have h3 : Bk 29 W1 q #[.int .i64 e0] := h2.grew s3 (fun z => hpq (Option.some.inj z))
  have hg2 : W1.grownBy (W1.setCell ⟨q, 0, none⟩ (.int .i64 e)) (some q) := grownBy_cell W1 q 0 _
  refine ⟨W1, s1, h3.cell 0, frozen_of_row W1 q 0 _ _ h3, s2.grew hg2 (fun z => hpq (Option.some.inj z).symm), h3.set 0 _, ?_⟩
  have hb1 : Below B w W1 := (Below.refl B w).grown s3 hB (fun k hk => by cases hk; exact hp)
  exact hb1.trans ((Below.refl B W1).grown hg2 (by have := s3.size; omega) (fun k hk => by cases hk; exact hq))
theorem catch_panicking (B p q : Nat) (cs : Array Value) (e0 : Int) (u : TypeId) (pv : Value) (older : List PanicEntry) (w : World) (h1 : Bk 27 w p cs) (hl : cs.size = 7) (h2 : Bk 29 w q #[.int .i64 e0]) (hp : B ≤ p) (hq : B ≤ q) (hpq : p ≠ q) (hB : B ≤ w.heap.size) :
    CallsD Try.prog 57 #[.pointer (some ⟨p, 0, none⟩), .pointer (some ⟨q, 0, none⟩)] (.panicking ({ v := .iface u pv, recovered := false } :: older)) w fun e u' w' =>
      e = .returned (.tuple #[]) ∧ u' = .panicking ({ v := .iface u pv, recovered := true } :: older) ∧ Laid B p q noUpd 86 w w' := by
  have HB : Hid (Bk 29 w q #[.int .i64 e0] ∧ p ≠ q ∧ B ≤ p ∧ B ≤ q ∧ B ≤ w.heap.size) := ⟨h2, hpq, hp, hq, hB⟩
  have H1 : Hid (Bk 27 w p cs) := h1
  have hone : noUpd.all (·.oneCell') = true := by simp [noUpd, Value.oneCell']
  refine callsD_of_wpS Try.func57 rfl fun c₀ cs hu => ?_
  apply wpS_seq
  apply wpS_region
  simp [wpOpsS, go_sem, recoverD, hu, Try.ntmps57, Exit.thenS]
  refine wpS_cond (t := true) (by simp [Act.eval, Array.replicate]) ?_
  simp only [if_true]
  refine wpS_of_wp ?_
  clear h1 h2 hp hq hpq hB
  go_wp2_with (refine wpList_store_bk 27 rfl (.tmp 0) (.tmp 4) rfl infoUpd p _ noUpd rfl rfl H1.out hl rfl hone ?_; intro W1 k1 k2; have H2 : Hid (Bk 27 W1 p noUpd ∧ w.grownBy W1 (some p)) := ⟨k1, k2⟩; have k3 : Bk 29 W1 q #[.int .i64 e0] := HB.out.1.grew k2 (fun z => HB.out.2.1 (Option.some.inj z)); have H3 : Hid (Bk 29 W1 q #[.int .i64 e0]) := k3; have cq : W1.cell? ⟨q, 0, none⟩ = some (.int .i64 e0) := k3.cell 0; have fq : W1.frozen? ⟨q, 0, none⟩ = false := frozen_of_row W1 q 0 _ _ k3; clear k1 k2 k3)
  have hg2 : W1.grownBy (W1.setCell ⟨q, 0, none⟩ (.int .i64 86)) (some q) := grownBy_cell W1 q 0 _
  have H4 : Laid B p q noUpd 86 w (W1.setCell ⟨q, 0, none⟩ (.int .i64 86)) := by
    refine ⟨H2.out.1.grew hg2 (fun z => HB.out.2.1 (Option.some.inj z).symm), H3.out.set 0 _, ?_⟩
    have hb1 : Below B w W1 := (Below.refl B w).grown H2.out.2 HB.out.2.2.2.2 (fun k hk => by cases hk; exact HB.out.2.2.1)
    exact hb1.trans ((Below.refl B W1).grown hg2 (by have := H2.out.2.size; have := HB.out.2.2.2.2; omega) (fun k hk => by cases hk; exact HB.out.2.2.2.1))
  simp [bodyPostS, results, Try.results57]
  exact H4
theorem catch_idle (p q : Addr) (w : World) :
    CallsD Try.prog 57 #[.pointer (some p), .pointer (some q)] .returning w fun e u' w' => e = .returned (.tuple #[]) ∧ u' = .returning ∧ w' = w := by
  refine callsD_of_wpS Try.func57 rfl fun c₀ cs hu => ?_
  apply wpS_seq
  apply wpS_region
  simp [wpOpsS, go_sem, recoverD, hu, Try.ntmps57, Exit.thenS]
  refine wpS_cond (t := false) (by simp [Act.eval, Array.replicate]) ?_
  simp only [Bool.false_eq_true, if_false]
  refine wpS_of_wp (wp_skip ?_)
  cases c₀
  simp_all [bodyPostS, results, Try.results57]
/-- What Decode answers. -/
def dres (xs : List Int) : Array Value := if dok xs = true then (dupd xs).cells.toArray else noUpd
def derr (xs : List Int) : Int := if dok xs = true then 0 else 86
theorem take_ok (g : Nat) (a : Option Addr) (len cap : Nat) (xs : List Int) (w : World) (h : RS w g a len cap xs 0 0) (hoff : ∀ b o s, a = some ⟨b, o, s⟩ → b < w.heap.size) (hd : dok xs = true) :
    Calls Try.prog 58 #[.pointer (some ⟨g, 0, none⟩)] w fun r w' => r = .returned (.agg (dupd xs).cells.toArray) ∧ w.grownBy w' (some g) := by
  refine (take_c g a len cap xs w h hoff).mono ?_
  rintro r w' ⟨⟨q1, q2⟩ | ⟨q1, q2⟩, q3⟩
  · exact ⟨q2, q3⟩
  · exact absurd (hd.symm.trans q1) (by decide)
theorem take_no (g : Nat) (a : Option Addr) (len cap : Nat) (xs : List Int) (w : World) (h : RS w g a len cap xs 0 0) (hoff : ∀ b o s, a = some ⟨b, o, s⟩ → b < w.heap.size) (hd : dok xs = false) :
    Calls Try.prog 58 #[.pointer (some ⟨g, 0, none⟩)] w fun r w' => ∃ e, r = .panicked (chn e) ∧ w.grownBy w' (some g) := by
  refine (take_c g a len cap xs w h hoff).mono ?_
  rintro r w' ⟨⟨q1, q2⟩ | ⟨q1, e, q2⟩, q3⟩
  · exact absurd (hd.symm.trans q1) (by decide)
  · exact ⟨e, q2, q3⟩
theorem cells_one (u : Upd) : u.cells.toArray.all (·.oneCell') = true := by simp [Upd.cells, Value.oneCell']
theorem results_cc {fn : Func} {p q : Tmp} {ty ty2 : TypeId} (h : fn.results = #[.cell p ty, .cell q ty2]) (tmps : Array Value) (P : Program) (w : World) (ad ad2 : Addr) (v v2 : Value)
    (hp : tmps.getD p undef = .pointer (some ad)) (hq : tmps.getD q undef = .pointer (some ad2)) (hl : (loadVar ty ad).run P w = .ok v w) (hl2 : (loadVar ty2 ad2).run P w = .ok v2 w) : (results fn tmps).run P w = .ok (.tuple #[v, v2]) w := by
  have hp' : tmps[p]?.getD undef = .pointer (some ad) := by simpa using hp
  have hq' : tmps[q]?.getD undef = .pointer (some ad2) := by simpa using hq
  simp only [results, h]
  simp [hp', hq', asAddr, hl, hl2]
theorem err_load {w : World} {q : Nat} {e : Int} (h : w.cell? ⟨q, 0, none⟩ = some (.int .i64 e)) : (loadVar 29 ⟨q, 0, none⟩).run Try.prog w = .ok (.int .i64 e) w := by
  simp [go_sem, h]
set_option maxRecDepth 20000 in
set_option maxHeartbeats 2000000 in
theorem decode_c (a : Option Addr) (len cap : Nat) (xs : List Int) (w : World) (h : Seg .u8 w a len xs) (hx : Bytes xs) (hl : len ≤ 140737488355328) (hnz : a = none → cap = 0) :
    Calls Try.prog 30 #[.slice a len cap] w fun r w' => r = .returned (.tuple #[.agg (dres xs), .int .i64 (derr xs)]) ∧ Below w.heap.size w w' := by
  have hmf : ∀ (fn : Fn) (first cap : Array Value) (w : World), (Instr.makeFunc fn first cap).run Try.prog w = .ok (.func fn first cap) w := fun _ _ _ _ => rfl
  have HX : Hid _ := blk_two w 27 29 noUpd #[.int .i64 0]
  unfold noUpd at HX
  have HS : Hid (∀ W, w.grownBy W none → Calls Try.prog 38 #[.slice a len cap] W fun r w' => ∃ g a' cap', r = .returned (.pointer (some ⟨g, 0, none⟩)) ∧ RS w' g a' len cap' xs 0 0 ∧ W.heap.size ≤ g ∧ (∀ b o s, a' = some ⟨b, o, s⟩ → W.heap.size ≤ b ∧ b < w'.heap.size) ∧ W.grownBy w' none) := fun W hg => new_c2 a len cap xs W (h.grew hg (by simp)) hx hl hnz
  clear h hx hl hnz
  cases hd : dok xs with
  | true =>
    have HR : Hid (dres xs = (dupd xs).cells.toArray ∧ derr xs = 0) := ⟨by unfold dres; rw [if_pos hd], by unfold derr; rw [if_pos hd]⟩
    have HD : Hid (dok xs = true) := hd
    obtain ⟨cs, hcs⟩ : ∃ cs, cs = (dupd xs).cells.toArray := ⟨_, rfl⟩
    have HCS : Hid (cs = (dupd xs).cells.toArray ∧ cs.size = 7 ∧ cs.all (·.oneCell') = true) := ⟨hcs, by rw [hcs]; rfl, by rw [hcs]; exact cells_one _⟩
    clear hd hcs
    go_enter_defers Try.func30, Try.ntmps30
    go_wp2_with (first
      | (go_at_call 38; go_must (refine (Calls.mono (HS.out _ HX.out.2.2) ?_)); rintro r w2 ⟨g, a', cap', rfl, h1, h2, h3, h4⟩; have H2 : Hid (RS w2 g a' len cap' xs 0 0 ∧ (∀ b o s, a' = some ⟨b, o, s⟩ → b < w2.heap.size) ∧ Bk 27 w2 w.heap.size noUpd ∧ Bk 29 w2 (w.heap.size + 1) #[.int .i64 0] ∧ w.grownBy w2 none ∧ w.heap.size + 1 < g) := ⟨h1, fun b o s q => (h3 b o s q).2, HX.out.1.grew h4 (by simp), HX.out.2.1.grew h4 (by simp), gb_trans HX.out.2.2 h4, by have := lt_of_block HX.out.2.1; omega⟩; clear h1 h2 h3 h4)
      | (go_at_call 58; go_must (refine (Calls.mono (take_ok g a' len cap' xs _ H2.out.1 H2.out.2.1 HD.out) ?_)); rintro r w3 ⟨rfl, q3⟩; rw [← HCS.out.1]; have H3 : Hid (Bk 27 w3 w.heap.size noUpd ∧ Bk 29 w3 (w.heap.size + 1) #[.int .i64 0] ∧ w.grownBy w3 none) := ⟨H2.out.2.2.1.grew q3 (fun z => by have := Option.some.inj z; have := H2.out.2.2.2.2.2; omega), H2.out.2.2.2.1.grew q3 (fun z => by have := Option.some.inj z; have := H2.out.2.2.2.2.2; omega), gb_newer H2.out.2.2.2.2.1 q3 (by have := H2.out.2.2.2.2.2; omega)⟩; clear q3)
      | (refine wpList_store_bk 27 rfl (.tmp 2) (.tmp 7) rfl infoUpd w.heap.size _ cs rfl rfl H3.out.1 rfl HCS.out.2.1 HCS.out.2.2 ?_; intro w4 k1 k2; have k3 : Bk 29 w4 (w.heap.size + 1) #[.int .i64 0] := H3.out.2.1.grew k2 (fun z => by have := Option.some.inj z; omega); have H4 : Hid (Bk 27 w4 w.heap.size cs ∧ Bk 29 w4 (w.heap.size + 1) #[.int .i64 0] ∧ w.grownBy w4 none) := ⟨k1, k3, gb_newer H3.out.2.2 k2 (Nat.le_refl _)⟩; have cq : w4.cell? ⟨w.heap.size + 1, 0, none⟩ = some (.int .i64 0) := k3.cell 0; have fq : w4.frozen? ⟨w.heap.size + 1, 0, none⟩ = false := frozen_of_row w4 _ 0 _ _ k3; clear k1 k2 k3))
    refine leaves_cons (f := 57) (args := #[.pointer (some ⟨w.heap.size, 0, none⟩), .pointer (some ⟨w.heap.size + 1, 0, none⟩)]) (by simp) (by simp [go_sem]) ?_
    refine (catch_idle ⟨w.heap.size, 0, none⟩ ⟨w.heap.size + 1, 0, none⟩ _).mono ?_
    rintro e u' w'' ⟨rfl, rfl, rfl⟩
    have hg2 : w4.grownBy (w4.setCell ⟨w.heap.size + 1, 0, none⟩ (.int .i64 0)) (some (w.heap.size + 1)) := grownBy_cell w4 _ 0 _
    have b1 := H4.out.1.grew hg2 (fun z => by have := Option.some.inj z; omega)
    have b2 := H4.out.2.1.set 0 (.int .i64 0)
    refine ⟨_, results_cc Try.results30 _ _ _ ⟨w.heap.size, 0, none⟩ ⟨w.heap.size + 1, 0, none⟩ _ _ rfl rfl (bk_load Try.underlying27 rfl infoUpd b1 HCS.out.2.1) (err_load (b2.cell 0)), ?_, gb_below (gb_newer H4.out.2.2 hg2 (by omega))⟩
    rw [HR.out.1, HR.out.2, ← HCS.out.1]
  | false =>
    have HR : Hid (dres xs = noUpd ∧ derr xs = 86) := ⟨by unfold dres; rw [if_neg (by rw [hd]; decide)], by unfold derr; rw [if_neg (by rw [hd]; decide)]⟩
    have HD : Hid (dok xs = false) := hd
    clear hd
    go_enter_defers Try.func30, Try.ntmps30
    go_wp2_with (first
      | (go_at_call 38; go_must (refine (Calls.mono (HS.out _ HX.out.2.2) ?_)); rintro r w2 ⟨g, a', cap', rfl, h1, h2, h3, h4⟩; have H2 : Hid (RS w2 g a' len cap' xs 0 0 ∧ (∀ b o s, a' = some ⟨b, o, s⟩ → b < w2.heap.size) ∧ Bk 27 w2 w.heap.size noUpd ∧ Bk 29 w2 (w.heap.size + 1) #[.int .i64 0] ∧ w.grownBy w2 none ∧ w.heap.size + 1 < g) := ⟨h1, fun b o s q => (h3 b o s q).2, HX.out.1.grew h4 (by simp), HX.out.2.1.grew h4 (by simp), gb_trans HX.out.2.2 h4, by have := lt_of_block HX.out.2.1; omega⟩; clear h1 h2 h3 h4)
      | (go_at_call 58; go_must (refine (Calls.mono (take_no g a' len cap' xs _ H2.out.1 H2.out.2.1 HD.out) ?_)); rintro r w3 ⟨er, rfl, q3⟩; have H3 : Hid (Bk 27 w3 w.heap.size noUpd ∧ Bk 29 w3 (w.heap.size + 1) #[.int .i64 0] ∧ w.grownBy w3 none) := ⟨H2.out.2.2.1.grew q3 (fun z => by have := Option.some.inj z; have := H2.out.2.2.2.2.2; omega), H2.out.2.2.2.1.grew q3 (fun z => by have := Option.some.inj z; have := H2.out.2.2.2.2.2; omega), gb_newer H2.out.2.2.2.2.1 q3 (by have := H2.out.2.2.2.2.2; omega)⟩; clear q3))
    refine leaves_cons (f := 57) (args := #[.pointer (some ⟨w.heap.size, 0, none⟩), .pointer (some ⟨w.heap.size + 1, 0, none⟩)]) (by simp) (by simp [go_sem]) ?_
    refine (catch_panicking w.heap.size w.heap.size (w.heap.size + 1) noUpd 0 _ _ [] _ H3.out.1 rfl H3.out.2.1 (Nat.le_refl _) (by omega) (by omega) H3.out.2.2.size).mono ?_
    rintro e u' w'' ⟨rfl, rfl, h4⟩
    simp only [settle]
    refine ⟨_, results_cc Try.results30 _ _ _ ⟨w.heap.size, 0, none⟩ ⟨w.heap.size + 1, 0, none⟩ _ _ rfl rfl (bk_load Try.underlying27 rfl infoUpd h4.1 rfl) (err_load (h4.2.1.cell 0)), ?_, (gb_below H3.out.2.2).trans h4.2.2⟩
    rw [HR.out.1, HR.out.2]
end Go.Proofs.Ytfbbaodhlniiiaa.Dl

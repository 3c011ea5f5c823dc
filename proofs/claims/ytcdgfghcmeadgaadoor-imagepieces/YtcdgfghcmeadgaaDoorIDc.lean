/-
  What image's Decode answers of bytes: the state that they are, or the error: what takeState gives up by panic is caught. Condition: at most 2^47 bytes; the table of crc lies in memory.
-/
import Derived.Test.YtcdgfghcmeadgaaDoorITs
import Derived.Test.YtcdgfghcmeadgaaDoorFb
import Derived.Defers
import Derived.Recover
namespace Go.Proofs.YtcdgfghcmeadgaaDoor
open Go.RowKit
set_option linter.unusedVariables false

/-- The bytes are the image of a state. -/
def mid (xs : List Int) : List Int := (xs.take (xs.length - 4)).drop 4
def DOk (xs : List Int) (seq : Int) (X : List Rwi) : Prop := xs.length ≤ 268435456 ∧ 10 ≤ xs.length ∧ mk4 xs = true ∧ Cr.holds xs = true ∧ TSok (mid xs) seq X
/-- The error where they are none. -/
def DNo (xs : List Int) (e : Int) : Prop := (268435456 < xs.length ∧ e = 90) ∨ (xs.length ≤ 268435456 ∧ (xs.length < 10 ∨ mk4 xs = false) ∧ e = 92) ∨ (xs.length ≤ 268435456 ∧ 10 ≤ xs.length ∧ mk4 xs = true ∧ Cr.holds xs = false ∧ e = 93) ∨
  (xs.length ≤ 268435456 ∧ 10 ≤ xs.length ∧ mk4 xs = true ∧ Cr.holds xs = true ∧ (∀ s Y, ¬ TSok (mid xs) s Y) ∧ e = 92)
def noSt : Array Value := #[.int .i64 0, .slice none 0 0]
theorem infoErrI : (Tryd.prog.info? 30).map (·.size) = some 1 := by kernel_rfl
/-- Two variables were laid anew, nothing else below. -/
def LaidI (B p q : Nat) (cs : Array Value) (e : Int) (w w' : World) : Prop := Bk 24 w' p cs ∧ Bk 30 w' q #[.int .i64 e] ∧ Below B w w'
theorem Rws.grew {w w' : World} {a : Option Addr} {n : Nat} {X : List Rwi} {q : Nat} (h : Rws w a n X) (hg : w.grownBy w' (some q)) (hn : ∀ o s, a ≠ some ⟨q, o, s⟩) : Rws w' a n X := by
  refine ⟨h.1, ?_⟩
  rcases h.2 with h0 | ⟨b, off, ha, hlt, hc⟩
  · exact .inl h0
  · have hb : w'.heap[b]? = w.heap[b]? := hg.block b hlt (fun z => by cases z; exact hn _ _ ha)
    exact .inr ⟨b, off, ha, Nat.lt_of_lt_of_le hlt hg.size, fun i hi j v hv => by
      have := hc i hi j v hv
      simp only [World.cell?, hb] at this ⊢
      exact this⟩
theorem bk_set1 {T : TypeId} {w : World} {b : Nat} {v0 : Value} (h : Bk T w b #[v0]) (v : Value) : Bk T (w.setCell ⟨b, 0, none⟩ v) b #[v] := by
  unfold Bk at h ⊢
  simp only [World.setCell, Array.getElem?_modify]
  rw [if_pos trivial, h]; rfl
theorem blk_twoI (w : World) (T U : TypeId) (cs es : Array Value) : Bk T ((w.alloc (.cells cs T)).alloc (.cells es U)) w.heap.size cs ∧ Bk U ((w.alloc (.cells cs T)).alloc (.cells es U)) (w.heap.size + 1) es ∧ w.grownBy ((w.alloc (.cells cs T)).alloc (.cells es U)) none := by
  have e : (w.alloc (.cells cs T)).heap.size = w.heap.size + 1 := World.size_alloc _ _
  have h1 := blk_new w T cs
  have h2 := blk_new (w.alloc (.cells cs T)) U es
  rw [e] at h2
  exact ⟨h1.1.grew h2.2 (by simp), h2.1, gb_trans h1.2 h2.2⟩
theorem below_gbI {a b : World} (h : Below a.heap.size a b) : a.grownBy b none := ⟨h.os, h.tape, h.output, h.size, fun i hi _ => h.block i hi⟩
theorem icatch_panicking (B p q : Nat) (cs : Array Value) (e0 : Int) (u : TypeId) (pv : Value) (older : List PanicEntry) (w : World) (h1 : Bk 24 w p cs) (hl : cs.size = 2) (h2 : Bk 30 w q #[.int .i64 e0]) (hp : B ≤ p) (hq : B ≤ q) (hpq : p ≠ q) (hB : B ≤ w.heap.size) :
    CallsD Tryd.prog 47 #[.pointer (some ⟨p, 0, none⟩), .pointer (some ⟨q, 0, none⟩)] (.panicking ({ v := .iface u pv, recovered := false } :: older)) w fun e u' w' =>
      e = .returned (.tuple #[]) ∧ u' = .panicking ({ v := .iface u pv, recovered := true } :: older) ∧ LaidI B p q noSt 92 w w' := by
  have HB : Hid (Bk 30 w q #[.int .i64 e0] ∧ p ≠ q ∧ B ≤ p ∧ B ≤ q ∧ B ≤ w.heap.size) := ⟨h2, hpq, hp, hq, hB⟩
  have H1 : Hid (Bk 24 w p cs) := h1
  have hone : noSt.all (·.oneCell') = true := by simp [noSt, Value.oneCell']
  refine callsD_of_wpS Tryd.func47 rfl fun c₀ cs hu => ?_
  apply wpS_seq
  apply wpS_region
  simp [wpOpsS, go_sem, recoverD, hu, Tryd.ntmps47, Exit.thenS]
  refine wpS_cond (t := true) (by simp [Act.eval, Array.replicate]) ?_
  simp only [if_true]
  refine wpS_of_wp ?_
  clear h1 h2 hp hq hpq hB
  go_wp2_with (refine wpList_store_bk 24 rfl (.tmp 0) (.tmp 4) rfl infoSt p _ noSt rfl rfl H1.out hl rfl hone ?_; intro W1 k1 k2; have H2 : Hid (Bk 24 W1 p noSt ∧ w.grownBy W1 (some p)) := ⟨k1, k2⟩; have k3 : Bk 30 W1 q #[.int .i64 e0] := HB.out.1.grew k2 (fun z => HB.out.2.1 (Option.some.inj z)); have H3 : Hid (Bk 30 W1 q #[.int .i64 e0]) := k3; have cq : W1.cell? ⟨q, 0, none⟩ = some (.int .i64 e0) := k3.cell 0; have fq : W1.frozen? ⟨q, 0, none⟩ = false := frozen_of_row W1 q 0 _ _ k3; clear k1 k2 k3)
  have hg2 : W1.grownBy (W1.setCell ⟨q, 0, none⟩ (.int .i64 92)) (some q) := grownBy_cell W1 q 0 _
  have H4 : LaidI B p q noSt 92 w (W1.setCell ⟨q, 0, none⟩ (.int .i64 92)) := by
    refine ⟨H2.out.1.grew hg2 (fun z => HB.out.2.1 (Option.some.inj z).symm), bk_set1 H3.out _, ?_⟩
    have hb1 : Below B w W1 := (Below.refl B w).grown H2.out.2 HB.out.2.2.2.2 (fun k hk => by cases hk; exact HB.out.2.2.1)
    exact hb1.trans ((Below.refl B W1).grown hg2 (by have := H2.out.2.size; have := HB.out.2.2.2.2; omega) (fun k hk => by cases hk; exact HB.out.2.2.2.1))
  simp [bodyPostS, results, Tryd.results47]
  exact H4
theorem icatch_idle (p q : Addr) (w : World) :
    CallsD Tryd.prog 47 #[.pointer (some p), .pointer (some q)] .returning w fun e u' w' => e = .returned (.tuple #[]) ∧ u' = .returning ∧ w' = w := by
  refine callsD_of_wpS Tryd.func47 rfl fun c₀ cs hu => ?_
  apply wpS_seq
  apply wpS_region
  simp [wpOpsS, go_sem, recoverD, hu, Tryd.ntmps47, Exit.thenS]
  refine wpS_cond (t := false) (by simp [Act.eval, Array.replicate]) ?_
  simp only [Bool.false_eq_true, if_false]
  refine wpS_of_wp (wp_skip ?_)
  cases c₀
  simp_all [bodyPostS, results, Tryd.results47]
theorem results_twoI {fn : Func} {p q : Tmp} {ty ty2 : TypeId} (h : fn.results = #[.cell p ty, .cell q ty2]) (tmps : Array Value) (P : Program) (w : World) (ad ad2 : Addr) (v v2 : Value)
    (hp : tmps.getD p undef = .pointer (some ad)) (hq : tmps.getD q undef = .pointer (some ad2)) (hl : (loadVar ty ad).run P w = .ok v w) (hl2 : (loadVar ty2 ad2).run P w = .ok v2 w) : (results fn tmps).run P w = .ok (.tuple #[v, v2]) w := by
  have hp' : tmps[p]?.getD undef = .pointer (some ad) := by simpa using hp
  have hq' : tmps[q]?.getD undef = .pointer (some ad2) := by simpa using hq
  simp only [results, h]
  simp [hp', hq', asAddr, hl, hl2]
theorem err_loadI {w : World} {q : Nat} {e : Int} (h : w.cell? ⟨q, 0, none⟩ = some (.int .i64 e)) : (loadVar 30 ⟨q, 0, none⟩).run Tryd.prog w = .ok (.int .i64 e) w := by
  simp [go_sem, h]
/-- What Decode comes to. -/
def DA (xs : List Int) (w : World) (r : Ending) (w' : World) : Prop :=
  ((∃ b n seq X, r = .returned (.tuple #[.agg #[.int .i64 seq, .slice (some ⟨b, 0, none⟩) n n], .int .i64 0]) ∧ DOk xs seq X ∧ Rws w' (some ⟨b, 0, none⟩) n X ∧ (w.heap.size ≤ b ∧ RB w' b n X)) ∨ (∃ e, r = .returned (.tuple #[.agg noSt, .int .i64 e]) ∧ DNo xs e)) ∧ Below w.heap.size w w'
theorem ts_ok (g : Nat) (a : Option Addr) (len cap : Nat) (ys : List Int) (w : World) (h : RS w g a len cap ys 0 0) (hoff : ∀ b o s, a = some ⟨b, o, s⟩ → b < w.heap.size) (hst : ∃ s Y, TSok ys s Y) :
    Calls Tryd.prog 50 #[.pointer (some ⟨g, 0, none⟩)] w fun r w' => ∃ b n seq X, r = .returned (.agg #[.int .i64 seq, .slice (some ⟨b, 0, none⟩) n n]) ∧ TSok ys seq X ∧ Rws w' (some ⟨b, 0, none⟩) n X ∧ (w.heap.size ≤ b ∧ RB w' b n X) ∧ w.grownBy w' (some g) := by
  refine (ts_c g a len cap ys w h hoff).mono ?_
  rintro r w' ⟨⟨b, n, seq, X, h1, h2, h3, h4⟩ | ⟨h1, h2⟩, h5⟩
  · exact ⟨b, n, seq, X, h1, h2, h3, h4, h5⟩
  · obtain ⟨s, Y, hY⟩ := hst
    exact absurd hY (h1 s Y)
theorem ts_no (g : Nat) (a : Option Addr) (len cap : Nat) (ys : List Int) (w : World) (h : RS w g a len cap ys 0 0) (hoff : ∀ b o s, a = some ⟨b, o, s⟩ → b < w.heap.size) (hst : ¬ ∃ s Y, TSok ys s Y) :
    Calls Tryd.prog 50 #[.pointer (some ⟨g, 0, none⟩)] w fun r w' => r = .panicked chnI ∧ w.grownBy w' (some g) := by
  refine (ts_c g a len cap ys w h hoff).mono ?_
  rintro r w' ⟨⟨b, n, seq, X, h1, h2, h3, h4⟩ | ⟨h1, h2⟩, h5⟩
  · exact absurd ⟨seq, X, h2⟩ hst
  · exact ⟨h2, h5⟩
set_option maxRecDepth 20000 in
set_option maxHeartbeats 2000000 in
theorem idec_c (a : Option Addr) (len cap : Nat) (xs : List Int) (w : World) (h : Seg .u8 w a len xs) (hx : Bytes xs) (hl : len ≤ 140737488355328) (hlc : len ≤ cap) (hnz : a = none → cap = 0) (ht : Cr.Tab w) :
    Calls Tryd.prog 19 #[.slice a len cap] w fun r w' => DA xs w r w' := by
  have hmf : ∀ (fn : Fn) (first cap : Array Value) (w : World), (Instr.makeFunc fn first cap).run Tryd.prog w = .ok (.func fn first cap) w := fun _ _ _ _ => rfl
  have hxl : xs.length = len := h.1
  have HXL : Hid (xs.length = len) := hxl
  have HZ : Hid (∀ e : Int, Bk 24 ((w.alloc (.cells #[.int .i64 0, .slice none 0 0] 24)).alloc (.cells #[.int .i64 e] 30)) w.heap.size noSt ∧ Bk 30 ((w.alloc (.cells #[.int .i64 0, .slice none 0 0] 24)).alloc (.cells #[.int .i64 e] 30)) (w.heap.size + 1) #[.int .i64 e] ∧ w.grownBy ((w.alloc (.cells #[.int .i64 0, .slice none 0 0] 24)).alloc (.cells #[.int .i64 e] 30)) none) := fun e => blk_twoI w 24 30 noSt #[.int .i64 e]
  obtain ⟨W0, hW0⟩ : ∃ W0, W0 = (w.alloc (.cells #[.int .i64 0, .slice none 0 0] 24)).alloc (.cells #[.int .i64 0] 30) := ⟨_, rfl⟩
  have HZ0 : Hid (Bk 24 W0 w.heap.size noSt ∧ Bk 30 W0 (w.heap.size + 1) #[.int .i64 0] ∧ w.grownBy W0 none) := by rw [hW0]; exact HZ.out 0
  have HS0 : Hid (Seg .u8 W0 a len xs ∧ Bytes xs ∧ len ≤ cap ∧ (a = none → cap = 0) ∧ Cr.Tab W0) := ⟨h.grew HZ0.out.2.2 (by simp), hx, hlc, hnz, ht.below (gbb HZ0.out.2.2)⟩
  clear h hx hlc hnz ht hxl
  by_cases hbig : 268435456 < len
  · have hb1 : (268435456 : Int) < (len : Int) := by omega
    clear hW0
    go_enter_defers Tryd.func19, Tryd.ntmps19
    go_wp2_with fail
    refine leaves_cons (f := 47) (args := #[.pointer (some ⟨w.heap.size, 0, none⟩), .pointer (some ⟨w.heap.size + 1, 0, none⟩)]) (by simp) (by simp [go_sem]) ?_
    refine (icatch_idle ⟨w.heap.size, 0, none⟩ ⟨w.heap.size + 1, 0, none⟩ _).mono ?_
    rintro e u' w'' ⟨rfl, rfl, rfl⟩
    exact ⟨_, results_twoI Tryd.results19 _ _ _ ⟨w.heap.size, 0, none⟩ ⟨w.heap.size + 1, 0, none⟩ _ _ rfl rfl (bk_load Tryd.underlying24 rfl infoSt (HZ.out 90).1 rfl) (err_loadI ((HZ.out 90).2.1.cell 0)), .inr ⟨90, rfl, .inl ⟨by rw [HXL.out]; exact hbig, rfl⟩⟩, gbb (HZ.out 90).2.2⟩
  have hb1 : ¬ (268435456 : Int) < (len : Int) := by omega
  by_cases hsh : len < 10
  · have hb2 : (len : Int) < 10 := by omega
    clear hW0
    go_enter_defers Tryd.func19, Tryd.ntmps19
    go_wp2_with fail
    refine leaves_cons (f := 47) (args := #[.pointer (some ⟨w.heap.size, 0, none⟩), .pointer (some ⟨w.heap.size + 1, 0, none⟩)]) (by simp) (by simp [go_sem]) ?_
    refine (icatch_idle ⟨w.heap.size, 0, none⟩ ⟨w.heap.size + 1, 0, none⟩ _).mono ?_
    rintro e u' w'' ⟨rfl, rfl, rfl⟩
    exact ⟨_, results_twoI Tryd.results19 _ _ _ ⟨w.heap.size, 0, none⟩ ⟨w.heap.size + 1, 0, none⟩ _ _ rfl rfl (bk_load Tryd.underlying24 rfl infoSt (HZ.out 92).1 rfl) (err_loadI ((HZ.out 92).2.1.cell 0)), .inr ⟨92, rfl, .inr (.inl ⟨by rw [HXL.out]; omega, .inl (by rw [HXL.out]; exact hsh), rfl⟩)⟩, gbb (HZ.out 92).2.2⟩
  have hb2 : ¬ (len : Int) < 10 := by omega
  have HM : Hid (Calls Tryd.prog 48 #[.slice a len cap] ((w.alloc (.cells #[.int .i64 0, .slice none 0 0] 24)).alloc (.cells #[.int .i64 0] 30)) fun r w' => r = .returned (.bool (mk4 xs)) ∧ w' = (w.alloc (.cells #[.int .i64 0, .slice none 0 0] 24)).alloc (.cells #[.int .i64 0] 30)) := by
    rw [← hW0]
    exact marked_c a len cap xs W0 HS0.out.1 HS0.out.2.1 hl HS0.out.2.2.1
  obtain ⟨M, hM⟩ : ∃ M, M = mk4 xs := ⟨_, rfl⟩
  rw [← hM] at HM
  have HMK : Hid (mk4 xs = M) := hM.symm
  clear hM
  cases M with
  | false =>
    clear hW0
    go_enter_defers Tryd.func19, Tryd.ntmps19
    go_wp2_with (go_at_call 48; go_must (refine (Calls.mono HM.out ?_)); rintro r w1 ⟨rfl, hq⟩; subst hq)
    refine leaves_cons (f := 47) (args := #[.pointer (some ⟨w.heap.size, 0, none⟩), .pointer (some ⟨w.heap.size + 1, 0, none⟩)]) (by simp) (by simp [go_sem]) ?_
    refine (icatch_idle ⟨w.heap.size, 0, none⟩ ⟨w.heap.size + 1, 0, none⟩ _).mono ?_
    rintro e u' w'' ⟨rfl, rfl, rfl⟩
    exact ⟨_, results_twoI Tryd.results19 _ _ _ ⟨w.heap.size, 0, none⟩ ⟨w.heap.size + 1, 0, none⟩ _ _ rfl rfl (bk_load Tryd.underlying24 rfl infoSt (HZ.out 92).1 rfl) (err_loadI ((HZ.out 92).2.1.cell 0)), .inr ⟨92, rfl, .inr (.inl ⟨by rw [HXL.out]; omega, .inr HMK.out, rfl⟩)⟩, gbb (HZ.out 92).2.2⟩
  | true =>
  obtain ⟨O, hO⟩ : ∃ O, O = Cr.holds xs := ⟨_, rfl⟩
  have HH : Hid (Calls Tryd.prog 49 #[.slice a len cap] ((w.alloc (.cells #[.int .i64 0, .slice none 0 0] 24)).alloc (.cells #[.int .i64 0] 30)) fun r w' => r = .returned (.bool O) ∧ W0.grownBy w' none) := by
    rw [hO, ← hW0]
    exact (Cr.holds_c a len cap xs W0 HS0.out.2.2.1 HS0.out.1 HS0.out.2.1 hl HS0.out.2.2.2.2).mono fun r w' ⟨h1, h2⟩ => ⟨h1, below_gbI h2⟩
  have HOK : Hid (Cr.holds xs = O) := hO.symm
  clear hO
  have hone : noSt.all (·.oneCell') = true := by simp [noSt, Value.oneCell']
  cases O with
  | false =>
    clear hW0
    go_enter_defers Tryd.func19, Tryd.ntmps19
    go_wp2_with (first
      | (go_at_call 48; go_must (refine (Calls.mono HM.out ?_)); rintro r w1 ⟨rfl, hq⟩; subst hq)
      | (go_at_call 49; go_must (refine (Calls.mono HH.out ?_)); rintro r w2 ⟨rfl, h2⟩; have H2 : Hid (Bk 24 w2 w.heap.size noSt ∧ Bk 30 w2 (w.heap.size + 1) #[.int .i64 0] ∧ w.grownBy w2 none) := ⟨HZ0.out.1.grew h2 (by simp), HZ0.out.2.1.grew h2 (by simp), gb_trans HZ0.out.2.2 h2⟩; clear h2)
      | (have z := H2; clear z; refine wpList_store_bk 24 rfl (.tmp 2) _ rfl infoSt w.heap.size _ noSt rfl rfl H2.out.1 rfl rfl hone ?_; intro w4 k1 k2; have k3 : Bk 30 w4 (w.heap.size + 1) #[.int .i64 0] := H2.out.2.1.grew k2 (fun z => by have := Option.some.inj z; omega); have H4 : Hid (Bk 24 w4 w.heap.size noSt ∧ Bk 30 w4 (w.heap.size + 1) #[.int .i64 0] ∧ w.grownBy w4 none) := ⟨k1, k3, gb_above H2.out.2.2 k2 (Nat.le_refl _)⟩; have cq : w4.cell? ⟨w.heap.size + 1, 0, none⟩ = some (.int .i64 0) := k3.cell 0; have fq : w4.frozen? ⟨w.heap.size + 1, 0, none⟩ = false := frozen_of_row w4 _ 0 _ _ k3; clear k1 k2 k3))
    have hg2 : w4.grownBy (w4.setCell ⟨w.heap.size + 1, 0, none⟩ (.int .i64 93)) (some (w.heap.size + 1)) := grownBy_cell w4 _ 0 _
    have H5 : Bk 24 (w4.setCell ⟨w.heap.size + 1, 0, none⟩ (.int .i64 93)) w.heap.size noSt ∧ Bk 30 (w4.setCell ⟨w.heap.size + 1, 0, none⟩ (.int .i64 93)) (w.heap.size + 1) #[.int .i64 93] ∧ w.grownBy (w4.setCell ⟨w.heap.size + 1, 0, none⟩ (.int .i64 93)) none := ⟨H4.out.1.grew hg2 (fun z => by have := Option.some.inj z; omega), bk_set1 H4.out.2.1 _, gb_above H4.out.2.2 hg2 (by omega)⟩
    refine leaves_cons (f := 47) (args := #[.pointer (some ⟨w.heap.size, 0, none⟩), .pointer (some ⟨w.heap.size + 1, 0, none⟩)]) (by simp) (by simp [go_sem]) ?_
    refine (icatch_idle ⟨w.heap.size, 0, none⟩ ⟨w.heap.size + 1, 0, none⟩ _).mono ?_
    rintro e u' w'' ⟨rfl, rfl, rfl⟩
    exact ⟨_, results_twoI Tryd.results19 _ _ _ ⟨w.heap.size, 0, none⟩ ⟨w.heap.size + 1, 0, none⟩ _ _ rfl rfl (bk_load Tryd.underlying24 rfl infoSt H5.1 rfl) (err_loadI (H5.2.1.cell 0)), .inr ⟨93, rfl, .inr (.inr (.inl ⟨by rw [HXL.out]; omega, by rw [HXL.out]; omega, HMK.out, HOK.out, rfl⟩))⟩, gbb H5.2.2⟩
  | true =>
  have s1 := sliceI a len cap 4 (len - 4) 4 ((len : Int) - 4) rfl (by omega) (by omega) (by have := HS0.out.2.2.1; omega)
  obtain ⟨L, hL⟩ : ∃ L, L = len - 4 - 4 := ⟨_, rfl⟩
  obtain ⟨ca, hca⟩ : ∃ c, c = cutI a cap 4 := ⟨_, rfl⟩
  obtain ⟨cc, hcc⟩ : ∃ c, c = cap - 4 := ⟨_, rfl⟩
  rw [← hL, ← hca, ← hcc] at s1
  obtain ⟨ys, hys⟩ : ∃ ys, ys = mid xs := ⟨_, rfl⟩
  have HN : Hid (∀ W, W0.grownBy W none → Calls Tryd.prog 51 #[.slice ca L cc] W fun r w' => ∃ g a' cap', r = .returned (.pointer (some ⟨g, 0, none⟩)) ∧ RS w' g a' L cap' ys 0 0 ∧ W.heap.size ≤ g ∧ (∀ b o s, a' = some ⟨b, o, s⟩ → W.heap.size ≤ b ∧ b < w'.heap.size) ∧ W.grownBy w' none) := fun W hg => by
    have e : mid xs = (xs.drop 4).take L := by
      unfold mid
      rw [List.drop_take, HXL.out, hL]
    have hseg : Seg .u8 W ca L ys := by
      rw [hys, e, hca]
      exact (seg_take (seg_cutI HS0.out.1 4 HS0.out.2.2.1) L (by omega)).grew hg (by simp)
    refine new_c2 ca L cc ys W hseg ?_ (by omega) ?_
    · rw [hys, e]
      have hb := bytes_drop HS0.out.2.1 4
      intro i hi
      rw [List.length_take] at hi
      rw [List.getElem?_take_of_lt (by omega)]
      exact hb i (by omega)
    · intro q
      rw [hca] at q
      rw [hcc]
      unfold cutI at q
      split at q
      · omega
      · cases a with
        | none => have := HS0.out.2.2.2.1 rfl; omega
        | some ad => cases q
  clear hW0 hL hca hcc
  by_cases hst : ∃ s Y, TSok ys s Y
  · have HST : Hid (∃ s Y, TSok ys s Y) := hst
    have HYS : Hid (ys = mid xs) := hys
    clear hst hys
    go_enter_defers Tryd.func19, Tryd.ntmps19
    go_wp2_with (first
      | (go_at_call 48; go_must (refine (Calls.mono HM.out ?_)); rintro r w1 ⟨rfl, hq⟩; subst hq)
      | (go_at_call 49; go_must (refine (Calls.mono HH.out ?_)); rintro r w2 ⟨rfl, h2⟩; have H2 : Hid (Bk 24 w2 w.heap.size noSt ∧ Bk 30 w2 (w.heap.size + 1) #[.int .i64 0] ∧ w.grownBy w2 none ∧ W0.grownBy w2 none) := ⟨HZ0.out.1.grew h2 (by simp), HZ0.out.2.1.grew h2 (by simp), gb_trans HZ0.out.2.2 h2, h2⟩; clear h2)
      | (go_at_call 51; go_must (refine (Calls.mono (HN.out _ H2.out.2.2.2) ?_)); rintro r w3 ⟨g, a', cap', rfl, h1, h2, h3, h4⟩; have H3 : Hid (RS w3 g a' L cap' ys 0 0 ∧ (∀ b o s, a' = some ⟨b, o, s⟩ → b < w3.heap.size) ∧ Bk 24 w3 w.heap.size noSt ∧ Bk 30 w3 (w.heap.size + 1) #[.int .i64 0] ∧ w.grownBy w3 none ∧ w.heap.size + 1 < g) := ⟨h1, fun b o s q => (h3 b o s q).2, H2.out.1.grew h4 (by simp), H2.out.2.1.grew h4 (by simp), gb_trans H2.out.2.2.1 h4, by have := lt_of_block H2.out.2.1; omega⟩; clear h1 h2 h3 h4)
      | (go_at_call 50; go_must (refine (Calls.mono (ts_ok g a' L cap' ys _ H3.out.1 H3.out.2.1 HST.out) ?_)); rintro r w5 ⟨b, n, seq, X, rfl, h1, h2, ⟨h3, h3r⟩, h4⟩; have HRB : Hid (RB w5 b n X) := h3r; clear h3r; have H5 : Hid (Bk 24 w5 w.heap.size noSt ∧ Bk 30 w5 (w.heap.size + 1) #[.int .i64 0] ∧ w.grownBy w5 none ∧ TSok ys seq X ∧ Rws w5 (some ⟨b, 0, none⟩) n X ∧ w.heap.size + 1 < b) := ⟨H3.out.2.2.1.grew h4 (fun z => by have := Option.some.inj z; have := H3.out.2.2.2.2.2; omega), H3.out.2.2.2.1.grew h4 (fun z => by have := Option.some.inj z; have := H3.out.2.2.2.2.2; omega), gb_above H3.out.2.2.2.2.1 h4 (by have := H3.out.2.2.2.2.2; omega), h1, h2, by have := lt_of_block H3.out.2.2.2.1; omega⟩; have hone2 : (#[Value.int .i64 seq, .slice (some ⟨b, 0, none⟩) n n]).all (·.oneCell') = true := (by simp [Value.oneCell']); clear h1 h2 h3 h4)
      | ((fail_if_success (have z := H6)); have z := H5; clear z; refine wpList_store_bk 24 rfl (.tmp 2) _ rfl infoSt w.heap.size _ #[.int .i64 seq, .slice (some ⟨b, 0, none⟩) n n] rfl rfl H5.out.1 rfl rfl hone2 ?_; intro w6 k1 k2; have k3 : Bk 30 w6 (w.heap.size + 1) #[.int .i64 0] := H5.out.2.1.grew k2 (fun z => by have := Option.some.inj z; omega); have HR6 : Hid (RB w6 b n X) := HRB.out.grew k2 (fun z => by have := Option.some.inj z; have := H5.out.2.2.2.2.2; omega); have H6 : Hid (Bk 24 w6 w.heap.size #[.int .i64 seq, .slice (some ⟨b, 0, none⟩) n n] ∧ Bk 30 w6 (w.heap.size + 1) #[.int .i64 0] ∧ w.grownBy w6 none ∧ Rws w6 (some ⟨b, 0, none⟩) n X) := ⟨k1, k3, gb_above H5.out.2.2.1 k2 (Nat.le_refl _), H5.out.2.2.2.2.1.grew k2 (fun o s q => by cases q; have := H5.out.2.2.2.2.2; omega)⟩; have cq : w6.cell? ⟨w.heap.size + 1, 0, none⟩ = some (.int .i64 0) := k3.cell 0; have fq : w6.frozen? ⟨w.heap.size + 1, 0, none⟩ = false := frozen_of_row w6 _ 0 _ _ k3; clear k1 k2 k3))
    have hg2 : w6.grownBy (w6.setCell ⟨w.heap.size + 1, 0, none⟩ (.int .i64 0)) (some (w.heap.size + 1)) := grownBy_cell w6 _ 0 _
    refine leaves_cons (f := 47) (args := #[.pointer (some ⟨w.heap.size, 0, none⟩), .pointer (some ⟨w.heap.size + 1, 0, none⟩)]) (by simp) (by simp [go_sem]) ?_
    refine (icatch_idle ⟨w.heap.size, 0, none⟩ ⟨w.heap.size + 1, 0, none⟩ _).mono ?_
    rintro e u' w'' ⟨rfl, rfl, rfl⟩
    have b1 := H6.out.1.grew hg2 (fun z => by have := Option.some.inj z; omega)
    have b2 := bk_set1 H6.out.2.1 (.int .i64 0)
    refine ⟨_, results_twoI Tryd.results19 _ _ _ ⟨w.heap.size, 0, none⟩ ⟨w.heap.size + 1, 0, none⟩ _ _ rfl rfl (bk_load Tryd.underlying24 rfl infoSt b1 rfl) (err_loadI (b2.cell 0)), .inl ⟨b, n, seq, X, rfl, ⟨by rw [HXL.out]; omega, by rw [HXL.out]; omega, HMK.out, HOK.out, by rw [← HYS.out]; exact H5.out.2.2.2.1⟩, H6.out.2.2.2.grew hg2 (fun o s q => by cases q; have := H5.out.2.2.2.2.2; omega), ⟨by have := H5.out.2.2.2.2.2; omega, HR6.out.grew hg2 (fun z => by have := Option.some.inj z; have := H5.out.2.2.2.2.2; omega)⟩⟩, gbb (gb_above H6.out.2.2.1 hg2 (by omega))⟩
  · have HST : Hid (¬ ∃ s Y, TSok ys s Y) := hst
    have HYS : Hid (ys = mid xs) := hys
    clear hst hys
    go_enter_defers Tryd.func19, Tryd.ntmps19
    go_wp2_with (first
      | (go_at_call 48; go_must (refine (Calls.mono HM.out ?_)); rintro r w1 ⟨rfl, hq⟩; subst hq)
      | (go_at_call 49; go_must (refine (Calls.mono HH.out ?_)); rintro r w2 ⟨rfl, h2⟩; have H2 : Hid (Bk 24 w2 w.heap.size noSt ∧ Bk 30 w2 (w.heap.size + 1) #[.int .i64 0] ∧ w.grownBy w2 none ∧ W0.grownBy w2 none) := ⟨HZ0.out.1.grew h2 (by simp), HZ0.out.2.1.grew h2 (by simp), gb_trans HZ0.out.2.2 h2, h2⟩; clear h2)
      | (go_at_call 51; go_must (refine (Calls.mono (HN.out _ H2.out.2.2.2) ?_)); rintro r w3 ⟨g, a', cap', rfl, h1, h2, h3, h4⟩; have H3 : Hid (RS w3 g a' L cap' ys 0 0 ∧ (∀ b o s, a' = some ⟨b, o, s⟩ → b < w3.heap.size) ∧ Bk 24 w3 w.heap.size noSt ∧ Bk 30 w3 (w.heap.size + 1) #[.int .i64 0] ∧ w.grownBy w3 none ∧ w.heap.size + 1 < g) := ⟨h1, fun b o s q => (h3 b o s q).2, H2.out.1.grew h4 (by simp), H2.out.2.1.grew h4 (by simp), gb_trans H2.out.2.2.1 h4, by have := lt_of_block H2.out.2.1; omega⟩; clear h1 h2 h3 h4)
      | (go_at_call 50; go_must (refine (Calls.mono (ts_no g a' L cap' ys _ H3.out.1 H3.out.2.1 HST.out) ?_)); rintro r w5 ⟨rfl, h4⟩; have H5 : Hid (Bk 24 w5 w.heap.size noSt ∧ Bk 30 w5 (w.heap.size + 1) #[.int .i64 0] ∧ w.grownBy w5 none) := ⟨H3.out.2.2.1.grew h4 (fun z => by have := Option.some.inj z; have := H3.out.2.2.2.2.2; omega), H3.out.2.2.2.1.grew h4 (fun z => by have := Option.some.inj z; have := H3.out.2.2.2.2.2; omega), gb_above H3.out.2.2.2.2.1 h4 (by have := H3.out.2.2.2.2.2; omega)⟩; clear h4))
    refine leaves_cons (f := 47) (args := #[.pointer (some ⟨w.heap.size, 0, none⟩), .pointer (some ⟨w.heap.size + 1, 0, none⟩)]) (by simp) (by simp [go_sem]) ?_
    refine (icatch_panicking w.heap.size w.heap.size (w.heap.size + 1) noSt 0 _ _ [] _ H5.out.1 rfl H5.out.2.1 (Nat.le_refl _) (by omega) (by omega) H5.out.2.2.size).mono ?_
    rintro e u' w'' ⟨rfl, rfl, h4⟩
    simp only [settle]
    exact ⟨_, results_twoI Tryd.results19 _ _ _ ⟨w.heap.size, 0, none⟩ ⟨w.heap.size + 1, 0, none⟩ _ _ rfl rfl (bk_load Tryd.underlying24 rfl infoSt h4.1 rfl) (err_loadI (h4.2.1.cell 0)), .inr ⟨92, rfl, .inr (.inr (.inr ⟨by rw [HXL.out]; omega, by rw [HXL.out]; omega, HMK.out, HOK.out, fun s Y hY => HST.out ⟨s, Y, by rw [HYS.out]; exact hY⟩, rfl⟩))⟩, (gbb H5.out.2.2).trans h4.2.2⟩
end Go.Proofs.YtcdgfghcmeadgaaDoor

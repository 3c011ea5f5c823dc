/-
  Rows that are laid into a block one by one; what image's takeState answers: the state that the bytes are, or a panic where they are none. Condition: what a Reader can hold.
-/
import Derived.Test.YtcdgfghcmeadgaaDoorITp
import Derived.Test.YtcdgfghcmeadgaaDoorFa
namespace Go.Proofs.YtcdgfghcmeadgaaDoor
open Go.RowKit
set_option linter.unusedVariables false

/-- A block of rows that are laid one after the other. -/
def RB (w : World) (b n : Nat) (X : List Rwi) : Prop := b < w.heap.size ∧ w.there b 0 (n * 3) ∧ ∀ i, i < X.length → w.rangeAt b (i * 3) (rAt X i).cells
theorem RB.grew {w w' : World} {b n : Nat} {X : List Rwi} {row : Option Nat} (h : RB w b n X) (hg : w.grownBy w' row) (hn : row ≠ some b) : RB w' b n X := by
  have hb : w'.heap[b]? = w.heap[b]? := hg.block b h.1 hn.symm
  have hc : ∀ o, w'.cell? ⟨b, o, none⟩ = w.cell? ⟨b, o, none⟩ := fun o => by simp only [World.cell?, hb]
  have hf : ∀ o, w'.frozen? ⟨b, o, none⟩ = w.frozen? ⟨b, o, none⟩ := fun o => by simp only [World.frozen?, hb]
  refine ⟨Nat.lt_of_lt_of_le h.1 hg.size, fun j hj => ?_, fun i hi j v hv => ?_⟩
  · rw [hc, hf]; exact h.2.1 j hj
  · rw [hc]; exact h.2.2 i hi j v hv
theorem gb_setCells (b : Nat) : ∀ (vs : List Value) (o : Nat) (w : World), w.grownBy (w.setCells b o vs) (some b)
  | [], _, w => World.grownBy.refl _ _
  | v :: r, o, w => gb_trans (grownBy_cell w b o v) (gb_setCells b r (o + 1) _)
theorem RB.room {w : World} {b n : Nat} {X : List Rwi} (h : RB w b n X) {k : Nat} (hk : k < n) : w.there b (k * 3) 3 := fun j hj => by
  have := h.2.1 (k * 3 + j) (by omega)
  rwa [Nat.zero_add] at this
theorem RB.set {w : World} {b n : Nat} {X : List Rwi} (h : RB w b n X) (hk : X.length < n) (r : Rwi) : RB (w.setCells b (X.length * 3) r.cells) b n (X ++ [r]) := by
  have ht : w.there b (X.length * 3) r.cells.length := h.room hk
  refine ⟨Nat.lt_of_lt_of_le h.1 (gb_setCells b _ _ w).size, World.there_setCells h.2.1 _ _ _, fun i hi => ?_⟩
  rw [List.length_append, List.length_singleton] at hi
  by_cases hiX : i < X.length
  · rw [rAt_app hiX]
    exact World.rangeAt_setCells_apart (h.2.2 i hiX) _ _ _ (.inr (.inl (by show i * 3 + 3 ≤ _; omega)))
  · obtain rfl : i = X.length := by omega
    rw [rAt_last]
    exact World.rangeAt_setCells_same _ _ _ _ ht
theorem RB.rows {w : World} {b n : Nat} {X : List Rwi} (h : RB w b n X) (hk : X.length = n) : Rws w (some ⟨b, 0, none⟩) n X :=
  ⟨hk, .inr ⟨b, 0, rfl, h.1, fun i hi => by rw [Nat.zero_add]; exact h.2.2 i (by omega)⟩⟩
theorem RB.made {w : World} {base b n : Nat} {T : TypeId} {xs : List Value} (h : w.ownsRow base T 3 (.slice (some ⟨b, 0, none⟩) n n) n xs) : RB w b n [] ∧ base ≤ b := by
  rcases h.2 with ⟨z, _⟩ | ⟨g, cap, cur, e, hb, hc, h1, h2, h3, h4⟩
  · cases z
  · cases e
    refine ⟨⟨lt_of_block hc, fun j hj => ?_, fun i hi => by simp at hi⟩, hb⟩
    rw [Nat.zero_add]
    refine ⟨?_, frozen_of_row w b j _ _ hc⟩
    rw [cell_of_row w b j _ _ _ hc, Array.getElem?_eq_getElem (by omega)]
    rfl
theorem imust_so (w : World) : Calls Tryd.prog 84 #[.bool true] w fun r w' => r = .returned (.tuple #[]) ∧ w' = w := by
  go_enter Tryd.func84, Tryd.ntmps84
  go_wp2
  go_end0
  exact ⟨rfl, rfl⟩
/-- A panic with an error. -/
def chnI : List PanicEntry := [{ v := .iface 30 (.int .i64 92), recovered := false }]
theorem imust_no (w : World) : Calls Tryd.prog 84 #[.bool false] w fun r w' => r = .panicked chnI ∧ w' = w := by
  go_enter Tryd.func84, Tryd.ntmps84
  go_wp2
  exact ⟨rfl, rfl, rfl⟩
theorem rr_bad {xs : List Int} {p : Nat} (h : (rr xs p).2.2 ≠ 0) : (rr xs p).1 = ([], [], 0) := by
  unfold rr at h ⊢
  split <;> rename_i h1
  · rfl
  · rw [if_neg h1] at h
    split <;> rename_i h2
    · rfl
    · rw [if_neg h2] at h
      split <;> rename_i h3
      · rfl
      · rw [if_neg h3] at h
        split <;> rename_i h4
        · rfl
        · rw [if_neg h4] at h
          exact absurd rfl h
theorem fw_none (ahead : ByteArray) (seq : Int) : fwI ⟨strOfNums [], strOfNums [], 0⟩ ahead seq = false := by
  have h : (Tb.rowE (strOfNums [], strOfNums [], 0) == 0) = false := by decide +kernel
  show ((Tb.rowE (strOfNums [], strOfNums [], 0) == 0) && gtI (strOfNums []) ahead && decide ((0 : Int) ≤ seq)) = false
  rw [h]
  simp
theorem infoR3 : (Tryd.prog.info? 48).map (fun i => (i.zero, i.size, i.bytes)) = some (some (.agg #[.string { data := #[] }, .string { data := #[] }, .int .i64 0]), 3, 40) := by kernel_rfl
theorem LI.start {ys : List Int} {n p : Nat} (hq : q2 ys = ((n : Int), p, 0)) (hp : p ≤ ys.length) (ht : ys.take p = numB [(q1 ys).1, (n : Int)]) : LI ys (q1 ys).1 n [] p := by
  refine ⟨hp, by rw [ht]; simp [rowsB], rfl, fun s Y h => ?_⟩
  obtain ⟨h1, h2⟩ := ts_head h
  rw [h2] at hq
  rw [h1]
  simp only [Prod.mk.injEq] at hq
  exact ⟨rfl, by omega, by simp⟩
/-- The variable of the answer, still as it was made. -/
structure SB (w : World) (g : Nat) (W : World) : Prop where
  gb : w.grownBy W (some g)
  blk : Bk 24 W w.heap.size #[.int .i64 0, .slice none 0 0]
  lt : g < w.heap.size
theorem SB.more {w W W' : World} {g : Nat} (h : SB w g W) (k : W.grownBy W' (some g)) : SB w g W' :=
  ⟨gb_trans h.gb k, h.blk.grew k (fun z => by have := Option.some.inj z; have := h.lt; omega), h.lt⟩
theorem SB.new {w W W' : World} {g : Nat} (h : SB w g W) (k : W.grownBy W' none) : SB w g W' := h.more (gb_wide k _)
/-- A block that is younger is written. -/
theorem SB.other {w W W' : World} {g b : Nat} (h : SB w g W) (k : W.grownBy W' (some b)) (hb : w.heap.size < b) : SB w g W' :=
  ⟨⟨k.os.trans h.gb.os, k.tape.trans h.gb.tape, k.output.trans h.gb.output, Nat.le_trans h.gb.size k.size, fun i hi hn => (k.block i (Nat.lt_of_lt_of_le hi h.gb.size) (fun e => by cases e; omega)).trans (h.gb.block i hi hn)⟩, h.blk.grew k (fun z => by have := Option.some.inj z; omega), h.lt⟩
theorem gb_above {w W W' : World} {row : Option Nat} {b : Nat} (h : w.grownBy W row) (k : W.grownBy W' (some b)) (hb : w.heap.size ≤ b) : w.grownBy W' row :=
  ⟨k.os.trans h.os, k.tape.trans h.tape, k.output.trans h.output, Nat.le_trans h.size k.size, fun i hi hn => (k.block i (Nat.lt_of_lt_of_le hi h.size) (fun e => by cases e; omega)).trans (h.block i hi hn)⟩
theorem infoSt : (Tryd.prog.info? 24).map (·.size) = some 2 := by kernel_rfl
theorem rend_ok {len : Nat} {e : Int} {p : Nat} (h : (rend len e p == 0) = true) : e = 0 ∧ len ≤ p := by
  unfold rend at h
  by_cases he : e = 0
  · rw [if_pos he] at h
    split at h
    · simp at h
    · exact ⟨he, by omega⟩
  · rw [if_neg he] at h
    exact absurd (by simpa using h) he
theorem rend_no {len : Nat} {e : Int} {p : Nat} (h : (rend len e p == 0) = false) : e ≠ 0 ∨ p < len := by
  unfold rend at h
  by_cases he : e = 0
  · rw [if_pos he] at h
    split at h
    · right; assumption
    · simp at h
  · exact .inl he
/-- What takeState comes to. -/
def TSA (ys : List Int) (g : Nat) (w : World) (r : Ending) (w' : World) : Prop :=
  ((∃ b n seq X, r = .returned (.agg #[.int .i64 seq, .slice (some ⟨b, 0, none⟩) n n]) ∧ TSok ys seq X ∧ Rws w' (some ⟨b, 0, none⟩) n X ∧ (w.heap.size ≤ b ∧ RB w' b n X)) ∨ ((∀ s Y, ¬ TSok ys s Y) ∧ r = .panicked chnI)) ∧ w.grownBy w' (some g)
set_option maxRecDepth 20000 in
set_option maxHeartbeats 4000000 in
theorem ts_c (g : Nat) (a : Option Addr) (len cap : Nat) (ys : List Int) (w : World) (h : RS w g a len cap ys 0 0) (hoff : ∀ b o s, a = some ⟨b, o, s⟩ → b < w.heap.size) :
    Calls Tryd.prog 50 #[.pointer (some ⟨g, 0, none⟩)] w fun r w' => TSA ys g w r w' := by
  have hx : Bytes ys := h.bytes
  have hlen : ys.length = len := h.seg.1
  have hgl : g < w.heap.size := lt_of_block h.rdr
  obtain ⟨S, hS⟩ : ∃ S, S = (q1 ys).1 := ⟨_, rfl⟩
  obtain ⟨n, P, E, hq, hn, hP, hE, hLI, hNO⟩ : ∃ (n P : Nat) (E : Int), q2 ys = ((n : Int), P, E) ∧ n ≤ 1048576 ∧ P ≤ len ∧ (E ≠ 0 → n = 0) ∧ (E = 0 → LI ys S n [] P ∧ 0 ≤ S ∧ S ≤ 1152921504606846976) ∧ (E ≠ 0 → ∀ s Y, ¬ TSok ys s Y) := by
    rcases q2_ok hx with ⟨e, p, h1, h2, h3⟩ | ⟨n, p, h1, h2, h3, h4, h5, h6⟩
    · exact ⟨0, p, e, h3, by omega, by omega, fun _ => rfl, fun z => absurd z h1, fun _ s Y ht => by
        have := (ts_head ht).2
        rw [h3] at this
        simp only [Prod.mk.injEq] at this
        exact h1 this.2.2⟩
    · exact ⟨n, p, 0, h1, h2, by omega, fun z => absurd rfl z, fun _ => by rw [hS]; exact ⟨LI.start h1 h3 h6, h4, h5⟩, fun z => absurd rfl z⟩
  have hb0 := blk_new w 24 #[.int .i64 0, .slice none 0 0]
  have HI : Hid (Calls Tryd.prog 81 #[.pointer (some ⟨g, 0, none⟩), .int .i64 1152921504606846976] (w.alloc (.cells #[.int .i64 0, .slice none 0 0] 24)) fun r w' => r = .returned (.int .i64 S) ∧ RS w' g a len cap ys (q1 ys).2.2 (q1 ys).2.1 ∧ SB w g w') := by
    rw [hS]
    refine (int_ok g a len cap ys 0 1152921504606846976 _ (h.new hb0.2) (by omega)).mono ?_
    rintro r w' ⟨k1, k2, k3⟩
    exact ⟨k1, k2, SB.more ⟨gb_wide hb0.2 _, hb0.1, hgl⟩ k3⟩
  have HC : Hid (∀ W, RS W g a len cap ys (q1 ys).2.2 (q1 ys).2.1 → Calls Tryd.prog 82 #[.pointer (some ⟨g, 0, none⟩), .int .i64 1048576, .int .i64 4] W fun r w' => r = .returned (.int .i64 (n : Int)) ∧ RS w' g a len cap ys E P ∧ W.grownBy w' (some g)) := fun W hr => by
    by_cases h1 : (q1 ys).2.2 = 0
    · have hq' : rc ys (q1 ys).2.1 1048576 4 = ((n : Int), P, E) := by rw [← hq]; unfold q2; rw [if_neg (by rw [h1]; simp)]
      rw [h1] at hr
      have k := count_ok g a len cap ys (q1 ys).2.1 1048576 4 W hr (by omega) (by omega)
      rw [hq'] at k
      exact k
    · have hq' : ((0 : Int), (q1 ys).2.1, (q1 ys).2.2) = ((n : Int), P, E) := by rw [← hq]; unfold q2; rw [if_pos h1]
      simp only [Prod.mk.injEq] at hq'
      refine (count_no g _ _ _ 1048576 4 W hr.rdr (by simpa using h1)).mono ?_
      rintro r w' ⟨k1, rfl⟩
      rw [← hq'.1, ← hq'.2.1, ← hq'.2.2]
      exact ⟨k1, hr, World.grownBy.refl _ _⟩
  have HQ : Hid (P ≤ len ∧ (E ≠ 0 → n = 0) ∧ (E = 0 → LI ys S n [] P ∧ 0 ≤ S ∧ S ≤ 1152921504606846976) ∧ (E ≠ 0 → ∀ s Y, ¬ TSok ys s Y) ∧ ys.length = len ∧ Bytes ys) := ⟨hP, hE, hLI, hNO, hlen, hx⟩
  have HOF : Hid (g < w.heap.size ∧ ∀ b o s, a = some ⟨b, o, s⟩ → b < w.heap.size) := ⟨hgl, hoff⟩
  obtain ⟨i0, hi0, hz0, hs0, hy0⟩ := info_parts infoR3
  clear h hq hP hE hLI hNO hS hx hlen hgl hoff hb0
  go_enter Tryd.func50, Tryd.ntmps50
  go_wp2_with (first
    | (go_at_call 81; go_must (refine (Calls.mono HI.out ?_)); rintro r w1 ⟨rfl, h1, h2⟩; have H1 : Hid (RS w1 g a len cap ys (q1 ys).2.2 (q1 ys).2.1 ∧ SB w g w1) := ⟨h1, h2⟩; clear h1 h2)
    | (go_at_call 82; go_must (refine (Calls.mono (HC.out _ H1.out.1) ?_)); rintro r w2 ⟨rfl, h1, h2⟩; have H2 : Hid (RS w2 g a len cap ys E P ∧ SB w g w2) := ⟨h1, H1.out.2.more h2⟩; clear h1 h2)
    | (at_make; go_must (refine wpList_make_full _ rfl _ _ 22 rfl w2.heap.size 48 i0 (.agg #[.string { data := #[] }, .string { data := #[] }, .int .i64 0]) 3 Tryd.underlying22 hi0 hz0 hs0 _ _ _ _ n rfl rfl rfl rfl (by rw [hy0]; omega) (by unfold maxLen; omega) (Nat.le_refl _) ?_); intro w3 hown hgrow; have H3 : Hid (RS w3 g a len cap ys E P ∧ SB w g w3 ∧ RB w3 w2.heap.size n [] ∧ w.heap.size < w2.heap.size) := ⟨H2.out.1.new hgrow, H2.out.2.new hgrow, (RB.made hown).1, lt_of_block H2.out.2.blk⟩; clear hown hgrow))
  obtain ⟨B, hB⟩ : ∃ B, B = w2.heap.size := ⟨_, rfl⟩
  rw [← hB] at H3 ⊢
  have HBW : Hid (w.heap.size < B) := H3.out.2.2.2
  have hone : ∀ (k v : ByteArray) (n : Int), (#[Value.string k, .string v, .int .i64 n]).all (·.oneCell') = true := fun k v n => by simp [Value.oneCell']
  clear HI HC H1 H2 hB hi0 hz0 hs0 hy0
  go_loopw [5, 14] (fun s i wr => ∃ (k : Nat) (X : List Rwi) (p : Nat) (A : ByteArray), k ≤ n ∧ s = .string A ∧ i = .int .i64 (k : Int) ∧ Hid (X.length = k ∧ A = ahd X k ∧ RB wr B n X ∧ RS wr g a len cap ys E p ∧ (E = 0 → LI ys S n X p) ∧ SB w g wr)) (fun _ i _ => n - (intOf i).toNat)
  case atStart => exact ⟨0, [], P, _, Nat.zero_le _, rfl, rfl, rfl, rfl, H3.out.2.2.1, H3.out.1, fun z => (HQ.out.2.2.1 z).1, H3.out.2.1⟩
  case round =>
    obtain ⟨k, X, p, A, hk, rfl, rfl, hr⟩ := hrel
    clear H3
    by_cases hlt : k < n
    · have hi1 : (k : Int) < n := by omega
      have hE0 : E = 0 := by
        rcases Classical.em (E = 0) with z | z
        · exact z
        · have := HQ.out.2.1 z; omega
      subst hE0
      obtain ⟨hXk, hA, hRB, hRS, hLI, hSB⟩ := hr.out
      have hLI := hLI rfl
      obtain ⟨kk, hkk⟩ : ∃ s, s = strOfNums (rr ys p).1.1 := ⟨_, rfl⟩
      obtain ⟨vv, hvv⟩ : ∃ s, s = strOfNums (rr ys p).1.2.1 := ⟨_, rfl⟩
      obtain ⟨nn, hnn⟩ : ∃ s, s = (rr ys p).1.2.2 := ⟨_, rfl⟩
      obtain ⟨e', he'⟩ : ∃ s, s = (rr ys p).2.2 := ⟨_, rfl⟩
      obtain ⟨p', hp'⟩ : ∃ s, s = (rr ys p).2.1 := ⟨_, rfl⟩
      have HR : Hid (Calls Tryd.prog 83 #[.pointer (some ⟨g, 0, none⟩)] wr fun r w' => r = .returned (.agg #[.string kk, .string vv, .int .i64 nn]) ∧ RS w' g a len cap ys e' p' ∧ wr.grownBy w' (some g)) := by
        rw [hkk, hvv, hnn, he', hp']
        exact row_ok g a len cap ys p wr hRS
      have HST : Hid (∀ W, wr.grownBy W (some g) → RS W g a len cap ys e' p' → W.there B (k * 3) 3 ∧ RB (W.setCells B (k * 3) [.string kk, .string vv, .int .i64 nn]) B n (X ++ [⟨kk, vv, nn⟩]) ∧ RS (W.setCells B (k * 3) [.string kk, .string vv, .int .i64 nn]) g a len cap ys e' p' ∧ SB w g (W.setCells B (k * 3) [.string kk, .string vv, .int .i64 nn])) := fun W hg hs => by
        have h1 : RB W B n X := hRB.grew hg (fun z => by have := Option.some.inj z; have := HOF.out.1; have := HBW.out; omega)
        have h2 := gb_setCells B [.string kk, .string vv, .int .i64 nn] (k * 3) W
        refine ⟨h1.room hlt, ?_, hs.other h2 (fun z => by have := Option.some.inj z; have := HOF.out.1; have := HBW.out; omega) (fun q hq => by cases hq; intro b o s ha; have := HOF.out.2 b o s ha; have := HBW.out; omega), (hSB.more hg).other h2 HBW.out⟩
        have h3 := h1.set (by omega) ⟨kk, vv, nn⟩
        rw [hXk] at h3
        exact h3
      have hrb : ∀ W, RB W B n (X ++ [⟨kk, vv, nn⟩]) → W.rangeAt B (k * 3) [.string kk, .string vv, .int .i64 nn] := fun W hw => by
        have := hw.2.2 k (by rw [List.length_append, List.length_singleton]; omega)
        rw [← hXk, rAt_last, hXk] at this
        exact this
      have HRG : Hid (∀ W, RB W B n (X ++ [⟨kk, vv, nn⟩]) → W.rangeAt B (k * 3) [.string kk, .string vv, .int .i64 nn]) := hrb
      obtain ⟨G, hG⟩ : ∃ G, G = fwI ⟨kk, vv, nn⟩ A S := ⟨_, rfl⟩
      have HF : Hid (∀ W, Calls Tryd.prog 44 #[.agg #[.string kk, .string vv, .int .i64 nn], .string A, .int .i64 S] W fun r w' => r = .returned (.bool G) ∧ W.grownBy w' none) := fun W => by rw [hG]; exact follows_c kk vv nn A S W
      have hGX : G = fwI ⟨strOfNums (rr ys p).1.1, strOfNums (rr ys p).1.2.1, (rr ys p).1.2.2⟩ (ahd X X.length) S := by rw [hG, hkk, hvv, hnn, hA, hXk]
      cases G with
      | false =>
        have HNO : Hid (∀ s Y, ¬ TSok ys s Y) := hLI.none (by omega) (.inr hGX.symm)
        clear hGX hG hrb hkk hvv hnn he' hp' hXk hA hRB hRS hLI hSB
        go_wp2_with (first
          | (go_at_call 83; go_must (refine (Calls.mono HR.out ?_)); rintro r x1 ⟨rfl, h1, h2⟩; have A1 : Hid (_ ∧ _ ∧ _ ∧ _) := HST.out x1 h2 h1; clear h1 h2)
          | ((fail_if_success (have z := A2)); have z := A1; clear z; refine wpList_store_mid rfl 48 (.tmp 21) (.tmp 20) rfl B (k * 3) #[.string kk, .string vv, .int .i64 nn] (by first | rfl | simp) (by first | rfl | simp) A1.out.1 (by kernel_rfl) (hone _ _ _) ?_; generalize hx2 : World.setCells x1 _ _ _ = x2; have A2 : Hid (RB x2 B n (X ++ [⟨kk, vv, nn⟩]) ∧ RS x2 g a len cap ys e' p' ∧ SB w g x2) := by rw [← hx2]; exact A1.out.2
             clear hx2)
          | (have z := A2; clear z; refine wpList_load_mid rfl 48 (.tmp 24) rfl B (k * 3) (by first | rfl | simp) [.string kk, .string vv, .int .i64 nn] _ (HRG.out _ A2.out.1) Tryd.underlying48 rfl (by kernel_rfl) ?_)
          | (go_at_call 44; go_must (refine (Calls.mono (HF.out _) ?_)); rintro r x3 ⟨rfl, h3⟩; have A3 : Hid (SB w g x3) := A2.out.2.2.new h3; clear h3)
          | (go_at_call 84; go_must (refine (Calls.mono (imust_no _) ?_)); rintro r x4 ⟨rfl, hx⟩; obtain rfl := hx.symm))
        exact ⟨rfl, .inr ⟨HNO.out, rfl⟩, A3.out.gb⟩
      | true =>
        have he0 : e' = 0 := by
          rcases Classical.em (e' = 0) with z | z
          · exact z
          · rw [he'] at z
            rw [rr_bad z, fw_none] at hGX
            cases hGX
        subst he0
        have HNX : Hid (p' ≤ len → LI ys S n (X ++ [⟨kk, vv, nn⟩]) p') := by
          intro hle
          have h1 : LI ys S n (X ++ [⟨strOfNums (rr ys p).1.1, strOfNums (rr ys p).1.2.1, (rr ys p).1.2.2⟩]) (rr ys p).2.1 := hLI.step HQ.out.2.2.2.2.2 (by omega) he'.symm hGX.symm (by rw [← hp', HQ.out.2.2.2.2.1]; exact hle)
          rw [hkk, hvv, hnn, hp']
          exact h1
        have HAK : Hid ((X ++ [(⟨kk, vv, nn⟩ : Rwi)]).length = k + 1 ∧ kk = ahd (X ++ [⟨kk, vv, nn⟩]) (k + 1)) := ⟨by rw [List.length_append, List.length_singleton, hXk], by show _ = (rAt _ k).k; rw [← hXk, rAt_last]⟩
        clear hGX hG hrb hkk hvv hnn he' hp' hXk hA hRB hRS hLI hSB
        go_wp2_with (first
          | (go_at_call 83; go_must (refine (Calls.mono HR.out ?_)); rintro r x1 ⟨rfl, h1, h2⟩; have A1 : Hid (_ ∧ _ ∧ _ ∧ _) := HST.out x1 h2 h1; clear h1 h2)
          | ((fail_if_success (have z := A2)); have z := A1; clear z; refine wpList_store_mid rfl 48 (.tmp 21) (.tmp 20) rfl B (k * 3) #[.string kk, .string vv, .int .i64 nn] (by first | rfl | simp) (by first | rfl | simp) A1.out.1 (by kernel_rfl) (hone _ _ _) ?_; generalize hx2 : World.setCells x1 _ _ _ = x2; have A2 : Hid (RB x2 B n (X ++ [⟨kk, vv, nn⟩]) ∧ RS x2 g a len cap ys 0 p' ∧ SB w g x2) := by rw [← hx2]; exact A1.out.2
             clear hx2)
          | (have z := A2; clear z; refine wpList_load_mid rfl 48 (.tmp 24) rfl B (k * 3) (by first | rfl | simp) [.string kk, .string vv, .int .i64 nn] _ (HRG.out _ A2.out.1) Tryd.underlying48 rfl (by kernel_rfl) ?_)
          | (go_at_call 44; go_must (refine (Calls.mono (HF.out _) ?_)); rintro r x3 ⟨rfl, h3⟩; have A3 : Hid (RB x3 B n (X ++ [⟨kk, vv, nn⟩]) ∧ RS x3 g a len cap ys 0 p' ∧ SB w g x3) := ⟨A2.out.1.grew h3 (by simp), A2.out.2.1.new h3, A2.out.2.2.new h3⟩; have c0 : x3.cell? ⟨B, k * 3, none⟩ = some (.string kk) := HRG.out _ A3.out.1 0 _ rfl; clear h3)
          | (go_at_call 84; go_must (refine (Calls.mono (imust_so _) ?_)); rintro r x4 ⟨rfl, hx⟩; obtain rfl := hx.symm))
        go_roundw
        case rel => exact ⟨k + 1, X ++ [⟨kk, vv, nn⟩], p', kk, by omega, rfl, by go_num, HAK.out.1, HAK.out.2, A3.out.1, A3.out.2.1, fun _ => HNX.out A3.out.2.1.le, A3.out.2.2⟩
        case measure => simp [intOf]; omega
    · obtain rfl : k = n := by omega
      have hge : ¬ (k : Int) < k := by omega
      obtain ⟨D, hD⟩ : ∃ D, D = rend len E p := ⟨_, rfl⟩
      have HEN : Hid (Calls Tryd.prog 85 #[.pointer (some ⟨g, 0, none⟩)] wr fun r w' => r = .returned (.int .i64 D) ∧ wr.grownBy w' none) := by
        rw [hD]
        refine (end_c g E a len cap p wr hr.out.2.2.2.1.rdr hr.out.2.2.2.1.le hr.out.2.2.2.1.lm).mono ?_
        rintro r w' ⟨k1, m, rfl⟩
        exact ⟨k1, gb_drewN (World.grownBy.refl _ _) m⟩
      cases hz : (D == 0) with
      | false =>
        have HNO : Hid (∀ s Y, ¬ TSok ys s Y) := by
          rw [hD] at hz
          rcases Classical.em (E = 0) with z | z
          · rcases rend_no hz with q | q
            · exact absurd z q
            · have hq := HQ.out.2.2.1 z
              exact ((hr.out.2.2.2.2.1 z).fin hr.out.1 hq.2.1 hq.2.2 hn).2 (by rw [HQ.out.2.2.2.2.1]; exact q)
          · exact HQ.out.2.2.2.1 z
        clear hD
        go_wp2_with (first
          | (go_at_call 85; go_must (refine (Calls.mono HEN.out ?_)); rintro r x1 ⟨rfl, h1⟩; have A1 : Hid (SB w g x1) := hr.out.2.2.2.2.2.new h1; clear h1)
          | (go_at_call 84; go_must (refine (Calls.mono (imust_no _) ?_)); rintro r x4 ⟨rfl, hx⟩; obtain rfl := hx.symm))
        exact ⟨rfl, .inr ⟨HNO.out, rfl⟩, A1.out.gb⟩
      | true =>
        have HYE : Hid (TSok ys S X) := by
          rw [hD] at hz
          obtain ⟨z, q⟩ := rend_ok hz
          have hq := HQ.out.2.2.1 z
          exact ((hr.out.2.2.2.2.1 z).fin hr.out.1 hq.2.1 hq.2.2 hn).1 (by rw [HQ.out.2.2.2.2.1]; exact q)
        clear hD
        have hone2 : (#[Value.int .i64 S, .slice (some ⟨B, 0, none⟩) k k]).all (·.oneCell') = true := by simp [Value.oneCell']
        go_wp2_with (first
          | (go_at_call 85; go_must (refine (Calls.mono HEN.out ?_)); rintro r x1 ⟨rfl, h1⟩; have A1 : Hid (SB w g x1 ∧ RB x1 B k X) := ⟨hr.out.2.2.2.2.2.new h1, hr.out.2.2.1.grew h1 (by simp)⟩; clear h1)
          | (go_at_call 84; go_must (refine (Calls.mono (imust_so _) ?_)); rintro r x4 ⟨rfl, hx⟩; obtain rfl := hx.symm)
          | ((fail_if_success (have z := A2)); have z := A1; clear z; refine wpList_store_bk 24 rfl (.tmp 2) (.tmp 42) rfl infoSt w.heap.size _ #[.int .i64 S, .slice (some ⟨B, 0, none⟩) k k] rfl rfl A1.out.1.blk rfl rfl hone2 ?_; intro x2 h1 h2; have A2 : Hid (Bk 24 x2 w.heap.size #[.int .i64 S, .slice (some ⟨B, 0, none⟩) k k] ∧ RB x2 B k X ∧ w.grownBy x2 (some g)) := ⟨h1, A1.out.2.grew h2 (fun z => by have := Option.some.inj z; have := HBW.out; omega), gb_above A1.out.1.gb h2 (Nat.le_refl _)⟩; clear h1 h2))
        refine bodyPost_ret (results_cell1 Tryd.results50 _ _ _ ⟨w.heap.size, 0, none⟩ (.agg #[.int .i64 S, .slice (some ⟨B, 0, none⟩) k k]) rfl (bk_load Tryd.underlying24 rfl infoSt A2.out.1 rfl)) rfl ?_
        exact ⟨.inl ⟨B, k, S, X, rfl, HYE.out, A2.out.2.1.rows hr.out.1, ⟨by have := HBW.out; omega, A2.out.2.1⟩⟩, A2.out.2.2⟩
end Go.Proofs.YtcdgfghcmeadgaaDoor

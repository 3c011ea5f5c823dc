/-
  What the law's only answers: acts that are no Sync, with few bytes, sixty at most. Condition: the texts are at most 2^46 bytes.
-/
import Derived.Test.YteoohgjoffpmkaaKWo
namespace Go.Proofs.Yteoohgjoffpmkaa
open Go.RowKit
set_option linter.unusedVariables false

def flO (Y : List Dop) : List Value := Y.flatMap Dop.cells
theorem flO_snoc (Y : List Dop) (o : Dop) : flO (Y ++ [o]) = flO Y ++ o.cells := by unfold flO; rw [List.flatMap_append]; simp
theorem flO_len (Y : List Dop) : (flO Y).length = Y.length * 7 := by
  induction Y with
  | nil => rfl
  | cons o Y ih => rw [show flO (o :: Y) = o.cells ++ flO Y from rfl, List.length_append, ih, List.length_cons, Dop.cells_length]; omega
theorem flO_at : ∀ (Y : List Dop) (i : Nat) (o : Dop), Y[i]? = some o → ∀ j v, o.cells[j]? = some v → (flO Y)[i * 7 + j]? = some v
  | [], i, o, h => by simp at h
  | x :: Y, 0, o, h => by
    rw [List.getElem?_cons_zero] at h
    cases h
    intro j v hv
    have hj : j < 7 := by
      have := (List.getElem?_eq_some_iff.1 hv).1
      rwa [Dop.cells_length] at this
    rw [show flO (x :: Y) = x.cells ++ flO Y from rfl, Nat.zero_mul, Nat.zero_add, List.getElem?_append_left (by rw [Dop.cells_length]; exact hj)]
    exact hv
  | x :: Y, i + 1, o, h => by
    rw [List.getElem?_cons_succ] at h
    intro j v hv
    rw [show flO (x :: Y) = x.cells ++ flO Y from rfl, List.getElem?_append_right (by rw [Dop.cells_length]; omega), Dop.cells_length, show (i + 1) * 7 + j - 7 = i * 7 + j from by omega]
    exact flO_at Y i o h j v hv
/-- append of a literal of one element, above a base. -/
theorem wpList_oneL {ops : Array Oper} {rest : List Oper} {o : Oper} {a : Act} {w : World} {Q : Exit → Act → World → Prop} (hgd : o.guard = none) (s x : Operand) (t : TypeId)
    (ho : o.op = .call { callee := .builtin .append, args := #[s, x], argTypes := #[t, t] })
    (base : Nat) (e : TypeId) (z : Value) (size bytes : Nat) (ht : Try.prog.underlying t = some (.slice e)) (hi : (Try.prog.info? e).map (fun i => (i.zero, i.size, i.bytes)) = some (some z, size, bytes)) (hzs : z.cells.size = size) (hsz : 0 < size)
    (w0 : World) (cs : Array Value) (hw : w = w0.alloc (.cells cs e)) (v : Value) (n : Nat) (xs : List Value) (hs : a.eval s = v) (hown : w0.ownsRow base e size v n xs)
    (hx : a.eval x = .slice (some ⟨w0.heap.size, 0, none⟩) 1 1) (hl : cs.size = size) (h1 : ∀ u ∈ cs.toList, u.oneCell' = true)
    (h63 : n + 1 ≤ maxLen) (hbytes : (n + 1) * bytes ≤ 140737488355328) (hbase : base ≤ w0.heap.size)
    (h : ∀ g cap w', w'.ownsRow base e size (.slice (some ⟨g, 0, none⟩) (n + 1) cap) (n + 1) (xs ++ cs.toList) → w0.grownBy w' v.ownBlock → (v.ownBlock = some g ∨ w0.heap.size ≤ g) → wpList Try.prog ops Q rest (a.put o.dst (.slice (some ⟨g, 0, none⟩) (n + 1) cap)) w') :
    wpList Try.prog ops Q (o :: rest) a w := by
  subst hw
  obtain ⟨i, hi, hz, h4, h5⟩ := info_parts' hi
  have hga := World.grownBy_alloc w0 (.cells cs e) none
  have ho' := own_gr hown (Gr.of (G := fun _ => False) hga (by simp)) (fun _ _ z => z)
  refine wpList_append_lies _ hgd s x t ho base e i z size bytes ht hi hz h4 h5 hzs hsz v n xs hs ho' ⟨w0.heap.size, 0, none⟩ 1 1 cs.toList hx (by rw [Array.length_toList, hl]; omega) (World.news_of_block (heap_new w0 _)) h1 (by omega) h63 hbytes (Nat.le_trans hbase hga.size) _ rfl ?_
  intro g cap w' k1 k2 k3 k4
  exact h g cap w' k1 (gb_trans (gb_wide hga _) k2) (k3.imp id (fun e => by rw [e]; exact hga.size))
/-- What only leaves of the acts. -/
def Dop.few (o : Dop) : Prop := o.sm ∧ 1 ≤ o.k ∧ o.k ≤ 5 ∧ o.d.size ≤ 40
structure OnI (w : World) (v : Value) (Y : List Dop) (j : Nat) (wr : World) : Prop where
  own : wr.ownsRow w.heap.size 40 7 v Y.length (flO Y)
  bel : Below w.heap.size w wr
  few : ∀ o ∈ Y, o.few
  len : Y.length ≤ j
theorem own_dops {w : World} {B : Nat} {v : Value} {Y : List Dop} (h : w.ownsRow B 40 7 v Y.length (flO Y)) (hf : ∀ o ∈ Y, o.few) : ∃ a c, v = .slice a Y.length c ∧ DOps w a Y.length Y ∧ ∀ b o s, a = some ⟨b, o, s⟩ → B ≤ b ∧ b < w.heap.size := by
  rcases h.2 with ⟨rfl, h0⟩ | ⟨g, cap, cur, rfl, hB, hg, hn, hm, hsz, htake⟩
  · exact ⟨none, 0, by rw [h0], ⟨rfl, fun o ho => (hf o ho).1.1, .inl h0⟩, fun b o s e => by cases e⟩
  · refine ⟨_, cap, rfl, ⟨rfl, fun o ho => (hf o ho).1.1, .inr ⟨g, 0, rfl, lt_of_block hg, fun i o hi j v hv => ?_⟩⟩, fun b o s e => by cases e; exact ⟨hB, lt_of_block hg⟩⟩
    have hj : j < 7 := by
      have := (List.getElem?_eq_some_iff.1 hv).1
      rwa [Dop.cells_length] at this
    have hi2 : i < Y.length := (List.getElem?_eq_some_iff.1 hi).1
    have e1 := flO_at Y i o hi j v hv
    rw [Nat.zero_add, cell_of_row w g _ _ _ _ hg]
    rw [← htake, List.getElem?_take_of_lt (by omega)] at e1
    simpa using e1
theorem infoOpF : (Try.prog.info? 40).map (fun i => (i.zero, i.size, i.bytes)) = some (some (.agg zOpK), 7, 80) := by kernel_rfl
def zActK : Array Value := #[.int .i64 0, .string .empty, .string .empty, .string .empty, .int .i64 0]
theorem zAK (w : World) : (zeroValue 38).run Try.prog w = .ok (.agg zActK) w := by
  have h : (Try.prog.info? 38).map (fun i => (i.zero, i.size)) = some (some (.agg zActK), 5) := by kernel_rfl
  exact (zero_of_info h).1 w
set_option maxRecDepth 20000 in
set_option maxHeartbeats 4000000 in
theorem only_c (a : Option Addr) (n cap : Nat) (X : List Dop) (w : World) (hX : DOps w a n X) (hsm : ∀ o ∈ X, o.sm) (hn : n ≤ 1073741824) :
    Calls Try.prog 23 #[.slice a n cap] w fun r w' => ∃ v Y, r = .returned v ∧ OnI w v Y 60 w' := by
  have HX : Hid (DOps w a n X ∧ (∀ o ∈ X, o.sm)) := ⟨hX, hsm⟩
  have hza := zAK
  clear hX hsm
  go_enter Try.func23, Try.ntmps23
  go_wp2
  go_loopw [3, 4] (fun v i wr => ∃ (j : Nat) (Y : List Dop), j ≤ n ∧ j ≤ 60 ∧ i = .int .i64 j ∧ Hid (OnI w v Y j wr)) (fun _ i _ => n - (intOf i).toNat)
  case atStart => exact ⟨0, [], Nat.zero_le _, Nat.zero_le _, rfl, World.ownsRow_nil _ _ _ _, Below.refl _ _, fun o ho => (by cases ho), Nat.le_refl _⟩
  case round =>
    obtain ⟨j, Y, hj, hj2, rfl, HI⟩ := hrel
    by_cases hlt : j < n ∧ j < 60
    · obtain ⟨hlt1, hlt2⟩ := hlt
      obtain ⟨b, off, o, hab, hb, hxo, hrg⟩ := HX.out.1.at_ j hlt1
      have HO : Hid o.sm := HX.out.2 o (List.mem_of_getElem? hxo)
      have HRG : Hid (wr.rangeAt b (off + j * 7) [.int .i64 o.k, .string o.s, .string o.t, .string o.d, .int .i64 o.z]) := by
        show wr.rangeAt _ _ _
        intro i v hv
        have hc : o.cells[i]? = some v := by
          match i, hv with
          | 0, hv => exact hv
          | 1, hv => exact hv
          | 2, hv => exact hv
          | 3, hv => exact hv
          | 4, hv => exact hv
        exact (HI.out.bel.cell (p := ⟨b, off + j * 7 + i, none⟩) hb).trans (hrg i v hc)
      have hi1 : (0 : Int) ≤ (j : Int) := by omega
      have hi2 : (j : Int) < (n : Int) := by omega
      have hi3 : (j : Int) < 60 := by omega
      have HA : Hid _ := hab
      clear hxo hrg hb
      subst hab
      have HB1 : Hid (Bk 38 (wr.alloc (.cells zActK 38)) wr.heap.size zActK) := (blk_new wr _ _).1
      have HLD : Hid (∀ w2, Bk 38 w2 wr.heap.size #[.int .i64 o.k, .string o.s, .string o.t, .string o.d, .int .i64 o.z] → (wr.alloc (.cells zActK 38)).grownBy w2 (some wr.heap.size) → Below wr.heap.size wr w2 ∧ w2.cell? ⟨wr.heap.size, 0, none⟩ = some (.int .i64 o.k) ∧ w2.cell? ⟨wr.heap.size, 3, none⟩ = some (.string o.d) ∧ w2.rangeAt wr.heap.size 0 [.int .i64 o.k, .string o.s, .string o.t, .string o.d, .int .i64 o.z]) := by
        show ∀ w2, _
        intro w2 h1 h2
        refine ⟨((Below.refl _ _).alloc (Nat.le_refl _) _).grown h2 (by rw [World.size_alloc]; omega) (fun k e => by cases e; exact Nat.le_refl _), Bk.cell h1 0, Bk.cell h1 3, fun i v hv => ?_⟩
        rw [Nat.zero_add, Bk.cell h1 i]
        match i, hv with
        | 0, hv => exact hv
        | 1, hv => exact hv
        | 2, hv => exact hv
        | 3, hv => exact hv
        | 4, hv => exact hv
      have HSK : Hid (∀ w2, Below wr.heap.size wr w2 → OnI w u3 Y (j + 1) w2) := fun w2 h2 => ⟨own_gr HI.out.own (Gr.ofB (G := fun _ => False) h2) (fun _ _ z => z), HI.out.bel.trans (h2.mono HI.out.bel.size), HI.out.few, Nat.le_succ_of_le HI.out.len⟩
      have HYL : Hid (Y.length ≤ j) := HI.out.len
      obtain ⟨k, s, t, d, z, kd, m⟩ := o
      simp only at HRG HLD
      have HADD : Hid (1 ≤ k → k ≤ 5 → d.size ≤ 40 → ∀ w2 w3 v', Below wr.heap.size wr w2 → w3.ownsRow w.heap.size 40 7 v' (Y.length + 1) (flO Y ++ [.int .i64 k, .string s, .string t, .string d, .int .i64 z, .int .i64 0, .int .i64 0]) → w2.grownBy w3 u3.ownBlock → OnI w v' (Y ++ [⟨k, s, t, d, z, 0, 0⟩]) (j + 1) w3) := by
        show _ → _ → _ → ∀ w2, _
        intro e1 e2 e3 w2 w3 v' h1 h2 h3
        have h4 := HSK.out w2 h1
        refine ⟨by rw [List.length_append, flO_snoc]; exact h2, h4.bel.grown h3 h4.bel.size (fun q hq => (own_lt h4.own q hq).1), fun o ho => ?_, by rw [List.length_append]; have := HYL.out; simp; omega⟩
        rcases List.mem_append.1 ho with ho | ho
        · exact HI.out.few o ho
        · obtain rfl : o = ⟨k, s, t, d, z, 0, 0⟩ := by simpa using ho
          obtain ⟨⟨q1, q2, q3⟩, q4⟩ := HO.out
          exact ⟨⟨⟨q1, q2, (by decide : (Lit.int .i64 0).wf = true)⟩, q4⟩, e1, e2, e3⟩
      have hone : (#[.int .i64 k, .string s, .string t, .string d, .int .i64 z] : Array Value).all (·.oneCell') = true := by simp [Value.oneCell']
      by_cases hk1 : 1 ≤ k
      · by_cases hk2 : k ≤ 5
        · have d1 : (1 : Int) ≤ k := hk1
          have d2 : k ≤ 5 := hk2
          by_cases hd : d.size ≤ 40
          · have d3 : (d.size : Int) ≤ 40 := by omega
            go_wp2_with (first
              | (refine wpList_load_mid rfl 38 (.tmp 19) rfl b (off + j * 7) rfl _ _ HRG.out Try.underlying38 rfl infoAct5K ?_)
              | ((fail_if_success (have z := H2)); refine wpList_store_bk 38 rfl (.tmp 5) (.tmp 20) rfl infoAct5K wr.heap.size zActK #[.int .i64 k, .string s, .string t, .string d, .int .i64 z] rfl rfl HB1.out rfl rfl hone ?_; intro w2 s1 s2; obtain ⟨q1, c0, c3, q2⟩ := HLD.out w2 s1 s2; have H2 : Hid (Below wr.heap.size wr w2 ∧ w2.rangeAt wr.heap.size 0 [.int .i64 k, .string s, .string t, .string d, .int .i64 z]) := ⟨q1, q2⟩; clear q1 q2 s1 s2)
              | (refine wpList_load_mid rfl 38 (.tmp 5) rfl wr.heap.size 0 rfl _ _ H2.out.2 Try.underlying38 rfl infoAct5K ?_)
              | (at_builtin; go_must (refine wpList_oneL rfl (.tmp 35) (.tmp 38) 23 rfl w.heap.size 40 (.agg zOpK) 7 80 Try.underlying23 infoOpF rfl (by decide) w2 #[.int .i64 k, .string s, .string t, .string d, .int .i64 z, .int .i64 0, .int .i64 0] rfl u3 Y.length (flO Y) rfl (HSK.out w2 H2.out.1).own rfl rfl (by intro u hu; simp at hu; rcases hu with rfl | rfl | rfl | rfl | rfl | rfl | rfl <;> rfl) (by have := HYL.out; unfold maxLen; omega) (by have := HYL.out; omega) (HSK.out w2 H2.out.1).bel.size ?_); intro g5 c5 w3 y1 y2 _; have H9 : Hid (OnI w (.slice (some ⟨g5, 0, none⟩) (Y.length + 1) c5) (Y ++ [⟨k, s, t, d, z, 0, 0⟩]) (j + 1) w3) := HADD.out hk1 hk2 hd w2 w3 _ H2.out.1 y1 y2; clear y1 y2))
            go_roundw
            case rel => exact ⟨j + 1, Y ++ [⟨k, s, t, d, z, 0, 0⟩], by omega, by omega, by go_num, H9⟩
            case measure => simp [intOf]; omega
          · have d3 : ¬ (d.size : Int) ≤ 40 := by omega
            go_wp2_with (first
              | (refine wpList_load_mid rfl 38 (.tmp 19) rfl b (off + j * 7) rfl _ _ HRG.out Try.underlying38 rfl infoAct5K ?_)
              | ((fail_if_success (have z := H2)); refine wpList_store_bk 38 rfl (.tmp 5) (.tmp 20) rfl infoAct5K wr.heap.size zActK #[.int .i64 k, .string s, .string t, .string d, .int .i64 z] rfl rfl HB1.out rfl rfl hone ?_; intro w2 s1 s2; obtain ⟨q1, c0, c3, q2⟩ := HLD.out w2 s1 s2; have H2 : Hid (Below wr.heap.size wr w2 ∧ w2.rangeAt wr.heap.size 0 [.int .i64 k, .string s, .string t, .string d, .int .i64 z]) := ⟨q1, q2⟩; clear q1 q2 s1 s2))
            have H9 : Hid (OnI w u3 Y (j + 1) w2) := HSK.out w2 H2.out.1
            go_roundw
            case rel => exact ⟨j + 1, Y, by omega, by omega, by go_num, H9⟩
            case measure => simp [intOf]; omega
        · have d1 : (1 : Int) ≤ k := hk1
          have d2 : ¬ k ≤ 5 := hk2
          go_wp2_with (first
            | (refine wpList_load_mid rfl 38 (.tmp 19) rfl b (off + j * 7) rfl _ _ HRG.out Try.underlying38 rfl infoAct5K ?_)
            | ((fail_if_success (have z := H2)); refine wpList_store_bk 38 rfl (.tmp 5) (.tmp 20) rfl infoAct5K wr.heap.size zActK #[.int .i64 k, .string s, .string t, .string d, .int .i64 z] rfl rfl HB1.out rfl rfl hone ?_; intro w2 s1 s2; obtain ⟨q1, c0, c3, q2⟩ := HLD.out w2 s1 s2; have H2 : Hid (Below wr.heap.size wr w2 ∧ w2.rangeAt wr.heap.size 0 [.int .i64 k, .string s, .string t, .string d, .int .i64 z]) := ⟨q1, q2⟩; clear q1 q2 s1 s2))
          have H9 : Hid (OnI w u3 Y (j + 1) w2) := HSK.out w2 H2.out.1
          go_roundw
          case rel => exact ⟨j + 1, Y, by omega, by omega, by go_num, H9⟩
          case measure => simp [intOf]; omega
      · have d1 : ¬ (1 : Int) ≤ k := hk1
        go_wp2_with (first
          | (refine wpList_load_mid rfl 38 (.tmp 19) rfl b (off + j * 7) rfl _ _ HRG.out Try.underlying38 rfl infoAct5K ?_)
          | ((fail_if_success (have z := H2)); refine wpList_store_bk 38 rfl (.tmp 5) (.tmp 20) rfl infoAct5K wr.heap.size zActK #[.int .i64 k, .string s, .string t, .string d, .int .i64 z] rfl rfl HB1.out rfl rfl hone ?_; intro w2 s1 s2; obtain ⟨q1, c0, c3, q2⟩ := HLD.out w2 s1 s2; have H2 : Hid (Below wr.heap.size wr w2 ∧ w2.rangeAt wr.heap.size 0 [.int .i64 k, .string s, .string t, .string d, .int .i64 z]) := ⟨q1, q2⟩; clear q1 q2 s1 s2))
        have H9 : Hid (OnI w u3 Y (j + 1) w2) := HSK.out w2 H2.out.1
        go_roundw
        case rel => exact ⟨j + 1, Y, by omega, by omega, by go_num, H9⟩
        case measure => simp [intOf]; omega
    · have HE : Hid (OnI w u3 Y 60 wr) := ⟨HI.out.own, HI.out.bel, HI.out.few, Nat.le_trans HI.out.len hj2⟩
      rcases (show ¬ j < n ∨ (j < n ∧ ¬ j < 60) by omega) with h1 | ⟨h1, h2⟩
      · go_wp2
        go_ret
        exact ⟨_, Y, rfl, HE.out⟩
      · go_wp2
        go_ret
        exact ⟨_, Y, rfl, HE.out⟩
end Go.Proofs.Yteoohgjoffpmkaa

/-
  What the law's laid answers: the bytes of the frames that may be, one behind the other, and the list of these. Condition: the frames lie in a row of one's own, their bodies can be read, all together at most 2^30 bytes; the table of package crc lies in memory.
-/
import Derived.Test.YtegbgmihcokblaaDoorFFo
import Derived.Test.YtegbgmihcokblaaDoorFEn
import Derived.Test.YtegbgmihcokblaaDoorFa
import Derived.Test.YtegbgmihcokblaaDoorFSq
import Derived.Sort.AtCall
namespace Go.Proofs.YtegbgmihcokblaaDoor
set_option linter.unusedVariables false
open Go.RowKit Go.WideShapes Go.ChangeShapes

/-- Is a frame laid down? -/
def fkeep (most : Nat) (f : FrM) : Bool := fmay f.t f.ys.length && decide (f.ys.length ≤ most)
def fgood (most : Nat) (L : List FrM) : List FrM := L.filter (fkeep most)
def fencs (L : List FrM) : List Int := L.flatMap fun f => fenc f.t f.ys
theorem fgood_yes (most : Nat) (L : List FrM) (k : Nat) (f : FrM) (h : L[k]? = some f) (hk : fkeep most f = true) : fgood most (L.take (k + 1)) = fgood most (L.take k) ++ [f] := by
  unfold fgood
  rw [List.take_add_one, h, List.filter_append]
  simp [hk]
theorem fgood_no (most : Nat) (L : List FrM) (k : Nat) (f : FrM) (h : L[k]? = some f) (hk : fkeep most f = false) : fgood most (L.take (k + 1)) = fgood most (L.take k) := by
  unfold fgood
  rw [List.take_add_one, h, List.filter_append]
  simp [hk]
theorem fencs_snoc (L : List FrM) (f : FrM) : fencs (L ++ [f]) = fencs L ++ fenc f.t f.ys := by unfold fencs; rw [List.flatMap_append]; simp
def fsz (L : List FrM) : Nat := (L.map fun f => f.ys.length + 14).sum
theorem fencs_len (L : List FrM) : (fencs L).length = fsz L := by
  induction L with
  | nil => rfl
  | cons f L ih =>
    have e : fencs (f :: L) = fenc f.t f.ys ++ fencs L := rfl
    rw [e, List.length_append, ih, fenc_length]
    simp [fsz]
theorem fsz_good (most : Nat) (L : List FrM) : fsz (fgood most L) ≤ fsz L := by
  induction L with
  | nil => simp [fgood]
  | cons f L ih =>
    unfold fgood fsz at *
    rw [List.filter_cons]
    split
    · simp; omega
    · simp; omega
theorem fsz_take (L : List FrM) (k : Nat) : fsz (L.take k) ≤ fsz L := by
  conv => rhs; rw [← List.take_append_drop k L]
  unfold fsz
  rw [List.map_append, List.sum_append]
  omega
theorem fsz_len (L : List FrM) : L.length * 14 ≤ fsz L := by
  induction L with
  | nil => simp
  | cons f L ih => unfold fsz at *; simp; omega
/-- What laid has laid down so far. -/
structure LdI (w wr : World) (bv sv : Value) (S : List FrM) : Prop where
  b : Own w.heap.size wr bv (fencs S).length (fencs S)
  s : wr.ownsRow w.heap.size 42 2 sv S.length (flF S)
  ap : ∀ k, bv.ownBlock = some k → sv.ownBlock ≠ some k
  bel : Below w.heap.size w wr
theorem LdI.below {w wr w2 : World} {bv sv : Value} {S : List FrM} (h : LdI w wr bv sv S) (h1 : Below wr.heap.size wr w2) : LdI w w2 bv sv S := by
  have hG1 : Gr (fun _ => False) wr w2 := Gr.ofB h1
  exact ⟨own_gr h.b hG1 (fun _ _ z => z), own_gr h.s hG1 (fun _ _ z => z), h.ap, h.bel.trans (h1.mono h.bel.size)⟩
theorem ldi_b {w wr w2 w3 : World} {bv sv bv' : Value} {S : List FrM} {zs : List Int} (h : LdI w wr bv sv S) (h1 : Below wr.heap.size wr w2) (ho : Own w.heap.size w3 bv' (zs.length) zs) (hg : w2.grownBy w3 bv.ownBlock) (hv : bv'.ownBlock = bv.ownBlock ∨ bv'.ownBlock = some w2.heap.size) :
    Own w.heap.size w3 bv' zs.length zs ∧ w3.ownsRow w.heap.size 42 2 sv S.length (flF S) ∧ (∀ k, bv'.ownBlock = some k → sv.ownBlock ≠ some k) ∧ Below w.heap.size w w3 := by
  have hG1 : Gr (fun _ => False) wr w2 := Gr.ofB h1
  have hG2 : Gr (fun k => bv.ownBlock = some k) w2 w3 := Gr.of hg (fun k hk => .inl hk)
  have hs2 := own_gr h.s hG1 (fun _ _ z => z)
  have hs0 := h.bel.size
  have hs1 := h1.size
  refine ⟨ho, own_gr hs2 hG2 (fun k hk z => h.ap k z hk), fun k hk z => ?_, ?_⟩
  · rcases hv with e | e
    · exact h.ap k (by rw [← e]; exact hk) z
    · rw [e] at hk; cases hk
      have := (own_lt hs2 _ z).2; omega
  · exact (h.bel.trans (h1.mono hs0)).grown hg (by omega) (fun k hk => (own_lt h.b k hk).1)
theorem ldi_s {w w3 w4 w5 : World} {bv sv sv' : Value} {S : List FrM} {f : FrM} {zs : List Int} (h : Own w.heap.size w3 bv zs.length zs ∧ w3.ownsRow w.heap.size 42 2 sv S.length (flF S) ∧ (∀ k, bv.ownBlock = some k → sv.ownBlock ≠ some k) ∧ Below w.heap.size w w3) (hz : zs = fencs S ++ fenc f.t f.ys) (h1 : Below w3.heap.size w3 w4)
    (ho : w5.ownsRow w.heap.size 42 2 sv' (S.length + 1) (flF S ++ [.int .i64 f.t, f.u])) (hg : w4.grownBy w5 sv.ownBlock) (hv : sv'.ownBlock = sv.ownBlock ∨ sv'.ownBlock = some w4.heap.size) : LdI w w5 bv sv' (S ++ [f]) := by
  obtain ⟨h2, h3, h4, h5⟩ := h
  have hG1 : Gr (fun _ => False) w3 w4 := Gr.ofB h1
  have hG2 : Gr (fun k => sv.ownBlock = some k) w4 w5 := Gr.of hg (fun k hk => .inl hk)
  have hb2 : Own w.heap.size w4 bv zs.length zs := own_gr h2 hG1 (fun _ _ z => z)
  have hs0 := h5.size
  have hs1 := h1.size
  refine ⟨by rw [fencs_snoc, ← hz]; exact own_gr hb2 hG2 (fun k hk z => h4 k hk z), by rw [List.length_append, flF_snoc]; exact ho, fun k hk z => ?_, ?_⟩
  · rcases hv with e | e
    · exact h4 k hk (by rw [← e]; exact z)
    · rw [e] at z; cases z
      have := (own_lt hb2 _ hk).2; omega
  · exact (h5.trans (h1.mono hs0)).grown hg (by omega) (fun k hk => (own_lt h3 k hk).1)
/-- One frame behind others. -/
theorem wpList_oneF {ops : Array Oper} {rest : List Oper} {o : Oper} {a : Act} {Q : Exit → Act → World → Prop} (hgd : o.guard = none) (s x : Operand)
    (ho : o.op = .call { callee := .builtin .append, args := #[s, x], argTypes := #[31, 31] }) (w : World) (B : Nat) (t : Int) (u v : Value) (S : List FrM) (hs : a.eval s = v) (hx : a.eval x = .slice (some ⟨w.heap.size, 0, none⟩) 1 1) (h : w.ownsRow B 42 2 v S.length (flF S)) (hu : u.oneCell' = true) (hn : (S.length + 1) * 32 ≤ 140737488355328) (hB : B ≤ w.heap.size)
    (K : ∀ v' w', w'.ownsRow B 42 2 v' (S.length + 1) (flF S ++ [.int .i64 t, u]) → (w.alloc (.cells #[.int .i64 t, u] 42)).grownBy w' v.ownBlock → (v'.ownBlock = v.ownBlock ∨ v'.ownBlock = some (w.alloc (.cells #[.int .i64 t, u] 42)).heap.size) → wpList Tryd.prog ops Q rest (a.put o.dst v') w') :
    wpList Tryd.prog ops Q (o :: rest) a (w.alloc (.cells #[.int .i64 t, u] 42)) := by
  obtain ⟨i, hi, hz, h4, h5⟩ := info_parts' Tryd.infoFrm
  refine wpList_append_own_at _ hgd s x 31 ho B 42 i (.agg #[.int .i64 0, .slice none 0 0]) 2 32 Tryd.underlying31 hi hz h4 h5 rfl (by decide) v S.length (flF S) hs (own_gr h (Gr.of (G := fun _ => False) (World.grownBy_alloc w _ none) (by simp)) (fun _ _ z => z)) ⟨w.heap.size, 0, none⟩ 1 1 [.int .i64 t, u] hx rfl (fun j v' hv' => ?_) (fun y hy => ?_) (by unfold maxLen; omega) (by omega) (by simp; omega) ?_
  · have := range_new2 w (.int .i64 t) u j v' hv'
    simpa [add_plain] using this
  · simp only [List.mem_cons, List.not_mem_nil, or_false] at hy
    rcases hy with rfl | rfl
    · rfl
    · exact hu
  · intro v' w' k1 k2 _ k4
    exact K v' w' k1 k2 k4
set_option maxRecDepth 20000 in
set_option maxHeartbeats 4000000 in
theorem laidf_c (most : Nat) (a : Option Addr) (c : Nat) (L : List FrM) (w : World) (h : RdL w (.slice a L.length c) L) (hf : ∀ f ∈ L, FrB w f) (ht : Tab w) (hm : most ≤ 1048576) (hz : fsz L ≤ 1073741824) :
    Calls Tryd.prog 22 #[.slice a L.length c, .int .i64 (most : Int)] w fun r w' => ∃ bv sv, r = .returned (.tuple #[bv, sv, .bool true]) ∧ LdI w w' bv sv (fgood most L) := by
  obtain ⟨n, hN⟩ : ∃ n, n = L.length := ⟨_, rfl⟩
  have HH : Hid (RdL w (.slice a L.length c) L ∧ (∀ f ∈ L, FrB w f) ∧ Tab w ∧ fsz L ≤ 1073741824 ∧ n = L.length) := ⟨h, hf, ht, hz, hN⟩
  rw [← hN]
  have hnb : n ≤ 1073741824 := by have := fsz_len L; omega
  clear h hf ht hz hN
  go_enter Tryd.func22, Tryd.ntmps22
  go_wp2_with fail
  go_loopw [7, 8, 9] (fun bv sv i wr => ∃ k : Nat, k ≤ n ∧ i = .int .i64 (k : Int) ∧ Hid (LdI w wr bv sv (fgood most (L.take k)))) (fun _ _ i _ => n - (intOf i).toNat)
  case atStart => exact ⟨0, Nat.zero_le _, rfl, ⟨own_nil _ _, World.ownsRow_nil _ _ _ _, fun k hk => (by cases hk), Below.refl _ _⟩⟩
  case round =>
    obtain ⟨k, hk, rfl, HI⟩ := hrel
    by_cases hlt : k < n
    · have hci : (k : Int) < (n : Int) := by omega
      obtain ⟨f, hf⟩ : ∃ f, L[k]? = some f := ⟨_, List.getElem?_eq_getElem (show k < L.length by have := HH.out; omega)⟩
      obtain ⟨g, gc, ua, uc, e1, hu, hs, hr, hgl⟩ := HH.out.1.at k f hf
      obtain ⟨ua', uc', hu', _, hlc, hnz⟩ := (HH.out.2.1 f (List.mem_of_getElem? hf)).sg
      rw [hu] at hu'
      cases hu'
      cases e1
      have hby := (HH.out.2.1 f (List.mem_of_getElem? hf)).bt
      have HLT : Hid (k + 1 ≤ n) := hlt
      obtain ⟨t, ht'⟩ : ∃ t, t = f.t := ⟨_, rfl⟩
      obtain ⟨m, hm'⟩ : ∃ m, m = f.ys.length := ⟨_, rfl⟩
      have hfm : fmay t m = fmay f.t f.ys.length := by rw [ht', hm']
      rw [← ht', ← hm'] at hr
      rw [← hm'] at hs hlc hu
      have hmz : m ≤ 1073741824 := by
        have z1 := fsz_take L (k + 1)
        rw [List.take_add_one, hf] at z1
        unfold fsz at z1
        rw [List.map_append, List.sum_append] at z1
        simp at z1
        have := HH.out.2.2.2.1
        unfold fsz at this
        omega
      have HR : Hid (∀ W, Below w.heap.size w W → W.rangeAt g (k * 2) [.int .i64 t, .slice ua m uc] ∧ W.cell? ⟨g, k * 2 + 1, none⟩ = some (.slice ua m uc)) := fun W hbW => by
        have h1 : W.rangeAt g (k * 2) [.int .i64 t, .slice ua m uc] := fun j v hv => (hbW.cell (p := ⟨g, k * 2 + j, none⟩) hgl).trans (hr j v hv)
        exact ⟨h1, h1 1 _ rfl⟩
      have HMA : Hid (∀ W b, fmay t m = b → Calls Tryd.prog 23 #[.agg #[.int .i64 t, .slice ua m uc]] W fun r w' => r = .returned (.bool b) ∧ Below W.heap.size W w') := fun W b hb => may_c t ua m uc W b hb
      by_cases hmay : fmay t m = true
      · by_cases hle : m ≤ most
        · have hle' : ¬ ((most : Int) < (m : Int)) := by omega
          have HG : Hid (fgood most (L.take (k + 1)) = fgood most (L.take k) ++ [f]) := fgood_yes most L k f hf (by unfold fkeep; rw [← hfm, ← hm', hmay]; simp [hle])
          have hmm : 1 ≤ t ∧ t ≤ 255 ∧ m ≤ 1048576 := of_decide_eq_true hmay
          have HEN : Hid (∀ W, Below wr.heap.size wr W → Calls Tryd.prog 24 #[.agg #[.int .i64 t, .slice ua m uc]] W fun e w' => ∃ xa xc, e = .returned (.tuple #[.slice xa (m + 14) xc, .int .i64 0]) ∧ (Seg .u8 w' xa (m + 14) (fenc f.t f.ys) ∧ (xa = none → xc = 0)) ∧ Below W.heap.size W w') := fun W hb => by
            have hbW : Below w.heap.size w W := HI.out.bel.trans (hb.mono HI.out.bel.size)
            have he : fee t m = 0 := by unfold fee; rw [if_neg (by omega), if_neg (by omega)]
            have hb2 : feb t f.ys = fenc t f.ys := by unfold feb; rw [← hm', he]; rfl
            refine (encode_c t ua m uc f.ys W hnz (hs.below hbW) hby (by omega) (HH.out.2.2.1.below hbW)).mono ?_
            rintro e w' ⟨v, z1, z2, z3⟩
            rw [he] at z1
            rw [hb2, fenc_length, ← hm', ht'] at z2
            obtain ⟨xa, xc, rfl, q1, q2, _⟩ := z2.seg
            exact ⟨xa, xc, z1, ⟨q1, q2⟩, z3⟩
          have HSZ : Hid ((fencs (fgood most (L.take k))).length + (m + 14) ≤ 1073741824 ∧ ((fgood most (L.take k)).length + 1) * 32 ≤ 140737488355328) := by
            have z1 := fsz_take L (k + 1)
            have z2 := fsz_good most (L.take (k + 1))
            rw [HG.out, ← fencs_len, fencs_snoc, List.length_append, fenc_length, ← hm'] at z2
            have z3 := fsz_len (fgood most (L.take k))
            rw [← fencs_len] at z3
            have := HH.out.2.2.2.1
            exact ⟨by omega, by omega⟩
          obtain ⟨S, hS⟩ : ∃ S, S = fgood most (L.take k) := ⟨_, rfl⟩
          rw [← hS] at HG HI HSZ
          have HU : Hid (f.u = .slice ua m uc ∧ f.t = t) := ⟨hu, ht'.symm⟩
          have HEL : Hid ((fencs S ++ fenc f.t f.ys).length = (fencs S).length + (m + 14)) := by rw [List.length_append, fenc_length, ← hm']; rfl
          clear hf hu hs hr hby hnz hlc hgl ht' hm' hfm hmm hS HH
          go_wp2_with (first
            | (refine wpList_load_mid rfl 42 (.tmp 20) rfl g (k * 2) rfl [.int .i64 t, .slice ua m uc] _ (HR.out _ HI.out.bel).1 Tryd.underlying42 rfl (by kernel_rfl) ?_)
            | (go_at_call 23; go_must (refine (Calls.mono (HMA.out _ true hmay) ?_)); rintro r w2 ⟨rfl, hb2⟩; have hc2 := (HR.out w2 (HI.out.below hb2).bel).2; have H2 : Hid (Below wr.heap.size wr w2) := hb2; clear hb2)
            | (refine wpList_load_mid rfl 42 (.tmp 37) rfl g (k * 2) rfl [.int .i64 t, .slice ua m uc] _ (HR.out _ (HI.out.below H2.out).bel).1 Tryd.underlying42 rfl (by kernel_rfl) ?_)
            | (go_at_call 24; go_must (refine (Calls.mono (HEN.out _ H2.out) ?_)); rintro r w3 ⟨xa, xc, rfl, z1, z2⟩; have H3 : Hid ((Seg .u8 w3 xa (m + 14) (fenc f.t f.ys) ∧ (xa = none → xc = 0)) ∧ Below wr.heap.size wr w3 ∧ Own w.heap.size w3 u7 (fencs S).length (fencs S)) := ⟨z1, H2.out.trans (z2.mono H2.out.size), ((HI.out.below H2.out).below z2).b⟩; clear z1 z2)
            | (refine wpList_load_mid rfl 42 (.tmp 50) rfl g (k * 2) rfl [.int .i64 t, .slice ua m uc] _ (HR.out _ H4.out.2.2.2).1 Tryd.underlying42 rfl (by kernel_rfl) ?_)
            | (refine wpList_oneF rfl (.tmp 47) (.tmp 52) rfl w4 w.heap.size t (.slice ua m uc) _ S rfl rfl H4.out.2.1 rfl (by have := HSZ.out; omega) H4.out.2.2.2.size ?_; intro v2 w5 y1 y2 y3; have H5 : Hid (LdI w w5 v' v2 (S ++ [f])) := ldi_s H4.out rfl ((Below.refl _ _).alloc (Nat.le_refl _) _) (by rw [HU.out.1, HU.out.2]; exact y1) y2 y3; clear y1 y2 y3)
            | (at_builtin; go_must (refine wpList_append_apart _ rfl (.tmp 44) (.tmp 45) rfl w.heap.size (fencs S).length _ (fencs S) rfl H3.out.2.2 xa (m + 14) xc _ rfl H3.out.1.2 H3.out.1.1 (by have := HSZ.out; omega) (Nat.le_trans HI.out.bel.size H3.out.2.1.size) ?_); intro v' w4 y1 y2 y3; have H4 : Hid _ := ldi_b (zs := fencs S ++ fenc f.t f.ys) HI.out H3.out.2.1 (by rw [HEL.out]; exact y1) y2 y3; clear y1 y2 y3))
          go_roundw
          case rel => exact ⟨k + 1, HLT.out, by go_num, by rw [HG.out]; exact H5.out⟩
          case measure => have := HLT.out; simp [intOf]; omega
        · have hle' : (most : Int) < (m : Int) := by omega
          have HG : Hid (fgood most (L.take (k + 1)) = fgood most (L.take k)) := fgood_no most L k f hf (by unfold fkeep; rw [← hm']; simp [hle])
          clear hf hu hs hr hby hnz hlc hgl ht' hm' hfm
          go_wp2_with (first
            | (refine wpList_load_mid rfl 42 (.tmp 20) rfl g (k * 2) rfl [.int .i64 t, .slice ua m uc] _ (HR.out _ HI.out.bel).1 Tryd.underlying42 rfl (by kernel_rfl) ?_)
            | (go_at_call 23; go_must (refine (Calls.mono (HMA.out _ true hmay) ?_)); rintro r w2 ⟨rfl, hb2⟩; have hc2 := (HR.out w2 (HI.out.below hb2).bel).2; have H2 : Hid (Below wr.heap.size wr w2) := hb2; clear hb2))
          go_roundw
          case rel => exact ⟨k + 1, HLT.out, by go_num, by rw [HG.out]; exact HI.out.below H2.out⟩
          case measure => have := HLT.out; simp [intOf]; omega
      · have hmay' : fmay t m = false := by simpa using hmay
        have HG : Hid (fgood most (L.take (k + 1)) = fgood most (L.take k)) := fgood_no most L k f hf (by unfold fkeep; rw [← hfm, hmay']; rfl)
        clear hf hu hs hr hby hnz hlc hgl ht' hm' hfm
        go_wp2_with (first
          | (refine wpList_load_mid rfl 42 (.tmp 20) rfl g (k * 2) rfl [.int .i64 t, .slice ua m uc] _ (HR.out _ HI.out.bel).1 Tryd.underlying42 rfl (by kernel_rfl) ?_)
          | (go_at_call 23; go_must (refine (Calls.mono (HMA.out _ false hmay') ?_)); rintro r w2 ⟨rfl, hb2⟩; have H2 : Hid (Below wr.heap.size wr w2) := hb2; clear hb2))
        go_roundw
        case rel => exact ⟨k + 1, HLT.out, by go_num, by rw [HG.out]; exact HI.out.below H2.out⟩
        case measure => have := HLT.out; simp [intOf]; omega
    · have hci : ¬ ((k : Int) < (n : Int)) := by omega
      have HK : Hid (L.take k = L) := List.take_of_length_le (by have := HH.out; omega)
      rw [HK.out] at HI
      clear HH HK
      go_wp2
      refine bodyPost_ret (v := .tuple #[u7, u8, .bool true]) (by simp [results, Tryd.results22, go_sem]) rfl ?_
      exact ⟨u7, u8, rfl, HI.out⟩
end Go.Proofs.YtegbgmihcokblaaDoor

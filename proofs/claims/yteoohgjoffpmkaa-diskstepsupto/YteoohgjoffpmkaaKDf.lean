/-
  What disk's doFirst does: the first so many steps on files. Condition: the steps are such as the files allow, and no file is longer than a disk.
-/
import Derived.Test.YteoohgjoffpmkaaKDd
namespace Go.Proofs.Yteoohgjoffpmkaa
open Go.RowKit
set_option linter.unusedVariables false

theorem wpList_inv {ops : Array Oper} {rest : List Oper} {op : Oper} {a : Act} {w : World} {Q : Exit → Act → World → Prop} (hgd : op.guard = none) (x : Operand) (name : String) (ty : Array TypeId) (ho : op.op = .call { callee := .invoke x name, args := #[], argTypes := ty }) (u : Value) (hx : a.eval x = u) (g : FuncId) (vs : Array Value) (hc : (callMethod u name #[]).run Try.prog w = .ok (.enter g vs) w)
    (h : Calls Try.prog g vs w fun e W' => ∃ v, e = .returned v ∧ wpList Try.prog ops Q rest (a.put op.dst v) W') : wpList Try.prog ops Q (op :: rest) a w := by
  refine wpList_plain hgd fun K hK => ?_
  have hwt : Region.wanted op (yielded ops a.tmps) = true := by simp [Region.wanted, hgd]
  have z := ph_inv (P := Try.prog) (ops := ops) (o := op) (A := a) (W := w) (K := K) (Q := Q) (E := True) x name ty ho hwt u hx g vs hc (Calls.mono h (fun e W' ⟨v, e1, e2⟩ => ⟨v, e1, hK _ _ e2⟩))
  rwa [if_pos hwt] at z
/-- No file is longer than a disk, at any time. -/
def bnds : (ByteArray → Option (List Int)) → List Stp → Prop
  | F, [] => bnd F
  | F, p :: L => bnd F ∧ bnds (sdo F p (scnt p)) L
theorem bnds.now {F L} (h : bnds F L) : bnd F := by
  cases L with
  | nil => exact h
  | cons p L => exact h.1
theorem bnds_snoc {F L p} (h : bnds F L) (hp : bnd (sdo (sall F L) p (scnt p))) : bnds F (L ++ [p]) := by
  induction L generalizing F with
  | nil => exact ⟨h, hp⟩
  | cons q L ih => exact ⟨h.1, ih h.2 hp⟩
theorem sfirst_cons (F : ByteArray → Option (List Int)) (p : Stp) (L : List Stp) (k : Nat) (h : 0 < k) : sfirst F (p :: L) k = sfirst (sdo F p k) L (k - scnt p) := by
  show (if k = 0 then F else _) = _
  rw [if_neg (by omega)]
theorem sfirst_zero (F : ByteArray → Option (List Int)) (L : List Stp) : sfirst F L 0 = F := by
  cases L <;> rfl
/-- How far doFirst has come. -/
def DfI (O : Nat → Prop) (w : World) (b : Nat) (F : ByteArray → Option (List Int)) (L : List Stp) (keep : Int) (i : Nat) (kp : Int) (wr : World) : Prop :=
  ∃ V' F', Fl (fun k => O k ∨ (w.heap.size ≤ k ∧ k < wr.heap.size)) wr b V' F' ∧ Gr O w wr ∧ sfirst F' (L.drop i) kp.toNat = sfirst F L keep.toNat ∧ (kp ≤ 0 ∨ (soks F' (L.drop i) ∧ bnds F' (L.drop i))) ∧ kp ≤ keep ∧ (-1152921504606846976 ≤ kp ∨ kp = keep)
set_option maxRecDepth 20000 in
set_option maxHeartbeats 2000000 in
theorem doFirst_c {O Od : Nat → Prop} {V F} (b : Nat) (st : Value) (vs : List Value) (L : List Stp) (keep : Int) (w : World) (h : Fl O w b V F) (hrow : w.ownsRow 0 123 1 st L.length vs) (hst : StL Od w vs L) (hO : ∀ k, O k → k < w.heap.size ∧ ¬ Od k ∧ st.ownBlock ≠ some k) (hOd : ∀ k, Od k → k < w.heap.size) (hok : soks F L) (hb : bnds F L) (hk1 : -9223372036854775808 ≤ keep) (hk2 : keep ≤ 9223372036854775807) (hll : L.length ≤ 1099511627776) :
    Calls Try.prog 58 #[.map (some b), st, .int .i64 keep] w (FdoA O w b (sfirst F L keep.toNat)) := by
  obtain ⟨sa, sc, rfl⟩ : ∃ a c, st = .slice a L.length c := by
    have hl := hrow.1
    rcases hrow.2 with ⟨e, e2⟩ | ⟨_, _, _, e, _⟩
    · exact ⟨none, 0, by rw [e, e2]⟩
    · exact ⟨_, _, e⟩
  obtain ⟨n, hn⟩ : ∃ n, n = L.length := ⟨_, rfl⟩
  have HI : Hid (DfI O w b F L keep 0 keep w) := ⟨V, F, h.weak (fun k hk => .inl hk), Gr.refl _ _, rfl, .inr ⟨hok, hb⟩, Int.le_refl _, .inr rfl⟩
  have HV : Hid (∀ i, i < n → ∃ (sb : Nat) (T0 : TypeId) (x0 : Value) (p : Stp), sa = some ⟨sb, 0, none⟩ ∧ L[i]? = some p ∧ L.drop i = p :: L.drop (i + 1) ∧ ∀ wr, Gr O w wr → wr.cell? ⟨sb, i, none⟩ = some (.iface T0 x0) ∧ StV Od wr (.iface T0 x0) p) := by
    show ∀ i, _
    intro i hi
    rw [hn] at hi
    obtain ⟨p, hp⟩ : ∃ p, L[i]? = some p := ⟨_, List.getElem?_eq_getElem hi⟩
    have hvl := hst.1
    obtain ⟨v, hv⟩ : ∃ v, vs[i]? = some v := ⟨_, List.getElem?_eq_getElem (by omega)⟩
    have hsv := hst.2 i v p hv hp
    obtain ⟨T0, x0, rfl⟩ : ∃ T0 x0, v = .iface T0 x0 := by
      rcases hsv with ⟨_, e⟩ | ⟨_, _, _, e, _⟩ | ⟨_, e⟩ | ⟨_, e⟩ | ⟨_, e⟩ <;> exact ⟨_, _, e⟩
    obtain ⟨sb, rfl⟩ : ∃ sb, sa = some ⟨sb, 0, none⟩ := by
      rcases hrow.2 with ⟨e, e2⟩ | ⟨g, _, _, e, _⟩
      · omega
      · cases e; exact ⟨g, rfl⟩
    refine ⟨sb, T0, x0, p, rfl, hp, ?_, fun wr hg => ⟨?_, hsv.gr hg (fun k hk hk2 => (hO k hk2).2.1 hk)⟩⟩
    · have hp2 : L[i] = p := (List.getElem?_eq_some_iff.1 hp).2
      rw [List.drop_eq_getElem_cons hi, hp2]
    · have hc := (own_gr hrow hg (fun k hk hk2 => (hO k hk2).2.2 hk)).cellAt i (by omega)
      rw [hc, hv]
  have HO : Hid (∀ k, O k → k < w.heap.size ∧ ¬ Od k) := fun k hk => ⟨(hO k hk).1, (hO k hk).2.1⟩
  have HOd : Hid (∀ k, Od k → k < w.heap.size) := hOd
  have HN : Hid (n = L.length) := hn
  have HK : Hid (-9223372036854775808 ≤ keep ∧ keep ≤ 9223372036854775807 ∧ n ≤ 1099511627776) := ⟨hk1, hk2, by rw [hn]; exact hll⟩
  rw [← hn]
  clear h hrow hst hO hOd hok hb hk1 hk2 hn hll
  go_enter Try.func58, Try.ntmps58
  go_wp2
  go_loopw [2, 10] (fun kv i wr => ∃ (k : Nat) (kp : Int), k ≤ n ∧ kv = .int .i64 kp ∧ i = .int .i64 (k : Int) ∧ Hid (DfI O w b F L keep k kp wr)) (fun _ i _ => n - (intOf i).toNat)
  case atStart => exact ⟨0, keep, Nat.zero_le _, rfl, rfl, HI⟩
  case round =>
    obtain ⟨k, kp, hk, rfl, rfl, hr⟩ := hrel
    by_cases hlt : k < n
    · have hi1 : (k : Int) < n := by omega
      obtain ⟨sb, T0, x0, p, rfl, hp, hdr, hvv⟩ := HV.out k hlt
      obtain ⟨V', F', q1, q2, q3, q4, q5, q6⟩ := hr.out
      obtain ⟨hc, hsv⟩ := hvv wr q2
      by_cases hkp : kp < 1
      · have HF : Hid (FdoA O w b (sfirst F L keep.toNat) (.returned (.tuple #[])) wr) := by
          refine ⟨rfl, ⟨V', ?_⟩, q2⟩
          rw [← q3, show kp.toNat = 0 by omega, sfirst_zero]
          exact q1
        clear hr q1 q2 q3 q4 q5 q6 hvv hdr hp hsv
        go_wp2
        go_end0
        exact HF.out
      · have hok2 : soks F' (L.drop k) ∧ bnds F' (L.drop k) := by
          rcases q4 with q4 | q4
          · omega
          · exact q4
        rw [hdr] at hok2 q3
        obtain ⟨fn0, ar0, hcm, hcc⟩ := hsv.cnt
        obtain ⟨cn, hcn⟩ : ∃ cn, cn = scnt p := ⟨_, rfl⟩
        have hcb : cn ≤ 67108864 := by
          rw [hcn]
          rcases hsv with ⟨e, _⟩ | ⟨e, _, _, _, _, _, _, _, e2, _⟩ | ⟨e, _⟩ | ⟨e, _⟩ | ⟨e, _⟩ <;> simp [scnt, e]
          exact e2
        rw [← hcn] at hcc
        obtain ⟨kn, hkn⟩ : ∃ kn : Nat, (kn : Int) = kp := ⟨kp.toNat, by omega⟩
        have HDO : Hid (Calls Try.prog 77 #[.map (some b), .iface T0 x0, .int .i64 kp] wr (FdoA (fun k => O k ∨ (w.heap.size ≤ k ∧ k < wr.heap.size)) wr b (sdo F' p kn))) := by
          rw [← hkn]
          exact fdoA_c b _ p kn wr q1 hsv hok2.1.1 (fun k hk hd => by
            rcases hk with hk | hk
            · exact (HO.out k hk).2 hd
            · have := HOd.out k hd; omega) hok2.2.1
        have HC : Hid ((∀ W, (callMethod (.iface T0 x0) "hawser/disk.count" #[]).run Try.prog W = .ok (.enter fn0 ar0) W) ∧ ∀ W, Calls Try.prog fn0 ar0 W fun r w' => r = .returned (.int .i64 (cn : Int)) ∧ W.grownBy w' none) := ⟨hcm, hcc⟩
        have HMS : Hid (n - (k + 1) < n - k) := by show _ < _; omega
        have hw1 : wrap64 (kp - (cn : Int)) = kp - cn := IntWalk.wrap64_in _ ⟨by omega, by have := HK.out.2.1; omega⟩
        have hw2 : IntKind.i64.wrap (kp - (cn : Int)) = kp - cn := IntWalk.i64_in _ ⟨by omega, by have := HK.out.2.1; omega⟩
        have hw3 : wrap64 ((k : Int) + 1) = ((k + 1 : Nat) : Int) := by rw [IntWalk.wrap64_in _ ⟨by omega, by have := HK.out.2.2; omega⟩]; omega
        have HE : Hid (∀ x1 x2 r, FdoA (fun k => O k ∨ (w.heap.size ≤ k ∧ k < wr.heap.size)) wr b (sdo F' p kn) r x1 → x1.grownBy x2 none → DfI O w b F L keep (k + 1) (kp - cn) x2) := by
          show ∀ x1 x2 r, _
          intro x1 x2 r ⟨_, ⟨V1, z1⟩, z2⟩ z3
          have hz := z2.size
          have hz3 := z3.size
          have hz2 := q2.size
          refine ⟨V1, sdo F' p kn, (z1.gr (G := fun _ => False) (Gr.of z3 (by simp)) (fun _ _ z => z)).weak ?_, q2.then (z2.trans (Gr.of z3 (by simp))) ?_, ?_, ?_, by omega, .inl (by omega)⟩
          · rintro j ((hj | hj) | hj)
            · exact .inl hj
            · exact .inr ⟨hj.1, by omega⟩
            · exact .inr ⟨by omega, by omega⟩
          · rintro j hj (hj2 | hj2)
            · exact hj2
            · omega
          · rw [← q3, show kp.toNat = kn by omega, sfirst_cons _ _ _ _ (by omega), show (kp - (cn : Int)).toNat = kn - scnt p by omega]
          · rcases Nat.lt_or_ge cn kn with hlt2 | hge
            · right
              rw [sdo_more _ _ _ (by omega)]
              exact ⟨hok2.1.2, hok2.2.2⟩
            · left; omega
        clear hr q1 q2 q3 q4 q5 q6 hvv hdr hp hsv hok2 hcm hcc hcn hcb hkn
        go_wp2_with (first
          | (go_at_call 77; go_must (refine (Calls.mono HDO.out ?_)); rintro r x1 hx; have hrr : r = .returned (.tuple #[]) := hx.1; subst hrr; have H1 : Hid (∀ x2, x1.grownBy x2 none → DfI O w b F L keep (k + 1) (kp - cn) x2) := fun x2 hx2 => HE.out x1 x2 _ hx hx2; clear hx)
          | (refine wpList_inv rfl _ _ _ rfl (.iface T0 x0) rfl fn0 ar0 (HC.out.1 _) ?_; go_loud (refine (Calls.mono (HC.out.2 _) ?_); rintro r x2 ⟨rfl, hx⟩; refine ⟨_, rfl, ?_⟩; have H2 : Hid (DfI O w b F L keep (k + 1) (kp - cn) x2) := H1.out _ hx; clear hx)))
        go_roundw
        · exact ⟨k + 1, kp - cn, hlt, rfl, congrArg (Value.int .i64) hw3, H2⟩
        · rw [hw3]
          exact HMS.out
    · have hkn : k = n := by omega
      subst hkn
      have hi1 : ¬ (k : Int) < k := by omega
      have HF : Hid (FdoA O w b (sfirst F L keep.toNat) (.returned (.tuple #[])) wr) := by
        obtain ⟨V', F', q1, q2, q3, q4, q5, q6⟩ := hr.out
        refine ⟨rfl, ⟨V', ?_⟩, q2⟩
        rw [← q3, List.drop_eq_nil_of_le (by rw [HN.out]; omega)]
        exact q1
      clear hr
      go_wp2
      go_end0
      exact HF.out
end Go.Proofs.Yteoohgjoffpmkaa

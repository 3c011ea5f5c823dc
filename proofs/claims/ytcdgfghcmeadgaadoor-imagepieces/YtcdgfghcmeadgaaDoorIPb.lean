/-
  An Opener that is given an image in pieces, as the law ImagePieces does: what stands between two pieces, one piece more, and the end. No condition.
-/
import Derived.Test.YtcdgfghcmeadgaaDoorIPa
import Derived.Maps.AppendAt
namespace Go.Proofs.YtcdgfghcmeadgaaDoor
open Go.RowKit
set_option linter.unusedVariables false

/-- Where bytes that are cut begin. -/
def cutB (a : Option Addr) (cap p : Nat) : Option Addr := if cap = p then a else a.map (·.add p)
theorem size_u8P (W : World) : (sizeOf 5).run Tryd.prog W = .ok 1 W := by kernel_rfl
theorem slice_blh (a : Option Addr) (len cap p q : Nat) (hp : p ≤ q) (hq : q ≤ cap) (W : World) : (Instr.slice 27 (.slice a len cap) (some (.int .i64 (p : Int))) (some (.int .i64 (q : Int))) none).run Tryd.prog W = .ok (.slice (cutB a cap p) (q - p) (cap - p)) W := by
  have hel : Tryd.prog.elem 27 = 5 := by simp [Program.elem]
  rw [run_slice_lh W 27 a len cap (by rw [hel]; exact Tryd.underlying27) .i64 .i64 p q (by omega) (by omega) (by omega)]
  rw [hel, size_u8P]
  simp [sliced, cutB]
theorem seg_cutB {w : World} {a : Option Addr} {len cap : Nat} {xs : List Int} (h : Seg .u8 w a len xs) (p N : Nat) (hq : p + N ≤ len) (hlc : len ≤ cap) : Seg .u8 w (cutB a cap p) N ((xs.drop p).take N) := by
  have h1 := h.1
  refine ⟨by simp; omega, ?_⟩
  by_cases hz : N = 0
  · exact .inl hz
  · right
    obtain ⟨b, off, rfl, hb, hc⟩ := h.2.resolve_left (by omega)
    have hn : ¬ cap = p := by omega
    refine ⟨b, off + p, by simp [cutB, hn, Addr.add], hb, fun i hi => ?_⟩
    rw [Nat.add_assoc, hc (p + i) (by omega), List.getElem?_take_of_lt hi, List.getElem?_drop]
theorem cut_none {a : Option Addr} {cap p : Nat} (h : cutB a cap p = none) : a = none := by
  unfold cutB at h
  split at h
  · exact h
  · cases a with
    | none => rfl
    | some x => cases h
theorem cut_some {a : Option Addr} {cap p b o : Nat} {s : Option Nat} (h : cutB a cap p = some ⟨b, o, s⟩) : ∃ o' s', a = some ⟨b, o', s'⟩ := by
  unfold cutB at h
  split at h
  · exact ⟨_, _, h⟩
  · cases a with
    | none => cases h
    | some x =>
      have e : (x.add p).block = b := congrArg Addr.block (Option.some.inj h)
      have e2 : x.block = b := by
        unfold Addr.add at e
        split at e <;> exact e
      exact ⟨x.off, x.spot, by rw [← e2]⟩
theorem wpList_catAt {ops : Array Oper} {rest : List Oper} {o : Oper} {a : Act} {w : World} {Q : Exit → Act → World → Prop} (hgd : o.guard = none) (s x : Operand)
    (ho : o.op = .call { callee := .builtin .append, args := #[s, x], argTypes := #[22, 22] }) (base : Nat)
    (v : Value) (X : List Rwi) (hs : a.eval s = v) (hown : w.ownsRow base 48 3 v X.length (flI X))
    (ao : Option Addr) (c m : Nat) (Y : List Rwi) (hm : Y.length = m) (hx : a.eval x = .slice ao m c) (hao : ao = none → c = 0 ∧ Y = []) (hy : ∀ ad, ao = some ad → ∀ j u, (flI Y)[j]? = some u → w.cell? (ad.add j) = some u)
    (hn : (X.length + Y.length) * 40 ≤ 140737488355328) (hbase : base ≤ w.heap.size)
    (h : ∀ v' w', w'.ownsRow base 48 3 v' (X ++ Y).length (flI (X ++ Y)) → w.grownBy w' v.ownBlock → (v'.ownBlock = v.ownBlock ∨ v'.ownBlock = some w.heap.size) → wpList Tryd.prog ops Q rest (a.put o.dst v') w') :
    wpList Tryd.prog ops Q (o :: rest) a w := by
  subst hm
  obtain ⟨i, hi, hz, h4, h5⟩ := infoRow40
  cases ao with
  | none =>
    obtain ⟨rfl, rfl⟩ := hao rfl
    refine wpList_append_own_none hgd s x 22 ho base 48 i 3 Tryd.underlying22 hi v X.length (flI X) hs hown hx ?_
    exact h v w (by simpa using hown) ⟨rfl, rfl, rfl, Nat.le_refl _, fun _ _ _ => rfl⟩ (.inl rfl)
  | some ad =>
    refine wpList_append_own_at w hgd s x 22 ho base 48 i (.agg #[.string { data := #[] }, .string { data := #[] }, .int .i64 0]) 3 40 Tryd.underlying22 hi hz h4 h5 rfl (by decide) v X.length (flI X) hs hown ad Y.length c (flI Y) hx (flI_len Y) (hy ad rfl) (flI_one Y) (by unfold maxLen; omega) (by omega) hbase ?_
    intro v' w' k1 k2 _ k4
    exact h v' w' (by rw [List.length_append, flI_app]; exact k1) k2 k4
/-- What stands between two pieces. -/
def PI (xs : List Int) (w2 wr : World) (g at0 : Nat) (v : Value) (bad : Bool) : Prop :=
  w2.grownBy wr (some g) ∧ ∃ (X : List Rwi) (o : Opn), OpB wr g o ∧ (wr.ownsRow w2.heap.size 48 3 v X.length (flI X) ∧ X.length ≤ 1048576) ∧
    ((bad = false ∧ o.ta = none ∧ o.tn = 0 ∧ o.tc = 0 ∧ o.ended = false ∧ (xs.take at0).length ≤ 268435456 ∧ ∃ O part p seq n L, ST (xs.take at0) O wr g o part p seq n X L ∧ ¬ O g ∧ ∀ k, v.ownBlock = some k → ¬ O k) ∨
     (bad = true ∧ o.err ≠ 0 ∧ ∀ us s Y, ¬ DOk (xs.take at0 ++ us) s Y))
/-- What Write answers of a piece, and what the law has when it put the rows behind those it had. -/
def PW (xs : List Int) (w2 : World) (g at1 : Nat) (v : Value) (bad : Bool) (r : Ending) (w' : World) : Prop :=
  ∃ m ra rc e X D, r = .returned (.tuple #[.slice ra m rc, .int .i64 e]) ∧ D.length = m ∧ (ra = none → rc = 0 ∧ D = []) ∧ (∀ ad, ra = some ad → ∀ j u, (flI D)[j]? = some u → w'.cell? (ad.add j) = some u) ∧
    (X.length + D.length) * 40 ≤ 140737488355328 ∧ w'.ownsRow w2.heap.size 48 3 v X.length (flI X) ∧ w2.heap.size ≤ w'.heap.size ∧
    ∀ v' w'', w''.ownsRow w2.heap.size 48 3 v' (X ++ D).length (flI (X ++ D)) → w'.grownBy w'' v.ownBlock → (v'.ownBlock = v.ownBlock ∨ v'.ownBlock = some w'.heap.size) → PI xs w2 w'' g at1 v' (bad || (e != 0))
theorem pre_len {ys : List Int} {part p : Nat} {seq : Int} {n : Nat} {X : List Rwi} (h : Pre ys part p seq n X) : X.length ≤ 1048576 := by
  rcases Nat.lt_or_ge part 3 with z | z
  · rw [h.x0 z]; exact Nat.zero_le _
  · have := h.nn z; omega
theorem gb_abv {w W W' : World} {row r : Option Nat} (h : w.grownBy W row) (k : W.grownBy W' r) (hb : ∀ b, r = some b → w.heap.size ≤ b) : w.grownBy W' row :=
  ⟨k.os.trans h.os, k.tape.trans h.tape, k.output.trans h.output, Nat.le_trans h.size k.size, fun i hi hn => (k.block i (Nat.lt_of_lt_of_le hi h.size) (fun e => by have := hb i e.symm; omega)).trans (h.block i hi hn)⟩
theorem take_piece (xs : List Int) (a N : Nat) : xs.take (a + N) = xs.take a ++ (xs.drop a).take N := by rw [List.take_add]
theorem pi_start {xs : List Int} {w2 : World} {g : Nat} (h : OpB w2 g o0) : PI xs w2 w2 g 0 (.slice none 0 0) false :=
  ⟨⟨rfl, rfl, rfl, Nat.le_refl _, fun _ _ _ => rfl⟩, [], o0, h, ⟨World.ownsRow_nil _ _ _ _, Nat.zero_le _⟩, .inl ⟨rfl, rfl, rfl, rfl, rfl, Nat.zero_le _, fun _ => False, 0, 0, 0, 0, [], by rw [List.take_zero]; exact st_new _ h, fun z => z, fun _ _ z => z⟩⟩
theorem piece_c {xs : List Int} {w2 wr : World} {g at0 : Nat} {v : Value} {bad : Bool} (h : PI xs w2 wr g at0 v bad) (hgl : g < w2.heap.size) {a0 : Option Addr} {len0 cap0 : Nat} (hS : ∀ W, w2.grownBy W (some g) → Seg .u8 W a0 len0 xs ∧ Cr.Tab W) (hx : Bytes xs) (lc : len0 ≤ cap0) (nz : a0 = none → cap0 = 0) (hag : ∀ b o s, a0 = some ⟨b, o, s⟩ → b ≠ g) (N : Nat) (hN : at0 + N ≤ len0) :
    Calls Tryd.prog 24 #[.pointer (some ⟨g, 0, none⟩), .slice (cutB a0 cap0 at0) N (cap0 - at0)] wr fun r w' => PW xs w2 g (at0 + N) v bad r w' := by
  obtain ⟨h1, X, o, ho, ⟨hv, hvl⟩, hd⟩ := h
  obtain ⟨hs, ht⟩ := hS wr h1
  have hlo := own_lo2 hv
  have hvg : v.ownBlock ≠ some g := fun e => by have := (hlo g e).1; omega
  have hxl : xs.length = len0 := hs.1
  rcases hd with ⟨rfl, t1, t2, t3, t4, t5, O, part, p, seq, n, L, hst, hO, hOv⟩ | ⟨rfl, he, hno⟩
  · have hcut := seg_cutB hs at0 N hN lc
    have hby : Bytes (xs.take at0 ++ (xs.drop at0).take N) := by rw [← take_piece]; exact bytes_takeO hx _
    have htl : (xs.take at0).length = at0 := by rw [List.length_take]; omega
    have HW : Calls Tryd.prog 24 #[.pointer (some ⟨g, 0, none⟩), .slice (cutB a0 cap0 at0) N (cap0 - at0)] wr fun r w' => WrA (xs.take at0) ((xs.drop at0).take N) O X o g wr r w' := by
      rcases Nat.lt_or_ge 268435456 ((xs.take at0).length + N) with z | z
      · exact owrite_b g o (cutB a0 cap0 at0) N (cap0 - at0) (xs.take at0) ((xs.drop at0).take N) O part p seq n X L wr hst t1 t2 t3 t4 hO hcut hby (fun e => by have := nz (cut_none e); omega) (by omega) (fun b o s e => by obtain ⟨o', s', e'⟩ := cut_some e; exact hag b o' s' e') ht (268435456 - (xs.take at0).length) (by omega) (by omega)
      · exact owrite_a g o (cutB a0 cap0 at0) N (cap0 - at0) (xs.take at0) ((xs.drop at0).take N) O part p seq n X L wr hst t1 t2 t3 t4 hO hcut hby (fun e => by have := nz (cut_none e); omega) (by omega) (fun b o s e => by obtain ⟨o', s', e'⟩ := cut_some e; exact hag b o' s' e') ht z
    refine HW.mono ?_
    rintro r w' ⟨k1, D, o', ra, rc, e, rfl, k2, k3, k4, k5, k6, k7, k8⟩
    obtain ⟨ra', rc', er, hR, _, _, hnz⟩ := own_rwsI k2
    cases er
    have hXD : (X ++ D).length ≤ 1048576 := by
      rcases k8 with ⟨_, _, part', p', seq', n', L', k9⟩ | ⟨_, _, K, part', p', seq', n', _, _, k9, _⟩
      · exact pre_len k9.pre
      · exact pre_len k9
    have hg2 : w2.grownBy w' (some g) := gb_trans h1 k1
    have hgr : g < wr.heap.size := Nat.lt_of_lt_of_le hgl h1.size
    rw [List.length_append] at hXD
    refine ⟨D.length, ra, rc, e, X, D, rfl, rfl, fun z => ⟨hnz z, ?_⟩, fun ad z => ?_, by omega, own_grewI hv k1 (fun b hb z => hvg (by rw [hb]; exact z.symm)), hg2.size, ?_⟩
    · rcases hR.2 with q | ⟨b, off, q, _⟩
      · exact List.length_eq_zero_iff.1 q
      · rw [z] at q; cases q
    · subst z; exact rws_newsI hR
    · intro v' w'' q1 q2 q3
      refine ⟨gb_abv hg2 q2 (fun b hb => (hlo b hb).1), X ++ D, o', Bk.grew k3 q2 hvg, ⟨q1, by rw [List.length_append]; exact hXD⟩, ?_⟩
      rw [take_piece]
      rcases k8 with ⟨rfl, kl, part', p', seq', n', L', k9⟩ | ⟨k9, k10, k11⟩
      · refine .inl ⟨rfl, k4, k5, k6, by rw [k7, t4], by rw [List.length_append]; exact kl, _, part', p', seq', n', L', k9.strong.keep q2 (fun k hk z => ?_) hvg, fun z => ?_, fun k hk z => ?_⟩
        · rcases z.1 with ⟨z1, _⟩ | z1
          · exact hOv k hk z1
          · have := (hlo k hk).2; omega
        · rcases z.1 with ⟨z1, _⟩ | z1
          · exact hO z1
          · omega
        · rcases q3 with q | q
          · rw [q] at hk
            rcases z.1 with ⟨z1, _⟩ | z1
            · exact hOv k hk z1
            · have := (hlo k hk).2; omega
          · rw [q] at hk
            have := Option.some.inj hk
            have := z.2
            omega
      · refine .inr ⟨by simpa using k9, by rw [k10]; exact k9, fun us s Y => bad_no hby k11 us s Y⟩
  · refine (oshut_w (cutB a0 cap0 at0) N (cap0 - at0) ho he).mono ?_
    rintro r w' ⟨rfl, k1⟩
    refine ⟨0, none, 0, o.err, X, [], rfl, rfl, fun _ => ⟨rfl, rfl⟩, fun ad z => (by cases z), ?_, own_grewI hv k1 (by simp), Nat.le_trans h1.size k1.size, ?_⟩
    · show (X.length + 0) * 40 ≤ _
      omega
    · intro v' w'' q1 q2 q3
      refine ⟨gb_abv (gb_trans h1 (gb_wide k1 _)) q2 (fun b hb => (hlo b hb).1), X ++ [], o, Bk.grew (opb_gb ho k1) q2 hvg, ⟨q1, by rw [List.append_nil]; exact hvl⟩, .inr ⟨rfl, he, fun us s Y => ?_⟩⟩
      rw [take_piece, List.append_assoc]
      exact hno _ s Y
/-- The end of an image that is one. -/
theorem end_ok {xs : List Int} {w2 wr : World} {g : Nat} {v : Value} {bad : Bool} (h : PI xs w2 wr g xs.length v bad) (hgl : g < w2.heap.size) (hx : Bytes xs) {s : Int} {Y : List Rwi} (hd : DOk xs s Y) :
    bad = false ∧ ∃ va vc, v = .slice va Y.length vc ∧ Calls Tryd.prog 27 #[.pointer (some ⟨g, 0, none⟩)] wr fun r w' => r = .returned (.tuple #[.int .i64 s, .int .i64 0]) ∧ Rws w' va Y.length Y ∧ w2.grownBy w' (some g) := by
  obtain ⟨h1, X, o, ho, ⟨hv, hvl⟩, hk⟩ := h
  have hlo := own_lo2 hv
  have hvg : v.ownBlock ≠ some g := fun e => by have := (hlo g e).1; omega
  rw [List.take_length] at hk
  rcases hk with ⟨rfl, t1, t2, t3, t4, t5, O, part, p, seq, n, L, hst, hO, hOv⟩ | ⟨_, _, hno⟩
  · have h5 : part = 5 := by
      rcases Classical.em (part = 5) with z | z
      · exact z
      · exact absurd hd (hst.wt.no hx hst.pre z s Y)
    subst h5
    have hp : xs.length ≤ p := by
      rcases hst.wt with ⟨z, _⟩ | ⟨z, _⟩ | ⟨z, _⟩ | ⟨z, _⟩ | ⟨z, _⟩ | ⟨_, z⟩
      · omega
      · omega
      · omega
      · omega
      · omega
      · exact z
    obtain ⟨e1, e2⟩ := dok_uniq hx hd (hst.pre.fin hp hd.1)
    subst e1
    subst e2
    have hE : o.shutE = 0 := by
      unfold Opn.shutE
      rw [if_neg (by rw [hst.er]; simp), if_pos (by rw [hst.pt]; rfl)]
    obtain ⟨va, vc, ev, _⟩ := own_rwsI hv
    refine ⟨rfl, va, vc, ev, (oend_c g o wr ho).mono ?_⟩
    rintro r w' ⟨rfl, k1, k2⟩
    have hv2 := own_grewI hv k2 (fun b hb z => hvg (by rw [hb]; exact z.symm))
    obtain ⟨va2, vc2, ev2, hR, _⟩ := own_rwsI hv2
    rw [ev] at ev2
    cases ev2
    exact ⟨by rw [hE, if_pos rfl, hst.sq (by omega)], hR, gb_trans h1 k2⟩
  · have := hno [] s Y
    rw [List.append_nil] at this
    exact absurd hd this
/-- The end of what is no image. -/
theorem end_no {xs : List Int} {w2 wr : World} {g : Nat} {v : Value} {bad : Bool} (h : PI xs w2 wr g xs.length v bad) (hx : Bytes xs) (hd : ∀ s Y, ¬ DOk xs s Y) :
    Calls Tryd.prog 27 #[.pointer (some ⟨g, 0, none⟩)] wr fun r w' => ∃ f, r = .returned (.tuple #[.int .i64 0, .int .i64 f]) ∧ (f != 0) = true ∧ w2.grownBy w' (some g) := by
  obtain ⟨h1, X, o, ho, ⟨hv, hvl⟩, hk⟩ := h
  rw [List.take_length] at hk
  have hE : o.shutE ≠ 0 := by
    unfold Opn.shutE
    rcases hk with ⟨rfl, t1, t2, t3, t4, t5, O, part, p, seq, n, L, hst, hO, hOv⟩ | ⟨_, he, hno⟩
    · rw [if_neg (by rw [hst.er]; simp)]
      rcases Classical.em (part = 5) with z | z
      · subst z
        have hp : xs.length ≤ p := by
          rcases hst.wt with ⟨z, _⟩ | ⟨z, _⟩ | ⟨z, _⟩ | ⟨z, _⟩ | ⟨z, _⟩ | ⟨_, z⟩
          · omega
          · omega
          · omega
          · omega
          · omega
          · exact z
        exact absurd (hst.pre.fin hp t5) (hd _ _)
      · rw [if_neg (by rw [hst.pt]; omega)]
        decide
    · rw [if_pos he]
      exact he
  refine (oend_c g o wr ho).mono ?_
  rintro r w' ⟨rfl, k1, k2⟩
  exact ⟨o.shutE, by rw [if_neg hE], by simpa using hE, gb_trans h1 k2⟩
end Go.Proofs.YtcdgfghcmeadgaaDoor

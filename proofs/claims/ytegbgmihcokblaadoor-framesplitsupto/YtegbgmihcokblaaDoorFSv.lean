/-
  What the law of the Splitter's answers has in hand: the splitter, the stream so far, what was found. No condition of its own.
-/
import Derived.Test.YtegbgmihcokblaaDoorFSu
import Derived.Test.YtegbgmihcokblaaDoorFSt
import Derived.Test.YtegbgmihcokblaaDoorFSq
import Derived.Test.YtegbgmihcokblaaDoorFFg
import Derived.Test.YtegbgmihcokblaaDoorFLw
namespace Go.Proofs.YtegbgmihcokblaaDoor
set_option linter.unusedVariables false
open Go.RowKit

/-- What the stream's end adds. -/
theorem fseen_true (most : Nat) : ∀ n (xs : List Int), xs.length ≤ n → fseen most true xs = Seen.add (fseen most false xs).frames (fseen most false xs).junk (fseen most false xs).lost (fseen most true (fseen most false xs).rest) := by
  intro n
  induction n with
  | zero =>
    intro xs h
    obtain rfl : xs = [] := List.eq_nil_of_length_eq_zero (by omega)
    rw [fseen_nil, fseen_nil]
    exact (Seen.add_none _).symm
  | succ n ih =>
    intro xs h
    by_cases h0 : xs = []
    · subst h0
      rw [fseen_nil, fseen_nil]
      exact (Seen.add_none _).symm
    have hp : 0 < xs.length := List.length_pos_iff.2 h0
    by_cases hw : fmeet most xs = 40
    · have e : fseen most false xs = ⟨[], 0, 0, xs⟩ := by
        rw [fseen_step most false xs h0, if_neg (by rw [hw]; decide), if_pos ⟨hw, rfl⟩]
      rw [e]
      exact (Seen.add_none _).symm
    · have q40 : ¬ (fmeet most xs = 40 ∧ false = false) := fun q => hw q.1
      have q41 : ¬ (fmeet most xs = 40 ∧ true = false) := fun q => hw q.1
      rw [fseen_step most true xs h0, fseen_step most false xs h0, if_neg q40, if_neg q41]
      by_cases q0 : fmeet most xs = 0
      · rw [if_pos q0, if_pos q0, ih (xs.drop (flen xs + 14)) (by rw [List.length_drop]; omega), Seen.add_add]
        rfl
      · rw [if_neg q0, if_neg q0, ih (xs.drop 1) (by rw [List.length_drop]; omega)]
        split
        · rw [Seen.add_add]; rfl
        · rw [Seen.add_add]; rfl
theorem fseen_small (most : Nat) (en : Bool) : ∀ n (xs : List Int), xs.length ≤ n → (fseen most en xs).lost ≤ xs.length ∧ (fseen most en xs).junk ≤ xs.length ∧ (fseen most en xs).frames.length ≤ xs.length := by
  intro n
  induction n with
  | zero =>
    intro xs h
    obtain rfl : xs = [] := List.eq_nil_of_length_eq_zero (by omega)
    rw [fseen_nil]; simp
  | succ n ih =>
    intro xs h
    by_cases h0 : xs = []
    · subst h0; rw [fseen_nil]; simp
    have hp : 0 < xs.length := List.length_pos_iff.2 h0
    have i1 := ih (xs.drop 1) (by rw [List.length_drop]; omega)
    have i2 := ih (xs.drop (flen xs + 14)) (by rw [List.length_drop]; omega)
    rw [List.length_drop] at i1 i2
    rw [fseen_step most en xs h0]
    split
    · rename_i q0
      have hl := (fbeg_ok (fmeet_ok q0).1).2.2.2.2
      simp only [Seen.add, List.length_append, List.length_singleton]
      omega
    · split
      · simp
      · split
        · simp only [Seen.add, List.nil_append]; omega
        · simp only [Seen.add, List.nil_append]; omega
theorem own_ln {B : Nat} {w : World} {v : Value} {n : Nat} {xs : List Int} (h : Own B w v n xs) : xs.length = n := by
  have := h.1
  simpa using this
/-- Between two steps. -/
structure Fs (w wr : World) (B S most : Nat) (st : List Int) (sv : Value) (sn fo jn lo : Nat) (Q : Nat → Prop) : Prop where
  ss : SS Q wr S 2097180 (fseen most false st).rest most (jn + (fseen most false st).junk) (lo + (fseen most false st).lost) (.slice none 0 0) []
  own : Own B wr sv sn st
  q : ∀ k, Q k → B ≤ k ∧ k < wr.heap.size
  sq : ∀ k, sv.ownBlock = some k → ¬ Q k
  fo : fo = (fseen most false st).frames.length
  bel : Below B w wr
  sz : B ≤ wr.heap.size
theorem Fs.below {w wr w' : World} {B S most : Nat} {st : List Int} {sv : Value} {sn fo jn lo : Nat} {Q : Nat → Prop} (h : Fs w wr B S most st sv sn fo jn lo Q) (hb : Below wr.heap.size wr w') : Fs w w' B S most st sv sn fo jn lo Q :=
  ⟨h.ss.gb (gb_of hb), h.own.below hb, fun k z => by have := h.q k z; have := hb.size; omega, h.sq, h.fo, h.bel.trans (hb.mono h.sz), Nat.le_trans h.sz hb.size⟩
/-- Behind a step's call: what came of it, and of the stream so far. -/
structure Md (w W : World) (B S most : Nat) (en : Bool) (st : List Int) (sv : Value) (sn : Nat) (gv : Value) (gn : Nat) (LG : List FrM) (fo jn lo rn J Lo : Nat) (Q : Nat → Prop) : Prop where
  ss : SS Q W S 2097180 (fseen most en st).rest most J Lo (.slice none 0 0) []
  rn : rn = (fseen most en st).rest.length
  jk : J = jn + (fseen most en st).junk
  ls : Lo = lo + (fseen most en st).lost
  own : Own B W sv sn st
  q : ∀ k, Q k → B ≤ k ∧ k < W.heap.size
  sq : ∀ k, sv.ownBlock = some k → ¬ Q k
  rd : RdL W gv LG
  gl : LG.length = gn
  fr : ∃ old, (fseen most en st).frames = old ++ LG.map FrM.fr ∧ old.length = fo
  bel : Below B w W
  sz : B ≤ W.heap.size
theorem RdL.gb {w w' : World} {v : Value} {L : List FrM} (h : RdL w v L) (hg : w.grownBy w' none) : RdL w' v L :=
  ⟨own_gr h.own (Gr.of (G := fun _ => False) hg (by simp)) (fun _ _ z => z), fun f hf => by
    obtain ⟨ua, uc, e, hs⟩ := h.body f hf
    exact ⟨ua, uc, e, hs.below (gb_below hg)⟩⟩
theorem Md.gb {w W W' : World} {B S most : Nat} {en : Bool} {st : List Int} {sv : Value} {sn : Nat} {gv : Value} {gn : Nat} {LG : List FrM} {fo jn lo rn J Lo : Nat} {Q : Nat → Prop} (h : Md w W B S most en st sv sn gv gn LG fo jn lo rn J Lo Q) (hg : W.grownBy W' none) : Md w W' B S most en st sv sn gv gn LG fo jn lo rn J Lo Q :=
  ⟨h.ss.gb hg, h.rn, h.jk, h.ls, own_gr h.own (Gr.of (G := fun _ => False) hg (by simp)) (fun _ _ z => z), fun k z => by have := h.q k z; have := hg.size; omega, h.sq, h.rd.gb hg, h.gl, h.fr, h.bel.trans ((gb_below hg).mono h.sz), Nat.le_trans h.sz hg.size⟩
/-- Behind End. -/
theorem md_end {w wr w' : World} {B S most : Nat} {st : List Int} {sv : Value} {sn fo jn lo : Nat} {Q : Nat → Prop} (h : Fs w wr B S most st sv sn fo jn lo Q) {r : Ending} (hc : CallA Q wr S 0 [] most (jn + (fseen most false st).junk + (fseen most true (fseen most false st).rest).junk) (lo + (fseen most false st).lost + (fseen most true (fseen most false st).rest).lost) (fseen most true (fseen most false st).rest).frames r w') :
    ∃ ga gc gn LG rn J Lo Q', r = .returned (.slice ga gn gc) ∧ Md w w' B S most true st sv sn (.slice ga gn gc) gn LG fo jn lo rn J Lo Q' ∧ Gr Q wr w' := by
  obtain ⟨fa, fc, L, Q', F, rfl, z1, z2, z3, z4, z5, z6, z7⟩ := hc
  have e := fseen_true most _ st (Nat.le_refl _)
  have er := fseen_end most _ st (Nat.le_refl _)
  have hs := z7.size
  refine ⟨fa, fc, L.length, L, 0, _, _, Q', rfl, ⟨?_, by rw [er]; rfl, rfl, rfl, own_gr h.own z7 (fun k hk => h.sq k hk), fun k z => ?_, fun k e z => ?_, z3.rd, rfl, ⟨(fseen most false st).frames, by rw [e, z1]; rfl, h.fo.symm⟩, Gr.below h.bel z7 (fun k z => (h.q k z).1) h.sz, Nat.le_trans h.sz hs⟩, z7⟩
  · rw [er, e]
    have := z2.mono (Nat.zero_le 2097180)
    unfold Seen.add
    rw [← Nat.add_assoc, ← Nat.add_assoc]
    exact this
  · have z4k := z4 k z
    have hsz := h.sz
    rcases z4k.1 with q | q
    · have := (h.q k q).1; omega
    · omega
  · rcases (z4 k z).1 with q | q
    · exact h.sq k e q
    · have := (own_lt h.own k e).2; omega
/-- Behind Feed, ahead of the stream's own growth. -/
structure Fd (w W : World) (B S most : Nat) (st ys : List Int) (sv : Value) (sn : Nat) (gv : Value) (gn : Nat) (LG : List FrM) (fo jn lo : Nat) (Q : Nat → Prop) : Prop where
  ss : SS Q W S 2097180 (fseen most false (st ++ ys)).rest most (jn + (fseen most false (st ++ ys)).junk) (lo + (fseen most false (st ++ ys)).lost) (.slice none 0 0) []
  own : Own B W sv sn st
  q : ∀ k, Q k → B ≤ k ∧ k < W.heap.size
  sq : ∀ k, sv.ownBlock = some k → ¬ Q k
  frl : ∃ F, FrL F W gv LG ∧ ∀ k, F k → sv.ownBlock ≠ some k
  gl : LG.length = gn
  fr : ∃ old, (fseen most false (st ++ ys)).frames = old ++ LG.map FrM.fr ∧ old.length = fo
  bel : Below B w W
  sz : B ≤ W.heap.size
theorem Fd.below {w W W' : World} {B S most : Nat} {st ys : List Int} {sv : Value} {sn : Nat} {gv : Value} {gn : Nat} {LG : List FrM} {fo jn lo : Nat} {Q : Nat → Prop} (h : Fd w W B S most st ys sv sn gv gn LG fo jn lo Q) (hb : Below W.heap.size W W') : Fd w W' B S most st ys sv sn gv gn LG fo jn lo Q :=
  ⟨h.ss.gb (gb_of hb), h.own.below hb, fun k z => by have := h.q k z; have := hb.size; omega, h.sq, by obtain ⟨F, f1, f2⟩ := h.frl; exact ⟨F, f1.gb (gb_of hb), f2⟩, h.gl, h.fr, h.bel.trans (hb.mono h.sz), Nat.le_trans h.sz hb.size⟩
theorem md_feed {w wr w' : World} {B S most : Nat} {st ys : List Int} {sv : Value} {sn fo jn lo : Nat} {Q : Nat → Prop} (h : Fs w wr B S most st sv sn fo jn lo Q) {r : Ending} (hc : CallA Q wr S 2097180 (fseen most false ((fseen most false st).rest ++ ys)).rest most (jn + (fseen most false st).junk + (fseen most false ((fseen most false st).rest ++ ys)).junk) (lo + (fseen most false st).lost + (fseen most false ((fseen most false st).rest ++ ys)).lost) (fseen most false ((fseen most false st).rest ++ ys)).frames r w') :
    ∃ ga gc gn LG Q', r = .returned (.slice ga gn gc) ∧ Fd w w' B S most st ys sv sn (.slice ga gn gc) gn LG fo jn lo Q' ∧ Gr Q wr w' := by
  obtain ⟨fa, fc, L, Q', F, rfl, z1, z2, z3, z4, z5, z6, z7⟩ := hc
  have e := fseen_app most _ st (Nat.le_refl _) ys
  have hs := z7.size
  have hsz := h.sz
  refine ⟨fa, fc, L.length, L, Q', rfl, ⟨?_, own_gr h.own z7 (fun k hk => h.sq k hk), fun k z => ?_, fun k e z => ?_, ⟨F, z3, fun k z e => ?_⟩, rfl, ⟨(fseen most false st).frames, by rw [e, z1]; rfl, h.fo.symm⟩, Gr.below h.bel z7 (fun k z => (h.q k z).1) h.sz, Nat.le_trans h.sz hs⟩, z7⟩
  · rw [e]
    unfold Seen.add
    rw [← Nat.add_assoc, ← Nat.add_assoc]
    exact z2
  · have z4k := z4 k z
    rcases z4k.1 with q | q
    · have := (h.q k q).1; omega
    · omega
  · rcases (z4 k z).1 with q | q
    · exact h.sq k e q
    · have := (own_lt h.own k e).2; omega
  · rcases (z5 k z).1 with q | q
    · exact h.sq k e q
    · have := (own_lt h.own k e).2; omega
theorem md_app {w W W' : World} {B S most m sm : Nat}  {st ys : List Int} {sv sv' : Value} {sn : Nat} {gv : Value} {gn : Nat} {LG : List FrM} {fo jn lo : Nat} {Q : Nat → Prop} (hsm : sm = sn + m) (h : Fd w W B S most st ys sv sn gv gn LG fo jn lo Q) (y1 : Own B W' sv' (sn + m) (st ++ ys)) (y2 : W.grownBy W' sv.ownBlock) (y3 : ∀ k, sv'.ownBlock = some k → sv.ownBlock = some k ∨ W.heap.size ≤ k) :
    ∃ sa sc rn J Lo, sv' = .slice sa sm sc ∧ Md w W' B S most false (st ++ ys) (.slice sa sm sc) sm gv gn LG fo jn lo rn J Lo Q := by
  subst hsm
  have g : Gr (fun k => sv.ownBlock = some k) W W' := Gr.of y2 (fun k hk => .inl hk)
  have hs := g.size
  obtain ⟨F, f1, f2⟩ := h.frl
  obtain ⟨sa, sc, rfl, _⟩ := y1.seg
  refine ⟨sa, sc, _, _, _, rfl, h.ss.gr g (fun k z e => h.sq k e z), rfl, rfl, rfl, y1, fun k z => by have := h.q k z; omega, fun k e z => ?_, (f1.gr g f2).rd, h.gl, h.fr, Gr.below h.bel g (fun k z => (own_lt h.own k z).1) h.sz, Nat.le_trans h.sz hs⟩
  rcases y3 k e with q | q
  · exact h.sq k q z
  · have := (h.q k z).2; omega
/-- The stream goes on. -/
theorem fs_next {w W : World} {B S most : Nat} {st : List Int} {sv : Value} {sn : Nat} {gv : Value} {gn : Nat} {LG : List FrM} {fo jn lo rn J Lo fo' : Nat} {Q : Nat → Prop} (h : Md w W B S most false st sv sn gv gn LG fo jn lo rn J Lo Q) (hf : fo' = (fseen most false st).frames.length) : Fs w W B S most st sv sn fo' jn lo Q :=
  ⟨by have := h.ss; rw [h.jk, h.ls] at this; exact this, h.own, h.q, h.sq, hf, h.bel, h.sz⟩
/-- A new stream begins. -/
theorem fs_anew {w W : World} {B S most : Nat} {st : List Int} {sv : Value} {sn : Nat} {gv : Value} {gn : Nat} {LG : List FrM} {fo jn lo rn J Lo : Nat} {Q : Nat → Prop} (h : Md w W B S most true st sv sn gv gn LG fo jn lo rn J Lo Q) : Fs w W B S most [] (.slice none 0 0) 0 0 J Lo Q :=
  ⟨by rw [fseen_nil]; have := h.ss; rw [fseen_end most _ st (Nat.le_refl _)] at this; exact this, own_nil _ _, h.q, (fun k e => by cases e), by rw [fseen_nil]; rfl, h.bel, h.sz⟩
theorem fs_start {w w1 : World} {S T most : Nat} (h1 : Sp w1 S T 0 0 most 0 0 (.slice none 0 0)) (h2 : Bk 73 w1 T #[.slice none 0 0, .slice none 0 0]) (h3 : w.heap.size ≤ T) (h4 : T < S) (h5 : Below w.heap.size w w1) : Fs w w1 w.heap.size S most [] (.slice none 0 0) 0 0 0 0 (fun k => w.heap.size ≤ k ∧ k < w1.heap.size) :=
  ⟨by rw [fseen_nil]; exact ((ss_new h1 h2 h3 h4).mono (Nat.zero_le _)).weak (fun k hk z => ⟨z, hk⟩), own_nil _ _, fun k z => z, (fun k e => by cases e), by rw [fseen_nil]; rfl, h5, h5.size⟩
/-- The k-th of the document's frames in memory. -/
theorem GrL.at {F : Nat → Prop} {w : World} {v : Value} {L : List FrM} (h : GrL F w v L) (k : Nat) (f : FrM) (hf : L[k]? = some f) : ∃ g c ua uc, v = .slice (some ⟨g, 0, none⟩) L.length c ∧ f.u = .slice ua f.ys.length uc ∧ Seg .u8 w ua f.ys.length f.ys ∧ w.rangeAt g (k * 2) [.int .i64 f.t, .slice ua f.ys.length uc] ∧ g < w.heap.size := by
  have hk : k < L.length := by
    rcases Nat.lt_or_ge k L.length with z | z
    · exact z
    · rw [List.getElem?_eq_none z] at hf; cases hf
  obtain ⟨g, c, rfl⟩ := (own_shape h.own).2 (by omega)
  have hm : f ∈ L := List.mem_of_getElem? hf
  obtain ⟨ua, uc, hu, hs, _⟩ := (h.body f hm).1.seg
  have hg := flF_get L k f hf
  have hlen : (flF L).length = L.length * 2 := h.own.1
  refine ⟨g, c, ua, uc, rfl, hu, hs, fun j x hx => ?_, (own_lt h.own g rfl).2⟩
  match j, hx with
  | 0, hx =>
    cases hx
    rw [Nat.add_zero, h.own.cellAt (k * 2) (by omega)]
    exact hg.1
  | 1, hx =>
    cases hx
    rw [h.own.cellAt (k * 2 + 1) (by omega), ← hu]
    exact hg.2
theorem fseen_bytes (most : Nat) (en : Bool) : ∀ n (xs : List Int), xs.length ≤ n → Bytes xs → ∀ fr ∈ (fseen most en xs).frames, Bytes fr.2 := by
  intro n
  induction n with
  | zero =>
    intro xs h _ fr hfr
    obtain rfl : xs = [] := List.eq_nil_of_length_eq_zero (by omega)
    rw [fseen_nil] at hfr
    cases hfr
  | succ n ih =>
    intro xs h hx fr hfr
    by_cases h0 : xs = []
    · subst h0; rw [fseen_nil] at hfr; cases hfr
    have hp : 0 < xs.length := List.length_pos_iff.2 h0
    have i1 := ih (xs.drop 1) (by rw [List.length_drop]; omega) (hx.drop _)
    have i2 := ih (xs.drop (flen xs + 14)) (by rw [List.length_drop]; omega) (hx.drop _)
    rw [fseen_step most en xs h0] at hfr
    split at hfr
    · rcases List.mem_append.1 hfr with z | z
      · obtain rfl : fr = _ := by simpa using z
        exact (hx.drop 10).take _
      · exact i2 fr z
    · split at hfr
      · cases hfr
      · split at hfr
        · exact i1 fr (by simpa [Seen.add] using hfr)
        · exact i1 fr (by simpa [Seen.add] using hfr)
/-- The i-th frame that was answered is the document's. -/
theorem md_same {w W w6 w' : World} {B S most : Nat} {en : Bool} {st : List Int} {sv : Value} {sn : Nat} {gv : Value} {gn : Nat} {LG LS : List FrM} {fo jn lo rn J Lo i p j l : Nat} {Q : Nat → Prop} {fv : Value} (h : Md w W B S most en st sv sn gv gn LG fo jn lo rn J Lo Q) (hs : StA most en st w6 w' fv LS p j l) (hb : Bytes st) (hi : i < gn) :
    ∃ f f2 : FrM, LG[i]? = some f ∧ LS[fo + i]? = some f2 ∧ f2.t = f.t ∧ f2.ys = f.ys ∧ Bytes f.ys := by
  obtain ⟨old, e1, e2⟩ := h.fr
  have e3 := hs.fr
  rw [e1] at e3
  have hl := congrArg List.length e3
  rw [List.length_append, List.length_map, List.length_map, e2, h.gl] at hl
  have hgl := h.gl
  obtain ⟨f, hf⟩ : ∃ f, LG[i]? = some f := ⟨_, List.getElem?_eq_getElem (show i < LG.length by omega)⟩
  obtain ⟨f2, hf2⟩ : ∃ f, LS[fo + i]? = some f := ⟨_, List.getElem?_eq_getElem (show fo + i < LS.length by omega)⟩
  have e4 := congrArg (fun l => l[fo + i]?) e3
  simp only [List.getElem?_map, hf2, Option.map_some] at e4
  rw [List.getElem?_append_right (by omega), e2, Nat.add_sub_cancel_left, List.getElem?_map, hf] at e4
  have e5 : f2.fr = f.fr := by simpa using e4
  refine ⟨f, f2, hf, hf2, congrArg Prod.fst e5, congrArg Prod.snd e5, ?_⟩
  have hm : f.fr ∈ (fseen most en st).frames := by
    rw [e1]
    exact List.mem_append_right _ (List.mem_map.2 ⟨f, List.mem_of_getElem? hf, rfl⟩)
  exact fseen_bytes most en _ st (Nat.le_refl _) hb f.fr hm
theorem md_len {w W w6 w' : World} {B S most : Nat} {en : Bool} {st : List Int} {sv : Value} {sn : Nat} {gv : Value} {gn : Nat} {LG LS : List FrM} {fo jn lo rn J Lo p j l : Nat} {Q : Nat → Prop} {fv : Value} (h : Md w W B S most en st sv sn gv gn LG fo jn lo rn J Lo Q) (hs : StA most en st w6 w' fv LS p j l) : LS.length = fo + gn ∧ LS.length = (fseen most en st).frames.length ∧ p + rn = sn ∧ J = jn + j ∧ Lo = lo + l ∧ st.length = sn ∧ j ≤ st.length ∧ l ≤ st.length ∧ LS.length ≤ st.length := by
  obtain ⟨old, e1, e2⟩ := h.fr
  have e3 := congrArg List.length hs.fr
  have e4 := congrArg List.length e1
  rw [List.length_map] at e3
  rw [List.length_append, List.length_map, e2, h.gl] at e4
  have e5 := hs.at_
  have e6 : st.length = sn := own_ln h.own
  have e7 := h.rn
  have e8 := h.jk
  have e9 := h.ls
  have f1 := hs.jk
  have f2 := hs.ls
  have f3 := fseen_small most en _ st (Nat.le_refl _)
  refine ⟨by omega, e3, by omega, by omega, by omega, e6, by omega, by omega, by omega⟩
theorem sb_new (w : World) : Sb (w.alloc (.cells #[.slice none 0 0, .int .i64 0, .int .i64 0, .int .i64 0] 38)) w.heap.size (.slice none 0 0) 0 0 0 := heap_new w _
theorem Tryd.infoStep : (Tryd.prog.info? 30).map (·.size) = some 3 := by kernel_rfl
theorem step_one (a : Option Addr) (n c : Nat) (x y : Bool) : #[Value.slice a n c, .bool x, .bool y].all (·.oneCell') = true := by simp [Value.oneCell']
theorem sbk_new (w : World) : Bk 30 (w.alloc (.cells #[.slice none 0 0, .bool false, .bool false] 30)) w.heap.size #[.slice none 0 0, .bool false, .bool false] := heap_new w _
theorem grown_below {w w2 : World} {o : Obj} (h : (w.alloc o).grownBy w2 (some w.heap.size)) : Below w.heap.size w w2 :=
  ((Below.refl _ _).alloc (Nat.le_refl _) _).grown h (by simp) (fun k hk => by cases hk; exact Nat.le_refl _)
end Go.Proofs.YtegbgmihcokblaaDoor

/-
  What a pack Reader's Text answers: what the plain function rt gives. Condition: the Reader's bytes can be read, and their length is one that a machine has.
  Numbers and texts as bytes, there and back, as plain data. No condition of its own.
  Lists of calls that came in: what a law is told of them. No condition of its own.
  What a call of the document's Writer comes to, as plain data. Condition: what is laid down takes at most 2^47 bytes.
  What a pack Reader's Digest answers: what the plain function rg gives. Condition: the Reader's bytes can be read, and their length is one that a machine has.
  What a pack Reader's Row answers: what the plain function rr gives; laws for variables of several cells in a block of their own. Condition: the Reader's bytes can be read, and their length is one that a machine has.
  What a pack Reader's Flag and Count answer: what the plain functions rf and rc give. Condition: the Reader's bytes can be read, and their length is one that a machine has.
  What is laid down by calls of a Writer, as plain data, and what a Reader takes up of it by the same calls; and the other way round. No condition of its own.
  A state's numbers and rows as bytes, as plain data: what is taken up of them is told by the bytes alone. No condition of its own.
  What bytes.Clone and pack.NewReader answer of whatever bytes: a copy in new memory, a Reader over one. Condition: the slice can be read, and its length is one that a machine has.
  Rows that are laid into a block one by one; what image's takeState answers: the state that the bytes are, or a panic where they are none. Condition: what a Reader can hold.
-/
import Derived.Test.YteilmkibbdlnoabDoorPTx
import Derived.Test.YteilmkibbdlnoabDoorWPu
import Derived.Test.YteilmkibbdlnoabDoorRows
import Derived.Test.YteilmkibbdlnoabDoorRd
import Derived.Test.YteilmkibbdlnoabDoorNum
import Derived.Deep.Slices
import Derived.Deep.MidRow
import Derived.ProofKit
import Derived.OpenShut
import Derived.ChangeOld
import Derived.Test.YteilmkibbdlnoabDoorXwa
import Derived.Test.YteilmkibbdlnoabDoorGbN
import Derived.Deep.WholeRow
import Derived.Laws.CopyOwn
import Derived.Test.YteilmkibbdlnoabDoorBk
import Derived.Test.YteilmkibbdlnoabDoorILv
import Derived.Test.YteilmkibbdlnoabDoorPRs
import Derived.Test.YteilmkibbdlnoabDoorApp
namespace Go.Proofs.YteilmkibbdlnoabDoor
open Go.RowKit
set_option linter.unusedVariables false

/-- What Text takes up: the text's bytes, the place behind it, the error. -/
def rt (xs : List Int) (p : Nat) (most : Int) : List Int × Nat × Int :=
  if (ri xs p most).2.2 ≠ 0 then ([], p, (ri xs p most).2.2)
  else if ((xs.length - (ri xs p most).2.1 : Nat) : Int) < (ri xs p most).1 then ([], p, 30)
  else ((xs.drop (ri xs p most).2.1).take (ri xs p most).1.toNat, (ri xs p most).2.1 + (ri xs p most).1.toNat, 0)

theorem text_no (g : Nat) (e : Int) (v : Value) (p : Int) (most : Int) (w : World) (h : Rdr w g e v p) (he : (e == 0) = false) :
    Calls Tryd.prog 65 #[.pointer (some ⟨g, 0, none⟩), .int .i64 most] w fun r w' => r = .returned (.string (strOfNums [])) ∧ w' = w := by
  go_enter Tryd.func65, Tryd.ntmps65
  go_wp2_with fail
  refine (ready_c g e v p w h).mono ?_
  rintro r w1 ⟨rfl, rfl⟩
  go_wp2
  go_ret
  exact ⟨rfl, rfl⟩

theorem well_r (g : Nat) (a : Option Addr) (len cap : Nat) (xs : List Int) (e : Int) (p : Nat) (w : World) (h : RS w g a len cap xs e p) :
    Calls Tryd.prog 69 #[.pointer (some ⟨g, 0, none⟩)] w fun r w' => r = .returned (.bool (e == 0)) ∧ w' = w := well_c g e w h.rdr.c0

set_option maxRecDepth 20000 in
theorem text_ok (g : Nat) (a : Option Addr) (len cap : Nat) (xs : List Int) (p : Nat) (most : Int) (w : World) (h : RS w g a len cap xs 0 p) (hm2 : most ≤ 9223372036854775807) :
    Calls Tryd.prog 65 #[.pointer (some ⟨g, 0, none⟩), .int .i64 most] w fun r w' => r = .returned (.string (strOfNums (rt xs p most).1)) ∧ RS w' g a len cap xs (rt xs p most).2.2 (rt xs p most).2.1 ∧ w.grownBy w' (some g) := by
  have HR : Hid (RS w g a len cap xs 0 p) := h
  have HI : Hid (Calls Tryd.prog 41 #[.pointer (some ⟨g, 0, none⟩), .int .i64 most] w fun r w' => r = .returned (.int .i64 (ri xs p most).1) ∧ RS w' g a len cap xs (ri xs p most).2.2 (ri xs p most).2.1 ∧ w.grownBy w' (some g)) := int_ok g a len cap xs p most w h hm2
  have hbd := ri_bd h.bytes p (by rw [h.seg.1]; exact h.le) most
  have HT : Hid (rt xs p most = if (ri xs p most).2.2 ≠ 0 then ([], p, (ri xs p most).2.2)
      else if ((len - (ri xs p most).2.1 : Nat) : Int) < (ri xs p most).1 then ([], p, 30)
      else ((xs.drop (ri xs p most).2.1).take (ri xs p most).1.toNat, (ri xs p most).2.1 + (ri xs p most).1.toNat, 0)) := by
    show _ = _
    rw [rt, h.seg.1]
  rw [h.seg.1] at hbd
  obtain ⟨V, q, E, hri⟩ : ∃ V q E, ri xs p most = (V, q, E) := ⟨_, _, _, rfl⟩
  rw [hri] at hbd HI HT
  simp only at hbd HI HT
  have h3 := h.rdr.c3
  have hple := h.le
  obtain ⟨R, hR⟩ : ∃ R, R = rt xs p most := ⟨_, rfl⟩
  rw [← hR] at HT ⊢
  clear h hri hR
  obtain ⟨N, rfl⟩ : ∃ N : Nat, V = N := ⟨V.toNat, by omega⟩
  have hnil := fun w => seg_string (P := Tryd.prog) (w := w) (a := none) (len := 0) (xs := []) 22 9 5 0 ⟨rfl, .inl rfl⟩ Tryd.underlying22 Tryd.underlying5 Tryd.underlying9
  by_cases hE : E = 0
  · subst hE
    rw [if_neg (by simp)] at HT
    by_cases hs : ((len - q : Nat) : Int) < N
    · rw [if_pos hs] at HT
      rw [HT.out]
      have HS : Hid (((len - q : Nat) : Int) < N) := hs
      clear hs HT hbd
      go_enter Tryd.func65, Tryd.ntmps65
      go_wp2_with fail
      refine (ready_c g 0 _ _ w HR.out.rdr).mono ?_
      rintro r w1 ⟨rfl, rfl⟩
      go_wp2_with fail
      refine HI.out.mono ?_
      rintro r w2 ⟨rfl, h1, h2⟩
      have H1 : Hid (RS w2 g a len cap xs 0 q ∧ w1.grownBy w2 (some g)) := ⟨h1, h2⟩
      clear h1 h2
      go_wp2_with fail
      refine (take_short g a len cap xs q _ _ H1.out.1 HS.out).mono ?_
      rintro r w3 ⟨rfl, h1, h2⟩
      have H2 : Hid (RS w3 g a len cap xs 30 q ∧ w1.grownBy w3 (some g)) := ⟨h1, gb_trans H1.out.2 h2⟩
      have c3 := h1.rdr.c3
      have f3 := h1.rdr.free 3
      clear h1 h2
      go_wp2_with fail
      refine (well_r g a len cap xs 30 q _ H2.out.1).mono ?_
      rintro r w4 ⟨rfl, rfl⟩
      go_wp2
      go_ret
      obtain ⟨m1, m2⟩ := H2.out.1.moves p hple
      exact ⟨rfl, m1, gb_trans H2.out.2 m2⟩
    · rw [if_neg hs, Int.toNat_natCast] at HT
      rw [HT.out]
      have HS : Hid (N ≤ len - q) := by show _ ≤ _; omega
      clear hs HT hbd
      go_enter Tryd.func65, Tryd.ntmps65
      go_wp2_with fail
      refine (ready_c g 0 _ _ w HR.out.rdr).mono ?_
      rintro r w1 ⟨rfl, rfl⟩
      go_wp2_with fail
      refine HI.out.mono ?_
      rintro r w2 ⟨rfl, h1, h2⟩
      have H1 : Hid (RS w2 g a len cap xs 0 q ∧ w1.grownBy w2 (some g)) := ⟨h1, h2⟩
      clear h1 h2
      go_wp2_with fail
      refine (take_ok g a len cap xs q N _ H1.out.1 HS.out).mono ?_
      rintro r w3 ⟨a1, c1, rfl, hsg, _, h1, h2⟩
      have H2 : Hid (RS w3 g a len cap xs 0 (q + N) ∧ w1.grownBy w3 (some g)) := ⟨h1, gb_trans H1.out.2 h2⟩
      have hcv := seg_string (P := Tryd.prog) 22 9 5 c1 hsg Tryd.underlying22 Tryd.underlying5 Tryd.underlying9
      clear h1 h2 hsg
      go_wp2_with fail
      refine (well_r g a len cap xs 0 (q + N) _ H2.out.1).mono ?_
      rintro r w4 ⟨rfl, rfl⟩
      go_wp2
      go_ret
      exact ⟨rfl, H2.out.1, H2.out.2⟩
  · have hb : (E == 0) = false := by simp [hE]
    obtain ⟨hN, rfl⟩ := hbd.2.2.2.2 hE
    obtain rfl : N = 0 := by omega
    rw [if_pos hE] at HT
    rw [HT.out]
    clear HT hE hbd hN
    go_enter Tryd.func65, Tryd.ntmps65
    go_wp2_with fail
    refine (ready_c g 0 _ _ w HR.out.rdr).mono ?_
    rintro r w1 ⟨rfl, rfl⟩
    go_wp2_with fail
    refine HI.out.mono ?_
    rintro r w2 ⟨rfl, h1, h2⟩
    have H1 : Hid (RS w2 g a len cap xs E q ∧ w1.grownBy w2 (some g)) := ⟨h1, h2⟩
    clear h1 h2
    go_wp2_with fail
    refine (take_no g a len cap xs E q _ _ H1.out.1 hb).mono ?_
    rintro r w3 ⟨rfl, h1, h2⟩
    have H2 : Hid (RS w3 g a len cap xs E q ∧ w1.grownBy w3 (some g)) := ⟨h1, gb_trans H1.out.2 h2⟩
    have c3 := h1.rdr.c3
    have f3 := h1.rdr.free 3
    clear h1 h2
    go_wp2_with fail
    refine (well_r g a len cap xs E q _ H2.out.1).mono ?_
    rintro r w4 ⟨rfl, rfl⟩
    go_wp2
    go_ret
    obtain ⟨m1, m2⟩ := H2.out.1.moves q hple
    exact ⟨rfl, m1, gb_trans H2.out.2 m2⟩
theorem rt_bd {xs : List Int} (hx : Bytes xs) (p : Nat) (hp : p ≤ xs.length) (most : Int) : (rt xs p most).2.1 ≤ xs.length ∧ p ≤ (rt xs p most).2.1 ∧ (rt xs p most).1.length ≤ xs.length ∧ ((rt xs p most).2.2 ≠ 0 → (rt xs p most).1 = [] ∧ (rt xs p most).2.1 = p) ∧ Bytes (rt xs p most).1 := by
  have h1 := ri_bd hx p hp most
  unfold rt
  split
  · exact ⟨hp, Nat.le_refl _, Nat.zero_le _, fun _ => ⟨rfl, rfl⟩, fun i hi => by simp at hi⟩
  · split
    · exact ⟨hp, Nat.le_refl _, Nat.zero_le _, fun _ => ⟨rfl, rfl⟩, fun i hi => by simp at hi⟩
    · refine ⟨by simp only; omega, by simp only; omega, by simp; omega, fun h => absurd rfl h, bytes_take (bytes_drop hx _) _⟩
end Go.Proofs.YteilmkibbdlnoabDoor
namespace Go.Proofs.YteilmkibbdlnoabDoor
open Go.RowKit
set_option linter.unusedVariables false

theorem nm0 : nm 0 = 0 := by unfold nm; simp
theorem strOfNums_sb (s : ByteArray) : strOfNums (sb s) = s := by
  apply ByteArray.ext
  apply Array.toList_inj.1
  unfold strOfNums sb
  simp only [List.map_map]
  have h : ((fun n : Int => UInt8.ofNat n.toNat) ∘ fun c : UInt8 => (c.toNat : Int)) = id := by
    funext c
    simp
  rw [h, List.map_id]
theorem sb_strOfNums (xs : List Int) (h : Bytes xs) : sb (strOfNums xs) = xs := by
  apply List.ext_getElem?
  intro i
  unfold sb strOfNums
  by_cases hi : i < xs.length
  · have hb := h i hi
    simp only [List.getElem?_map, List.getElem?_eq_getElem hi, Option.map_some, Option.getD_some] at hb ⊢
    simp only [Option.some.injEq, UInt8.toNat_ofNat']
    omega
  · simp [List.getElem?_eq_none (Nat.le_of_not_lt hi)]
theorem size_strOfNums (xs : List Int) : (strOfNums xs).size = xs.length := by
  show (strOfNums xs).data.size = _
  simp [strOfNums]
theorem drop_len {xs ys zs : List Int} {p : Nat} (h : xs.drop p = ys ++ zs) : xs.drop (p + ys.length) = zs := by
  rw [← List.drop_drop, h, List.drop_left]
theorem len_of_drop {xs ys zs : List Int} {p : Nat} (h : xs.drop p = ys ++ zs) (hy : 1 ≤ ys.length) : p + ys.length + zs.length = xs.length := by
  have := congrArg List.length h
  rw [List.length_drop, List.length_append] at this
  omega
theorem ru_lay (xs : List Int) (p : Nat) (v : Nat) (hv : v < 18446744073709551616) (rest : List Int) (h : xs.drop p = enc v ++ rest) : ru xs p = ((v : Int), (enc v).length, 0) := by
  unfold ru
  rw [h, rd_enc v hv rest]
  simp [nm0]
theorem ri_lay (xs : List Int) (p : Nat) (n most : Int) (h0 : 0 ≤ n) (h1 : n ≤ most) (hm : most ≤ 9223372036854775807) (rest : List Int) (h : xs.drop p = enc n.toNat ++ rest) : ri xs p most = (n, p + (enc n.toNat).length, 0) := by
  unfold ri
  rw [ru_lay xs p n.toNat (by omega) rest h, if_neg (by omega)]
  have : ((n.toNat : Nat) : Int) = n := by omega
  simp only [this]
  rw [if_neg (by simp), if_neg (by omega)]
theorem rt_lay (xs : List Int) (p : Nat) (s : ByteArray) (most : Int) (h1 : (s.size : Int) ≤ most) (hm : most ≤ 9223372036854775807) (rest : List Int) (h : xs.drop p = (enc s.size ++ sb s) ++ rest) : rt xs p most = (sb s, p + (enc s.size ++ sb s).length, 0) := by
  have h' : xs.drop p = enc ((s.size : Int)).toNat ++ (sb s ++ rest) := by rw [h]; simp
  have hr := ri_lay xs p s.size most (by omega) h1 hm _ h'
  have hd := drop_len h'
  have hl := len_of_drop h' (enc_pos _)
  have hsl := sb_length s
  unfold rt
  rw [hr]
  simp only [Int.toNat_natCast] at hd hl ⊢
  rw [if_neg (by simp), if_neg (by rw [List.length_append, hsl] at hl; omega), hd, ← hsl, List.take_left]
  simp [hsl, Nat.add_assoc]
theorem take_more (xs : List Int) (p n : Nat) : xs.take (p + n) = xs.take p ++ (xs.drop p).take n := List.take_add
theorem ru_again {xs : List Int} (hx : Bytes xs) (p : Nat) (h : (ru xs p).2.2 = 0) : xs.take (p + (ru xs p).2.1) = xs.take p ++ enc (ru xs p).1.toNat := by
  have hb := rd_bd (xs.drop p) (bytes_drop hx p)
  have h' : (rd (xs.drop p)).2.2 = 0 := (nm_zero (by omega)).1 h
  rw [take_more]
  unfold ru
  simp only
  rw [(rd_back _ (bytes_drop hx p) h').2.2]
theorem ri_again {xs : List Int} (hx : Bytes xs) (p : Nat) (most : Int) (h : (ri xs p most).2.2 = 0) : xs.take (ri xs p most).2.1 = xs.take p ++ enc (ri xs p most).1.toNat ∧ 0 ≤ (ri xs p most).1 ∧ (ri xs p most).1 ≤ most := by
  have hb := ru_bd hx p
  unfold ri at h ⊢
  by_cases h1 : most < 0
  · rw [if_pos h1] at h; simp at h
  rw [if_neg h1] at h ⊢
  by_cases h2 : (ru xs p).2.2 ≠ 0
  · rw [if_pos h2] at h; exact absurd h h2
  rw [if_neg h2] at h ⊢
  by_cases h3 : most < (ru xs p).1
  · rw [if_pos h3] at h; simp at h
  rw [if_neg h3]
  exact ⟨ru_again hx p (by simpa using h2), hb.1, by simp; omega⟩
theorem rt_again {xs : List Int} (hx : Bytes xs) (p : Nat) (most : Int) (h : (rt xs p most).2.2 = 0) : xs.take (rt xs p most).2.1 = xs.take p ++ (enc (rt xs p most).1.length ++ (rt xs p most).1) ∧ ((rt xs p most).1.length : Int) ≤ most ∧ 0 ≤ most := by
  unfold rt at h ⊢
  by_cases h1 : (ri xs p most).2.2 ≠ 0
  · rw [if_pos h1] at h; exact absurd h h1
  rw [if_neg h1] at h ⊢
  obtain ⟨a1, a2, a3⟩ := ri_again hx p most (by simpa using h1)
  by_cases h2 : ((xs.length - (ri xs p most).2.1 : Nat) : Int) < (ri xs p most).1
  · rw [if_pos h2] at h; simp at h
  rw [if_neg h2]
  have hl : ((xs.drop (ri xs p most).2.1).take (ri xs p most).1.toNat).length = (ri xs p most).1.toNat := by
    rw [List.length_take, List.length_drop]; omega
  simp only
  rw [hl, take_more, a1]
  exact ⟨by simp, by omega, by omega⟩
end Go.Proofs.YteilmkibbdlnoabDoor
namespace Go.Proofs.YteilmkibbdlnoabDoor
set_option linter.unusedVariables false
open Go.RowKit Go.WideShapes Go.ChangeShapes

/-- A call, as plain data. -/
structure OpD where
  call : Int
  v : Int
  n : Int
  most : Int
  s : ByteArray
  f : Bool
  ds : List Int
  key : ByteArray
  val : ByteArray
  ver : Int
def OpD.cells (o : OpD) : List Value := [.int .i64 o.call, .int .u64 o.v, .int .i64 o.n, .int .i64 o.most, .string o.s, .bool o.f] ++ (o.ds.map (Value.int .u8) ++ [.string o.key, .string o.val, .int .i64 o.ver])
def OpD.weight (o : OpD) : Nat := o.s.size + o.key.size + o.val.size + 8
structure OpD.Ok (o : OpD) : Prop where
  len : o.ds.length = 32
  bytes : Bytes o.ds
  call : (Lit.int .i64 o.call).wf = true
  v : (Lit.int .u64 o.v).wf = true
  n : (Lit.int .i64 o.n).wf = true
  most : (Lit.int .i64 o.most).wf = true
  ver : (Lit.int .i64 o.ver).wf = true
  s : o.s.size ≤ maxLen
  key : o.key.size ≤ maxLen
  val : o.val.size ≤ maxLen
theorem OpD.cells_length (o : OpD) (h : o.Ok) : o.cells.length = 41 := by simp [OpD.cells, h.len]

theorem take_one {cs : List Value} {k : Nat} {v : Value} (h : (cs.drop k).take 1 = [v]) : cs[k]? = some v := by
  have := congrArg (fun l => l[0]?) h
  simpa using this
theorem list41 {cs l : List Value} (hl : cs.length = 41) (hl2 : l.length = 41) (h : ∀ i, i < 41 → cs[i]? = l[i]?) : cs = l := by
  apply List.ext_getElem?
  intro i
  rcases Nat.lt_or_ge i 41 with hi | hi
  · exact h i hi
  · rw [List.getElem?_eq_none (by omega), List.getElem?_eq_none (by omega)]

theorem list3 {α : Type} {l : List α} {a b c : α} (h : l.length = 3) (h0 : l[0]? = some a) (h1 : l[1]? = some b) (h2 : l[2]? = some c) : l = [a, b, c] := by
  match l, h with
  | [x, y, z], _ => simp at h0 h1 h2; rw [h0, h1, h2]
theorem list8 {α : Type} {l : List α} {a b c d e f g i : α} (h : l.length = 8) (h0 : l[0]? = some a) (h1 : l[1]? = some b) (h2 : l[2]? = some c) (h3 : l[3]? = some d) (h4 : l[4]? = some e) (h5 : l[5]? = some f) (h6 : l[6]? = some g) (h7 : l[7]? = some i) : l = [a, b, c, d, e, f, g, i] := by
  match l, h with
  | [x0, x1, x2, x3, x4, x5, x6, x7], _ => simp at h0 h1 h2 h3 h4 h5 h6 h7; rw [h0, h1, h2, h3, h4, h5, h6, h7]

/-- What a law is told of a list of calls. -/
def Ops (w : World) (a : Option Addr) (n : Nat) (X : List OpD) : Prop :=
  X.length = n ∧ (∀ o ∈ X, o.Ok) ∧ (n = 0 ∨ ∃ b off, a = some ⟨b, off, none⟩ ∧ b < w.heap.size ∧ ∀ i o, X[i]? = some o → w.rangeAt b (off + i * 41) o.cells)
theorem Ops.at_ {w a n X} (h : Ops w a n X) (i : Nat) (hi : i < n) : ∃ b off o, a = some ⟨b, off, none⟩ ∧ b < w.heap.size ∧ X[i]? = some o ∧ o.Ok ∧ w.rangeAt b (off + i * 41) o.cells := by
  rcases h.2.2 with h0 | ⟨b, off, ha, hb, hr⟩
  · omega
  · have hx : i < X.length := by rw [h.1]; exact hi
    exact ⟨b, off, X[i], ha, hb, List.getElem?_eq_getElem hx, h.2.1 _ (List.getElem_mem hx), hr i _ (List.getElem?_eq_getElem hx)⟩
theorem Ops.below {w w' : World} {a : Option Addr} {n : Nat} {X : List OpD} (h : Ops w a n X) (hb : Below w.heap.size w w') : Ops w' a n X := by
  refine ⟨h.1, h.2.1, ?_⟩
  rcases h.2.2 with h0 | ⟨b, off, ha, hlt, hr⟩
  · exact .inl h0
  · have := hb.size
    exact .inr ⟨b, off, ha, by omega, fun i o ho j v hv => (hb.cell (p := ⟨b, off + i * 41 + j, none⟩) hlt).trans (hr i o ho j v hv)⟩
theorem block_of_cell {w : World} {a : Addr} {v : Value} (h : w.cell? a = some v) : a.block < w.heap.size := by
  rcases Nat.lt_or_ge a.block w.heap.size with h' | h'
  · exact h'
  · simp [World.cell?, h'] at h
def opsWeight (X : List OpD) : Nat := (X.map OpD.weight).sum
theorem sum_bulk {H : Type} (D : Nat → DataW H) (W : Nat → Nat) (h : ∀ i, W i ≤ Rows.uptoBulk (D i) ∨ True) : ∀ l : List Nat, (∀ i ∈ l, W i ≤ Rows.uptoBulk (D i)) → (l.map W).sum ≤ Rows.uptoBulkAll (l.map D)
  | [], _ => by simp [Rows.uptoBulkAll]
  | i :: l, hl => by
    have h1 := hl i (by simp)
    have h2 := sum_bulk D W h l (fun j hj => hl j (by simp [hj]))
    simp only [List.map_cons, List.sum_cons, Rows.uptoBulkAll]
    omega
def opd0 : OpD := ⟨0, 0, 0, 0, ByteArray.empty, false, [], ByteArray.empty, ByteArray.empty, 0⟩
end Go.Proofs.YteilmkibbdlnoabDoor
namespace Go.Proofs.YteilmkibbdlnoabDoor
open Go.RowKit
set_option linter.unusedVariables false

/-- What a call makes of what was laid down, and of the first error. -/
def wst (o : OpD) (ys : List Int) (e : Int) : List Int × Int :=
  if o.call = 0 then (wadd e ys (enc o.v.toNat), e)
  else if o.call = 1 then (wadd (ferr e (wie o.n o.most)) ys (enc o.n.toNat), ferr e (wie o.n o.most))
  else if o.call = 2 then (wadd (ferr e (wte o.s.size o.most)) ys (enc o.s.size ++ sb o.s), ferr e (wte o.s.size o.most))
  else if o.call = 3 then (wadd e ys [fb o.f], e)
  else if o.call = 4 then (wadd e ys o.ds, e)
  else if o.call = 5 then (wadd (ferr e (wre o.key o.val o.ver)) ys (rowB o.key o.val o.ver), ferr e (wre o.key o.val o.ver))
  else if o.call = 6 then (ys, ferr e o.n)
  else (ys, e)
theorem enc_le (V : Int) (h0 : V < 18446744073709551616) : (enc V.toNat).length ≤ 10 := by
  rw [enc_length _ (by omega)]; exact (sz_bd _).2
theorem wst_len (o : OpD) (h : o.Ok) (hw : o.weight ≤ 1048576) (ys : List Int) (e : Int) : (wst o ys e).1.length ≤ ys.length + 10 * o.weight := by
  have b1 := wf_u64 h.v
  have b2 := bounds_i64 h.n
  have b3 := bounds_i64 h.ver
  have hl := h.len
  have e1 := enc_le o.v (by omega)
  have e2 := enc_le o.n (by omega)
  have e3 := enc_le o.ver (by omega)
  unfold OpD.weight at hw ⊢
  have e4 := enc_leN o.s.size (by omega)
  have e5 := enc_leN o.key.size (by omega)
  have e6 := enc_leN o.val.size (by omega)
  have s1 := sb_length o.s
  have s2 := sb_length o.key
  have s3 := sb_length o.val
  have W := fun e zs => wadd_len e ys zs
  unfold wst
  split
  · have := W e (enc o.v.toNat); simp only; omega
  split
  · have := W (ferr e (wie o.n o.most)) (enc o.n.toNat); simp only; omega
  split
  · have := W (ferr e (wte o.s.size o.most)) (enc o.s.size ++ sb o.s); rw [List.length_append] at this; simp only; omega
  split
  · have := W e [fb o.f]; rw [List.length_singleton] at this; simp only; omega
  split
  · have := W e o.ds; simp only; omega
  split
  · have := W (ferr e (wre o.key o.val o.ver)) (rowB o.key o.val o.ver)
    have hr : (rowB o.key o.val o.ver).length = (enc o.key.size).length + (sb o.key).length + ((enc o.val.size).length + (sb o.val).length + (enc o.ver.toNat).length) := by simp only [rowB, List.length_append]
    simp only; omega
  split
  · simp only; omega
  · simp only; omega

theorem infoRow3 : (Tryd.prog.info? 69).map (·.size) = some 3 := by kernel_rfl
theorem cells_one (o : OpD) : o.cells.toArray.all (·.oneCell') = true := all_oneCell_toArray (fun v hv => by
  simp only [OpD.cells, List.mem_append, List.mem_cons, List.mem_map, List.not_mem_nil, or_false] at hv
  rcases hv with (rfl | rfl | rfl | rfl | rfl | rfl) | ⟨z, _, rfl⟩ | rfl | rfl | rfl <;> rfl)
end Go.Proofs.YteilmkibbdlnoabDoor
namespace Go.Proofs.YteilmkibbdlnoabDoor
open Go.RowKit
set_option linter.unusedVariables false

/-- Bytes as cells. -/
def u8s (xs : List Int) : Array Value := (xs.map (Value.int .u8)).toArray
theorem u8s_size (xs : List Int) : (u8s xs).size = xs.length := by simp [u8s]
theorem u8s_one (xs : List Int) : (u8s xs).all (·.oneCell') = true := by
  rw [Array.all_eq_true_iff_forall_mem]
  intro v hv
  simp only [u8s, List.mem_toArray, List.mem_map] at hv
  obtain ⟨z, _, rfl⟩ := hv
  rfl
/-- What Digest takes up. -/
def rg (xs : List Int) (p : Nat) : List Int × Nat × Int := if xs.length - p < 32 then (List.replicate 32 0, p, 30) else ((xs.drop p).take 32, p + 32, 0)

theorem results_cell1 {fn : Func} {p : Tmp} {ty : TypeId} (h : fn.results = #[.cell p ty]) (tmps : Array Value) (P : Program) (w : World) (ad : Addr) (v : Value)
    (hp : tmps.getD p undef = .pointer (some ad)) (hl : (loadVar ty ad).run P w = .ok v w) : (results fn tmps).run P w = .ok v w := by
  have hp' : tmps[p]?.getD undef = .pointer (some ad) := by simpa using hp
  simp only [results, h]
  simp [hp', asAddr, hl]

/-- A digest in a block of its own. -/
def Dg (T : TypeId) (w : World) (b : Nat) (ds : List Int) : Prop := w.heap[b]? = some (.cells (u8s ds) T (0, 0))
theorem Dg.grew {T w w' b ds row} (h : Dg T w b ds) (hg : w.grownBy w' row) (hn : row ≠ some b) : Dg T w' b ds := (hg.block b (lt_of_block h) (fun e => hn e.symm)).trans h
theorem dg_load {T e : TypeId} {n : Nat} (hu : Tryd.prog.underlying T = some (.array n e)) (hi : (Tryd.prog.info? T).map (·.size) = some 32) {w : World} {b : Nat} {ds : List Int} (h : Dg T w b ds) (hl : ds.length = 32) :
    (loadVar T ⟨b, 0, none⟩).run Tryd.prog w = .ok (.agg (u8s ds)) w ∧ (Instr.loadAt T (.pointer (some ⟨b, 0, none⟩))).run Tryd.prog w = .ok (.agg (u8s ds)) w := by
  have h1 := run_loadVar_row (P := Tryd.prog) w b T T (u8s ds) (0, 0) _ h hu rfl (by rw [hi, u8s_size, hl])
  exact ⟨h1, by simp only [Instr.loadAt, Instr.sureAddr, Sem.run_bind, Sem.run_pure, Result.andThen_ok, h1]⟩
theorem dg_store {T : TypeId} (hi : (Tryd.prog.info? T).map (·.size) = some 32) {w : World} {b : Nat} {ds es : List Int} (h : Dg T w b ds) (hl : ds.length = 32) (hl2 : es.length = 32) :
    ∃ w', (storeVar T ⟨b, 0, none⟩ (.agg (u8s es))).run Tryd.prog w = .ok () w' ∧ Dg T w' b es ∧ w.grownBy w' (some b) := by
  have h1 := run_storeVar_row (P := Tryd.prog) w b T T (u8s ds) (u8s es) h (by rw [hi, u8s_size, hl2]) (by rw [u8s_size, u8s_size, hl, hl2]) (u8s_one es)
  refine ⟨w.setRow b (u8s es), h1, ?_, ?_⟩
  · unfold Dg World.setRow
    simp only [Array.getElem?_modify]
    rw [if_pos trivial, h]; rfl
  · exact ⟨rfl, rfl, rfl, by simp [World.setRow], fun k _ hk => setRow_other w b k _ (fun e => hk (by rw [e]))⟩
theorem wpList_load_dg {ops : Array Oper} {rest : List Oper} {op : Oper} {a : Act} {w : World} {Q : Exit → Act → World → Prop} (T : TypeId) (hgd : op.guard = none) (x : Operand) (ho : op.op = .load T x)
    {e : TypeId} {n : Nat} (hu : Tryd.prog.underlying T = some (.array n e)) (hi : (Tryd.prog.info? T).map (·.size) = some 32) (b : Nat) (ds : List Int) (hx : a.eval x = .pointer (some ⟨b, 0, none⟩)) (h : Dg T w b ds) (hl : ds.length = 32)
    (K : wpList Tryd.prog ops Q rest (a.put op.dst (.agg (u8s ds))) w) : wpList Tryd.prog ops Q (op :: rest) a w :=
  wpList_load_mid hgd T x ho b 0 hx (ds.map (Value.int .u8)) _ (fun j v hv => by
    rw [Nat.zero_add, cell_of_row w b j _ _ _ h]
    simpa [u8s] using hv) hu rfl (by rw [hi, List.length_map, hl]) K
theorem wpList_store_dg {ops : Array Oper} {rest : List Oper} {op : Oper} {a : Act} {w : World} {Q : Exit → Act → World → Prop} (T : TypeId) (hgd : op.guard = none) (x y : Operand) (ho : op.op = .store T x y)
    (hi : (Tryd.prog.info? T).map (·.size) = some 32) (b : Nat) (ds es : List Int) (hx : a.eval x = .pointer (some ⟨b, 0, none⟩)) (hy : a.eval y = .agg (u8s es)) (h : Dg T w b ds) (hl : ds.length = 32) (hl2 : es.length = 32)
    (K : ∀ w', Dg T w' b es → w.grownBy w' (some b) → wpList Tryd.prog ops Q rest (a.put op.dst undef) w') : wpList Tryd.prog ops Q (op :: rest) a w := by
  obtain ⟨w', h1, h2, h3⟩ := dg_store hi h hl hl2
  refine wpList_plain hgd fun K' hK => ?_
  unfold Oper.wp execOp
  simp only [ho, hx, hy, Instr.storeAt, Instr.sureAddr, Sem.run_bind, Sem.run_pure, Result.andThen_ok, h1]
  exact hK _ _ (K w' h2 h3)
theorem two_new (w : World) (T : TypeId) (ds es : List Int) : Dg T ((w.alloc (.cells (u8s ds) T)).alloc (.cells (u8s es) T)) w.heap.size ds ∧ Dg T ((w.alloc (.cells (u8s ds) T)).alloc (.cells (u8s es) T)) (w.heap.size + 1) es ∧ w.grownBy ((w.alloc (.cells (u8s ds) T)).alloc (.cells (u8s es) T)) none := by
  refine ⟨?_, ?_, gb_trans (World.grownBy_alloc _ _ _) (World.grownBy_alloc _ _ _)⟩
  · exact (Below.heap_alloc _ _ _ (by simp)).trans (heap_new w _)
  · have := heap_new (w.alloc (.cells (u8s ds) T)) (.cells (u8s es) T)
    rw [World.size_alloc] at this
    exact this

theorem RS.keep {w w2 w4 g a len cap xs e0 p0 e p} (h0 : RS w g a len cap xs e0 p0) (h : RS w2 g a len cap xs e p) (hb : ∀ k, k < w.heap.size → w4.heap[k]? = w2.heap[k]?) (hs : w.heap.size ≤ w4.heap.size) : RS w4 g a len cap xs e p := by
  refine ⟨(hb g (lt_of_block h0.rdr)).trans h.rdr, ⟨h.seg.1, ?_⟩, h.bytes, h.off, h.le, h.lc, h.lm, h.cm, h.nz⟩
  rcases h0.seg.2 with h1 | ⟨b, off, ha, hw, _⟩
  · exact .inl h1
  · rcases h.seg.2 with h1 | ⟨b', off', ha', _, hc⟩
    · exact .inl h1
    · rw [ha] at ha'; cases ha'
      exact .inr ⟨b, off, ha, Nat.lt_of_lt_of_le hw hs, fun i hi => (World.cell?_of_block (w := w2) (w' := w4) (a := ⟨b, off + i, none⟩) (hb b hw)).trans (hc i hi)⟩
theorem sz8 : (Tryd.prog.info? 5).map (·.size) = some 1 := by kernel_rfl
theorem dg_row {T w b ds} (h : Dg T w b ds) : w.heap[b]? = some (.cells (ds.map (Value.int .u8)).toArray T (0, 0)) := h
theorem u8_one {cs : List Value} {ds : List Int} (h : cs = ds.map (Value.int .u8)) : ∀ v ∈ cs, v.oneCell' = true := by
  intro v hv; rw [h] at hv; obtain ⟨z, _, rfl⟩ := List.mem_map.1 hv; rfl

end Go.Proofs.YteilmkibbdlnoabDoor
namespace Go.Proofs.YteilmkibbdlnoabDoor
open Go.RowKit
set_option linter.unusedVariables false

theorem infoRow : (Tryd.prog.info? 69).map (·.size) = some 3 := by kernel_rfl
/-- A row as a value. -/
def rowV (k v : List Int) (n : Int) : Array Value := #[.string (strOfNums k), .string (strOfNums v), .int .i64 n]
theorem rowV_one (k v : List Int) (n : Int) : (rowV k v n).all (·.oneCell') = true := by simp [rowV, Value.oneCell']
/-- What Row takes up. -/
def rr (xs : List Int) (p : Nat) : (List Int × List Int × Int) × Nat × Int :=
  if (rt xs p 1024).2.2 ≠ 0 then (([], [], 0), p, (rt xs p 1024).2.2)
  else if (rt xs (rt xs p 1024).2.1 65536).2.2 ≠ 0 then (([], [], 0), p, (rt xs (rt xs p 1024).2.1 65536).2.2)
  else if (ri xs (rt xs (rt xs p 1024).2.1 65536).2.1 1152921504606846976).2.2 ≠ 0 then (([], [], 0), p, (ri xs (rt xs (rt xs p 1024).2.1 65536).2.1 1152921504606846976).2.2)
  else if (rt xs p 1024).1 = [] ∨ (ri xs (rt xs (rt xs p 1024).2.1 65536).2.1 1152921504606846976).1 = 0 then (([], [], 0), p, 32)
  else (((rt xs p 1024).1, (rt xs (rt xs p 1024).2.1 65536).1, (ri xs (rt xs (rt xs p 1024).2.1 65536).2.1 1152921504606846976).1), (ri xs (rt xs (rt xs p 1024).2.1 65536).2.1 1152921504606846976).2.1, 0)

theorem empty_str (k : List Int) (hk : k ≠ []) : (strOfNums k).toList.isEmpty = false := by
  cases k with
  | nil => exact absurd rfl hk
  | cons x l =>
    rw [ByteArray.toList_eq]
    simp [strOfNums]

set_option maxRecDepth 20000 in
theorem row_no (g : Nat) (a : Option Addr) (len cap : Nat) (xs : List Int) (e : Int) (p : Nat) (w : World) (h : RS w g a len cap xs e p) (he : (e == 0) = false) :
    Calls Tryd.prog 43 #[.pointer (some ⟨g, 0, none⟩)] w fun r w' => r = .returned (.agg (rowV [] [] 0)) ∧ RS w' g a len cap xs e p ∧ w.grownBy w' (some g) := by
  have HR : Hid (RS w g a len cap xs e p) := h
  have HT := blk_new w 69 (rowV [] [] 0)
  obtain ⟨N, hN⟩ : ∃ N, N = w.heap.size := ⟨_, rfl⟩
  have HGL : Hid (N = w.heap.size) := hN
  clear h
  go_enter Tryd.func43, Tryd.ntmps43
  go_wp2_with fail
  generalize hW1 : World.alloc w _ = W1
  rw [← hN]
  have H1 : Hid (Bk 69 W1 N (rowV [] [] 0) ∧ w.grownBy W1 none) := by rw [← hW1, hN]; exact HT
  have HR1 : Hid (RS W1 g a len cap xs e p) := HR.out.new H1.out.2
  clear hW1 HT hN
  refine (ready_c g e _ _ W1 HR1.out.rdr).mono ?_
  rintro r w1 ⟨rfl, rfl⟩
  go_wp2_with (first
    | (refine wpList_store_bk 69 rfl (.tmp 2) (.tmp 10) rfl infoRow N (rowV [] [] 0) (rowV [] [] 0) rfl rfl H1.out.1 rfl rfl (rowV_one _ _ _) ?_; intro w2 h1 h2; have H2 : Hid (Bk 69 w2 N (rowV [] [] 0) ∧ w1.grownBy w2 (some N)) := ⟨h1, h2⟩; clear h1 h2))
  refine bodyPost_ret (results_cell1 Tryd.results43 _ _ _ ⟨N, 0, none⟩ (.agg (rowV [] [] 0)) rfl (bk_load Tryd.underlying69 rfl infoRow H2.out.1 rfl)) rfl ?_
  have hg2 := gb_newer H1.out.2 H2.out.2 (Nat.le_of_eq HGL.out.symm)
  exact ⟨rfl, HR.out.new hg2, gb_wide hg2 _⟩

set_option maxRecDepth 20000 in
set_option maxHeartbeats 2000000 in
theorem row_ok (g : Nat) (a : Option Addr) (len cap : Nat) (xs : List Int) (p : Nat) (w : World) (h : RS w g a len cap xs 0 p) :
    Calls Tryd.prog 43 #[.pointer (some ⟨g, 0, none⟩)] w fun r w' => r = .returned (.agg (rowV (rr xs p).1.1 (rr xs p).1.2.1 (rr xs p).1.2.2)) ∧ RS w' g a len cap xs (rr xs p).2.2 (rr xs p).2.1 ∧ w.grownBy w' (some g) := by
  have HR : Hid (RS w g a len cap xs 0 p) := h
  have hple := h.le
  have HT := blk_new w 69 (rowV [] [] 0)
  have hgl : g < w.heap.size := lt_of_block h.rdr
  obtain ⟨N, hN⟩ : ∃ N, N = w.heap.size := ⟨_, rfl⟩
  have HGL : Hid (g < N ∧ N = w.heap.size) := ⟨by rw [hN]; exact hgl, hN⟩
  have HC : Hid (rr xs p = _) := rr.eq_1 xs p
  have HKK : Hid (∀ w, RS w g a len cap xs 0 p → Calls Tryd.prog 65 #[.pointer (some ⟨g, 0, none⟩), .int .i64 1024] w fun r w' => r = .returned (.string (strOfNums (rt xs p 1024).1)) ∧ RS w' g a len cap xs (rt xs p 1024).2.2 (rt xs p 1024).2.1 ∧ w.grownBy w' (some g)) := fun w h => text_ok g a len cap xs p 1024 w h (by omega)
  have hkb := rt_bd h.bytes p (by rw [h.seg.1]; exact h.le) 1024
  have hby := h.bytes
  have hsl := h.seg.1
  obtain ⟨KS, KP, KE, hK⟩ : ∃ KS KP KE, rt xs p 1024 = (KS, KP, KE) := ⟨_, _, _, rfl⟩
  rw [hK] at HC HKK hkb
  simp only at HC HKK hkb
  have HVV : Hid (∀ w, RS w g a len cap xs 0 KP → Calls Tryd.prog 65 #[.pointer (some ⟨g, 0, none⟩), .int .i64 65536] w fun r w' => r = .returned (.string (strOfNums (rt xs KP 65536).1)) ∧ RS w' g a len cap xs (rt xs KP 65536).2.2 (rt xs KP 65536).2.1 ∧ w.grownBy w' (some g)) := fun w h => text_ok g a len cap xs KP 65536 w h (by omega)
  have hvb := rt_bd hby KP hkb.1 65536
  obtain ⟨VS, VP, VE, hV⟩ : ∃ VS VP VE, rt xs KP 65536 = (VS, VP, VE) := ⟨_, _, _, rfl⟩
  rw [hV] at HC HVV hvb
  simp only at HC HVV hvb
  have HNN : Hid (∀ w, RS w g a len cap xs 0 VP → Calls Tryd.prog 41 #[.pointer (some ⟨g, 0, none⟩), .int .i64 1152921504606846976] w fun r w' => r = .returned (.int .i64 (ri xs VP 1152921504606846976).1) ∧ RS w' g a len cap xs (ri xs VP 1152921504606846976).2.2 (ri xs VP 1152921504606846976).2.1 ∧ w.grownBy w' (some g)) := fun w h => int_ok g a len cap xs VP 1152921504606846976 w h (by omega)
  have hnb := ri_bd hby VP hvb.1 1152921504606846976
  obtain ⟨NV, NP, NE, hNN⟩ : ∃ NV NP NE, ri xs VP 1152921504606846976 = (NV, NP, NE) := ⟨_, _, _, rfl⟩
  rw [hNN] at HC HNN hnb
  simp only at HC HNN hnb
  obtain ⟨R, hR⟩ : ∃ R, R = rr xs p := ⟨_, rfl⟩
  rw [← hR] at HC ⊢
  have HKB : Hid (KE ≠ 0 → KS = [] ∧ KP = p) := hkb.2.2.2.1
  have HVB : Hid (VE ≠ 0 → VS = [] ∧ VP = KP) := hvb.2.2.2.1
  have HNB : Hid (NE ≠ 0 → NV = 0 ∧ NP = VP) := hnb.2.2.2.2
  clear h hgl hK hV hNN hR hkb hvb hnb hby hsl
  have he0 : (strOfNums []).toList.isEmpty = true := by rw [ByteArray.toList_eq]; rfl
  by_cases hKE : KE = 0
  · subst hKE
    rw [if_neg (by simp)] at HC
    by_cases hVE : VE = 0
    · subst hVE
      rw [if_neg (by simp)] at HC
      by_cases hNE : NE = 0
      · subst hNE
        rw [if_neg (by simp)] at HC
        by_cases hkn : KS = [] ∨ NV = 0
        · rw [if_pos hkn] at HC
          by_cases hk0 : KS = []
          · subst hk0
            clear hkn
            go_enter Tryd.func43, Tryd.ntmps43
            go_wp2_with fail
            generalize hW1 : World.alloc w _ = W1
            rw [← hN]
            have H1 : Hid (Bk 69 W1 N (rowV [] [] 0) ∧ w.grownBy W1 none) := by rw [← hW1, hN]; exact HT
            have HR1 : Hid (RS W1 g a len cap xs 0 p) := HR.out.new H1.out.2
            have c3 := HR1.out.rdr.c3
            clear hW1 HT hN
            refine (ready_c g 0 _ _ W1 HR1.out.rdr).mono ?_
            rintro r w1 ⟨rfl, rfl⟩
            go_wp2_with fail
            refine (HKK.out _ HR1.out).mono ?_
            rintro r w2 ⟨rfl, h1, h2⟩
            have H2 : Hid (RS w2 g a len cap xs 0 KP ∧ w1.grownBy w2 (some g)) := ⟨h1, h2⟩
            clear h1 h2 c3
            go_wp2_with fail
            refine (HVV.out _ H2.out.1).mono ?_
            rintro r w3 ⟨rfl, h1, h2⟩
            have Hw3 : Hid (RS w3 g a len cap xs 0 VP ∧ w1.grownBy w3 (some g)) := ⟨h1, gb_trans H2.out.2 h2⟩
            clear h1 h2
            go_wp2_with fail
            refine (HNN.out _ Hw3.out.1).mono ?_
            rintro r w4 ⟨rfl, h1, h2⟩
            have Hw4 : Hid (RS w4 g a len cap xs 0 NP ∧ w1.grownBy w4 (some g)) := ⟨h1, gb_trans Hw3.out.2 h2⟩
            clear h1 h2
            go_wp2_with fail
            refine (rmust_ok g a len cap xs NP 32 _ rfl Hw4.out.1).mono ?_
            rintro r w5 ⟨rfl, h1, h2⟩
            have H5 : Hid (RS w5 g a len cap xs 32 NP ∧ w1.grownBy w5 (some g)) := ⟨h1, gb_trans Hw4.out.2 h2⟩
            have HB5 : Hid (Bk 69 w5 N (rowV [] [] 0)) := H1.out.1.grew H5.out.2 (fun e => by cases e; have := HGL.out; omega)
            obtain ⟨m1, m2⟩ := h1.moves p hple
            have c3 := h1.rdr.c3
            have f3 := h1.rdr.free 3
            obtain ⟨w6, hw6⟩ : ∃ w6, w5.setCell ⟨g, 3, none⟩ (.int .i64 (p : Int)) = w6 := ⟨_, rfl⟩
            rw [hw6] at m1 m2
            have H6 : Hid (RS w6 g a len cap xs 32 p ∧ w1.grownBy w6 (some g)) := ⟨m1, gb_trans H5.out.2 m2⟩
            have HB6 : Hid (Bk 69 w6 N (rowV [] [] 0)) := HB5.out.grew m2 (fun e => by cases e; have := HGL.out; omega)
            clear h1 h2 m1 m2
            go_wp2_with (first
              | (refine wpList_store_bk 69 rfl (.tmp 2) (.tmp 36) rfl infoRow N (rowV [] [] 0) (rowV [] [] 0) rfl rfl HB6.out rfl rfl (rowV_one _ _ _) ?_; intro w7 h1 h2; have H7 : Hid (Bk 69 w7 N (rowV [] [] 0) ∧ w6.grownBy w7 (some N)) := ⟨h1, h2⟩; clear h1 h2))
            refine bodyPost_ret (results_cell1 Tryd.results43 _ _ _ ⟨N, 0, none⟩ (.agg (rowV [] [] 0)) rfl (bk_load Tryd.underlying69 rfl infoRow H7.out.1 rfl)) rfl ?_
            rw [HC.out]
            have hN2 := HGL.out.2
            have hk : ∀ k, k < w.heap.size → w7.heap[k]? = w6.heap[k]? := fun k hk => H7.out.2.block k (Nat.lt_of_lt_of_le hk (Nat.le_trans H1.out.2.size H6.out.2.size)) (fun e => by cases e; omega)
            have hA : w.grownBy w6 (some g) := gb_trans (gb_wide H1.out.2 _) H6.out.2
            exact ⟨rfl, HR.out.keep H6.out.1 hk (Nat.le_trans hA.size H7.out.2.size), ⟨H7.out.2.os.trans hA.os, H7.out.2.tape.trans hA.tape, H7.out.2.output.trans hA.output, Nat.le_trans hA.size H7.out.2.size, fun k hkl hne => (hk k hkl).trans (hA.block k hkl hne)⟩⟩
          · obtain rfl : NV = 0 := by rcases hkn with h | h; exact absurd h hk0; exact h
            have hem := empty_str KS hk0
            clear hkn hk0
            go_enter Tryd.func43, Tryd.ntmps43
            go_wp2_with fail
            generalize hW1 : World.alloc w _ = W1
            rw [← hN]
            have H1 : Hid (Bk 69 W1 N (rowV [] [] 0) ∧ w.grownBy W1 none) := by rw [← hW1, hN]; exact HT
            have HR1 : Hid (RS W1 g a len cap xs 0 p) := HR.out.new H1.out.2
            have c3 := HR1.out.rdr.c3
            clear hW1 HT hN
            refine (ready_c g 0 _ _ W1 HR1.out.rdr).mono ?_
            rintro r w1 ⟨rfl, rfl⟩
            go_wp2_with fail
            refine (HKK.out _ HR1.out).mono ?_
            rintro r w2 ⟨rfl, h1, h2⟩
            have H2 : Hid (RS w2 g a len cap xs 0 KP ∧ w1.grownBy w2 (some g)) := ⟨h1, h2⟩
            clear h1 h2 c3
            go_wp2_with fail
            refine (HVV.out _ H2.out.1).mono ?_
            rintro r w3 ⟨rfl, h1, h2⟩
            have Hw3 : Hid (RS w3 g a len cap xs 0 VP ∧ w1.grownBy w3 (some g)) := ⟨h1, gb_trans H2.out.2 h2⟩
            clear h1 h2
            go_wp2_with fail
            refine (HNN.out _ Hw3.out.1).mono ?_
            rintro r w4 ⟨rfl, h1, h2⟩
            have Hw4 : Hid (RS w4 g a len cap xs 0 NP ∧ w1.grownBy w4 (some g)) := ⟨h1, gb_trans Hw3.out.2 h2⟩
            clear h1 h2
            go_wp2_with fail
            refine (rmust_ok g a len cap xs NP 32 _ rfl Hw4.out.1).mono ?_
            rintro r w5 ⟨rfl, h1, h2⟩
            have H5 : Hid (RS w5 g a len cap xs 32 NP ∧ w1.grownBy w5 (some g)) := ⟨h1, gb_trans Hw4.out.2 h2⟩
            have HB5 : Hid (Bk 69 w5 N (rowV [] [] 0)) := H1.out.1.grew H5.out.2 (fun e => by cases e; have := HGL.out; omega)
            obtain ⟨m1, m2⟩ := h1.moves p hple
            have c3 := h1.rdr.c3
            have f3 := h1.rdr.free 3
            obtain ⟨w6, hw6⟩ : ∃ w6, w5.setCell ⟨g, 3, none⟩ (.int .i64 (p : Int)) = w6 := ⟨_, rfl⟩
            rw [hw6] at m1 m2
            have H6 : Hid (RS w6 g a len cap xs 32 p ∧ w1.grownBy w6 (some g)) := ⟨m1, gb_trans H5.out.2 m2⟩
            have HB6 : Hid (Bk 69 w6 N (rowV [] [] 0)) := HB5.out.grew m2 (fun e => by cases e; have := HGL.out; omega)
            clear h1 h2 m1 m2
            go_wp2_with (first
              | (refine wpList_store_bk 69 rfl (.tmp 2) (.tmp 36) rfl infoRow N (rowV [] [] 0) (rowV [] [] 0) rfl rfl HB6.out rfl rfl (rowV_one _ _ _) ?_; intro w7 h1 h2; have H7 : Hid (Bk 69 w7 N (rowV [] [] 0) ∧ w6.grownBy w7 (some N)) := ⟨h1, h2⟩; clear h1 h2))
            refine bodyPost_ret (results_cell1 Tryd.results43 _ _ _ ⟨N, 0, none⟩ (.agg (rowV [] [] 0)) rfl (bk_load Tryd.underlying69 rfl infoRow H7.out.1 rfl)) rfl ?_
            rw [HC.out]
            have hN2 := HGL.out.2
            have hk : ∀ k, k < w.heap.size → w7.heap[k]? = w6.heap[k]? := fun k hk => H7.out.2.block k (Nat.lt_of_lt_of_le hk (Nat.le_trans H1.out.2.size H6.out.2.size)) (fun e => by cases e; omega)
            have hA : w.grownBy w6 (some g) := gb_trans (gb_wide H1.out.2 _) H6.out.2
            exact ⟨rfl, HR.out.keep H6.out.1 hk (Nat.le_trans hA.size H7.out.2.size), ⟨H7.out.2.os.trans hA.os, H7.out.2.tape.trans hA.tape, H7.out.2.output.trans hA.output, Nat.le_trans hA.size H7.out.2.size, fun k hkl hne => (hk k hkl).trans (hA.block k hkl hne)⟩⟩
        · rw [if_neg hkn] at HC
          have hem := empty_str KS (fun h => hkn (.inl h))
          have hnz : (NV != 0) = true := by simp; exact fun h => hkn (.inr h)
          clear hkn
          go_enter Tryd.func43, Tryd.ntmps43
          go_wp2_with fail
          generalize hW1 : World.alloc w _ = W1
          rw [← hN]
          have H1 : Hid (Bk 69 W1 N (rowV [] [] 0) ∧ w.grownBy W1 none) := by rw [← hW1, hN]; exact HT
          have HR1 : Hid (RS W1 g a len cap xs 0 p) := HR.out.new H1.out.2
          have c3 := HR1.out.rdr.c3
          clear hW1 HT hN
          refine (ready_c g 0 _ _ W1 HR1.out.rdr).mono ?_
          rintro r w1 ⟨rfl, rfl⟩
          go_wp2_with fail
          refine (HKK.out _ HR1.out).mono ?_
          rintro r w2 ⟨rfl, h1, h2⟩
          have H2 : Hid (RS w2 g a len cap xs 0 KP ∧ w1.grownBy w2 (some g)) := ⟨h1, h2⟩
          clear h1 h2 c3
          go_wp2_with fail
          refine (HVV.out _ H2.out.1).mono ?_
          rintro r w3 ⟨rfl, h1, h2⟩
          have Hw3 : Hid (RS w3 g a len cap xs 0 VP ∧ w1.grownBy w3 (some g)) := ⟨h1, gb_trans H2.out.2 h2⟩
          clear h1 h2
          go_wp2_with fail
          refine (HNN.out _ Hw3.out.1).mono ?_
          rintro r w4 ⟨rfl, h1, h2⟩
          have Hw4 : Hid (RS w4 g a len cap xs 0 NP ∧ w1.grownBy w4 (some g)) := ⟨h1, gb_trans Hw3.out.2 h2⟩
          clear h1 h2
          go_wp2_with fail
          refine (must_r g a len cap xs 0 NP 32 _ Hw4.out.1).mono ?_
          rintro r w6 ⟨rfl, h1, h2⟩
          have H6 : Hid (RS w6 g a len cap xs 0 NP ∧ w1.grownBy w6 (some g)) := ⟨h1, gb_trans Hw4.out.2 h2⟩
          have HB6 : Hid (Bk 69 w6 N (rowV [] [] 0)) := H1.out.1.grew H6.out.2 (fun e => by cases e; have := HGL.out; omega)
          clear h1 h2
          go_wp2_with (first
            | (refine wpList_store_bk 69 rfl (.tmp 2) (.tmp 40) rfl infoRow N (rowV [] [] 0) (rowV KS VS NV) rfl rfl HB6.out rfl rfl (rowV_one _ _ _) ?_; intro w7 h1 h2; have H7 : Hid (Bk 69 w7 N (rowV KS VS NV) ∧ w6.grownBy w7 (some N)) := ⟨h1, h2⟩; clear h1 h2))
          refine bodyPost_ret (results_cell1 Tryd.results43 _ _ _ ⟨N, 0, none⟩ (.agg (rowV KS VS NV)) rfl (bk_load Tryd.underlying69 rfl infoRow H7.out.1 rfl)) rfl ?_
          rw [HC.out]
          have hN2 := HGL.out.2
          have hk : ∀ k, k < w.heap.size → w7.heap[k]? = w6.heap[k]? := fun k hk => H7.out.2.block k (Nat.lt_of_lt_of_le hk (Nat.le_trans H1.out.2.size H6.out.2.size)) (fun e => by cases e; omega)
          have hA : w.grownBy w6 (some g) := gb_trans (gb_wide H1.out.2 _) H6.out.2
          exact ⟨rfl, HR.out.keep H6.out.1 hk (Nat.le_trans hA.size H7.out.2.size), ⟨H7.out.2.os.trans hA.os, H7.out.2.tape.trans hA.tape, H7.out.2.output.trans hA.output, Nat.le_trans hA.size H7.out.2.size, fun k hkl hne => (hk k hkl).trans (hA.block k hkl hne)⟩⟩
      · have hb : (NE == 0) = false := by simp [hNE]
        rw [if_pos hNE] at HC
        obtain ⟨rfl, _⟩ := HNB.out hNE
        clear hNE
        by_cases hk0 : KS = []
        · subst hk0
          go_enter Tryd.func43, Tryd.ntmps43
          go_wp2_with fail
          generalize hW1 : World.alloc w _ = W1
          rw [← hN]
          have H1 : Hid (Bk 69 W1 N (rowV [] [] 0) ∧ w.grownBy W1 none) := by rw [← hW1, hN]; exact HT
          have HR1 : Hid (RS W1 g a len cap xs 0 p) := HR.out.new H1.out.2
          have c3 := HR1.out.rdr.c3
          clear hW1 HT hN
          refine (ready_c g 0 _ _ W1 HR1.out.rdr).mono ?_
          rintro r w1 ⟨rfl, rfl⟩
          go_wp2_with fail
          refine (HKK.out _ HR1.out).mono ?_
          rintro r w2 ⟨rfl, h1, h2⟩
          have H2 : Hid (RS w2 g a len cap xs 0 KP ∧ w1.grownBy w2 (some g)) := ⟨h1, h2⟩
          clear h1 h2 c3
          go_wp2_with fail
          refine (HVV.out _ H2.out.1).mono ?_
          rintro r w3 ⟨rfl, h1, h2⟩
          have Hw3 : Hid (RS w3 g a len cap xs 0 VP ∧ w1.grownBy w3 (some g)) := ⟨h1, gb_trans H2.out.2 h2⟩
          clear h1 h2
          go_wp2_with fail
          refine (HNN.out _ Hw3.out.1).mono ?_
          rintro r w4 ⟨rfl, h1, h2⟩
          have Hw4 : Hid (RS w4 g a len cap xs NE NP ∧ w1.grownBy w4 (some g)) := ⟨h1, gb_trans Hw3.out.2 h2⟩
          clear h1 h2
          go_wp2_with fail
          refine (must_n g a len cap xs NE NP 32 _ Hw4.out.1 hb _).mono ?_
          rintro r w5 ⟨rfl, h1, h2⟩
          have H5 : Hid (RS w5 g a len cap xs NE NP ∧ w1.grownBy w5 (some g)) := ⟨h1, gb_trans Hw4.out.2 h2⟩
          have HB5 : Hid (Bk 69 w5 N (rowV [] [] 0)) := H1.out.1.grew H5.out.2 (fun e => by cases e; have := HGL.out; omega)
          obtain ⟨m1, m2⟩ := h1.moves p hple
          have c3 := h1.rdr.c3
          have f3 := h1.rdr.free 3
          obtain ⟨w6, hw6⟩ : ∃ w6, w5.setCell ⟨g, 3, none⟩ (.int .i64 (p : Int)) = w6 := ⟨_, rfl⟩
          rw [hw6] at m1 m2
          have H6 : Hid (RS w6 g a len cap xs NE p ∧ w1.grownBy w6 (some g)) := ⟨m1, gb_trans H5.out.2 m2⟩
          have HB6 : Hid (Bk 69 w6 N (rowV [] [] 0)) := HB5.out.grew m2 (fun e => by cases e; have := HGL.out; omega)
          clear h1 h2 m1 m2
          go_wp2_with (first
            | (refine wpList_store_bk 69 rfl (.tmp 2) (.tmp 36) rfl infoRow N (rowV [] [] 0) (rowV [] [] 0) rfl rfl HB6.out rfl rfl (rowV_one _ _ _) ?_; intro w7 h1 h2; have H7 : Hid (Bk 69 w7 N (rowV [] [] 0) ∧ w6.grownBy w7 (some N)) := ⟨h1, h2⟩; clear h1 h2))
          refine bodyPost_ret (results_cell1 Tryd.results43 _ _ _ ⟨N, 0, none⟩ (.agg (rowV [] [] 0)) rfl (bk_load Tryd.underlying69 rfl infoRow H7.out.1 rfl)) rfl ?_
          rw [HC.out]
          have hN2 := HGL.out.2
          have hk : ∀ k, k < w.heap.size → w7.heap[k]? = w6.heap[k]? := fun k hk => H7.out.2.block k (Nat.lt_of_lt_of_le hk (Nat.le_trans H1.out.2.size H6.out.2.size)) (fun e => by cases e; omega)
          have hA : w.grownBy w6 (some g) := gb_trans (gb_wide H1.out.2 _) H6.out.2
          exact ⟨rfl, HR.out.keep H6.out.1 hk (Nat.le_trans hA.size H7.out.2.size), ⟨H7.out.2.os.trans hA.os, H7.out.2.tape.trans hA.tape, H7.out.2.output.trans hA.output, Nat.le_trans hA.size H7.out.2.size, fun k hkl hne => (hk k hkl).trans (hA.block k hkl hne)⟩⟩
        · have hem := empty_str KS hk0
          clear hk0
          go_enter Tryd.func43, Tryd.ntmps43
          go_wp2_with fail
          generalize hW1 : World.alloc w _ = W1
          rw [← hN]
          have H1 : Hid (Bk 69 W1 N (rowV [] [] 0) ∧ w.grownBy W1 none) := by rw [← hW1, hN]; exact HT
          have HR1 : Hid (RS W1 g a len cap xs 0 p) := HR.out.new H1.out.2
          have c3 := HR1.out.rdr.c3
          clear hW1 HT hN
          refine (ready_c g 0 _ _ W1 HR1.out.rdr).mono ?_
          rintro r w1 ⟨rfl, rfl⟩
          go_wp2_with fail
          refine (HKK.out _ HR1.out).mono ?_
          rintro r w2 ⟨rfl, h1, h2⟩
          have H2 : Hid (RS w2 g a len cap xs 0 KP ∧ w1.grownBy w2 (some g)) := ⟨h1, h2⟩
          clear h1 h2 c3
          go_wp2_with fail
          refine (HVV.out _ H2.out.1).mono ?_
          rintro r w3 ⟨rfl, h1, h2⟩
          have Hw3 : Hid (RS w3 g a len cap xs 0 VP ∧ w1.grownBy w3 (some g)) := ⟨h1, gb_trans H2.out.2 h2⟩
          clear h1 h2
          go_wp2_with fail
          refine (HNN.out _ Hw3.out.1).mono ?_
          rintro r w4 ⟨rfl, h1, h2⟩
          have Hw4 : Hid (RS w4 g a len cap xs NE NP ∧ w1.grownBy w4 (some g)) := ⟨h1, gb_trans Hw3.out.2 h2⟩
          clear h1 h2
          go_wp2_with fail
          refine (must_n g a len cap xs NE NP 32 _ Hw4.out.1 hb _).mono ?_
          rintro r w5 ⟨rfl, h1, h2⟩
          have H5 : Hid (RS w5 g a len cap xs NE NP ∧ w1.grownBy w5 (some g)) := ⟨h1, gb_trans Hw4.out.2 h2⟩
          have HB5 : Hid (Bk 69 w5 N (rowV [] [] 0)) := H1.out.1.grew H5.out.2 (fun e => by cases e; have := HGL.out; omega)
          obtain ⟨m1, m2⟩ := h1.moves p hple
          have c3 := h1.rdr.c3
          have f3 := h1.rdr.free 3
          obtain ⟨w6, hw6⟩ : ∃ w6, w5.setCell ⟨g, 3, none⟩ (.int .i64 (p : Int)) = w6 := ⟨_, rfl⟩
          rw [hw6] at m1 m2
          have H6 : Hid (RS w6 g a len cap xs NE p ∧ w1.grownBy w6 (some g)) := ⟨m1, gb_trans H5.out.2 m2⟩
          have HB6 : Hid (Bk 69 w6 N (rowV [] [] 0)) := HB5.out.grew m2 (fun e => by cases e; have := HGL.out; omega)
          clear h1 h2 m1 m2
          go_wp2_with (first
            | (refine wpList_store_bk 69 rfl (.tmp 2) (.tmp 36) rfl infoRow N (rowV [] [] 0) (rowV [] [] 0) rfl rfl HB6.out rfl rfl (rowV_one _ _ _) ?_; intro w7 h1 h2; have H7 : Hid (Bk 69 w7 N (rowV [] [] 0) ∧ w6.grownBy w7 (some N)) := ⟨h1, h2⟩; clear h1 h2))
          refine bodyPost_ret (results_cell1 Tryd.results43 _ _ _ ⟨N, 0, none⟩ (.agg (rowV [] [] 0)) rfl (bk_load Tryd.underlying69 rfl infoRow H7.out.1 rfl)) rfl ?_
          rw [HC.out]
          have hN2 := HGL.out.2
          have hk : ∀ k, k < w.heap.size → w7.heap[k]? = w6.heap[k]? := fun k hk => H7.out.2.block k (Nat.lt_of_lt_of_le hk (Nat.le_trans H1.out.2.size H6.out.2.size)) (fun e => by cases e; omega)
          have hA : w.grownBy w6 (some g) := gb_trans (gb_wide H1.out.2 _) H6.out.2
          exact ⟨rfl, HR.out.keep H6.out.1 hk (Nat.le_trans hA.size H7.out.2.size), ⟨H7.out.2.os.trans hA.os, H7.out.2.tape.trans hA.tape, H7.out.2.output.trans hA.output, Nat.le_trans hA.size H7.out.2.size, fun k hkl hne => (hk k hkl).trans (hA.block k hkl hne)⟩⟩
    · have hb : (VE == 0) = false := by simp [hVE]
      rw [if_pos hVE] at HC
      clear hVE
      by_cases hk0 : KS = []
      · subst hk0
        go_enter Tryd.func43, Tryd.ntmps43
        go_wp2_with fail
        generalize hW1 : World.alloc w _ = W1
        rw [← hN]
        have H1 : Hid (Bk 69 W1 N (rowV [] [] 0) ∧ w.grownBy W1 none) := by rw [← hW1, hN]; exact HT
        have HR1 : Hid (RS W1 g a len cap xs 0 p) := HR.out.new H1.out.2
        have c3 := HR1.out.rdr.c3
        clear hW1 HT hN
        refine (ready_c g 0 _ _ W1 HR1.out.rdr).mono ?_
        rintro r w1 ⟨rfl, rfl⟩
        go_wp2_with fail
        refine (HKK.out _ HR1.out).mono ?_
        rintro r w2 ⟨rfl, h1, h2⟩
        have H2 : Hid (RS w2 g a len cap xs 0 KP ∧ w1.grownBy w2 (some g)) := ⟨h1, h2⟩
        clear h1 h2 c3
        go_wp2_with fail
        refine (HVV.out _ H2.out.1).mono ?_
        rintro r w3 ⟨rfl, h1, h2⟩
        have Hw3 : Hid (RS w3 g a len cap xs VE VP ∧ w1.grownBy w3 (some g)) := ⟨h1, gb_trans H2.out.2 h2⟩
        clear h1 h2
        go_wp2_with fail
        refine (int_no g VE _ _ 1152921504606846976 _ Hw3.out.1.rdr hb).mono ?_
        rintro r w4 ⟨rfl, rfl⟩
        go_wp2_with fail
        refine (must_n g a len cap xs VE VP 32 _ Hw3.out.1 hb _).mono ?_
        rintro r w5 ⟨rfl, h1, h2⟩
        have H5 : Hid (RS w5 g a len cap xs VE VP ∧ w1.grownBy w5 (some g)) := ⟨h1, gb_trans Hw3.out.2 h2⟩
        have HB5 : Hid (Bk 69 w5 N (rowV [] [] 0)) := H1.out.1.grew H5.out.2 (fun e => by cases e; have := HGL.out; omega)
        obtain ⟨m1, m2⟩ := h1.moves p hple
        have c3 := h1.rdr.c3
        have f3 := h1.rdr.free 3
        obtain ⟨w6, hw6⟩ : ∃ w6, w5.setCell ⟨g, 3, none⟩ (.int .i64 (p : Int)) = w6 := ⟨_, rfl⟩
        rw [hw6] at m1 m2
        have H6 : Hid (RS w6 g a len cap xs VE p ∧ w1.grownBy w6 (some g)) := ⟨m1, gb_trans H5.out.2 m2⟩
        have HB6 : Hid (Bk 69 w6 N (rowV [] [] 0)) := HB5.out.grew m2 (fun e => by cases e; have := HGL.out; omega)
        clear h1 h2 m1 m2
        go_wp2_with (first
          | (refine wpList_store_bk 69 rfl (.tmp 2) (.tmp 36) rfl infoRow N (rowV [] [] 0) (rowV [] [] 0) rfl rfl HB6.out rfl rfl (rowV_one _ _ _) ?_; intro w7 h1 h2; have H7 : Hid (Bk 69 w7 N (rowV [] [] 0) ∧ w6.grownBy w7 (some N)) := ⟨h1, h2⟩; clear h1 h2))
        refine bodyPost_ret (results_cell1 Tryd.results43 _ _ _ ⟨N, 0, none⟩ (.agg (rowV [] [] 0)) rfl (bk_load Tryd.underlying69 rfl infoRow H7.out.1 rfl)) rfl ?_
        rw [HC.out]
        have hN2 := HGL.out.2
        have hk : ∀ k, k < w.heap.size → w7.heap[k]? = w6.heap[k]? := fun k hk => H7.out.2.block k (Nat.lt_of_lt_of_le hk (Nat.le_trans H1.out.2.size H6.out.2.size)) (fun e => by cases e; omega)
        have hA : w.grownBy w6 (some g) := gb_trans (gb_wide H1.out.2 _) H6.out.2
        exact ⟨rfl, HR.out.keep H6.out.1 hk (Nat.le_trans hA.size H7.out.2.size), ⟨H7.out.2.os.trans hA.os, H7.out.2.tape.trans hA.tape, H7.out.2.output.trans hA.output, Nat.le_trans hA.size H7.out.2.size, fun k hkl hne => (hk k hkl).trans (hA.block k hkl hne)⟩⟩
      · have hem := empty_str KS hk0
        clear hk0
        go_enter Tryd.func43, Tryd.ntmps43
        go_wp2_with fail
        generalize hW1 : World.alloc w _ = W1
        rw [← hN]
        have H1 : Hid (Bk 69 W1 N (rowV [] [] 0) ∧ w.grownBy W1 none) := by rw [← hW1, hN]; exact HT
        have HR1 : Hid (RS W1 g a len cap xs 0 p) := HR.out.new H1.out.2
        have c3 := HR1.out.rdr.c3
        clear hW1 HT hN
        refine (ready_c g 0 _ _ W1 HR1.out.rdr).mono ?_
        rintro r w1 ⟨rfl, rfl⟩
        go_wp2_with fail
        refine (HKK.out _ HR1.out).mono ?_
        rintro r w2 ⟨rfl, h1, h2⟩
        have H2 : Hid (RS w2 g a len cap xs 0 KP ∧ w1.grownBy w2 (some g)) := ⟨h1, h2⟩
        clear h1 h2 c3
        go_wp2_with fail
        refine (HVV.out _ H2.out.1).mono ?_
        rintro r w3 ⟨rfl, h1, h2⟩
        have Hw3 : Hid (RS w3 g a len cap xs VE VP ∧ w1.grownBy w3 (some g)) := ⟨h1, gb_trans H2.out.2 h2⟩
        clear h1 h2
        go_wp2_with fail
        refine (int_no g VE _ _ 1152921504606846976 _ Hw3.out.1.rdr hb).mono ?_
        rintro r w4 ⟨rfl, rfl⟩
        go_wp2_with fail
        refine (must_n g a len cap xs VE VP 32 _ Hw3.out.1 hb _).mono ?_
        rintro r w5 ⟨rfl, h1, h2⟩
        have H5 : Hid (RS w5 g a len cap xs VE VP ∧ w1.grownBy w5 (some g)) := ⟨h1, gb_trans Hw3.out.2 h2⟩
        have HB5 : Hid (Bk 69 w5 N (rowV [] [] 0)) := H1.out.1.grew H5.out.2 (fun e => by cases e; have := HGL.out; omega)
        obtain ⟨m1, m2⟩ := h1.moves p hple
        have c3 := h1.rdr.c3
        have f3 := h1.rdr.free 3
        obtain ⟨w6, hw6⟩ : ∃ w6, w5.setCell ⟨g, 3, none⟩ (.int .i64 (p : Int)) = w6 := ⟨_, rfl⟩
        rw [hw6] at m1 m2
        have H6 : Hid (RS w6 g a len cap xs VE p ∧ w1.grownBy w6 (some g)) := ⟨m1, gb_trans H5.out.2 m2⟩
        have HB6 : Hid (Bk 69 w6 N (rowV [] [] 0)) := HB5.out.grew m2 (fun e => by cases e; have := HGL.out; omega)
        clear h1 h2 m1 m2
        go_wp2_with (first
          | (refine wpList_store_bk 69 rfl (.tmp 2) (.tmp 36) rfl infoRow N (rowV [] [] 0) (rowV [] [] 0) rfl rfl HB6.out rfl rfl (rowV_one _ _ _) ?_; intro w7 h1 h2; have H7 : Hid (Bk 69 w7 N (rowV [] [] 0) ∧ w6.grownBy w7 (some N)) := ⟨h1, h2⟩; clear h1 h2))
        refine bodyPost_ret (results_cell1 Tryd.results43 _ _ _ ⟨N, 0, none⟩ (.agg (rowV [] [] 0)) rfl (bk_load Tryd.underlying69 rfl infoRow H7.out.1 rfl)) rfl ?_
        rw [HC.out]
        have hN2 := HGL.out.2
        have hk : ∀ k, k < w.heap.size → w7.heap[k]? = w6.heap[k]? := fun k hk => H7.out.2.block k (Nat.lt_of_lt_of_le hk (Nat.le_trans H1.out.2.size H6.out.2.size)) (fun e => by cases e; omega)
        have hA : w.grownBy w6 (some g) := gb_trans (gb_wide H1.out.2 _) H6.out.2
        exact ⟨rfl, HR.out.keep H6.out.1 hk (Nat.le_trans hA.size H7.out.2.size), ⟨H7.out.2.os.trans hA.os, H7.out.2.tape.trans hA.tape, H7.out.2.output.trans hA.output, Nat.le_trans hA.size H7.out.2.size, fun k hkl hne => (hk k hkl).trans (hA.block k hkl hne)⟩⟩
  · have hb : (KE == 0) = false := by simp [hKE]
    rw [if_pos hKE] at HC
    obtain ⟨rfl, _⟩ := HKB.out hKE
    clear hKE
    go_enter Tryd.func43, Tryd.ntmps43
    go_wp2_with fail
    generalize hW1 : World.alloc w _ = W1
    rw [← hN]
    have H1 : Hid (Bk 69 W1 N (rowV [] [] 0) ∧ w.grownBy W1 none) := by rw [← hW1, hN]; exact HT
    have HR1 : Hid (RS W1 g a len cap xs 0 p) := HR.out.new H1.out.2
    have c3 := HR1.out.rdr.c3
    clear hW1 HT hN
    refine (ready_c g 0 _ _ W1 HR1.out.rdr).mono ?_
    rintro r w1 ⟨rfl, rfl⟩
    go_wp2_with fail
    refine (HKK.out _ HR1.out).mono ?_
    rintro r w2 ⟨rfl, h1, h2⟩
    have H2 : Hid (RS w2 g a len cap xs KE KP ∧ w1.grownBy w2 (some g)) := ⟨h1, h2⟩
    clear h1 h2 c3
    go_wp2_with fail
    refine (text_no g KE _ _ 65536 w2 H2.out.1.rdr hb).mono ?_
    rintro r w3 ⟨rfl, rfl⟩
    go_wp2_with fail
    refine (int_no g KE _ _ 1152921504606846976 _ H2.out.1.rdr hb).mono ?_
    rintro r w4 ⟨rfl, rfl⟩
    go_wp2_with fail
    refine (must_n g a len cap xs KE KP 32 _ H2.out.1 hb _).mono ?_
    rintro r w5 ⟨rfl, h1, h2⟩
    have H5 : Hid (RS w5 g a len cap xs KE KP ∧ w1.grownBy w5 (some g)) := ⟨h1, gb_trans H2.out.2 h2⟩
    have HB5 : Hid (Bk 69 w5 N (rowV [] [] 0)) := H1.out.1.grew H5.out.2 (fun e => by cases e; have := HGL.out; omega)
    obtain ⟨m1, m2⟩ := h1.moves p hple
    have c3 := h1.rdr.c3
    have f3 := h1.rdr.free 3
    obtain ⟨w6, hw6⟩ : ∃ w6, w5.setCell ⟨g, 3, none⟩ (.int .i64 (p : Int)) = w6 := ⟨_, rfl⟩
    rw [hw6] at m1 m2
    have H6 : Hid (RS w6 g a len cap xs KE p ∧ w1.grownBy w6 (some g)) := ⟨m1, gb_trans H5.out.2 m2⟩
    have HB6 : Hid (Bk 69 w6 N (rowV [] [] 0)) := HB5.out.grew m2 (fun e => by cases e; have := HGL.out; omega)
    clear h1 h2 m1 m2
    go_wp2_with (first
      | (refine wpList_store_bk 69 rfl (.tmp 2) (.tmp 36) rfl infoRow N (rowV [] [] 0) (rowV [] [] 0) rfl rfl HB6.out rfl rfl (rowV_one _ _ _) ?_; intro w7 h1 h2; have H7 : Hid (Bk 69 w7 N (rowV [] [] 0) ∧ w6.grownBy w7 (some N)) := ⟨h1, h2⟩; clear h1 h2))
    refine bodyPost_ret (results_cell1 Tryd.results43 _ _ _ ⟨N, 0, none⟩ (.agg (rowV [] [] 0)) rfl (bk_load Tryd.underlying69 rfl infoRow H7.out.1 rfl)) rfl ?_
    rw [HC.out]
    have hN2 := HGL.out.2
    have hk : ∀ k, k < w.heap.size → w7.heap[k]? = w6.heap[k]? := fun k hk => H7.out.2.block k (Nat.lt_of_lt_of_le hk (Nat.le_trans H1.out.2.size H6.out.2.size)) (fun e => by cases e; omega)
    have hA : w.grownBy w6 (some g) := gb_trans (gb_wide H1.out.2 _) H6.out.2
    exact ⟨rfl, HR.out.keep H6.out.1 hk (Nat.le_trans hA.size H7.out.2.size), ⟨H7.out.2.os.trans hA.os, H7.out.2.tape.trans hA.tape, H7.out.2.output.trans hA.output, Nat.le_trans hA.size H7.out.2.size, fun k hkl hne => (hk k hkl).trans (hA.block k hkl hne)⟩⟩
end Go.Proofs.YteilmkibbdlnoabDoor
namespace Go.Proofs.YteilmkibbdlnoabDoor
open Go.RowKit
set_option linter.unusedVariables false

/-- What Flag takes up. -/
def rf (xs : List Int) (p : Nat) : Bool × Nat × Int :=
  if xs.length ≤ p then (false, p, 30) else if 1 < xs[p]?.getD 0 then (false, p, 32) else (xs[p]?.getD 0 == 1, p + 1, 0)
/-- What Count takes up. -/
def rc (xs : List Int) (p : Nat) (most least : Int) : Int × Nat × Int :=
  if most < 0 ∨ least < 0 then (0, p, 1) else if (ri xs p most).2.2 ≠ 0 then (0, p, (ri xs p most).2.2)
  else if 0 < least ∧ ((xs.length - (ri xs p most).2.1 : Nat) : Int) / least < (ri xs p most).1 then (0, p, 30)
  else ((ri xs p most).1, (ri xs p most).2.1, 0)

theorem ready_r (g : Nat) (a : Option Addr) (len cap : Nat) (xs : List Int) (e : Int) (p : Nat) (w : World) (h : RS w g a len cap xs e p) :
    Calls Tryd.prog 62 #[.pointer (some ⟨g, 0, none⟩)] w fun r w' => r = .returned (.bool (e == 0)) ∧ RS w' g a len cap xs e p ∧ w.grownBy w' (some g) :=
  (ready_c g e _ _ w h.rdr).mono (fun _ _ ⟨h1, h2⟩ => ⟨h1, by rw [h2]; exact ⟨h, World.grownBy.refl _ _⟩⟩)

theorem count_no (g : Nat) (e : Int) (v : Value) (p : Int) (most least : Int) (w : World) (h : Rdr w g e v p) (he : (e == 0) = false) :
    Calls Tryd.prog 42 #[.pointer (some ⟨g, 0, none⟩), .int .i64 most, .int .i64 least] w fun r w' => r = .returned (.int .i64 0) ∧ w' = w := by
  go_enter Tryd.func42, Tryd.ntmps42
  go_wp2_with fail
  refine (ready_c g e v p w h).mono ?_
  rintro r w1 ⟨rfl, rfl⟩
  go_wp2
  go_ret
  exact ⟨rfl, rfl⟩

set_option maxRecDepth 20000 in
theorem count_neg (g : Nat) (a : Option Addr) (len cap : Nat) (xs : List Int) (p : Nat) (most least : Int) (w : World) (h : RS w g a len cap xs 0 p) (hm : most < 0 ∨ least < 0) :
    Calls Tryd.prog 42 #[.pointer (some ⟨g, 0, none⟩), .int .i64 most, .int .i64 least] w fun r w' => r = .returned (.int .i64 (rc xs p most least).1) ∧ RS w' g a len cap xs (rc xs p most least).2.2 (rc xs p most least).2.1 ∧ w.grownBy w' (some g) := by
  have he : rc xs p most least = (0, p, 1) := by rw [rc, if_pos hm]
  rw [he]
  have HR : Hid (RS w g a len cap xs 0 p) := h
  clear h he
  by_cases h0 : 0 ≤ most
  · have hd : decide (0 ≤ least) = false := by simp; omega
    clear hm
    go_enter Tryd.func42, Tryd.ntmps42
    go_wp2_with fail
    refine (ready_c g 0 _ _ w HR.out.rdr).mono ?_
    rintro r w1 ⟨rfl, rfl⟩
    go_wp2_with fail
    refine (rmust_ok g a len cap xs p 1 _ rfl HR.out).mono ?_
    rintro r w2 ⟨rfl, h1, h2⟩
    have H1 : Hid (RS w2 g a len cap xs 1 p ∧ w1.grownBy w2 (some g)) := ⟨h1, h2⟩
    clear h1 h2
    go_wp2
    go_ret
    exact ⟨rfl, H1.out.1, H1.out.2⟩
  · have hd : decide (0 ≤ most) = false := by simp; omega
    clear hm h0
    go_enter Tryd.func42, Tryd.ntmps42
    go_wp2_with fail
    refine (ready_c g 0 _ _ w HR.out.rdr).mono ?_
    rintro r w1 ⟨rfl, rfl⟩
    go_wp2_with fail
    refine (rmust_ok g a len cap xs p 1 _ rfl HR.out).mono ?_
    rintro r w2 ⟨rfl, h1, h2⟩
    have H1 : Hid (RS w2 g a len cap xs 1 p ∧ w1.grownBy w2 (some g)) := ⟨h1, h2⟩
    clear h1 h2
    go_wp2
    go_ret
    exact ⟨rfl, H1.out.1, H1.out.2⟩

set_option maxRecDepth 20000 in
set_option maxHeartbeats 1000000 in
theorem count_pos (g : Nat) (a : Option Addr) (len cap : Nat) (xs : List Int) (p : Nat) (most least : Int) (w : World) (h : RS w g a len cap xs 0 p) (hm : 0 ≤ most) (hm2 : most ≤ 9223372036854775807) (hl : 0 < least) (hl2 : least ≤ 9223372036854775807) :
    Calls Tryd.prog 42 #[.pointer (some ⟨g, 0, none⟩), .int .i64 most, .int .i64 least] w fun r w' => r = .returned (.int .i64 (rc xs p most least).1) ∧ RS w' g a len cap xs (rc xs p most least).2.2 (rc xs p most least).2.1 ∧ w.grownBy w' (some g) := by
  have HR : Hid (RS w g a len cap xs 0 p) := h
  have HI : Hid (Calls Tryd.prog 41 #[.pointer (some ⟨g, 0, none⟩), .int .i64 most] w fun r w' => r = .returned (.int .i64 (ri xs p most).1) ∧ RS w' g a len cap xs (ri xs p most).2.2 (ri xs p most).2.1 ∧ w.grownBy w' (some g)) := int_ok g a len cap xs p most w h hm2
  have hbd := ri_bd h.bytes p (by rw [h.seg.1]; exact h.le) most
  have HC : Hid (rc xs p most least = if (ri xs p most).2.2 ≠ 0 then (0, p, (ri xs p most).2.2)
      else if ((len - (ri xs p most).2.1 : Nat) : Int) / least < (ri xs p most).1 then (0, p, 30)
      else ((ri xs p most).1, (ri xs p most).2.1, 0)) := by
    show _ = _
    rw [rc, h.seg.1, if_neg (by omega)]
    simp [hl]
  rw [h.seg.1] at hbd
  obtain ⟨V, q, E, hri⟩ : ∃ V q E, ri xs p most = (V, q, E) := ⟨_, _, _, rfl⟩
  rw [hri] at hbd HI HC
  simp only at hbd HI HC
  have h3 := h.rdr.c3
  have hple := h.le
  have hlm := h.lm
  obtain ⟨R, hR⟩ : ∃ R, R = rc xs p most least := ⟨_, rfl⟩
  rw [← hR] at HC ⊢
  clear h hri hR
  obtain ⟨L, hL⟩ : ∃ L, L = len - q := ⟨_, rfl⟩
  have HL : Hid (∀ w, RS w g a len cap xs E q → Calls Tryd.prog 64 #[.pointer (some ⟨g, 0, none⟩)] w fun r w' => r = .returned (.int .i64 (L : Int)) ∧ RS w' g a len cap xs E q ∧ w.grownBy w' (some g)) := by rw [hL]; exact fun w h => left_r g a len cap xs E q w h
  rw [← hL] at HC
  have hLm : L ≤ 140737488355328 := by omega
  have HLL : Hid (L = len - q) := hL
  clear hL
  have hne : (least == 0) = false := by simp; omega
  have hl0 : 0 ≤ least := by omega
  have hn0 : least ≠ 0 := by omega
  have hDb : 0 ≤ (L : Int) / least ∧ (L : Int) / least ≤ L := ⟨Int.ediv_nonneg (by omega) hl0, Int.ediv_le_self _ (by omega)⟩
  have htd : (L : Int).tdiv least = (L : Int) / least := Int.tdiv_eq_ediv_of_nonneg (by omega)
  obtain ⟨D, hD⟩ : ∃ D, D = (L : Int) / least := ⟨_, rfl⟩
  rw [← hD] at HC hDb htd
  have hw1 : wrap64 ((L : Int) / least) = D := by rw [← hD]; exact IntWalk.wrap64_in _ ⟨by omega, by omega⟩
  have hw2 : IntKind.i64.wrap ((L : Int).tdiv least) = D := by rw [htd, IntKind.wrap_i64]; omega
  have hw3 : IntKind.i64.wrap ((L : Int) / least) = D := by rw [← hD, IntKind.wrap_i64]; omega
  have hw4 : IntKind.i64.wrap D = D := by rw [IntKind.wrap_i64]; omega
  clear hD hDb
  by_cases hE : E = 0
  · subst hE
    rw [if_neg (by simp)] at HC
    by_cases hv : V ≤ D
    · rw [if_neg (by omega)] at HC
      have hd : decide (V ≤ D) = true := by simp; omega
      clear hv hbd
      go_enter Tryd.func42, Tryd.ntmps42
      go_wp2_with fail
      refine (ready_c g 0 _ _ w HR.out.rdr).mono ?_
      rintro r w1 ⟨rfl, rfl⟩
      go_wp2_with fail
      refine (must_so g 0 1 _ HR.out.rdr.c0).mono ?_
      rintro r w2 ⟨rfl, rfl⟩
      go_wp2_with fail
      refine HI.out.mono ?_
      rintro r w3 ⟨rfl, h1, h2⟩
      have H1 : Hid (RS w3.drew g a len cap xs 0 q ∧ w2.grownBy w3.drew (some g)) := ⟨h1.drewN 1, gb_drewN h2 1⟩
      clear h1 h2
      go_wp2
      go_region_held3 (fun _ => True) (trivial) (first
        | (go_at_call 64; refine (HL.out _ H1.out.1).mono ?_; rintro r w4 ⟨rfl, h1, h2⟩; have H2 : Hid (RS w4 g a len cap xs 0 q ∧ w2.grownBy w4 (some g)) := ⟨h1, gb_trans H1.out.2 h2⟩; clear h1 h2)
        | (go_at_call 51; go_must (refine (must_r g a len cap xs 0 q 30 _ H2.out.1).mono ?_); rintro r w5 ⟨rfl, h1, h2⟩; have H3 : Hid (RS w5 g a len cap xs 0 q ∧ w2.grownBy w5 (some g)) := ⟨h1, gb_trans H2.out.2 h2⟩; clear h1 h2))
      go_wp2
      go_ret
      rw [HC.out]
      exact ⟨rfl, H3.out.1, H3.out.2⟩
    · rw [if_pos (by omega)] at HC
      have hd : decide (V ≤ D) = false := by simp; omega
      clear hv hbd
      go_enter Tryd.func42, Tryd.ntmps42
      go_wp2_with fail
      refine (ready_c g 0 _ _ w HR.out.rdr).mono ?_
      rintro r w1 ⟨rfl, rfl⟩
      go_wp2_with fail
      refine (must_so g 0 1 _ HR.out.rdr.c0).mono ?_
      rintro r w2 ⟨rfl, rfl⟩
      go_wp2_with fail
      refine HI.out.mono ?_
      rintro r w3 ⟨rfl, h1, h2⟩
      have H1 : Hid (RS w3.drew g a len cap xs 0 q ∧ w2.grownBy w3.drew (some g)) := ⟨h1.drewN 1, gb_drewN h2 1⟩
      clear h1 h2
      go_wp2
      go_region_held3 (fun _ => True) (trivial) (first
        | (go_at_call 64; refine (HL.out _ H1.out.1).mono ?_; rintro r w4 ⟨rfl, h1, h2⟩; have H2 : Hid (RS w4 g a len cap xs 0 q ∧ w2.grownBy w4 (some g)) := ⟨h1, gb_trans H1.out.2 h2⟩; clear h1 h2)
        | (go_at_call 51; go_must (refine (rmust_ok g a len cap xs q 30 _ rfl H2.out.1).mono ?_); rintro r w5 ⟨rfl, h1, h2⟩; have H3 : Hid (RS w5 g a len cap xs 30 q ∧ w2.grownBy w5 (some g)) := ⟨h1, gb_trans H2.out.2 h2⟩; clear h1 h2))
      have c3 := H3.out.1.rdr.c3
      have f3 := H3.out.1.rdr.free 3
      go_wp2
      go_ret
      obtain ⟨m1, m2⟩ := H3.out.1.moves p hple
      rw [HC.out]
      exact ⟨rfl, m1, gb_trans H3.out.2 m2⟩
  · have hb : (E == 0) = false := by simp [hE]
    obtain ⟨rfl, rfl⟩ := hbd.2.2.2.2 hE
    rw [if_pos hE] at HC
    clear hE hbd
    go_enter Tryd.func42, Tryd.ntmps42
    go_wp2_with fail
    refine (ready_c g 0 _ _ w HR.out.rdr).mono ?_
    rintro r w1 ⟨rfl, rfl⟩
    go_wp2_with fail
    refine (must_so g 0 1 _ HR.out.rdr.c0).mono ?_
    rintro r w2 ⟨rfl, rfl⟩
    go_wp2_with fail
    refine HI.out.mono ?_
    rintro r w3 ⟨rfl, h1, h2⟩
    have H1 : Hid (RS w3.drew g a len cap xs E q ∧ w2.grownBy w3.drew (some g)) := ⟨h1.drewN 1, gb_drewN h2 1⟩
    clear h1 h2
    go_wp2
    go_region_held3 (fun _ => True) (trivial) (first
      | (go_at_call 64; refine (HL.out _ H1.out.1).mono ?_; rintro r w4 ⟨rfl, h1, h2⟩; have H2 : Hid (RS w4 g a len cap xs E q ∧ w2.grownBy w4 (some g)) := ⟨h1, gb_trans H1.out.2 h2⟩; clear h1 h2)
      | (go_at_call 51; go_must (refine (must_n g a len cap xs E q _ _ H2.out.1 hb _).mono ?_); rintro r w5 ⟨rfl, h1, h2⟩; have H3 : Hid (RS w5 g a len cap xs E q ∧ w2.grownBy w5 (some g)) := ⟨h1, gb_trans H2.out.2 h2⟩; clear h1 h2))
    have c3 := H3.out.1.rdr.c3
    have f3 := H3.out.1.rdr.free 3
    go_wp2
    go_ret
    obtain ⟨m1, m2⟩ := H3.out.1.moves q hple
    rw [HC.out]
    exact ⟨rfl, m1, gb_trans H3.out.2 m2⟩

set_option maxRecDepth 20000 in
set_option maxHeartbeats 1000000 in
theorem count_zero (g : Nat) (a : Option Addr) (len cap : Nat) (xs : List Int) (p : Nat) (most : Int) (w : World) (h : RS w g a len cap xs 0 p) (hm : 0 ≤ most) (hm2 : most ≤ 9223372036854775807) :
    Calls Tryd.prog 42 #[.pointer (some ⟨g, 0, none⟩), .int .i64 most, .int .i64 0] w fun r w' => r = .returned (.int .i64 (rc xs p most 0).1) ∧ RS w' g a len cap xs (rc xs p most 0).2.2 (rc xs p most 0).2.1 ∧ w.grownBy w' (some g) := by
  have HR : Hid (RS w g a len cap xs 0 p) := h
  have HI : Hid (Calls Tryd.prog 41 #[.pointer (some ⟨g, 0, none⟩), .int .i64 most] w fun r w' => r = .returned (.int .i64 (ri xs p most).1) ∧ RS w' g a len cap xs (ri xs p most).2.2 (ri xs p most).2.1 ∧ w.grownBy w' (some g)) := int_ok g a len cap xs p most w h hm2
  have hbd := ri_bd h.bytes p (by rw [h.seg.1]; exact h.le) most
  have HC : Hid (rc xs p most 0 = if (ri xs p most).2.2 ≠ 0 then (0, p, (ri xs p most).2.2)
      else ((ri xs p most).1, (ri xs p most).2.1, 0)) := by
    show _ = _
    rw [rc, if_neg (by omega)]
    simp
  rw [h.seg.1] at hbd
  obtain ⟨V, q, E, hri⟩ : ∃ V q E, ri xs p most = (V, q, E) := ⟨_, _, _, rfl⟩
  rw [hri] at hbd HI HC
  simp only at hbd HI HC
  have h3 := h.rdr.c3
  have hple := h.le
  obtain ⟨R, hR⟩ : ∃ R, R = rc xs p most 0 := ⟨_, rfl⟩
  rw [← hR] at HC ⊢
  clear h hri hR
  by_cases hE : E = 0
  · subst hE
    rw [if_neg (by simp)] at HC
    clear hbd
    go_enter Tryd.func42, Tryd.ntmps42
    go_wp2_with fail
    refine (ready_c g 0 _ _ w HR.out.rdr).mono ?_
    rintro r w1 ⟨rfl, rfl⟩
    go_wp2_with fail
    refine (must_so g 0 1 _ HR.out.rdr.c0).mono ?_
    rintro r w2 ⟨rfl, rfl⟩
    go_wp2_with fail
    refine HI.out.mono ?_
    rintro r w3 ⟨rfl, h1, h2⟩
    have H1 : Hid (RS w3 g a len cap xs 0 q ∧ w2.grownBy w3 (some g)) := ⟨h1, h2⟩
    have HQ : Hid (∀ n, Calls Tryd.prog 51 #[.pointer (some ⟨g, 0, none⟩), .bool true, .int .i64 30] (w3.drewN n) fun r w' => r = .returned (.bool true) ∧ w' = w3.drewN n) := by
      intro n
      have := must_so g 0 30 (w3.drewN n) (h1.drewN n).rdr.c0
      exact this
    clear h1 h2
    go_wp2
    go_quiet ((go_at_call 51; go_must (refine Calls.quiet_of_same (HQ.out _))))
    obtain ⟨w4, hw4⟩ : ∃ w4, w4 = w3.drewN nq := ⟨_, rfl⟩
    rw [← hw4]
    have H4 : Hid (RS w4 g a len cap xs 0 q ∧ w2.grownBy w4 (some g)) := by rw [hw4]; exact ⟨H1.out.1.drewN _, gb_drewN H1.out.2 _⟩
    clear hw4
    go_wp2
    go_ret
    rw [HC.out]
    exact ⟨rfl, H4.out.1, H4.out.2⟩
  · have hb : (E == 0) = false := by simp [hE]
    obtain ⟨rfl, rfl⟩ := hbd.2.2.2.2 hE
    rw [if_pos hE] at HC
    clear hE hbd
    go_enter Tryd.func42, Tryd.ntmps42
    go_wp2_with fail
    refine (ready_c g 0 _ _ w HR.out.rdr).mono ?_
    rintro r w1 ⟨rfl, rfl⟩
    go_wp2_with fail
    refine (must_so g 0 1 _ HR.out.rdr.c0).mono ?_
    rintro r w2 ⟨rfl, rfl⟩
    go_wp2_with fail
    refine HI.out.mono ?_
    rintro r w3 ⟨rfl, h1, h2⟩
    have H1 : Hid (RS w3 g a len cap xs E q ∧ w2.grownBy w3 (some g)) := ⟨h1, h2⟩
    have HQ : Hid (∀ n, Calls Tryd.prog 51 #[.pointer (some ⟨g, 0, none⟩), .bool true, .int .i64 30] (w3.drewN n) fun r w' => r = .returned (.bool false) ∧ w' = w3.drewN n) := by
      intro n
      have := must_so g E 30 (w3.drewN n) (h1.drewN n).rdr.c0
      rw [hb] at this; exact this
    clear h1 h2
    go_wp2
    go_quiet ((go_at_call 51; go_must (refine Calls.quiet_of_same (HQ.out _))))
    obtain ⟨w4, hw4⟩ : ∃ w4, w4 = w3.drewN nq := ⟨_, rfl⟩
    rw [← hw4]
    have H4 : Hid (RS w4 g a len cap xs E q ∧ w2.grownBy w4 (some g)) := by rw [hw4]; exact ⟨H1.out.1.drewN _, gb_drewN H1.out.2 _⟩
    clear hw4
    have c3 := H4.out.1.rdr.c3
    have f3 := H4.out.1.rdr.free 3
    go_wp2
    go_ret
    obtain ⟨m1, m2⟩ := H4.out.1.moves q hple
    rw [HC.out]
    exact ⟨rfl, m1, gb_trans H4.out.2 m2⟩

theorem count_ok (g : Nat) (a : Option Addr) (len cap : Nat) (xs : List Int) (p : Nat) (most least : Int) (w : World) (h : RS w g a len cap xs 0 p) (hm2 : most ≤ 9223372036854775807) (hl2 : least ≤ 9223372036854775807) :
    Calls Tryd.prog 42 #[.pointer (some ⟨g, 0, none⟩), .int .i64 most, .int .i64 least] w fun r w' => r = .returned (.int .i64 (rc xs p most least).1) ∧ RS w' g a len cap xs (rc xs p most least).2.2 (rc xs p most least).2.1 ∧ w.grownBy w' (some g) := by
  by_cases hm : most < 0 ∨ least < 0
  · exact count_neg g a len cap xs p most least w h hm
  · by_cases hl : least = 0
    · subst hl; exact count_zero g a len cap xs p most w h (by omega) hm2
    · exact count_pos g a len cap xs p most least w h (by omega) hm2 (by omega) hl2
end Go.Proofs.YteilmkibbdlnoabDoor
namespace Go.Proofs.YteilmkibbdlnoabDoor
open Go.RowKit
set_option linter.unusedVariables false

/-- What a call lays down. -/
def lay (o : OpD) : List Int :=
  if o.call = 0 then enc o.v.toNat
  else if o.call = 1 then enc o.n.toNat
  else if o.call = 2 then enc o.s.size ++ sb o.s
  else if o.call = 3 then [fb o.f]
  else if o.call = 4 then o.ds
  else if o.call = 5 then rowB o.key o.val o.ver
  else []
/-- The error that a call makes by itself. -/
def oerr (o : OpD) : Int :=
  if o.call = 1 then wie o.n o.most
  else if o.call = 2 then wte o.s.size o.most
  else if o.call = 5 then wre o.key o.val o.ver
  else 0
def idle (o : OpD) : Bool := decide (o.call = 6) || (decide (o.call = 7) || decide (o.call = 8))
/-- What PackBack's first loop makes of a call. -/
def wbk (o : OpD) (ys : List Int) (e : Int) : List Int × Int := if idle o = true then (ys, e) else wst o ys e
theorem wbk_eq (o : OpD) (ys : List Int) (e : Int) : wbk o ys e = (wadd (ferr e (oerr o)) ys (lay o), ferr e (oerr o)) := by
  have hz : ∀ e : Int, ferr e 0 = e := fun e => by unfold ferr; split <;> simp_all
  have hn : ∀ e : Int, wadd e ys [] = ys := fun e => by unfold wadd; split <;> simp
  unfold wbk idle
  by_cases h6 : o.call = 6
  · simp [h6, oerr, lay, hz, hn]
  by_cases h7 : o.call = 7
  · simp [h7, oerr, lay, hz, hn]
  by_cases h8 : o.call = 8
  · simp [h8, oerr, lay, hz, hn]
  simp only [h6, h7, h8, decide_false, Bool.or_false, Bool.false_eq_true, if_false]
  unfold wst oerr lay
  by_cases h0 : o.call = 0
  · simp [h0, hz]
  by_cases h1 : o.call = 1
  · simp [h1]
  by_cases h2 : o.call = 2
  · simp [h2]
  by_cases h3 : o.call = 3
  · simp [h3, hz]
  by_cases h4 : o.call = 4
  · simp [h4, hz]
  by_cases h5 : o.call = 5
  · simp [h5]
  simp [h0, h1, h2, h3, h4, h5, h6, hz, hn]
/-- The first error, and what was laid down, of some calls. -/
def oerrs : List OpD → Int → Int
  | [], e => e
  | o :: l, e => oerrs l (ferr e (oerr o))
def lays : List OpD → List Int
  | [] => []
  | o :: l => lay o ++ lays l
theorem lays_app (l m : List OpD) : lays (l ++ m) = lays l ++ lays m := by
  induction l with
  | nil => rfl
  | cons o l ih => simp [lays, ih]
theorem oerrs_app (l m : List OpD) (e : Int) : oerrs (l ++ m) e = oerrs m (oerrs l e) := by
  induction l generalizing e with
  | nil => rfl
  | cons o l ih => exact ih _
theorem ferr_ne {e x : Int} (h : e ≠ 0) : ferr e x = e := by unfold ferr; rw [if_neg h]
theorem ferr_start (x : Int) : ferr 0 x = x := by unfold ferr; rw [if_pos rfl]
theorem oerrs_ne (l : List OpD) {e : Int} (h : e ≠ 0) : oerrs l e = e := by
  induction l generalizing e with
  | nil => rfl
  | cons o l ih => show oerrs l (ferr e (oerr o)) = e; rw [ferr_ne h]; exact ih h
theorem oerrs_zero (l : List OpD) (e : Int) (h : oerrs l e = 0) : e = 0 ∧ ∀ o ∈ l, oerr o = 0 := by
  induction l generalizing e with
  | nil => exact ⟨h, by simp⟩
  | cons o l ih =>
    have h1 : oerrs l (ferr e (oerr o)) = 0 := h
    obtain ⟨h2, h3⟩ := ih _ h1
    by_cases he : e = 0
    · subst he
      rw [ferr_start] at h2
      refine ⟨rfl, fun p hp => ?_⟩
      rcases List.mem_cons.1 hp with rfl | hp
      · exact h2
      · exact h3 p hp
    · rw [ferr_ne he] at h2; exact absurd h2 he
theorem rf_lay (xs : List Int) (p : Nat) (f : Bool) (rest : List Int) (h : xs.drop p = [fb f] ++ rest) : rf xs p = (f, p + 1, 0) := by
  have hl := len_of_drop h (by simp)
  have hx : xs[p]?.getD 0 = fb f := by
    have : (xs.drop p)[0]? = some (fb f) := by rw [h]; rfl
    rw [List.getElem?_drop] at this
    rw [show p = p + 0 from rfl, this]; rfl
  unfold rf
  simp only [List.length_singleton] at hl
  rw [if_neg (by omega), hx, if_neg (by unfold fb; split <;> omega)]
  cases f <;> simp [fb]
theorem rg_lay (xs : List Int) (p : Nat) (ds : List Int) (hd : ds.length = 32) (rest : List Int) (h : xs.drop p = ds ++ rest) : rg xs p = (ds, p + 32, 0) := by
  have hl := len_of_drop h (by omega)
  unfold rg
  rw [if_neg (by omega), h, ← hd, List.take_left]
theorem rr_lay (xs : List Int) (p : Nat) (key val : ByteArray) (ver : Int) (hw : wre key val ver = 0) (rest : List Int) (h : xs.drop p = rowB key val ver ++ rest) : rr xs p = ((sb key, sb val, ver), p + (rowB key val ver).length, 0) := by
  have hk : key.size ≠ 0 ∧ 1 ≤ ver ∧ key.size ≤ 1024 ∧ val.size ≤ 65536 ∧ ver ≤ 1152921504606846976 := by
    unfold wre at hw
    split at hw
    · omega
    · split at hw <;> omega
  obtain ⟨k1, k2, k3, k4, k5⟩ := hk
  have h1 : xs.drop p = (enc key.size ++ sb key) ++ ((enc val.size ++ sb val) ++ (enc ver.toNat ++ rest)) := by rw [h]; simp [rowB]
  have t1 := rt_lay xs p key 1024 (by omega) (by omega) _ h1
  have h2 := drop_len h1
  have t2 := rt_lay xs _ val 65536 (by omega) (by omega) _ h2
  have h3 := drop_len h2
  have t3 := ri_lay xs _ ver 1152921504606846976 (by omega) k5 (by omega) _ h3
  unfold rr
  simp only [t1, t2, t3]
  have hkn : sb key ≠ [] := fun e => k1 (by rw [← sb_length key, e]; rfl)
  rw [if_neg (by simp), if_neg (by simp), if_neg (by simp), if_neg (by intro q; rcases q with q | q; exact hkn q; omega)]
  simp [rowB, Nat.add_assoc]

/-! The other way round. -/
theorem rf_again {xs : List Int} (hx : Bytes xs) (p : Nat) (h : (rf xs p).2.2 = 0) : xs.take (rf xs p).2.1 = xs.take p ++ [fb (rf xs p).1] := by
  unfold rf at h ⊢
  by_cases h1 : xs.length ≤ p
  · rw [if_pos h1] at h; simp at h
  rw [if_neg h1] at h ⊢
  by_cases h2 : 1 < xs[p]?.getD 0
  · rw [if_pos h2] at h; simp at h
  rw [if_neg h2]
  have hb := hx p (by omega)
  simp only
  rw [List.take_succ_eq_append_getElem (by omega)]
  have hg : xs[p]?.getD 0 = xs[p] := by simp [List.getElem?_eq_getElem (show p < xs.length by omega)]
  rw [hg] at hb h2 ⊢
  have : xs[p] = 0 ∨ xs[p] = 1 := by omega
  rcases this with e | e <;> rw [e] <;> simp [fb]
theorem rr_again {xs : List Int} (hx : Bytes xs) (p : Nat) (h : (rr xs p).2.2 = 0) : xs.take (rr xs p).2.1 = xs.take p ++ rowB (strOfNums (rr xs p).1.1) (strOfNums (rr xs p).1.2.1) (rr xs p).1.2.2 ∧ wre (strOfNums (rr xs p).1.1) (strOfNums (rr xs p).1.2.1) (rr xs p).1.2.2 = 0 := by
  unfold rr at h ⊢
  by_cases h1 : (rt xs p 1024).2.2 ≠ 0
  · rw [if_pos h1] at h; exact absurd h h1
  rw [if_neg h1] at h ⊢
  by_cases h2 : (rt xs (rt xs p 1024).2.1 65536).2.2 ≠ 0
  · rw [if_pos h2] at h; exact absurd h h2
  rw [if_neg h2] at h ⊢
  by_cases h3 : (ri xs (rt xs (rt xs p 1024).2.1 65536).2.1 1152921504606846976).2.2 ≠ 0
  · rw [if_pos h3] at h; exact absurd h h3
  rw [if_neg h3] at h ⊢
  by_cases h4 : (rt xs p 1024).1 = [] ∨ (ri xs (rt xs (rt xs p 1024).2.1 65536).2.1 1152921504606846976).1 = 0
  · rw [if_pos h4] at h; simp at h
  rw [if_neg h4]
  obtain ⟨a1, a2, _⟩ := rt_again hx p 1024 (by simpa using h1)
  obtain ⟨b1, b2, _⟩ := rt_again hx (rt xs p 1024).2.1 65536 (by simpa using h2)
  obtain ⟨c1, c2, c3⟩ := ri_again hx (rt xs (rt xs p 1024).2.1 65536).2.1 1152921504606846976 (by simpa using h3)
  have B1 : Bytes (rt xs p 1024).1 := by
    unfold rt; split
    · intro i hi; simp at hi
    · split
      · intro i hi; simp at hi
      · exact bytes_take (bytes_drop hx _) _
  have B2 : Bytes (rt xs (rt xs p 1024).2.1 65536).1 := by
    generalize (rt xs p 1024).2.1 = q
    unfold rt; split
    · intro i hi; simp at hi
    · split
      · intro i hi; simp at hi
      · exact bytes_take (bytes_drop hx _) _
  have hne : ¬ (rt xs p 1024).1 = [] := fun e => h4 (.inl e)
  have hn0 : ¬ (ri xs (rt xs (rt xs p 1024).2.1 65536).2.1 1152921504606846976).1 = 0 := fun e => h4 (.inr e)
  simp only
  constructor
  · rw [c1, b1, a1]
    unfold rowB
    rw [size_strOfNums, size_strOfNums, sb_strOfNums _ B1, sb_strOfNums _ B2]
    simp
  · have hl : (rt xs p 1024).1.length ≠ 0 := fun e => hne (List.eq_nil_of_length_eq_zero e)
    unfold wre
    rw [size_strOfNums, size_strOfNums, if_neg (by omega), if_neg (by omega)]
end Go.Proofs.YteilmkibbdlnoabDoor
namespace Go.Proofs.YteilmkibbdlnoabDoor
open Go.RowKit
set_option linter.unusedVariables false

/-- The bytes are those of a state's numbers and rows. -/
def TSok (ys : List Int) (seq : Int) (X : List Rwi) : Prop := 0 ≤ seq ∧ seq ≤ 1152921504606846976 ∧ X.length ≤ 1048576 ∧ okTo X seq X.length = true ∧ ys = numB [seq, (X.length : Int)] ++ rowsB X X.length
theorem num2_eq (a b : Int) : numB [a, b] = enc a.toNat ++ enc b.toNat := by simp [numB]
def q1 (ys : List Int) : Int × Nat × Int := ri ys 0 1152921504606846976
def q2 (ys : List Int) : Int × Nat × Int := if (q1 ys).2.2 ≠ 0 then (0, (q1 ys).2.1, (q1 ys).2.2) else rc ys (q1 ys).2.1 1048576 4
theorem row_ge {r : Rwi} {ahead : ByteArray} {seq : Int} (h : fwI r ahead seq = true) : 4 ≤ r.bytes.length := by
  have hb := fw_bd h
  show 4 ≤ (rowB r.k r.v r.n).length
  unfold rowB
  simp only [List.length_append, sb_length]
  have h1 := enc_pos r.k.size
  have h2 := enc_pos r.v.size
  have h3 := enc_pos r.n.toNat
  omega
theorem rows_ge (X : List Rwi) (seq : Int) : ∀ k, okTo X seq k = true → 4 * k ≤ (rowsB X k).length
  | 0, _ => by simp
  | k + 1, h => by
    have h2 : (okTo X seq k && fwI (rAt X k) (ahd X k) seq) = true := h
    simp only [Bool.and_eq_true] at h2
    have h3 := rows_ge X seq k h2.1
    have h4 := row_ge h2.2
    show _ ≤ (rowsB X k ++ (rAt X k).bytes).length
    rw [List.length_append]
    omega
theorem rAt_app {X Y : List Rwi} {i : Nat} (h : i < X.length) : rAt (X ++ Y) i = rAt X i := by
  unfold rAt
  rw [List.getElem?_append_left h]
theorem rAt_last (X : List Rwi) (r : Rwi) : rAt (X ++ [r]) X.length = r := by
  unfold rAt
  simp
theorem rows_app {X Y : List Rwi} : ∀ k, k ≤ X.length → rowsB (X ++ Y) k = rowsB X k
  | 0, _ => rfl
  | k + 1, h => by
    show rowsB (X ++ Y) k ++ (rAt (X ++ Y) k).bytes = rowsB X k ++ (rAt X k).bytes
    rw [rows_app k (by omega), rAt_app (by omega)]
theorem ahd_app {X Y : List Rwi} : ∀ k, k ≤ X.length → ahd (X ++ Y) k = ahd X k
  | 0, _ => rfl
  | k + 1, h => by
    show (rAt (X ++ Y) k).k = (rAt X k).k
    rw [rAt_app (by omega)]
theorem ok_app {X Y : List Rwi} (seq : Int) : ∀ k, k ≤ X.length → okTo (X ++ Y) seq k = okTo X seq k
  | 0, _ => rfl
  | k + 1, h => by
    show (okTo (X ++ Y) seq k && fwI (rAt (X ++ Y) k) (ahd (X ++ Y) k) seq) = (okTo X seq k && fwI (rAt X k) (ahd X k) seq)
    rw [ok_app seq k (by omega), rAt_app (by omega), ahd_app k (by omega)]
theorem rows_snoc (X : List Rwi) (r : Rwi) : rowsB (X ++ [r]) (X.length + 1) = rowsB X X.length ++ r.bytes := by
  show rowsB (X ++ [r]) X.length ++ (rAt (X ++ [r]) X.length).bytes = _
  rw [rows_app _ (Nat.le_refl _), rAt_last]
theorem ok_snoc (X : List Rwi) (r : Rwi) (seq : Int) : okTo (X ++ [r]) seq (X.length + 1) = (okTo X seq X.length && fwI r (ahd X X.length) seq) := by
  show (okTo (X ++ [r]) seq X.length && fwI (rAt (X ++ [r]) X.length) (ahd (X ++ [r]) X.length) seq) = _
  rw [ok_app seq _ (Nat.le_refl _), rAt_last, ahd_app _ (Nat.le_refl _)]
theorem rows_split (X : List Rwi) {k : Nat} : ∀ n, k < n → ∃ rest, rowsB X n = rowsB X k ++ ((rAt X k).bytes ++ rest)
  | 0, h => by omega
  | n + 1, h => by
    rcases Nat.lt_or_ge k n with q | q
    · obtain ⟨rest, e⟩ := rows_split X n q
      exact ⟨rest ++ (rAt X n).bytes, by show rowsB X n ++ _ = _; rw [e]; simp only [List.append_assoc]⟩
    · obtain rfl : k = n := by omega
      exact ⟨[], by show rowsB X k ++ _ = _; rw [List.append_nil]⟩
theorem ts_head {ys : List Int} {seq : Int} {X : List Rwi} (h : TSok ys seq X) : q1 ys = (seq, (enc seq.toNat).length, 0) ∧ q2 ys = ((X.length : Int), (numB [seq, (X.length : Int)]).length, 0) := by
  obtain ⟨h0, h1, h2, h3, h4⟩ := h
  have e0 : ys.drop 0 = enc seq.toNat ++ (enc ((X.length : Int)).toNat ++ rowsB X X.length) := by rw [List.drop_zero, h4, num2_eq, List.append_assoc]
  have r1 : q1 ys = (seq, 0 + (enc seq.toNat).length, 0) := ri_lay ys 0 seq _ h0 h1 (by omega) _ e0
  rw [Nat.zero_add] at r1
  have e1 := drop_len e0
  rw [Nat.zero_add] at e1
  have r2 := ri_lay ys _ (X.length : Int) 1048576 (by omega) (by omega) (by omega) _ e1
  refine ⟨r1, ?_⟩
  have hg := rows_ge X seq _ h3
  have hl : ys.length = (enc seq.toNat).length + (enc ((X.length : Int)).toNat).length + (rowsB X X.length).length := by rw [h4, num2_eq]; simp only [List.length_append]
  unfold q2
  rw [r1, if_neg (by simp)]
  unfold rc
  rw [if_neg (by omega), r2]
  simp only
  rw [if_neg (by simp), if_neg (by rintro ⟨_, z⟩; omega), num2_eq, List.length_append]
theorem q2_ok {ys : List Int} (hx : Bytes ys) : (∃ e p, e ≠ 0 ∧ p ≤ ys.length ∧ q2 ys = (0, p, e)) ∨
    (∃ n p : Nat, q2 ys = ((n : Int), p, 0) ∧ n ≤ 1048576 ∧ p ≤ ys.length ∧ 0 ≤ (q1 ys).1 ∧ (q1 ys).1 ≤ 1152921504606846976 ∧ ys.take p = numB [(q1 ys).1, (n : Int)]) := by
  have hb1 := ri_bd hx 0 (Nat.zero_le _) 1152921504606846976
  have a1 := ri_again hx 0 1152921504606846976
  have hq : ri ys 0 1152921504606846976 = q1 ys := rfl
  rw [hq] at hb1 a1
  unfold q2
  clear hq
  generalize q1 ys = Q at hb1 a1 ⊢
  have hb2 := ri_bd hx Q.2.1 hb1.2.2.2.1 1048576
  have a2 := ri_again hx Q.2.1 1048576
  have hneg : ¬ ((1048576 : Int) < 0 ∨ (4 : Int) < 0) := by rintro (z | z) <;> exact absurd z (by decide)
  by_cases h1 : Q.2.2 ≠ 0
  · exact .inl ⟨_, _, h1, hb1.2.2.2.1, if_pos h1⟩
  have h1' : Q.2.2 = 0 := by simpa using h1
  have a1 := a1 h1'
  by_cases h2 : (ri ys Q.2.1 1048576).2.2 ≠ 0
  · exact .inl ⟨_, _, h2, hb1.2.2.2.1, (if_neg h1).trans ((if_neg hneg).trans (if_pos h2))⟩
  have h2' : (ri ys Q.2.1 1048576).2.2 = 0 := by simpa using h2
  have a2 := a2 h2'
  by_cases h3 : (0 : Int) < 4 ∧ ((ys.length - (ri ys Q.2.1 1048576).2.1 : Nat) : Int) / 4 < (ri ys Q.2.1 1048576).1
  · exact .inl ⟨30, Q.2.1, by decide, hb1.2.2.2.1, (if_neg h1).trans ((if_neg hneg).trans ((if_neg h2).trans (if_pos h3)))⟩
  · refine .inr ⟨(ri ys Q.2.1 1048576).1.toNat, (ri ys Q.2.1 1048576).2.1, ?_, by omega, hb2.2.2.2.1, a1.2.1, a1.2.2, ?_⟩
    · rw [Int.toNat_of_nonneg a2.2.1]
      exact (if_neg h1).trans ((if_neg hneg).trans ((if_neg h2).trans (if_neg h3)))
    · rw [Int.toNat_of_nonneg a2.2.1, a2.1, num2_eq, a1.1]
      simp
/-- How far the rows have been taken up. -/
structure LI (ys : List Int) (seq : Int) (n : Nat) (X : List Rwi) (p : Nat) : Prop where
  le : p ≤ ys.length
  pre : ys.take p = numB [seq, (n : Int)] ++ rowsB X X.length
  ok : okTo X seq X.length = true
  only : ∀ s Y, TSok ys s Y → s = seq ∧ Y.length = n ∧ Y.take X.length = X
theorem take_rows {Y X : List Rwi} (h : Y.take X.length = X) : rowsB Y X.length = rowsB X X.length ∧ ahd Y X.length = ahd X X.length := by
  have e : Y = X ++ Y.drop X.length := by conv => lhs; rw [← List.take_append_drop X.length Y, h]
  rw [e]
  exact ⟨rows_app _ (Nat.le_refl _), ahd_app _ (Nat.le_refl _)⟩
/-- The next row, if there is a state. -/
theorem LI.next {ys : List Int} {seq : Int} {n : Nat} {X : List Rwi} {p : Nat} (h : LI ys seq n X p) (hk : X.length < n) {s : Int} {Y : List Rwi} (ht : TSok ys s Y) :
    ∃ r : Rwi, rr ys p = ((sb r.k, sb r.v, r.n), p + r.bytes.length, 0) ∧ fwI r (ahd X X.length) seq = true ∧ Y.take (X.length + 1) = X ++ [r] := by
  obtain ⟨rfl, hn, ht2⟩ := h.only s Y ht
  obtain ⟨t0, t1, t2, t3, t4⟩ := ht
  obtain ⟨e1, e2⟩ := take_rows ht2
  have hfw := okTo_at t3 (show X.length < Y.length by omega)
  rw [e2] at hfw
  refine ⟨rAt Y X.length, ?_, hfw, ?_⟩
  · obtain ⟨rest, hs⟩ := rows_split Y Y.length (show X.length < Y.length by omega)
    have hp : p = (numB [s, (n : Int)] ++ rowsB X X.length).length := by
      rw [← h.pre, List.length_take]
      have := h.le
      omega
    have hd : ys.drop p = rowB (rAt Y X.length).k (rAt Y X.length).v (rAt Y X.length).n ++ rest := by
      rw [t4, hs, hn, e1, ← List.append_assoc, hp, List.drop_left]
      rfl
    exact rr_lay ys p _ _ _ (fw_wre hfw) rest hd
  · rw [List.take_add_one, ht2]
    have : Y[X.length]? = some (rAt Y X.length) := by unfold rAt; rw [List.getElem?_eq_getElem (by omega)]; rfl
    rw [this]
    rfl
/-- One row further. -/
theorem LI.step {ys : List Int} (hx : Bytes ys) {seq : Int} {n : Nat} {X : List Rwi} {p : Nat} (h : LI ys seq n X p) (hk : X.length < n) (he : (rr ys p).2.2 = 0)
    (hf : fwI ⟨strOfNums (rr ys p).1.1, strOfNums (rr ys p).1.2.1, (rr ys p).1.2.2⟩ (ahd X X.length) seq = true) (hle : (rr ys p).2.1 ≤ ys.length) :
    LI ys seq n (X ++ [⟨strOfNums (rr ys p).1.1, strOfNums (rr ys p).1.2.1, (rr ys p).1.2.2⟩]) (rr ys p).2.1 := by
  have ha := rr_again hx p he
  refine ⟨hle, ?_, ?_, fun s Y ht => ?_⟩
  · rw [ha.1, h.pre, List.length_append, List.length_singleton, rows_snoc, List.append_assoc]
    rfl
  · rw [List.length_append, List.length_singleton, ok_snoc, h.ok, hf]
    rfl
  · obtain ⟨r, h1, h2, h3⟩ := h.next hk ht
    obtain ⟨k1, k2, _⟩ := h.only s Y ht
    refine ⟨k1, k2, ?_⟩
    rw [List.length_append, List.length_singleton, h3, h1]
    simp only [strOfNums_sb]
/-- No state, where the next row is none, or may not stand there. -/
theorem LI.none {ys : List Int} {seq : Int} {n : Nat} {X : List Rwi} {p : Nat} (h : LI ys seq n X p) (hk : X.length < n)
    (hb : (rr ys p).2.2 ≠ 0 ∨ fwI ⟨strOfNums (rr ys p).1.1, strOfNums (rr ys p).1.2.1, (rr ys p).1.2.2⟩ (ahd X X.length) seq = false) : ∀ s Y, ¬ TSok ys s Y := by
  intro s Y ht
  obtain ⟨r, h1, h2, h3⟩ := h.next hk ht
  rw [h1] at hb
  rcases hb with z | z
  · exact z rfl
  · simp only [strOfNums_sb] at z
    rw [show (⟨r.k, r.v, r.n⟩ : Rwi) = r from rfl, h2] at z
    cases z
/-- At the end of the rows. -/
theorem LI.fin {ys : List Int} {seq : Int} {n : Nat} {X : List Rwi} {p : Nat} (h : LI ys seq n X p) (hk : X.length = n) (hs0 : 0 ≤ seq) (hs1 : seq ≤ 1152921504606846976) (hn : n ≤ 1048576) :
    (ys.length ≤ p → TSok ys seq X) ∧ (p < ys.length → ∀ s Y, ¬ TSok ys s Y) := by
  constructor
  · intro hp
    refine ⟨hs0, hs1, by omega, h.ok, ?_⟩
    have := h.pre
    rw [List.take_of_length_le hp, ← hk] at this
    exact this
  · intro hp s Y ht
    obtain ⟨rfl, hn2, ht2⟩ := h.only s Y ht
    have hYX : Y = X := by rw [← ht2, hk, ← hn2, List.take_length]
    subst hYX
    have hl := congrArg List.length h.pre
    rw [List.length_take, ht.2.2.2.2] at hl
    rw [ht.2.2.2.2] at hp
    rw [hk] at hl hp
    omega
end Go.Proofs.YteilmkibbdlnoabDoor
namespace Go.Proofs.YteilmkibbdlnoabDoor
open Go.RowKit
set_option linter.unusedVariables false

theorem mine_none (w : World) : Mine (w.alloc (.cells #[] 5)) w.heap.size w.heap.size 0 0 [] :=
  ⟨rfl, Nat.le_refl _, Nat.zero_le _, Nat.le_refl _, by simp, fun i hi => by omega, fun i hi => by omega, fun i hi => by omega⟩

set_option maxRecDepth 20000 in
theorem clone_c (a : Option Addr) (len cap : Nat) (xs : List Int) (w : World) (h : Seg .u8 w a len xs) (hl : len ≤ 140737488355328) (hnz : a = none → cap = 0) :
    Calls Tryd.prog 48 #[.slice a len cap] w fun r w' => ∃ a' cap', r = .returned (.slice a' len cap') ∧ Seg .u8 w' a' len xs ∧ len ≤ cap' ∧ cap' ≤ 9223372036854775807 ∧ (a' = none → cap' = 0) ∧
      (∀ b o s, a' = some ⟨b, o, s⟩ → w.heap.size ≤ b ∧ b < w'.heap.size) ∧ w.grownBy w' none := by
  obtain ⟨i0, hi, hz0, hz1, hz2⟩ := info_parts Tryd.infoU8
  cases a with
  | none =>
    have hm0 : len = 0 := by
      rcases h.2 with h0 | ⟨_, _, h, _⟩
      · exact h0
      · cases h
    subst hm0
    obtain rfl := hnz rfl
    have HS : Hid (Seg .u8 w none 0 xs) := h
    have hq := fun w => Lib.run_eql_slice_nil (P := Tryd.prog) w 22 5 none 0 0 0 0 Tryd.underlying22
    simp only [Option.isNone] at hq
    clear h hi hz0 hz1 hz2 i0
    go_enter Tryd.func48, Tryd.ntmps48
    go_wp2
    go_ret
    exact ⟨none, 0, rfl, HS.out, by omega, fun _ => rfl, (fun _ _ _ h => by cases h), World.grownBy.refl _ _⟩
  | some ad =>
    have HS : Hid (Seg .u8 w (some ad) len xs) := h
    have hq := fun w => Lib.run_eql_slice_nil (P := Tryd.prog) w 22 5 (some ad) len cap 0 0 Tryd.underlying22
    simp only [Option.isNone] at hq
    clear h
    go_enter Tryd.func48, Tryd.ntmps48
    go_wp2_with (at_builtin; go_must (refine wpList_append_mine _ rfl (.tmp 5) (.tmp 6) 22 rfl 5 i0 Tryd.underlying22 hi hz0 hz1 hz2 w.heap.size w.heap.size 0 0 [] rfl (mine_none w) (some ad) len cap xs rfl (fun h => by cases h) (HS.out.below ((Below.refl _ _).alloc (Nat.le_refl _) _)) (by omega) ?_); intro b' cap' w1 hm hb)
    rw [Nat.zero_add, List.nil_append] at hm
    have HM : Hid (Mine w1 w.heap.size b' len cap' xs) := hm
    have HB : Hid (Below w.heap.size _ w1) := hb
    clear hm hb
    go_ret
    have hm := HM.out
    exact ⟨_, cap', rfl, hm.seg, hm.le, by have := hm.max; unfold maxLen at this; omega, (fun h => by cases h), (fun b o s h => by cases h; exact ⟨hm.lo, hm.lt⟩), grownBy_below (((Below.refl _ _).alloc (Nat.le_refl _) _).trans HB.out) _⟩

set_option maxRecDepth 20000 in
theorem new_c (a : Option Addr) (len cap : Nat) (xs : List Int) (w : World) (h : Seg .u8 w a len xs) (hx : Bytes xs) (hl : len ≤ 140737488355328) (hnz : a = none → cap = 0) :
    Calls Tryd.prog 23 #[.slice a len cap] w fun r w' => ∃ g a' cap', r = .returned (.pointer (some ⟨g, 0, none⟩)) ∧ RS w' g a' len cap' xs 0 0 ∧ w.heap.size ≤ g ∧ (∀ b o s, a' = some ⟨b, o, s⟩ → w.heap.size ≤ b) ∧ w.grownBy w' none := by
  go_enter Tryd.func23, Tryd.ntmps23
  go_wp2_with fail
  refine (clone_c a len cap xs w h hl hnz).mono ?_
  rintro r w1 ⟨a1, cap1, rfl, hs, h1, h2, h3, h4, h5⟩
  have HS : Hid (Seg .u8 w1 a1 len xs) := hs
  have H4 : Hid (∀ b o s, a1 = some ⟨b, o, s⟩ → w.heap.size ≤ b ∧ b < w1.heap.size) := h4
  have H5 : Hid (w.grownBy w1 none) := h5
  have HX : Hid (Bytes xs) := hx
  have H3 : Hid (a1 = none → cap1 = 0) := h3
  clear hs h4 h5 h hx h3 hnz
  go_wp2_with fail
  refine (over_c a1 len cap1 w1).mono ?_
  rintro r w2 ⟨rfl, hr, hg⟩
  have HR : Hid (Rdr w2 w1.heap.size 0 (.slice a1 len cap1) 0) := hr
  have HG : Hid (w1.grownBy w2 none) := hg
  clear hr hg
  go_wp2
  go_ret
  exact ⟨_, a1, cap1, rfl, ⟨HR.out, HS.out.grew HG.out (by simp), HX.out, (fun b o s h => by have := H4.out b o s h; omega), Nat.zero_le _, h1, hl, h2, H3.out⟩, H5.out.size, fun b o s h => (H4.out b o s h).1, gb_trans H5.out HG.out⟩

set_option maxRecDepth 20000 in
theorem new_c2 (a : Option Addr) (len cap : Nat) (xs : List Int) (w : World) (h : Seg .u8 w a len xs) (hx : Bytes xs) (hl : len ≤ 140737488355328) (hnz : a = none → cap = 0) :
    Calls Tryd.prog 23 #[.slice a len cap] w fun r w' => ∃ g a' cap', r = .returned (.pointer (some ⟨g, 0, none⟩)) ∧ RS w' g a' len cap' xs 0 0 ∧ w.heap.size ≤ g ∧ (∀ b o s, a' = some ⟨b, o, s⟩ → w.heap.size ≤ b ∧ b < w'.heap.size) ∧ w.grownBy w' none := by
  go_enter Tryd.func23, Tryd.ntmps23
  go_wp2_with fail
  refine (clone_c a len cap xs w h hl hnz).mono ?_
  rintro r w1 ⟨a1, cap1, rfl, hs, h1, h2, h3, h4, h5⟩
  have HS : Hid (Seg .u8 w1 a1 len xs) := hs
  have H4 : Hid (∀ b o s, a1 = some ⟨b, o, s⟩ → w.heap.size ≤ b ∧ b < w1.heap.size) := h4
  have H5 : Hid (w.grownBy w1 none) := h5
  have HX : Hid (Bytes xs) := hx
  have H3 : Hid (a1 = none → cap1 = 0) := h3
  clear hs h4 h5 h hx h3 hnz
  go_wp2_with fail
  refine (over_c a1 len cap1 w1).mono ?_
  rintro r w2 ⟨rfl, hr, hg⟩
  have HR : Hid (Rdr w2 w1.heap.size 0 (.slice a1 len cap1) 0) := hr
  have HG : Hid (w1.grownBy w2 none) := hg
  clear hr hg
  go_wp2
  go_ret
  exact ⟨_, a1, cap1, rfl, ⟨HR.out, HS.out.grew HG.out (by simp), HX.out, (fun b o s h => by have := H4.out b o s h; omega), Nat.zero_le _, h1, hl, h2, H3.out⟩, H5.out.size, (fun b o s h => ⟨(H4.out b o s h).1, Nat.lt_of_lt_of_le (H4.out b o s h).2 HG.out.size⟩), gb_trans H5.out HG.out⟩
end Go.Proofs.YteilmkibbdlnoabDoor
namespace Go.Proofs.YteilmkibbdlnoabDoor
open Go.RowKit
set_option linter.unusedVariables false

/-- A block of rows that are laid one after the other. -/
def RB (w : World) (b n : Nat) (X : List Rwi) : Prop := b < w.heap.size ∧ w.there b 0 (n * 3) ∧ ∀ i, i < X.length → w.rangeAt b (i * 3) (rAt X i).cells
theorem RB.grew {w w' : World} {b n : Nat} {X : List Rwi} {row : Option Nat} (h : RB w b n X) (hg : w.grownBy w' row) (hn : row ≠ some b) : RB w' b n X := by
  have hb : w'.heap[b]? = w.heap[b]? := hg.block b h.1 hn.symm
  have hc : ∀ o, w'.cell? ⟨b, o, none⟩ = w.cell? ⟨b, o, none⟩ := fun o => by simp only [World.cell?, hb]
  have hf : ∀ o, w'.frozen? ⟨b, o, none⟩ = w.frozen? ⟨b, o, none⟩ := fun o => by simp only [World.frozen?, hb]
  refine ⟨Nat.lt_of_lt_of_le h.1 hg.size, fun j hj => ?_, fun i hi j v hv => ?_⟩
  · rw [hc, hf]; exact h.2.1 j hj
  · rw [hc]; exact h.2.2 i hi j v hv
theorem gb_setCells (b : Nat) : ∀ (vs : List Value) (o : Nat) (w : World), w.grownBy (w.setCells b o vs) (some b)
  | [], _, w => World.grownBy.refl _ _
  | v :: r, o, w => gb_trans (grownBy_cell w b o v) (gb_setCells b r (o + 1) _)
theorem RB.room {w : World} {b n : Nat} {X : List Rwi} (h : RB w b n X) {k : Nat} (hk : k < n) : w.there b (k * 3) 3 := fun j hj => by
  have := h.2.1 (k * 3 + j) (by omega)
  rwa [Nat.zero_add] at this
theorem RB.set {w : World} {b n : Nat} {X : List Rwi} (h : RB w b n X) (hk : X.length < n) (r : Rwi) : RB (w.setCells b (X.length * 3) r.cells) b n (X ++ [r]) := by
  have ht : w.there b (X.length * 3) r.cells.length := h.room hk
  refine ⟨Nat.lt_of_lt_of_le h.1 (gb_setCells b _ _ w).size, World.there_setCells h.2.1 _ _ _, fun i hi => ?_⟩
  rw [List.length_append, List.length_singleton] at hi
  by_cases hiX : i < X.length
  · rw [rAt_app hiX]
    exact World.rangeAt_setCells_apart (h.2.2 i hiX) _ _ _ (.inr (.inl (by show i * 3 + 3 ≤ _; omega)))
  · obtain rfl : i = X.length := by omega
    rw [rAt_last]
    exact World.rangeAt_setCells_same _ _ _ _ ht
theorem RB.rows {w : World} {b n : Nat} {X : List Rwi} (h : RB w b n X) (hk : X.length = n) : Rws w (some ⟨b, 0, none⟩) n X :=
  ⟨hk, .inr ⟨b, 0, rfl, h.1, fun i hi => by rw [Nat.zero_add]; exact h.2.2 i (by omega)⟩⟩
theorem RB.made {w : World} {base b n : Nat} {T : TypeId} {xs : List Value} (h : w.ownsRow base T 3 (.slice (some ⟨b, 0, none⟩) n n) n xs) : RB w b n [] ∧ base ≤ b := by
  rcases h.2 with ⟨z, _⟩ | ⟨g, cap, cur, e, hb, hc, h1, h2, h3, h4⟩
  · cases z
  · cases e
    refine ⟨⟨lt_of_block hc, fun j hj => ?_, fun i hi => by simp at hi⟩, hb⟩
    rw [Nat.zero_add]
    refine ⟨?_, frozen_of_row w b j _ _ hc⟩
    rw [cell_of_row w b j _ _ _ hc, Array.getElem?_eq_getElem (by omega)]
    rfl
theorem imust_so (w : World) : Calls Tryd.prog 44 #[.bool true] w fun r w' => r = .returned (.tuple #[]) ∧ w' = w := by
  go_enter Tryd.func44, Tryd.ntmps44
  go_wp2
  go_end0
  exact ⟨rfl, rfl⟩
/-- A panic with an error. -/
def chnI : List PanicEntry := [{ v := .iface 26 (.int .i64 92), recovered := false }]
theorem imust_no (w : World) : Calls Tryd.prog 44 #[.bool false] w fun r w' => r = .panicked chnI ∧ w' = w := by
  go_enter Tryd.func44, Tryd.ntmps44
  go_wp2
  exact ⟨rfl, rfl, rfl⟩
theorem rr_bad {xs : List Int} {p : Nat} (h : (rr xs p).2.2 ≠ 0) : (rr xs p).1 = ([], [], 0) := by
  unfold rr at h ⊢
  split <;> rename_i h1
  · rfl
  · rw [if_neg h1] at h
    split <;> rename_i h2
    · rfl
    · rw [if_neg h2] at h
      split <;> rename_i h3
      · rfl
      · rw [if_neg h3] at h
        split <;> rename_i h4
        · rfl
        · rw [if_neg h4] at h
          exact absurd rfl h
theorem fw_none (ahead : ByteArray) (seq : Int) : fwI ⟨strOfNums [], strOfNums [], 0⟩ ahead seq = false := by
  have h : (Tb.rowE (strOfNums [], strOfNums [], 0) == 0) = false := by decide +kernel
  show ((Tb.rowE (strOfNums [], strOfNums [], 0) == 0) && gtI (strOfNums []) ahead && decide ((0 : Int) ≤ seq)) = false
  rw [h]
  simp
theorem infoR3 : (Tryd.prog.info? 69).map (fun i => (i.zero, i.size, i.bytes)) = some (some (.agg #[.string { data := #[] }, .string { data := #[] }, .int .i64 0]), 3, 40) := by kernel_rfl
theorem LI.start {ys : List Int} {n p : Nat} (hq : q2 ys = ((n : Int), p, 0)) (hp : p ≤ ys.length) (ht : ys.take p = numB [(q1 ys).1, (n : Int)]) : LI ys (q1 ys).1 n [] p := by
  refine ⟨hp, by rw [ht]; simp [rowsB], rfl, fun s Y h => ?_⟩
  obtain ⟨h1, h2⟩ := ts_head h
  rw [h2] at hq
  rw [h1]
  simp only [Prod.mk.injEq] at hq
  exact ⟨rfl, by omega, by simp⟩
/-- The variable of the answer, still as it was made. -/
structure SB (w : World) (g : Nat) (W : World) : Prop where
  gb : w.grownBy W (some g)
  blk : Bk 25 W w.heap.size #[.int .i64 0, .slice none 0 0]
  lt : g < w.heap.size
theorem SB.more {w W W' : World} {g : Nat} (h : SB w g W) (k : W.grownBy W' (some g)) : SB w g W' :=
  ⟨gb_trans h.gb k, h.blk.grew k (fun z => by have := Option.some.inj z; have := h.lt; omega), h.lt⟩
theorem SB.new {w W W' : World} {g : Nat} (h : SB w g W) (k : W.grownBy W' none) : SB w g W' := h.more (gb_wide k _)
/-- A block that is younger is written. -/
theorem SB.other {w W W' : World} {g b : Nat} (h : SB w g W) (k : W.grownBy W' (some b)) (hb : w.heap.size < b) : SB w g W' :=
  ⟨⟨k.os.trans h.gb.os, k.tape.trans h.gb.tape, k.output.trans h.gb.output, Nat.le_trans h.gb.size k.size, fun i hi hn => (k.block i (Nat.lt_of_lt_of_le hi h.gb.size) (fun e => by cases e; omega)).trans (h.gb.block i hi hn)⟩, h.blk.grew k (fun z => by have := Option.some.inj z; omega), h.lt⟩
theorem gb_above {w W W' : World} {row : Option Nat} {b : Nat} (h : w.grownBy W row) (k : W.grownBy W' (some b)) (hb : w.heap.size ≤ b) : w.grownBy W' row :=
  ⟨k.os.trans h.os, k.tape.trans h.tape, k.output.trans h.output, Nat.le_trans h.size k.size, fun i hi hn => (k.block i (Nat.lt_of_lt_of_le hi h.size) (fun e => by cases e; omega)).trans (h.block i hi hn)⟩
theorem infoSt : (Tryd.prog.info? 25).map (·.size) = some 2 := by kernel_rfl
theorem rend_ok {len : Nat} {e : Int} {p : Nat} (h : (rend len e p == 0) = true) : e = 0 ∧ len ≤ p := by
  unfold rend at h
  by_cases he : e = 0
  · rw [if_pos he] at h
    split at h
    · simp at h
    · exact ⟨he, by omega⟩
  · rw [if_neg he] at h
    exact absurd (by simpa using h) he
theorem rend_no {len : Nat} {e : Int} {p : Nat} (h : (rend len e p == 0) = false) : e ≠ 0 ∨ p < len := by
  unfold rend at h
  by_cases he : e = 0
  · rw [if_pos he] at h
    split at h
    · right; assumption
    · simp at h
  · exact .inl he
/-- What takeState comes to. -/
def TSA (ys : List Int) (g : Nat) (w : World) (r : Ending) (w' : World) : Prop :=
  ((∃ b n seq X, r = .returned (.agg #[.int .i64 seq, .slice (some ⟨b, 0, none⟩) n n]) ∧ TSok ys seq X ∧ Rws w' (some ⟨b, 0, none⟩) n X ∧ w.heap.size ≤ b) ∨ ((∀ s Y, ¬ TSok ys s Y) ∧ r = .panicked chnI)) ∧ w.grownBy w' (some g)
set_option maxRecDepth 20000 in
set_option maxHeartbeats 4000000 in
theorem ts_c (g : Nat) (a : Option Addr) (len cap : Nat) (ys : List Int) (w : World) (h : RS w g a len cap ys 0 0) (hoff : ∀ b o s, a = some ⟨b, o, s⟩ → b < w.heap.size) :
    Calls Tryd.prog 22 #[.pointer (some ⟨g, 0, none⟩)] w fun r w' => TSA ys g w r w' := by
  have hx : Bytes ys := h.bytes
  have hlen : ys.length = len := h.seg.1
  have hgl : g < w.heap.size := lt_of_block h.rdr
  obtain ⟨S, hS⟩ : ∃ S, S = (q1 ys).1 := ⟨_, rfl⟩
  obtain ⟨n, P, E, hq, hn, hP, hE, hLI, hNO⟩ : ∃ (n P : Nat) (E : Int), q2 ys = ((n : Int), P, E) ∧ n ≤ 1048576 ∧ P ≤ len ∧ (E ≠ 0 → n = 0) ∧ (E = 0 → LI ys S n [] P ∧ 0 ≤ S ∧ S ≤ 1152921504606846976) ∧ (E ≠ 0 → ∀ s Y, ¬ TSok ys s Y) := by
    rcases q2_ok hx with ⟨e, p, h1, h2, h3⟩ | ⟨n, p, h1, h2, h3, h4, h5, h6⟩
    · exact ⟨0, p, e, h3, by omega, by omega, fun _ => rfl, fun z => absurd z h1, fun _ s Y ht => by
        have := (ts_head ht).2
        rw [h3] at this
        simp only [Prod.mk.injEq] at this
        exact h1 this.2.2⟩
    · exact ⟨n, p, 0, h1, h2, by omega, fun z => absurd rfl z, fun _ => by rw [hS]; exact ⟨LI.start h1 h3 h6, h4, h5⟩, fun z => absurd rfl z⟩
  have hb0 := blk_new w 25 #[.int .i64 0, .slice none 0 0]
  have HI : Hid (Calls Tryd.prog 41 #[.pointer (some ⟨g, 0, none⟩), .int .i64 1152921504606846976] (w.alloc (.cells #[.int .i64 0, .slice none 0 0] 25)) fun r w' => r = .returned (.int .i64 S) ∧ RS w' g a len cap ys (q1 ys).2.2 (q1 ys).2.1 ∧ SB w g w') := by
    rw [hS]
    refine (int_ok g a len cap ys 0 1152921504606846976 _ (h.new hb0.2) (by omega)).mono ?_
    rintro r w' ⟨k1, k2, k3⟩
    exact ⟨k1, k2, SB.more ⟨gb_wide hb0.2 _, hb0.1, hgl⟩ k3⟩
  have HC : Hid (∀ W, RS W g a len cap ys (q1 ys).2.2 (q1 ys).2.1 → Calls Tryd.prog 42 #[.pointer (some ⟨g, 0, none⟩), .int .i64 1048576, .int .i64 4] W fun r w' => r = .returned (.int .i64 (n : Int)) ∧ RS w' g a len cap ys E P ∧ W.grownBy w' (some g)) := fun W hr => by
    by_cases h1 : (q1 ys).2.2 = 0
    · have hq' : rc ys (q1 ys).2.1 1048576 4 = ((n : Int), P, E) := by rw [← hq]; unfold q2; rw [if_neg (by rw [h1]; simp)]
      rw [h1] at hr
      have k := count_ok g a len cap ys (q1 ys).2.1 1048576 4 W hr (by omega) (by omega)
      rw [hq'] at k
      exact k
    · have hq' : ((0 : Int), (q1 ys).2.1, (q1 ys).2.2) = ((n : Int), P, E) := by rw [← hq]; unfold q2; rw [if_pos h1]
      simp only [Prod.mk.injEq] at hq'
      refine (count_no g _ _ _ 1048576 4 W hr.rdr (by simpa using h1)).mono ?_
      rintro r w' ⟨k1, rfl⟩
      rw [← hq'.1, ← hq'.2.1, ← hq'.2.2]
      exact ⟨k1, hr, World.grownBy.refl _ _⟩
  have HQ : Hid (P ≤ len ∧ (E ≠ 0 → n = 0) ∧ (E = 0 → LI ys S n [] P ∧ 0 ≤ S ∧ S ≤ 1152921504606846976) ∧ (E ≠ 0 → ∀ s Y, ¬ TSok ys s Y) ∧ ys.length = len ∧ Bytes ys) := ⟨hP, hE, hLI, hNO, hlen, hx⟩
  have HOF : Hid (g < w.heap.size ∧ ∀ b o s, a = some ⟨b, o, s⟩ → b < w.heap.size) := ⟨hgl, hoff⟩
  obtain ⟨i0, hi0, hz0, hs0, hy0⟩ := info_parts infoR3
  clear h hq hP hE hLI hNO hS hx hlen hgl hoff hb0
  go_enter Tryd.func22, Tryd.ntmps22
  go_wp2_with (first
    | (go_at_call 41; go_must (refine (Calls.mono HI.out ?_)); rintro r w1 ⟨rfl, h1, h2⟩; have H1 : Hid (RS w1 g a len cap ys (q1 ys).2.2 (q1 ys).2.1 ∧ SB w g w1) := ⟨h1, h2⟩; clear h1 h2)
    | (go_at_call 42; go_must (refine (Calls.mono (HC.out _ H1.out.1) ?_)); rintro r w2 ⟨rfl, h1, h2⟩; have H2 : Hid (RS w2 g a len cap ys E P ∧ SB w g w2) := ⟨h1, H1.out.2.more h2⟩; clear h1 h2)
    | (at_make; go_must (refine wpList_make_full _ rfl _ _ 23 rfl w2.heap.size 69 i0 (.agg #[.string { data := #[] }, .string { data := #[] }, .int .i64 0]) 3 Tryd.underlying23 hi0 hz0 hs0 _ _ _ _ n rfl rfl rfl rfl (by rw [hy0]; omega) (by unfold maxLen; omega) (Nat.le_refl _) ?_); intro w3 hown hgrow; have H3 : Hid (RS w3 g a len cap ys E P ∧ SB w g w3 ∧ RB w3 w2.heap.size n [] ∧ w.heap.size < w2.heap.size) := ⟨H2.out.1.new hgrow, H2.out.2.new hgrow, (RB.made hown).1, lt_of_block H2.out.2.blk⟩; clear hown hgrow))
  obtain ⟨B, hB⟩ : ∃ B, B = w2.heap.size := ⟨_, rfl⟩
  rw [← hB] at H3 ⊢
  have HBW : Hid (w.heap.size < B) := H3.out.2.2.2
  have hone : ∀ (k v : ByteArray) (n : Int), (#[Value.string k, .string v, .int .i64 n]).all (·.oneCell') = true := fun k v n => by simp [Value.oneCell']
  clear HI HC H1 H2 hB hi0 hz0 hs0 hy0
  go_loopw [5, 14] (fun s i wr => ∃ (k : Nat) (X : List Rwi) (p : Nat) (A : ByteArray), k ≤ n ∧ s = .string A ∧ i = .int .i64 (k : Int) ∧ Hid (X.length = k ∧ A = ahd X k ∧ RB wr B n X ∧ RS wr g a len cap ys E p ∧ (E = 0 → LI ys S n X p) ∧ SB w g wr)) (fun _ i _ => n - (intOf i).toNat)
  case atStart => exact ⟨0, [], P, _, Nat.zero_le _, rfl, rfl, rfl, rfl, H3.out.2.2.1, H3.out.1, fun z => (HQ.out.2.2.1 z).1, H3.out.2.1⟩
  case round =>
    obtain ⟨k, X, p, A, hk, rfl, rfl, hr⟩ := hrel
    clear H3
    by_cases hlt : k < n
    · have hi1 : (k : Int) < n := by omega
      have hE0 : E = 0 := by
        rcases Classical.em (E = 0) with z | z
        · exact z
        · have := HQ.out.2.1 z; omega
      subst hE0
      obtain ⟨hXk, hA, hRB, hRS, hLI, hSB⟩ := hr.out
      have hLI := hLI rfl
      obtain ⟨kk, hkk⟩ : ∃ s, s = strOfNums (rr ys p).1.1 := ⟨_, rfl⟩
      obtain ⟨vv, hvv⟩ : ∃ s, s = strOfNums (rr ys p).1.2.1 := ⟨_, rfl⟩
      obtain ⟨nn, hnn⟩ : ∃ s, s = (rr ys p).1.2.2 := ⟨_, rfl⟩
      obtain ⟨e', he'⟩ : ∃ s, s = (rr ys p).2.2 := ⟨_, rfl⟩
      obtain ⟨p', hp'⟩ : ∃ s, s = (rr ys p).2.1 := ⟨_, rfl⟩
      have HR : Hid (Calls Tryd.prog 43 #[.pointer (some ⟨g, 0, none⟩)] wr fun r w' => r = .returned (.agg #[.string kk, .string vv, .int .i64 nn]) ∧ RS w' g a len cap ys e' p' ∧ wr.grownBy w' (some g)) := by
        rw [hkk, hvv, hnn, he', hp']
        exact row_ok g a len cap ys p wr hRS
      have HST : Hid (∀ W, wr.grownBy W (some g) → RS W g a len cap ys e' p' → W.there B (k * 3) 3 ∧ RB (W.setCells B (k * 3) [.string kk, .string vv, .int .i64 nn]) B n (X ++ [⟨kk, vv, nn⟩]) ∧ RS (W.setCells B (k * 3) [.string kk, .string vv, .int .i64 nn]) g a len cap ys e' p' ∧ SB w g (W.setCells B (k * 3) [.string kk, .string vv, .int .i64 nn])) := fun W hg hs => by
        have h1 : RB W B n X := hRB.grew hg (fun z => by have := Option.some.inj z; have := HOF.out.1; have := HBW.out; omega)
        have h2 := gb_setCells B [.string kk, .string vv, .int .i64 nn] (k * 3) W
        refine ⟨h1.room hlt, ?_, hs.other h2 (fun z => by have := Option.some.inj z; have := HOF.out.1; have := HBW.out; omega) (fun q hq => by cases hq; intro b o s ha; have := HOF.out.2 b o s ha; have := HBW.out; omega), (hSB.more hg).other h2 HBW.out⟩
        have h3 := h1.set (by omega) ⟨kk, vv, nn⟩
        rw [hXk] at h3
        exact h3
      have hrb : ∀ W, RB W B n (X ++ [⟨kk, vv, nn⟩]) → W.rangeAt B (k * 3) [.string kk, .string vv, .int .i64 nn] := fun W hw => by
        have := hw.2.2 k (by rw [List.length_append, List.length_singleton]; omega)
        rw [← hXk, rAt_last, hXk] at this
        exact this
      have HRG : Hid (∀ W, RB W B n (X ++ [⟨kk, vv, nn⟩]) → W.rangeAt B (k * 3) [.string kk, .string vv, .int .i64 nn]) := hrb
      obtain ⟨G, hG⟩ : ∃ G, G = fwI ⟨kk, vv, nn⟩ A S := ⟨_, rfl⟩
      have HF : Hid (∀ W, Calls Tryd.prog 45 #[.agg #[.string kk, .string vv, .int .i64 nn], .string A, .int .i64 S] W fun r w' => r = .returned (.bool G) ∧ W.grownBy w' none) := fun W => by rw [hG]; exact follows_c kk vv nn A S W
      have hGX : G = fwI ⟨strOfNums (rr ys p).1.1, strOfNums (rr ys p).1.2.1, (rr ys p).1.2.2⟩ (ahd X X.length) S := by rw [hG, hkk, hvv, hnn, hA, hXk]
      cases G with
      | false =>
        have HNO : Hid (∀ s Y, ¬ TSok ys s Y) := hLI.none (by omega) (.inr hGX.symm)
        clear hGX hG hrb hkk hvv hnn he' hp' hXk hA hRB hRS hLI hSB
        go_wp2_with (first
          | (go_at_call 43; go_must (refine (Calls.mono HR.out ?_)); rintro r x1 ⟨rfl, h1, h2⟩; have A1 : Hid (_ ∧ _ ∧ _ ∧ _) := HST.out x1 h2 h1; clear h1 h2)
          | ((fail_if_success (have z := A2)); have z := A1; clear z; refine wpList_store_mid rfl 69 (.tmp 21) (.tmp 20) rfl B (k * 3) #[.string kk, .string vv, .int .i64 nn] (by first | rfl | simp) (by first | rfl | simp) A1.out.1 (by kernel_rfl) (hone _ _ _) ?_; generalize hx2 : World.setCells x1 _ _ _ = x2; have A2 : Hid (RB x2 B n (X ++ [⟨kk, vv, nn⟩]) ∧ RS x2 g a len cap ys e' p' ∧ SB w g x2) := by rw [← hx2]; exact A1.out.2
             clear hx2)
          | (have z := A2; clear z; refine wpList_load_mid rfl 69 (.tmp 24) rfl B (k * 3) (by first | rfl | simp) [.string kk, .string vv, .int .i64 nn] _ (HRG.out _ A2.out.1) Tryd.underlying69 rfl (by kernel_rfl) ?_)
          | (go_at_call 45; go_must (refine (Calls.mono (HF.out _) ?_)); rintro r x3 ⟨rfl, h3⟩; have A3 : Hid (SB w g x3) := A2.out.2.2.new h3; clear h3)
          | (go_at_call 44; go_must (refine (Calls.mono (imust_no _) ?_)); rintro r x4 ⟨rfl, hx⟩; obtain rfl := hx.symm))
        exact ⟨rfl, .inr ⟨HNO.out, rfl⟩, A3.out.gb⟩
      | true =>
        have he0 : e' = 0 := by
          rcases Classical.em (e' = 0) with z | z
          · exact z
          · rw [he'] at z
            rw [rr_bad z, fw_none] at hGX
            cases hGX
        subst he0
        have HNX : Hid (p' ≤ len → LI ys S n (X ++ [⟨kk, vv, nn⟩]) p') := by
          intro hle
          have h1 : LI ys S n (X ++ [⟨strOfNums (rr ys p).1.1, strOfNums (rr ys p).1.2.1, (rr ys p).1.2.2⟩]) (rr ys p).2.1 := hLI.step HQ.out.2.2.2.2.2 (by omega) he'.symm hGX.symm (by rw [← hp', HQ.out.2.2.2.2.1]; exact hle)
          rw [hkk, hvv, hnn, hp']
          exact h1
        have HAK : Hid ((X ++ [(⟨kk, vv, nn⟩ : Rwi)]).length = k + 1 ∧ kk = ahd (X ++ [⟨kk, vv, nn⟩]) (k + 1)) := ⟨by rw [List.length_append, List.length_singleton, hXk], by show _ = (rAt _ k).k; rw [← hXk, rAt_last]⟩
        clear hGX hG hrb hkk hvv hnn he' hp' hXk hA hRB hRS hLI hSB
        go_wp2_with (first
          | (go_at_call 43; go_must (refine (Calls.mono HR.out ?_)); rintro r x1 ⟨rfl, h1, h2⟩; have A1 : Hid (_ ∧ _ ∧ _ ∧ _) := HST.out x1 h2 h1; clear h1 h2)
          | ((fail_if_success (have z := A2)); have z := A1; clear z; refine wpList_store_mid rfl 69 (.tmp 21) (.tmp 20) rfl B (k * 3) #[.string kk, .string vv, .int .i64 nn] (by first | rfl | simp) (by first | rfl | simp) A1.out.1 (by kernel_rfl) (hone _ _ _) ?_; generalize hx2 : World.setCells x1 _ _ _ = x2; have A2 : Hid (RB x2 B n (X ++ [⟨kk, vv, nn⟩]) ∧ RS x2 g a len cap ys 0 p' ∧ SB w g x2) := by rw [← hx2]; exact A1.out.2
             clear hx2)
          | (have z := A2; clear z; refine wpList_load_mid rfl 69 (.tmp 24) rfl B (k * 3) (by first | rfl | simp) [.string kk, .string vv, .int .i64 nn] _ (HRG.out _ A2.out.1) Tryd.underlying69 rfl (by kernel_rfl) ?_)
          | (go_at_call 45; go_must (refine (Calls.mono (HF.out _) ?_)); rintro r x3 ⟨rfl, h3⟩; have A3 : Hid (RB x3 B n (X ++ [⟨kk, vv, nn⟩]) ∧ RS x3 g a len cap ys 0 p' ∧ SB w g x3) := ⟨A2.out.1.grew h3 (by simp), A2.out.2.1.new h3, A2.out.2.2.new h3⟩; have c0 : x3.cell? ⟨B, k * 3, none⟩ = some (.string kk) := HRG.out _ A3.out.1 0 _ rfl; clear h3)
          | (go_at_call 44; go_must (refine (Calls.mono (imust_so _) ?_)); rintro r x4 ⟨rfl, hx⟩; obtain rfl := hx.symm))
        go_roundw
        case rel => exact ⟨k + 1, X ++ [⟨kk, vv, nn⟩], p', kk, by omega, rfl, by go_num, HAK.out.1, HAK.out.2, A3.out.1, A3.out.2.1, fun _ => HNX.out A3.out.2.1.le, A3.out.2.2⟩
        case measure => simp [intOf]; omega
    · obtain rfl : k = n := by omega
      have hge : ¬ (k : Int) < k := by omega
      obtain ⟨D, hD⟩ : ∃ D, D = rend len E p := ⟨_, rfl⟩
      have HEN : Hid (Calls Tryd.prog 46 #[.pointer (some ⟨g, 0, none⟩)] wr fun r w' => r = .returned (.int .i64 D) ∧ wr.grownBy w' none) := by
        rw [hD]
        refine (end_c g E a len cap p wr hr.out.2.2.2.1.rdr hr.out.2.2.2.1.le hr.out.2.2.2.1.lm).mono ?_
        rintro r w' ⟨k1, m, rfl⟩
        exact ⟨k1, gb_drewN (World.grownBy.refl _ _) m⟩
      cases hz : (D == 0) with
      | false =>
        have HNO : Hid (∀ s Y, ¬ TSok ys s Y) := by
          rw [hD] at hz
          rcases Classical.em (E = 0) with z | z
          · rcases rend_no hz with q | q
            · exact absurd z q
            · have hq := HQ.out.2.2.1 z
              exact ((hr.out.2.2.2.2.1 z).fin hr.out.1 hq.2.1 hq.2.2 hn).2 (by rw [HQ.out.2.2.2.2.1]; exact q)
          · exact HQ.out.2.2.2.1 z
        clear hD
        go_wp2_with (first
          | (go_at_call 46; go_must (refine (Calls.mono HEN.out ?_)); rintro r x1 ⟨rfl, h1⟩; have A1 : Hid (SB w g x1) := hr.out.2.2.2.2.2.new h1; clear h1)
          | (go_at_call 44; go_must (refine (Calls.mono (imust_no _) ?_)); rintro r x4 ⟨rfl, hx⟩; obtain rfl := hx.symm))
        exact ⟨rfl, .inr ⟨HNO.out, rfl⟩, A1.out.gb⟩
      | true =>
        have HYE : Hid (TSok ys S X) := by
          rw [hD] at hz
          obtain ⟨z, q⟩ := rend_ok hz
          have hq := HQ.out.2.2.1 z
          exact ((hr.out.2.2.2.2.1 z).fin hr.out.1 hq.2.1 hq.2.2 hn).1 (by rw [HQ.out.2.2.2.2.1]; exact q)
        clear hD
        have hone2 : (#[Value.int .i64 S, .slice (some ⟨B, 0, none⟩) k k]).all (·.oneCell') = true := by simp [Value.oneCell']
        go_wp2_with (first
          | (go_at_call 46; go_must (refine (Calls.mono HEN.out ?_)); rintro r x1 ⟨rfl, h1⟩; have A1 : Hid (SB w g x1 ∧ RB x1 B k X) := ⟨hr.out.2.2.2.2.2.new h1, hr.out.2.2.1.grew h1 (by simp)⟩; clear h1)
          | (go_at_call 44; go_must (refine (Calls.mono (imust_so _) ?_)); rintro r x4 ⟨rfl, hx⟩; obtain rfl := hx.symm)
          | ((fail_if_success (have z := A2)); have z := A1; clear z; refine wpList_store_bk 25 rfl (.tmp 2) (.tmp 42) rfl infoSt w.heap.size _ #[.int .i64 S, .slice (some ⟨B, 0, none⟩) k k] rfl rfl A1.out.1.blk rfl rfl hone2 ?_; intro x2 h1 h2; have A2 : Hid (Bk 25 x2 w.heap.size #[.int .i64 S, .slice (some ⟨B, 0, none⟩) k k] ∧ RB x2 B k X ∧ w.grownBy x2 (some g)) := ⟨h1, A1.out.2.grew h2 (fun z => by have := Option.some.inj z; have := HBW.out; omega), gb_above A1.out.1.gb h2 (Nat.le_refl _)⟩; clear h1 h2))
        refine bodyPost_ret (results_cell1 Tryd.results22 _ _ _ ⟨w.heap.size, 0, none⟩ (.agg #[.int .i64 S, .slice (some ⟨B, 0, none⟩) k k]) rfl (bk_load Tryd.underlying25 rfl infoSt A2.out.1 rfl)) rfl ?_
        exact ⟨.inl ⟨B, k, S, X, rfl, HYE.out, A2.out.2.1.rows hr.out.1, by have := HBW.out; omega⟩, A2.out.2.2⟩
end Go.Proofs.YteilmkibbdlnoabDoor

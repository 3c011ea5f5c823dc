/-
  Texts in the order of their bytes, ranges of texts, and lists of ranges in normal form: two of them that have the same texts are the same. No condition.
  What the texts of span lean on: worlds that have grown, texts as lists of bytes, ranges as values. No condition of its own.
  Buckets as plain numbers: how many there are, digits, the bucket of a text, the errors. No condition.
  What span count answers. No condition.
  What the document count answers. No condition.
  What span's trim and least answer. Condition of least: the depth is one, and the number of the bucket is at most as many as there are.
  A law for a region that draws the order of its operations, whose operations only read and whose callees lay blocks of their own alone: gone through once, in the order of the text. It speaks of every program. No condition of its own.
  Texts compared; what span past and Empty answer. No condition.
  What span Of answers. No condition.
-/
import Derived.Test.YthbnbomdngecmaaRows
import Derived.WalkKit
import Derived.Below
import Derived.Lib.Strings
import Derived.Test.YthbnbomdngecmaaFBk
import Derived.Test.YthbnbomdngecmaaSStr
import Derived.BigQuiet
import Derived.Deep.QuietTactic
namespace Go.Proofs.Ythbnbomdngecmaa.Sn
set_option linter.unusedVariables false
open Go.RowKit

theorem bl_irrefl : ∀ a : List UInt8, Op.bytesLess a a = false
  | [] => rfl
  | x :: r => by simp [Op.bytesLess, bl_irrefl r]
theorem bl_trans : ∀ a b c : List UInt8, Op.bytesLess a b = true → Op.bytesLess b c = true → Op.bytesLess a c = true
  | _, [], _, h, _ => by simp [Op.bytesLess] at h
  | _, _ :: _, [], _, h => by simp [Op.bytesLess] at h
  | [], _ :: _, _ :: _, _, _ => rfl
  | x :: a, y :: b, z :: c, h1, h2 => by
    simp only [Op.bytesLess, Bool.or_eq_true, Bool.and_eq_true, decide_eq_true_eq, beq_iff_eq] at h1 h2 ⊢
    rcases h1 with h1 | ⟨rfl, h1⟩
    · rcases h2 with h2 | ⟨rfl, h2⟩
      · exact .inl (UInt8.lt_trans h1 h2)
      · exact .inl h1
    · rcases h2 with h2 | ⟨rfl, h2⟩
      · exact .inl h2
      · exact .inr ⟨rfl, bl_trans a b c h1 h2⟩
theorem bl_total : ∀ a b : List UInt8, a ≠ b → Op.bytesLess a b = true ∨ Op.bytesLess b a = true
  | [], [], h => absurd rfl h
  | [], _ :: _, _ => .inl rfl
  | _ :: _, [], _ => .inr rfl
  | x :: a, y :: b, h => by
    simp only [Op.bytesLess, Bool.or_eq_true, Bool.and_eq_true, decide_eq_true_eq, beq_iff_eq]
    by_cases e : x = y
    · subst e
      rcases bl_total a b (fun e => h (by rw [e])) with h1 | h1
      · exact .inl (.inr ⟨rfl, h1⟩)
      · exact .inr (.inr ⟨rfl, h1⟩)
    · rcases UInt8.lt_or_lt_of_ne e with h1 | h1
      · exact .inl (.inl h1)
      · exact .inr (.inl h1)

/-- Is one text ahead of another one? -/
def tl (s t : ByteArray) : Bool := Op.bytesLess s.toList t.toList
theorem toList_inj {s t : ByteArray} (h : s.toList = t.toList) : s = t := by
  rw [ByteArray.toList_eq, ByteArray.toList_eq] at h
  exact Go.WideShapes.bytes_inj h
theorem te_iff (s t : ByteArray) : (s.toList == t.toList) = decide (s = t) := by
  by_cases h : s = t
  · subst h; simp
  · have : s.toList ≠ t.toList := fun e => h (toList_inj e)
    simp [h, this]
theorem tl_irrefl (s : ByteArray) : tl s s = false := bl_irrefl _
theorem tl_trans {a b c : ByteArray} (h : tl a b = true) (k : tl b c = true) : tl a c = true := bl_trans _ _ _ h k
theorem tl_asymm {a b : ByteArray} (h : tl a b = true) : tl b a = false := by
  cases k : tl b a with
  | false => rfl
  | true => have := tl_trans h k; rw [tl_irrefl] at this; cases this
theorem tl_total {a b : ByteArray} (h : a ≠ b) : tl a b = true ∨ tl b a = true := bl_total _ _ (fun e => h (toList_inj e))
theorem tl_eq {a b : ByteArray} (h : tl a b = false) (k : tl b a = false) : a = b := by
  by_cases e : a = b
  · exact e
  · rcases tl_total e with h1 | h1
    · rw [h1] at h; cases h
    · rw [h1] at k; cases k
/-- a ≤ b, b < c. -/
theorem le_lt {a b c : ByteArray} (h : tl b a = false) (k : tl b c = true) : tl a c = true := by
  by_cases e : a = b
  · subst e; exact k
  · rcases tl_total e with h1 | h1
    · exact tl_trans h1 k
    · rw [h1] at h; cases h
theorem lt_le {a b c : ByteArray} (h : tl a b = true) (k : tl c b = false) : tl a c = true := by
  by_cases e : b = c
  · subst e; exact h
  · rcases tl_total e with h1 | h1
    · exact tl_trans h h1
    · rw [h1] at k; cases k
theorem le_le {a b c : ByteArray} (h : tl b a = false) (k : tl c b = false) : tl c a = false := by
  cases e : tl c a with
  | false => rfl
  | true => have := lt_le e h; rw [k] at this; cases this
theorem tl_ne {a b : ByteArray} (h : tl a b = true) : a ≠ b := fun e => by subst e; rw [tl_irrefl] at h; cases h
theorem bl_none (a : List UInt8) : Op.bytesLess a [] = false := by cases a <;> rfl
theorem tl_none (s : ByteArray) : tl s .empty = false := by
  unfold tl; rw [show ByteArray.empty.toList = [] from by rw [ByteArray.toList_eq]; rfl]; exact bl_none _
theorem tl_some {s : ByteArray} (h : s ≠ .empty) : tl .empty s = true := by
  rcases tl_total h with h1 | h1
  · rw [tl_none] at h1; cases h1
  · exact h1

/-- A range: from, to; to "": without an end. -/
abbrev Rg := ByteArray × ByteArray
/-- Has it come to its end at a text? -/
def rPast (r : Rg) (t : ByteArray) : Bool := !decide (r.2 = .empty) && !tl t r.2
def rHas (r : Rg) (t : ByteArray) : Bool := !tl t r.1 && !rPast r t
def rEmpty (r : Rg) : Bool := rPast r r.1
def lHas (l : List Rg) (t : ByteArray) : Bool := l.any fun r => rHas r t
/-- Normal form: no range is empty, and each ends ahead of where the next one begins. -/
def Nrm : List Rg → Prop
  | [] => True
  | r :: l => rEmpty r = false ∧ (∀ s ∈ l, r.2 ≠ .empty ∧ tl r.2 s.1 = true) ∧ Nrm l

theorem rHas_iff {r : Rg} {t : ByteArray} : rHas r t = true ↔ tl t r.1 = false ∧ (r.2 = .empty ∨ tl t r.2 = true) := by
  unfold rHas rPast
  by_cases h : r.2 = .empty <;> cases tl t r.1 <;> cases tl t r.2 <;> simp [h]
theorem rEmpty_iff {r : Rg} : rEmpty r = false ↔ r.2 = .empty ∨ tl r.1 r.2 = true := by
  unfold rEmpty rPast
  by_cases h : r.2 = .empty <;> cases tl r.1 r.2 <;> simp [h]
theorem rHas_from {r : Rg} (h : rEmpty r = false) : rHas r r.1 = true := rHas_iff.2 ⟨tl_irrefl _, rEmpty_iff.1 h⟩
theorem lHas_cons (r : Rg) (l : List Rg) (t : ByteArray) : lHas (r :: l) t = (rHas r t || lHas l t) := rfl
theorem lHas_app (a b : List Rg) (t : ByteArray) : lHas (a ++ b) t = (lHas a t || lHas b t) := by simp [lHas, List.any_append]
theorem lHas_iff {l : List Rg} {t : ByteArray} : lHas l t = true ↔ ∃ r ∈ l, rHas r t = true := by simp [lHas]
/-- Nothing of a normal list lies ahead of its first range. -/
theorem Nrm.low {r : Rg} {l : List Rg} (h : Nrm (r :: l)) {t : ByteArray} (ht : lHas (r :: l) t = true) : tl t r.1 = false := by
  obtain ⟨s, hs, hh⟩ := lHas_iff.1 ht
  rcases List.mem_cons.1 hs with rfl | hs
  · exact (rHas_iff.1 hh).1
  · have h1 := (rHas_iff.1 hh).1
    obtain ⟨h2, h3⟩ := h.2.1 s hs
    rcases rEmpty_iff.1 h.1 with h4 | h4
    · exact absurd h4 h2
    · exact le_le (tl_asymm (tl_trans h4 h3)) h1
theorem Nrm.rest {r : Rg} {l : List Rg} (h : Nrm (r :: l)) {t : ByteArray} (ht : lHas l t = true) : rHas r t = false := by
  obtain ⟨s, hs, hh⟩ := lHas_iff.1 ht
  obtain ⟨h2, h3⟩ := h.2.1 s hs
  cases e : rHas r t with
  | false => rfl
  | true =>
    rcases (rHas_iff.1 e).2 with h4 | h4
    · exact absurd h4 h2
    · have := tl_trans h4 h3; rw [(rHas_iff.1 hh).1] at this; cases this
/-- The end of the first range is not in the list. -/
theorem Nrm.gap {r : Rg} {l : List Rg} (h : Nrm (r :: l)) (hr : r.2 ≠ .empty) : lHas (r :: l) r.2 = false := by
  cases e : lHas (r :: l) r.2 with
  | false => rfl
  | true =>
    obtain ⟨s, hs, hh⟩ := lHas_iff.1 e
    rcases List.mem_cons.1 hs with rfl | hs
    · rcases (rHas_iff.1 hh).2 with h4 | h4
      · exact absurd h4 hr
      · rw [tl_irrefl] at h4; cases h4
    · have := (h.2.1 s hs).2; rw [(rHas_iff.1 hh).1] at this; cases this
/-- Two lists in normal form that have the same texts are the same. -/
theorem Nrm.uniq : ∀ {l m : List Rg}, Nrm l → Nrm m → (∀ t, lHas l t = lHas m t) → l = m
  | [], [], _, _, _ => rfl
  | [], s :: m, _, hm, h => by
    have := h s.1; rw [lHas_cons, rHas_from hm.1] at this; simp [lHas] at this
  | r :: l, [], hl, _, h => by
    have := h r.1; rw [lHas_cons, rHas_from hl.1] at this; simp [lHas] at this
  | r :: l, s :: m, hl, hm, h => by
    have h1 : tl r.1 s.1 = false := hm.low (by rw [← h, lHas_cons, rHas_from hl.1]; rfl)
    have h2 : tl s.1 r.1 = false := hl.low (by rw [h, lHas_cons, rHas_from hm.1]; rfl)
    have e1 : r.1 = s.1 := tl_eq h1 h2
    have side : ∀ {r s : Rg} {l m : List Rg}, Nrm (r :: l) → Nrm (s :: m) → (∀ t, lHas (r :: l) t = lHas (s :: m) t) → r.1 = s.1 → r.2 ≠ .empty → s.2 ≠ .empty ∧ tl r.2 s.2 = false := by
      intro r s l m hl hm h e hr
      have g := hl.gap hr
      rw [h, lHas_cons] at g
      have g' : rHas s r.2 = false := by cases x : rHas s r.2 with
        | false => rfl
        | true => rw [x] at g; cases g
      have lo : tl r.2 s.1 = false := by
        rcases rEmpty_iff.1 hl.1 with h4 | h4
        · exact absurd h4 hr
        · rw [← e]; exact tl_asymm h4
      constructor
      · intro hs
        have := rHas_iff.2 ⟨lo, Or.inl hs⟩; rw [g'] at this; cases this
      · cases x : tl r.2 s.2 with
        | false => rfl
        | true => have := rHas_iff.2 ⟨lo, Or.inr x⟩; rw [g'] at this; cases this
    have e2 : r.2 = s.2 := by
      by_cases hr : r.2 = .empty
      · by_cases hs : s.2 = .empty
        · rw [hr, hs]
        · exact absurd hr (side hm hl (fun t => (h t).symm) e1.symm hs).1
      · obtain ⟨hs, k1⟩ := side hl hm h e1 hr
        have k2 := (side hm hl (fun t => (h t).symm) e1.symm hs).2
        exact tl_eq k1 k2
    have e : r = s := Prod.ext e1 e2
    subst e
    have : l = m := Nrm.uniq hl.2.2 hm.2.2 fun t => by
      have k := h t
      rw [lHas_cons, lHas_cons] at k
      cases x : rHas r t with
      | false => rw [x] at k; simpa using k
      | true =>
        have a : lHas l t = false := by cases y : lHas l t with
          | false => rfl
          | true => rw [hl.rest y] at x; cases x
        have b : lHas m t = false := by cases y : lHas m t with
          | false => rfl
          | true => rw [hm.rest y] at x; cases x
        rw [a, b]
    rw [this]
/-- A range behind a normal list. -/
theorem Nrm.snoc : ∀ {l : List Rg} {r : Rg}, Nrm l → rEmpty r = false → (∀ s ∈ l, s.2 ≠ .empty ∧ tl s.2 r.1 = true) → Nrm (l ++ [r])
  | [], r, _, h, _ => ⟨h, (fun _ h => by cases h), trivial⟩
  | s :: l, r, hl, h, k => ⟨hl.1, fun x hx => by
      rcases List.mem_append.1 hx with h1 | h1
      · exact hl.2.1 x h1
      · simp only [List.mem_singleton] at h1; subst h1; exact k s (by simp),
    Nrm.snoc hl.2.2 h (fun x hx => k x (by simp [hx]))⟩
theorem Nrm.init : ∀ {l : List Rg} {r : Rg}, Nrm (l ++ [r]) → Nrm l ∧ rEmpty r = false ∧ ∀ s ∈ l, s.2 ≠ .empty ∧ tl s.2 r.1 = true
  | [], r, h => ⟨trivial, h.1, fun _ h => by cases h⟩
  | s :: l, r, h => by
    obtain ⟨h1, h2, h3⟩ := Nrm.init h.2.2
    refine ⟨⟨h.1, fun x hx => h.2.1 x (by simp [hx]), h1⟩, h2, fun x hx => ?_⟩
    rcases List.mem_cons.1 hx with rfl | hx
    · exact h.2.1 r (by simp)
    · exact h3 x hx

end Go.Proofs.Ythbnbomdngecmaa.Sn
namespace Go.Proofs.Ythbnbomdngecmaa.Sn
set_option linter.unusedVariables false
open Go.RowKit

theorem gb_new {a b c : World} (h : a.grownBy b none) (k : b.grownBy c (some a.heap.size)) : a.grownBy c none :=
  ⟨k.os.trans h.os, k.tape.trans h.tape, k.output.trans h.output, Nat.le_trans h.size k.size, fun i hi hn => (k.block i (Nat.lt_of_lt_of_le hi h.size) (fun e => by cases e; omega)).trans (h.block i hi hn)⟩
theorem gb_newer {a b c : World} {N : Nat} (h : a.grownBy b none) (k : b.grownBy c (some N)) (hN : a.heap.size ≤ N) : a.grownBy c none :=
  ⟨k.os.trans h.os, k.tape.trans h.tape, k.output.trans h.output, Nat.le_trans h.size k.size, fun i hi hn => (k.block i (Nat.lt_of_lt_of_le hi h.size) (fun e => by cases e; omega)).trans (h.block i hi hn)⟩
theorem gb_trans {a b c : World} {row : Option Nat} (h : a.grownBy b row) (k : b.grownBy c row) : a.grownBy c row :=
  ⟨k.os.trans h.os, k.tape.trans h.tape, k.output.trans h.output, Nat.le_trans h.size k.size, fun i hi hn => (k.block i (Nat.lt_of_lt_of_le hi h.size) hn).trans (h.block i hi hn)⟩
theorem gb_below {a b : World} (h : a.grownBy b none) : Below a.heap.size a b := ⟨h.os, h.tape, h.output, h.size, fun i hi => h.block i hi (fun e => by cases e)⟩
theorem below_gb {a b : World} (h : Below a.heap.size a b) : a.grownBy b none := ⟨h.os, h.tape, h.output, h.size, fun i hi _ => h.block i hi⟩
theorem gb_wide {a b : World} (h : a.grownBy b none) (row : Option Nat) : a.grownBy b row := ⟨h.os, h.tape, h.output, h.size, fun i hi _ => h.block i hi (fun e => by cases e)⟩
theorem gb_drewN {a b : World} {row : Option Nat} (h : a.grownBy b row) (n : Nat) : a.grownBy (b.drewN n) row := gb_trans h ⟨rfl, rfl, rfl, Nat.le_refl _, fun _ _ _ => rfl⟩
theorem gb_refl (a : World) : a.grownBy a none := ⟨rfl, rfl, rfl, Nat.le_refl _, fun _ _ _ => rfl⟩
theorem gb_alloc (a : World) (o : Obj) : a.grownBy (a.alloc o) none := World.grownBy_alloc _ _ _

theorem str_size (ts : List Int) : (strOfNums ts).size = ts.length := by
  have := congrArg List.length (strOfNums_data ts)
  simpa using this
theorem str_idx (ts : List Int) (hb : Bytes ts) (k : Nat) (h : k < ts.length) (K : IntKind) (W : World) : Sem.run Try.prog (Instr.index 9 (.string (strOfNums ts)) (.int K (k : Int))) W = .ok (.int .u8 (ts.getD k 0)) W := by
  rw [run_index_string W 9 _ K k Try.underlying9]
  rw [dif_pos ⟨by omega, by rw [str_size]; omega⟩]
  congr 2
  have hd := strOfNums_data ts
  have hk : (k : Int).toNat < (strOfNums ts).data.toList.length := by rw [hd]; simpa using h
  have e : (strOfNums ts)[(k : Int).toNat]'(by rw [str_size]; omega) = (strOfNums ts).data.toList[(k : Int).toNat]'hk := rfl
  rw [e]
  have h2 := hb k h
  simp only [h, List.getElem?_eq_getElem, Option.getD_some] at h2
  simp only [hd, List.getElem_map, Int.toNat_natCast, UInt8.toNat_ofNat']
  simp only [List.getD_eq_getElem?_getD, h, List.getElem?_eq_getElem, Option.getD_some]
  omega
/-- A text's bytes as numbers. -/
def bs (s : ByteArray) : List Int := s.data.toList.map fun b => (b.toNat : Int)
theorem bs_len (s : ByteArray) : (bs s).length = s.size := by rw [bs, List.length_map, Array.length_toList]; rfl
theorem bs_bytes (s : ByteArray) : Bytes (bs s) := bytes_of_mem fun z hz => by
  simp only [bs, List.mem_map] at hz
  obtain ⟨b, _, rfl⟩ := hz
  have := b.toNat_lt
  omega
theorem str_bs (s : ByteArray) : strOfNums (bs s) = s := by
  apply Go.WideShapes.bytes_inj
  rw [strOfNums_data, bs, List.map_map]
  refine (List.map_congr_left fun b _ => ?_).trans (List.map_id _)
  simp
theorem bs_str (ts : List Int) (hb : Bytes ts) : bs (strOfNums ts) = ts := by
  apply strOfNums_inj (bs_bytes _) hb
  rw [str_bs]
theorem bs_inj {s t : ByteArray} (h : bs s = bs t) : s = t := by rw [← str_bs s, ← str_bs t, h]
theorem bs_idx (s : ByteArray) (k : Nat) (h : k < s.size) (K : IntKind) (W : World) : Sem.run Try.prog (Instr.index 9 (.string s) (.int K (k : Int))) W = .ok (.int .u8 ((bs s).getD k 0)) W := by
  have := str_idx (bs s) (bs_bytes s) k (by rw [bs_len]; exact h) K W
  rwa [str_bs] at this
theorem bs_bd (s : ByteArray) (k : Nat) : 0 ≤ (bs s).getD k 0 ∧ (bs s).getD k 0 < 256 := by
  by_cases h : k < (bs s).length
  · have := bs_bytes s k h
    rw [List.getD_eq_getElem?_getD]; exact this
  · rw [List.getD_eq_getElem?_getD, List.getElem?_eq_none (by omega)]; simp
theorem bs_none (s : ByteArray) : bs s = [] ↔ s = .empty := by
  constructor
  · intro h; rw [← str_bs s, h]; rfl
  · rintro rfl; rfl
theorem tl_bs (s t : ByteArray) : tl s t = Op.bytesLess s.data.toList t.data.toList := by unfold tl; rw [ByteArray.toList_eq, ByteArray.toList_eq]
theorem size_none (s : ByteArray) : s.size = 0 ↔ s = .empty := by
  rw [← bs_len, ← bs_none, List.length_eq_zero_iff]
/-- Bytes as cells. -/
def u8s (xs : List Int) : Array Value := (xs.map (Value.int .u8)).toArray
theorem u8s_size (xs : List Int) : (u8s xs).size = xs.length := by simp [u8s]
theorem u8s_one (xs : List Int) : (u8s xs).all (·.oneCell') = true := by
  rw [Array.all_eq_true_iff_forall_mem]
  intro v hv
  simp only [u8s, List.mem_toArray, List.mem_map] at hv
  obtain ⟨z, _, rfl⟩ := hv
  rfl
theorem u8s_at (l : List Int) (i : Nat) (h : i < l.length) : (u8s l)[i]? = some (.int .u8 (l.getD i 0)) := by
  simp [u8s, h]
theorem u8s_set (l : List Int) (i : Nat) (x : Int) : (u8s l).setIfInBounds i (.int .u8 x) = u8s (l.set i x) := by
  simp [u8s, List.map_set]
/-- A block of bytes as a slice. -/
theorem seg_bk {w : World} {b : Nat} {xs : List Int} (h : Bk 5 w b (u8s xs)) : Seg .u8 w (some ⟨b, 0, none⟩) xs.length xs := by
  refine ⟨rfl, .inr ⟨b, 0, rfl, lt_of_block h, fun i hi => ?_⟩⟩
  rw [Nat.zero_add, h.cell, u8s_at _ _ hi]
  simp
/-- A range as a value. -/
def rv (r : Rg) : Value := .agg #[.string r.1, .string r.2]

end Go.Proofs.Ythbnbomdngecmaa.Sn
namespace Go.Proofs.Ythbnbomdngecmaa.Sn
set_option linter.unusedVariables false
open Go.RowKit

/-- How many buckets there are. -/
def nbk (d : Int) : Int := if d = 1 then 16 else if d = 2 then 256 else if d = 3 then 4096 else 0
def p16 : Nat → Int
  | 0 => 1
  | k + 1 => p16 k * 16
theorem nbk_cases (d : Int) : (d = 1 ∧ nbk d = 16) ∨ (d = 2 ∧ nbk d = 256) ∨ (d = 3 ∧ nbk d = 4096) ∨ ((d < 1 ∨ 3 < d) ∧ nbk d = 0) := by
  unfold nbk; split
  · omega
  · split
    · omega
    · split <;> omega
/-- A digit. -/
def dg (s : ByteArray) (i : Nat) : Int := if i % 2 = 0 then (bs s).getD (i / 2) 0 / 16 else (bs s).getD (i / 2) 0 % 16
theorem dg_bd (s : ByteArray) (i : Nat) : 0 ≤ dg s i ∧ dg s i < 16 := by
  have := bs_bd s (i / 2)
  unfold dg; split <;> omega
theorem dg_far (s : ByteArray) (i : Nat) (h : s.size ≤ i / 2) : dg s i = 0 := by
  have : (bs s).getD (i / 2) 0 = 0 := by rw [List.getD_eq_getElem?_getD, List.getElem?_eq_none (by rw [bs_len]; exact h)]; rfl
  unfold dg; rw [this]; split <;> rfl
/-- The number of the first k digits. -/
def bkt (s : ByteArray) : Nat → Int
  | 0 => 0
  | k + 1 => bkt s k * 16 + dg s k
theorem bkt_bd (s : ByteArray) (k : Nat) : 0 ≤ bkt s k ∧ bkt s k < p16 k := by
  induction k with
  | zero => simp [bkt, p16]
  | succ k ih => have := dg_bd s k; simp only [bkt, p16]; omega
def keyE (s : ByteArray) : Int := if s.size < 1 ∨ 1024 < s.size then 60 else 0
def bucE (d : Int) (s : ByteArray) : Int := if nbk d = 0 then 61 else keyE s
def bucN (d : Int) (s : ByteArray) : Int := if nbk d = 0 then 0 else if keyE s = 0 then bkt s d.toNat else 0
theorem w64 (x : Int) (h : -9223372036854775808 ≤ x ∧ x ≤ 9223372036854775807) : wrap64 x = x := IntWalk.wrap64_in x h
theorem p16_step (k : Nat) (h : k < 3) : wrap64 (p16 k * 16) = p16 (k + 1) := by
  rcases (show k = 0 ∨ k = 1 ∨ k = 2 by omega) with rfl | rfl | rfl <;> exact w64 _ (by decide)
theorem nbk_pow (D : Nat) (h : 1 ≤ D) (h3 : D ≤ 3) : nbk D = p16 D := by
  rcases (show D = 1 ∨ D = 2 ∨ D = 3 by omega) with rfl | rfl | rfl <;> decide
theorem nbk_none {d : Int} (h : d < 1 ∨ 3 < d) : nbk d = 0 := by rcases nbk_cases d with h | h | h | h <;> omega
theorem deep_cases (d : Int) : (∃ D : Nat, d = D ∧ 1 ≤ D ∧ D ≤ 3) ∨ d < 1 ∨ 3 < d := by
  by_cases h : d < 1
  · exact .inr (.inl h)
  · by_cases h3 : 3 < d
    · exact .inr (.inr h3)
    · exact .inl ⟨d.toNat, by omega, by omega, by omega⟩
theorem keyE_not {s : ByteArray} (h : ¬ keyE s = 0) : keyE s = 60 := by
  unfold keyE at h ⊢
  by_cases hq : s.size < 1 ∨ 1024 < s.size
  · rw [if_pos hq]
  · rw [if_neg hq] at h; exact absurd rfl h

end Go.Proofs.Ythbnbomdngecmaa.Sn
namespace Go.Proofs.Ythbnbomdngecmaa.Sn
set_option linter.unusedVariables false
open Go.RowKit

theorem count_c (d : Int) (w : World) : Calls Try.prog 39 #[.int .i64 d] w fun r w' => r = .returned (.int .i64 (nbk d)) ∧ w' = w := by
  rcases deep_cases d with ⟨D, rfl, h1, h3⟩ | h
  · rw [nbk_pow D h1 h3]
    have a1 : ¬ (D : Int) < 1 := by omega
    have a2 : ¬ (3 : Int) < D := by omega
    go_enter Try.func39, Try.ntmps39
    go_wp2
    go_loop [3, 11] (fun n i => ∃ k : Nat, k ≤ D ∧ i = .int .i64 k ∧ n = .int .i64 (p16 k)) (fun _ i => D - (intOf i).toNat)
    case atStart => exact ⟨0, Nat.zero_le _, rfl, rfl⟩
    case round =>
      obtain ⟨k, hk, rfl, rfl⟩ := hrel
      by_cases hlt : k < D
      · have hs := p16_step k (by omega)
        have hi : (k : Int) < D := by omega
        generalize p16 k = P at *
        go_wp2
        go_round
        case rel => exact ⟨k + 1, by omega, by simp, by rw [hs]⟩
        case measure => simp [intOf]; omega
      · obtain rfl : k = D := by omega
        go_wp2
        go_ret
        exact ⟨rfl, rfl⟩
  · rw [nbk_none h]
    rcases h with h | h
    · go_enter Try.func39, Try.ntmps39
      go_wp2
      go_ret
      exact ⟨rfl, rfl⟩
    · have h1 : ¬ d < 1 := by omega
      go_enter Try.func39, Try.ntmps39
      go_wp2
      go_ret
      exact ⟨rfl, rfl⟩

end Go.Proofs.Ythbnbomdngecmaa.Sn
namespace Go.Proofs.Ythbnbomdngecmaa.Sn
set_option linter.unusedVariables false
open Go.RowKit

theorem gcount_c (d : Int) (w : World) : Calls Try.prog 56 #[.int .i64 d] w fun r w' => r = .returned (.int .i64 (nbk d)) ∧ w' = w := by
  rcases deep_cases d with ⟨D, rfl, h1, h3⟩ | h
  · rw [nbk_pow D h1 h3]
    have a1 : ¬ (D : Int) < 1 := by omega
    have a2 : ¬ (3 : Int) < D := by omega
    go_enter Try.func56, Try.ntmps56
    go_wp2
    go_loop [3, 4] (fun n i => ∃ k : Nat, k ≤ D ∧ i = .int .i64 k ∧ n = .int .i64 (p16 k)) (fun _ i => D - (intOf i).toNat)
    case atStart => exact ⟨0, Nat.zero_le _, rfl, rfl⟩
    case round =>
      obtain ⟨k, hk, rfl, rfl⟩ := hrel
      by_cases hlt : k < D
      · have hs := p16_step k (by omega)
        have hi : (k : Int) < D := by omega
        generalize p16 k = P at *
        go_wp2
        go_round
        case rel => exact ⟨k + 1, by omega, by simp, by rw [hs]⟩
        case measure => simp [intOf]; omega
      · obtain rfl : k = D := by omega
        go_wp2
        go_ret
        exact ⟨rfl, rfl⟩
  · rw [nbk_none h]
    rcases h with h | h
    · go_enter Try.func56, Try.ntmps56
      go_wp2
      go_ret
      exact ⟨rfl, rfl⟩
    · have h1 : ¬ d < 1 := by omega
      go_enter Try.func56, Try.ntmps56
      go_wp2
      go_ret
      exact ⟨rfl, rfl⟩

end Go.Proofs.Ythbnbomdngecmaa.Sn
namespace Go.Proofs.Ythbnbomdngecmaa.Sn
set_option linter.unusedVariables false
open Go.RowKit

/-- How much of a text is left without the bytes c at its end, of the first n ones. -/
def trimN (xs : List Int) (c : Int) : Nat → Nat
  | 0 => 0
  | n + 1 => if xs.getD n 0 = c then trimN xs c n else n + 1
theorem trimN_le (xs : List Int) (c : Int) (n : Nat) : trimN xs c n ≤ n := by
  induction n with
  | zero => exact Nat.le_refl _
  | succ n ih => unfold trimN; split <;> omega
def trimS (s : ByteArray) (c : Int) : ByteArray := s.extract 0 (trimN (bs s) c s.size)
theorem bs_take (s : ByteArray) (n : Nat) : bs (s.extract 0 n) = (bs s).take n := by
  unfold bs
  rw [← List.map_take]
  congr 1
  rw [ByteArray.data_extract, Array.toList_extract]
  simp
theorem bs_trim (s : ByteArray) (c : Int) : bs (trimS s c) = (bs s).take (trimN (bs s) c (bs s).length) := by unfold trimS; rw [bs_take, bs_len]

theorem ext_none (s : ByteArray) : s.extract 0 0 = .empty := by
  rw [← bs_none, bs_take]; rfl
theorem trim_c (s : ByteArray) (c : Int) (hm : s.size ≤ maxLen) (w : World) : Calls Try.prog 55 #[.string s, .int .u8 c] w fun r w' => r = .returned (.string (trimS s c)) ∧ w' = w := by
  have hm' : s.size ≤ 9223372036854775807 := by unfold maxLen at hm; omega
  have HX : Hid (∀ k, k < s.size → ∀ (K : IntKind) (W : World), Sem.run Try.prog (Instr.index 9 (.string s) (.int K (k : Int))) W = .ok (.int .u8 ((bs s).getD k 0)) W) := fun k h => bs_idx s k h
  have HT : Hid (trimS s c = s.extract 0 (trimN (bs s) c s.size)) := rfl
  generalize trimS s c = T at *
  go_enter Try.func55, Try.ntmps55
  go_wp2
  go_loop [5] (fun n => ∃ k : Nat, k ≤ s.size ∧ n = .int .i64 k ∧ trimN (bs s) c k = trimN (bs s) c s.size) (fun n => (intOf n).toNat)
  case atStart => exact ⟨s.size, Nat.le_refl _, rfl, rfl⟩
  case round =>
    obtain ⟨k, hk, rfl, ht⟩ := hrel
    cases k with
    | zero =>
      have h0 : trimN (bs s) c s.size = 0 := by rw [← ht]; rfl
      go_wp2
      go_ret
      exact ⟨by rw [HT.out, h0, ext_none]; rfl, rfl⟩
    | succ k =>
      have hx := HX.out k (by omega) .i64
      have e1 : ((k + 1 : Nat) : Int) - 1 = k := by omega
      have e2 : wrap64 (k : Int) = k := w64 _ ⟨by omega, by omega⟩
      have e3 : (0 : Int) < ((k + 1 : Nat) : Int) := by omega
      by_cases hc : (bs s).getD k 0 = c
      · rw [hc] at hx
        rw [trimN, if_pos hc] at ht
        generalize hK : ((k + 1 : Nat) : Int) = K at *
        go_wp2
        go_round
        case rel => exact ⟨k, by omega, by simp, ht⟩
        case measure => simp [intOf]; omega
      · rw [trimN, if_neg hc] at ht
        have HT2 : Hid (T = s.extract 0 (k + 1)) := by show _ = _; rw [HT.out, ← ht]
        clear ht HT
        generalize (bs s).getD k 0 = y at *
        go_wp2
        go_ret
        exact ⟨by rw [HT2.out]; rfl, rfl⟩
/-- The bytes of a bucket's digits. -/
def lraw (D : Nat) (b : Int) : List Int := if D = 3 then [b / 16 % 256, b * 16 % 256] else if D = 2 then [b % 256] else [b * 16 % 256]
/-- The least text of a bucket. -/
def lst (D : Nat) (b : Int) : ByteArray := trimS (strOfNums (lraw D b)) 0
theorem u8w (X : Int) (h : 0 ≤ X ∧ X ≤ 1000) : IntKind.u8.wrap X = X % 256 := by
  obtain ⟨n, rfl⟩ := Int.eq_ofNat_of_zero_le h.1
  have : ∀ n : Fin 1001, IntKind.u8.wrap ((n.val : Nat) : Int) = ((n.val : Nat) : Int) % 256 := by decide +kernel
  exact this ⟨n, by omega⟩
set_option maxRecDepth 20000 in
set_option maxHeartbeats 400000 in
theorem least_c (D : Nat) (b : Int) (h1 : 1 ≤ D) (h3 : D ≤ 3) (hb : 0 ≤ b ∧ b ≤ nbk D) (w : World) : Calls Try.prog 40 #[.int .i64 D, .int .i64 b] w fun r w' => r = .returned (.string (lst D b)) ∧ w.grownBy w' none := by
  have hmk : ∀ w, (Instr.makeSlice 48 (.int .i64 1) (.int .i64 1)).run Try.prog w = .ok (.slice (some ⟨w.heap.size, 0, none⟩) 1 1) (w.alloc (.cells (u8s [0]) 5)) := fun _ => by kernel_rfl
  have hmk2 : ∀ w, (Instr.makeSlice 48 (.int .i64 2) (.int .i64 2)).run Try.prog w = .ok (.slice (some ⟨w.heap.size, 0, none⟩) 2 2) (w.alloc (.cells (u8s [0, 0]) 5)) := fun _ => by kernel_rfl
  rcases (show D = 1 ∨ D = 2 ∨ D = 3 by omega) with rfl | rfl | rfl
  · rw [show ((1 : Nat) : Int) = 1 from rfl]
    have hb2 : b ≤ 16 := hb.2
    obtain ⟨X, hX⟩ : ∃ X, X = b * 16 := ⟨_, rfl⟩
    have hT : lst 1 b = trimS (strOfNums [X % 256]) 0 := by rw [hX]; rfl
    have hXb : 0 ≤ X ∧ X ≤ 1000 := by omega
    rw [hT]
    have HTR : Hid _ := fun w => trim_c (strOfNums [X % 256]) 0 (by rw [str_size]; unfold maxLen; simp) w
    have w2 : IntKind.u8.wrap X = X % 256 := u8w X hXb
    have HX : Hid (X = b * 16) := hX
    clear hT hX
    generalize trimS (strOfNums [X % 256]) 0 = T at *
    generalize hY : X % 256 = Y at *
    clear hY
    go_enter Try.func40, Try.ntmps40
    go_wp2
    generalize hW1 : World.alloc w _ = W1
    have H0 : Hid (Bk 5 W1 w.heap.size (u8s [0]) ∧ w.grownBy W1 none) := by rw [← hW1]; exact blk_new w 5 (u8s [0])
    clear hW1 hmk
    generalize hN : w.heap.size = N at *
    go_loopw [1, 6] (fun b i wr => (i = .int .i64 0 ∧ b = .int .i64 X ∧ Hid (Bk 5 wr N (u8s [0]) ∧ w.grownBy wr none)) ∨ (i = .int .i64 (-1) ∧ Hid (Bk 5 wr N (u8s [Y]) ∧ w.grownBy wr none))) (fun _ i _ => (intOf i + 1).toNat)
    case atStart => exact .inl ⟨rfl, by rw [HX.out], H0⟩
    case round =>
      clear H0 HX
      rcases hrel with ⟨rfl, rfl, hr⟩ | ⟨rfl, hr⟩
      · have hc0 := hr.out.1.cell 0
        have hf0 := frozen_of_row _ _ 0 _ _ hr.out.1
        go_wp2
        go_roundw
        case rel => exact .inr ⟨rfl, (hr.out.1.set 0 (.int .u8 Y)), gb_newer hr.out.2 ⟨rfl, rfl, rfl, by simp, fun k _ hk => Below.heap_setCell _ _ _ _ (fun e => hk (by rw [e]))⟩ (by show w.heap.size ≤ N; omega)⟩
        case measure => simp [intOf]
      · have HS : Hid _ := seg_string 48 9 5 1 (seg_bk hr.out.1) Try.underlying48 Try.underlying5 Try.underlying9
        have hs1 := HS.out
        simp only [List.length_cons, List.length_nil, Nat.zero_add] at hs1
        clear HS
        go_wp2_with (go_at_call 55; go_must (refine (HTR.out _).mono ?_); rintro e w1 ⟨rfl, rfl⟩)
        go_ret
        exact ⟨rfl, hr.out.2⟩
  · rw [show ((2 : Nat) : Int) = 2 from rfl]
    have hb2 : b ≤ 256 := hb.2
    obtain ⟨X, hX⟩ : ∃ X, X = b := ⟨_, rfl⟩
    have hT : lst 2 b = trimS (strOfNums [X % 256]) 0 := by rw [hX]; rfl
    have hXb : 0 ≤ X ∧ X ≤ 1000 := by omega
    rw [hT]
    have HTR : Hid _ := fun w => trim_c (strOfNums [X % 256]) 0 (by rw [str_size]; unfold maxLen; simp) w
    have w2 : IntKind.u8.wrap X = X % 256 := u8w X hXb
    have HX : Hid (X = b) := hX
    clear hT hX
    generalize trimS (strOfNums [X % 256]) 0 = T at *
    generalize hY : X % 256 = Y at *
    clear hY
    go_enter Try.func40, Try.ntmps40
    go_wp2
    generalize hW1 : World.alloc w _ = W1
    have H0 : Hid (Bk 5 W1 w.heap.size (u8s [0]) ∧ w.grownBy W1 none) := by rw [← hW1]; exact blk_new w 5 (u8s [0])
    clear hW1 hmk
    generalize hN : w.heap.size = N at *
    go_loopw [1, 6] (fun b i wr => (i = .int .i64 0 ∧ b = .int .i64 X ∧ Hid (Bk 5 wr N (u8s [0]) ∧ w.grownBy wr none)) ∨ (i = .int .i64 (-1) ∧ Hid (Bk 5 wr N (u8s [Y]) ∧ w.grownBy wr none))) (fun _ i _ => (intOf i + 1).toNat)
    case atStart => exact .inl ⟨rfl, by rw [HX.out], H0⟩
    case round =>
      clear H0 HX
      rcases hrel with ⟨rfl, rfl, hr⟩ | ⟨rfl, hr⟩
      · have hc0 := hr.out.1.cell 0
        have hf0 := frozen_of_row _ _ 0 _ _ hr.out.1
        go_wp2
        go_roundw
        case rel => exact .inr ⟨rfl, (hr.out.1.set 0 (.int .u8 Y)), gb_newer hr.out.2 ⟨rfl, rfl, rfl, by simp, fun k _ hk => Below.heap_setCell _ _ _ _ (fun e => hk (by rw [e]))⟩ (by show w.heap.size ≤ N; omega)⟩
        case measure => simp [intOf]
      · have HS : Hid _ := seg_string 48 9 5 1 (seg_bk hr.out.1) Try.underlying48 Try.underlying5 Try.underlying9
        have hs1 := HS.out
        simp only [List.length_cons, List.length_nil, Nat.zero_add] at hs1
        clear HS
        go_wp2_with (go_at_call 55; go_must (refine (HTR.out _).mono ?_); rintro e w1 ⟨rfl, rfl⟩)
        go_ret
        exact ⟨rfl, hr.out.2⟩
  · rw [show ((3 : Nat) : Int) = 3 from rfl]
    have hb2 : b ≤ 4096 := hb.2
    obtain ⟨X, hX⟩ : ∃ X, X = b * 16 := ⟨_, rfl⟩
    have hT : lst 3 b = trimS (strOfNums [X / 256 % 256, X % 256]) 0 := by
      rw [hX, show b * 16 / 256 = b / 16 from by omega]; rfl
    have hXb : 0 ≤ X ∧ X ≤ 65536 := by omega
    rw [hT]
    have HTR : Hid _ := fun w => trim_c (strOfNums [X / 256 % 256, X % 256]) 0 (by rw [str_size]; unfold maxLen; simp) w
    have w2 : IntKind.u8.wrap X = X % 256 := IntKind.wrap_u8 X
    have w3 : IntKind.u8.wrap (X / 256) = X / 256 % 256 := IntKind.wrap_u8 _
    have HX : Hid (X = b * 16) := hX
    clear hT hX
    generalize trimS (strOfNums [X / 256 % 256, X % 256]) 0 = T at *
    generalize hY : X % 256 = Y at *
    obtain ⟨X2, hX2⟩ : ∃ X2, X2 = X / 256 := ⟨_, rfl⟩
    have hX2b : 0 ≤ X2 ∧ X2 ≤ 256 := by omega
    rw [← hX2] at w3 HTR
    have HX2 : Hid (X2 = X / 256) := hX2
    clear hY hX2 w3
    go_enter Try.func40, Try.ntmps40
    go_wp2
    generalize hW1 : World.alloc w _ = W1
    have H0 : Hid (Bk 5 W1 w.heap.size (u8s [0, 0]) ∧ w.grownBy W1 none) := by rw [← hW1]; exact blk_new w 5 (u8s [0, 0])
    clear hW1 hmk hmk2
    generalize hN : w.heap.size = N at *
    go_loopw [1, 6] (fun b i wr => (i = .int .i64 1 ∧ b = .int .i64 X ∧ Hid (Bk 5 wr N (u8s [0, 0]) ∧ w.grownBy wr none)) ∨ (i = .int .i64 0 ∧ b = .int .i64 X2 ∧ Hid (Bk 5 wr N (u8s [0, Y]) ∧ w.grownBy wr none)) ∨ (i = .int .i64 (-1) ∧ Hid (Bk 5 wr N (u8s [X2 % 256, Y]) ∧ w.grownBy wr none))) (fun _ i _ => (intOf i + 1).toNat)
    case atStart => exact .inl ⟨rfl, by rw [HX.out], H0⟩
    case round =>
      clear H0 HX
      rcases hrel with ⟨rfl, rfl, hr⟩ | ⟨rfl, rfl, hr⟩ | ⟨rfl, hr⟩
      · have hc0 := hr.out.1.cell 1
        have hf0 := frozen_of_row _ _ 1 _ _ hr.out.1
        go_wp2
        go_roundw
        case rel => exact .inr (.inl ⟨rfl, by rw [HX2.out], (hr.out.1.set 1 (.int .u8 Y)), gb_newer hr.out.2 ⟨rfl, rfl, rfl, by simp, fun k _ hk => Below.heap_setCell _ _ _ _ (fun e => hk (by rw [e]))⟩ (by show w.heap.size ≤ N; omega)⟩)
        case measure => simp [intOf]
      · have hc0 := hr.out.1.cell 0
        have hf0 := frozen_of_row _ _ 0 _ _ hr.out.1
        go_wp2
        go_roundw
        case rel => exact .inr (.inr ⟨rfl, (hr.out.1.set 0 (.int .u8 (X2 % 256))), gb_newer hr.out.2 ⟨rfl, rfl, rfl, by simp, fun k _ hk => Below.heap_setCell _ _ _ _ (fun e => hk (by rw [e]))⟩ (by show w.heap.size ≤ N; omega)⟩)
        case measure => simp [intOf]
      · have HS : Hid _ := seg_string 48 9 5 2 (seg_bk hr.out.1) Try.underlying48 Try.underlying5 Try.underlying9
        have hs1 := HS.out
        simp only [List.length_cons, List.length_nil, Nat.zero_add] at hs1
        clear HS
        go_wp2_with (go_at_call 55; go_must (refine (HTR.out _).mono ?_); rintro e w1 ⟨rfl, rfl⟩)
        go_ret
        exact ⟨rfl, hr.out.2⟩
end Go.Proofs.Ythbnbomdngecmaa.Sn
namespace Go.Proofs.Ythbnbomdngecmaa.Sn
set_option linter.unusedVariables false
open Go.RowKit

/-- The world w, with the blocks of p behind its own, and so many draws as p. -/
def gw (w p : World) : World := { heap := w.heap ++ p.heap, tape := w.tape, drawn := p.drawn, os := w.os, output := w.output }
theorem gw_gb (w p : World) : w.grownBy (gw w p) none := ⟨rfl, rfl, rfl, by simp [gw], fun k hk _ => by
  show (w.heap ++ p.heap)[k]? = _
  rw [Array.getElem?_append_left hk]⟩
theorem gb_gw {w w' : World} (h : w.grownBy w' none) : ∃ p, w' = gw w p := by
  refine ⟨{ w' with heap := w'.heap.extract w.heap.size w'.heap.size }, ?_⟩
  have hh : w'.heap = w.heap ++ w'.heap.extract w.heap.size w'.heap.size := by
    apply Array.ext_getElem?
    intro k
    by_cases hk : k < w.heap.size
    · rw [Array.getElem?_append_left hk]; exact h.block k hk (fun e => by cases e)
    · rw [Array.getElem?_append_right (by omega), Array.getElem?_extract]
      have hs := h.size
      by_cases h2 : k < w'.heap.size
      · rw [if_pos (by omega)]; congr 1; omega
      · rw [if_neg (by omega), Array.getElem?_eq_none (by omega)]
  have e1 := h.os
  have e2 := h.tape
  have e3 := h.output
  cases w'
  simp only [gw]
  simp only at e1 e2 e3 hh
  rw [e1, e2, e3, ← hh]
theorem wp_region_gb {P : Program} {id : Nat} {Q : Exit → Act → World → Prop} {a : Act} {w : World} {l : List Oper} (hm : P.follows .mixedOrders = true) (hB : Region.lexB .any l.toArray = true)
    (h : wpQuiet P l.toArray (fun w' => ∃ p : World, w' = gw w p) (fun a' => ∀ w', (∃ p : World, w' = gw w p) → Q .normal a' w') l a) : (Code.region id l.toArray true).wp P Q a w :=
  wp_region_quiet (C := fun w' => ∃ p : World, w' = gw w p) hm hB (gb_gw ⟨rfl, rfl, rfl, Nat.le_refl _, fun _ _ _ => rfl⟩) (by simpa using h)
theorem calls_gb {P : Program} {f : FuncId} {args : Array Value} {w p : World} {v : Value} (h : Calls P f args (gw w p) fun e w' => e = .returned v ∧ (gw w p).grownBy w' none) :
    Calls P f args (gw w p) fun e w'' => e = .returned v ∧ ∃ p : World, w'' = gw w p :=
  h.mono fun _ _ ⟨he, hg⟩ => ⟨he, gb_gw (gb_trans (gw_gb w p) hg)⟩
theorem calls_gw {P : Program} {f : FuncId} {args : Array Value} {w p : World} {v : Value} (h : Calls P f args (gw w p) fun e w' => e = .returned v ∧ w' = gw w p) :
    Calls P f args (gw w p) fun e w'' => e = .returned v ∧ ∃ p : World, w'' = gw w p :=
  h.mono fun _ _ ⟨he, hg⟩ => ⟨he, p, hg⟩
theorem cell_gw {w : World} {a : Addr} {v : Value} (h : w.cell? a = some v) (p : World) : (gw w p).cell? a = some v := by
  have hb : a.block < w.heap.size := by
    rcases Nat.lt_or_ge a.block w.heap.size with h1 | h1
    · exact h1
    · simp [World.cell?, h1] at h
  exact ((gb_below (gw_gb w p)).cell (p := a) hb).trans h
theorem bk_gw {T : TypeId} {w : World} {b : Nat} {cs : Array Value} (h : Bk T w b cs) (p : World) : Bk T (gw w p) b cs := h.grew (gw_gb w p) (by simp)
end Go.Proofs.Ythbnbomdngecmaa.Sn
namespace Go.Proofs.Ythbnbomdngecmaa.Sn
set_option linter.unusedVariables false
open Go.RowKit

theorem run_lss (s t : ByteArray) (W : World) : (binOp .lss 9 (.string s) (.string t)).run Try.prog W = .ok (.bool (tl s t)) W := by
  simp [binOp, Op.stringOp, tl]
theorem run_geq (s t : ByteArray) (W : World) : (binOp .geq 9 (.string s) (.string t)).run Try.prog W = .ok (.bool (!tl s t)) W := by
  simp [binOp, Op.stringOp, tl]
theorem tl_not (s t : ByteArray) : (tl s t || (s.toList == t.toList)) = !tl t s := by
  rw [te_iff]
  by_cases h : s = t
  · subst h; simp [tl_irrefl]
  · rcases tl_total h with h1 | h1
    · simp [h1, tl_asymm h1]
    · simp [h1, tl_asymm h1, h]
theorem run_leq (s t : ByteArray) (W : World) : (binOp .leq 9 (.string s) (.string t)).run Try.prog W = .ok (.bool (!tl t s)) W := by
  have := tl_not s t
  unfold tl at this
  simp [binOp, Op.stringOp, tl, this]
theorem run_gtr (s t : ByteArray) (W : World) : (binOp .gtr 9 (.string s) (.string t)).run Try.prog W = .ok (.bool (tl t s)) W := by
  have := tl_not s t
  unfold tl at this
  simp only [binOp, Op.stringOp, tl, this, Bool.not_not]
  rfl
theorem nil_iff (s : ByteArray) : s.toList = [] ↔ s = .empty := by
  have := te_iff s .empty
  rw [show ByteArray.empty.toList = [] from by rw [ByteArray.toList_eq]; rfl] at this
  by_cases h : s = .empty
  · simp [h, show ByteArray.empty.toList = [] from by rw [ByteArray.toList_eq]; rfl]
  · simp [h] at this; simp [h]; exact fun e => this e
theorem past_no {f u t : ByteArray} (h : u.toList = []) : rPast (f, u) t = false := by unfold rPast; simp [(nil_iff u).1 h]
theorem past_yes {f u t : ByteArray} (h : ¬ u.toList = []) : rPast (f, u) t = !tl t u := by
  have hne : u ≠ .empty := fun e => h ((nil_iff u).2 e)
  unfold rPast; simp [hne]
theorem ne_nil {u : ByteArray} (h : ¬ u.toList = []) : u.toList.isEmpty = false := by
  cases e : u.toList with
  | nil => exact absurd e h
  | cons _ _ => rfl
theorem info28 : (Try.prog.info? 57).map (·.size) = some 2 := by kernel_rfl
theorem two_one (a b : ByteArray) : (#[Value.string a, Value.string b] : Array Value).all (·.oneCell') = true := by simp [Value.oneCell']
theorem nil_is {T : ByteArray} (h : T = .empty) : T.toList = [] ∧ T.toList.isEmpty = true := by
  have := (nil_iff T).2 h
  rw [this]; exact ⟨rfl, rfl⟩
theorem nil_not {T : ByteArray} (h : ¬ T = .empty) : ¬ T.toList = [] ∧ T.toList.isEmpty = false := by
  have : ¬ T.toList = [] := fun e => h ((nil_iff T).1 e)
  exact ⟨this, ne_nil this⟩

end Go.Proofs.Ythbnbomdngecmaa.Sn
namespace Go.Proofs.Ythbnbomdngecmaa.Sn
set_option linter.unusedVariables false
open Go.RowKit

def ofE (d b : Int) : Int := if nbk d = 0 then 61 else if b < 0 ∨ nbk d ≤ b then 62 else 0
def ofR (d b : Int) : Rg := if ofE d b = 0 then (lst d.toNat b, lst d.toNat (b + 1)) else (.empty, .empty)
theorem lst_last (D : Nat) (h1 : 1 ≤ D) (h3 : D ≤ 3) : lst D (nbk D) = .empty := by
  rw [← bs_none]
  rcases (show D = 1 ∨ D = 2 ∨ D = 3 by omega) with rfl | rfl | rfl <;> decide +kernel
theorem nbk_bd (D : Nat) (h1 : 1 ≤ D) (h3 : D ≤ 3) : 16 ≤ nbk D ∧ nbk D ≤ 4096 := by
  rcases (show D = 1 ∨ D = 2 ∨ D = 3 by omega) with rfl | rfl | rfl <;> decide
theorem of_no {d b : Int} (h : ¬ ofE d b = 0) : ofR d b = (.empty, .empty) := by unfold ofR; rw [if_neg h]
theorem ofE_deep {d b : Int} (h : d < 1 ∨ 3 < d) : ofE d b = 61 := by unfold ofE; rw [if_pos (nbk_none h)]
theorem ofE_yes {D : Nat} {b : Int} (h1 : 1 ≤ D) (h3 : D ≤ 3) (h : 0 ≤ b ∧ b < nbk D) : ofE D b = 0 ∧ ofR D b = (lst D b, lst D (b + 1)) := by
  have e : ofE D b = 0 := by have := nbk_bd D h1 h3; unfold ofE; rw [if_neg (by omega), if_neg (by omega)]
  exact ⟨e, by unfold ofR; rw [if_pos e, Int.toNat_natCast]⟩
theorem ofE_no {D : Nat} {b : Int} (h1 : 1 ≤ D) (h3 : D ≤ 3) (h : b < 0 ∨ nbk D ≤ b) : ofE D b = 62 := by
  have := nbk_bd D h1 h3; unfold ofE; rw [if_neg (by omega), if_pos h]
set_option maxRecDepth 20000 in
set_option maxHeartbeats 1000000 in
theorem of_c (d b : Int) (w : World) : Calls Try.prog 23 #[.int .i64 d, .int .i64 b] w fun r w' => r = .returned (.tuple #[rv (ofR d b), .int .i64 (ofE d b)]) ∧ w.grownBy w' none := by
  have HC : Hid _ := fun w => count_c d w
  have HNEW : Hid _ := blk_new w 57 #[.string { data := #[] }, .string { data := #[] }]
  rcases deep_cases d with ⟨D, rfl, h1, h3⟩ | h
  · have hn := nbk_bd D h1 h3
    by_cases hb : 0 ≤ b ∧ b < nbk D
    · obtain ⟨e1, e2⟩ := ofE_yes h1 h3 hb
      rw [e1, e2]
      have HL1 : Hid _ := fun w => least_c D b h1 h3 ⟨hb.1, by omega⟩ w
      have HL2 : Hid _ := fun w => least_c D (b + 1) h1 h3 ⟨by omega, by omega⟩ w
      generalize lst D b = X at *
      generalize lst D (b + 1) = Y at *
      have hb1 : ¬ b < 0 := by omega
      have hb2 : ¬ nbk D ≤ b := by omega
      have hz : ¬ nbk D = 0 := by omega
      clear e1 e2
      generalize nbk D = C at *
      go_enter Try.func23, Try.ntmps23
      go_wp2_with (first
        | (go_at_call 39; go_must (refine (HC.out _).mono ?_); rintro e w1 ⟨rfl, hw1⟩; (have H1 : Hid (Bk 57 w1 w.heap.size #[.string { data := #[] }, .string { data := #[] }] ∧ w.grownBy w1 none) := (by rw [hw1]; exact HNEW)); clear hw1 HNEW)
        | ((fail_if_success (have z := H2)); go_at_call 40; go_must (refine (HL1.out _).mono ?_); rintro e w2 ⟨rfl, h2⟩; have H2 : Hid _ := h2; clear h2)
        | (have z := H2; clear z; go_at_call 40; go_must (refine (HL2.out _).mono ?_); rintro e w3 ⟨rfl, h3'⟩; have H3 : Hid (Bk 57 w3 w.heap.size #[.string { data := #[] }, .string { data := #[] }] ∧ w.grownBy w3 none) := ⟨(H1.out.1.grew H2.out (by simp)).grew h3' (by simp), gb_trans (gb_trans H1.out.2 H2.out) h3'⟩; clear h3')
        | (refine wpList_store_bk 57 rfl (.tmp 4) (.tmp 27) rfl info28 w.heap.size _ #[.string X, .string Y] rfl rfl H3.out.1 rfl rfl (two_one _ _) ?_; intro w4 k1 k2; have H4 : Hid (Bk 57 w4 w.heap.size #[.string X, .string Y] ∧ w.grownBy w4 none) := ⟨k1, gb_newer H3.out.2 k2 (Nat.le_refl _)⟩; clear k1 k2))
      refine bodyPost_ret (results_cell2 Try.results23 _ _ _ ⟨w.heap.size, 0, none⟩ _ _ rfl rfl (bk_load Try.underlying57 rfl info28 H4.out.1 rfl)) rfl ?_
      exact ⟨rfl, H4.out.2⟩
    · have e1 : ofE D b = 62 := ofE_no h1 h3 (by omega)
      rw [of_no (by rw [e1]; decide), e1]
      have hz : ¬ nbk D = 0 := by omega
      generalize nbk D = C at *
      clear e1
      rcases (show b < 0 ∨ (¬ b < 0 ∧ C ≤ b) by omega) with hb1 | ⟨hb1, hb2⟩
      · go_enter Try.func23, Try.ntmps23
        go_wp2_with (first
          | (go_at_call 39; go_must (refine (HC.out _).mono ?_); rintro e w1 ⟨rfl, hw1⟩; (have H1 : Hid (Bk 57 w1 w.heap.size #[.string { data := #[] }, .string { data := #[] }] ∧ w.grownBy w1 none) := (by rw [hw1]; exact HNEW)); clear hw1 HNEW)
          | (refine wpList_store_bk 57 rfl (.tmp 4) (.tmp 19) rfl info28 w.heap.size _ #[.string .empty, .string .empty] rfl rfl H1.out.1 rfl rfl (two_one _ _) ?_; intro w4 k1 k2; have H4 : Hid (Bk 57 w4 w.heap.size #[.string .empty, .string .empty] ∧ w.grownBy w4 none) := ⟨k1, gb_newer H1.out.2 k2 (Nat.le_refl _)⟩; clear k1 k2))
        refine bodyPost_ret (results_cell2 Try.results23 _ _ _ ⟨w.heap.size, 0, none⟩ _ _ rfl rfl (bk_load Try.underlying57 rfl info28 H4.out.1 rfl)) rfl ?_
        exact ⟨rfl, H4.out.2⟩
      · go_enter Try.func23, Try.ntmps23
        go_wp2_with (first
          | (go_at_call 39; go_must (refine (HC.out _).mono ?_); rintro e w1 ⟨rfl, hw1⟩; (have H1 : Hid (Bk 57 w1 w.heap.size #[.string { data := #[] }, .string { data := #[] }] ∧ w.grownBy w1 none) := (by rw [hw1]; exact HNEW)); clear hw1 HNEW)
          | (refine wpList_store_bk 57 rfl (.tmp 4) (.tmp 19) rfl info28 w.heap.size _ #[.string .empty, .string .empty] rfl rfl H1.out.1 rfl rfl (two_one _ _) ?_; intro w4 k1 k2; have H4 : Hid (Bk 57 w4 w.heap.size #[.string .empty, .string .empty] ∧ w.grownBy w4 none) := ⟨k1, gb_newer H1.out.2 k2 (Nat.le_refl _)⟩; clear k1 k2))
        refine bodyPost_ret (results_cell2 Try.results23 _ _ _ ⟨w.heap.size, 0, none⟩ _ _ rfl rfl (bk_load Try.underlying57 rfl info28 H4.out.1 rfl)) rfl ?_
        exact ⟨rfl, H4.out.2⟩
  · have e1 : ofE d b = 61 := ofE_deep h
    rw [of_no (by rw [e1]; decide), e1]
    have h0 := nbk_none h
    rw [h0] at HC
    go_enter Try.func23, Try.ntmps23
    go_wp2_with (first
      | (go_at_call 39; go_must (refine (HC.out _).mono ?_); rintro e w1 ⟨rfl, hw1⟩; (have H1 : Hid (Bk 57 w1 w.heap.size #[.string { data := #[] }, .string { data := #[] }] ∧ w.grownBy w1 none) := (by rw [hw1]; exact HNEW)); clear hw1 HNEW)
      | (refine wpList_store_bk 57 rfl (.tmp 4) (.tmp 11) rfl info28 w.heap.size _ #[.string .empty, .string .empty] rfl rfl H1.out.1 rfl rfl (two_one _ _) ?_; intro w4 k1 k2; have H4 : Hid (Bk 57 w4 w.heap.size #[.string .empty, .string .empty] ∧ w.grownBy w4 none) := ⟨k1, gb_newer H1.out.2 k2 (Nat.le_refl _)⟩; clear k1 k2))
    refine bodyPost_ret (results_cell2 Try.results23 _ _ _ ⟨w.heap.size, 0, none⟩ _ _ rfl rfl (bk_load Try.underlying57 rfl info28 H4.out.1 rfl)) rfl ?_
    exact ⟨rfl, H4.out.2⟩

end Go.Proofs.Ythbnbomdngecmaa.Sn

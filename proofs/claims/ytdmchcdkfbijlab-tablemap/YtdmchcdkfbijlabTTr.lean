/-
  The tree of a table in memory, as the list of its rows; what height, count and size answer. Condition: none of its own.
-/
import Derived.Test.YtdmchcdkfbijlabTBa
namespace Go.Proofs.Ytdmchcdkfbijlab
open Go.RowKit
set_option linter.unusedVariables false

/-- A row: key, value, version. -/
abbrev Rw := ByteArray × ByteArray × Int
def iv (x : Rw) : Value := .agg #[.string x.1, .string x.2.1, .int .i64 x.2.2]
def ivs (x : Rw) : Array Value := #[.string x.1, .string x.2.1, .int .i64 x.2.2]
def sz (x : Rw) : Nat := x.1.size + x.2.1.size
def szs (xs : List Rw) : Nat := (xs.map sz).sum
theorem szs_mid (l r : List Rw) (x : Rw) : szs (l ++ x :: r) = szs l + sz x + szs r := by
  simp [szs, List.map_append, List.sum_append]; omega
theorem szs_app (l r : List Rw) : szs (l ++ r) = szs l + szs r := by simp [szs]
/-- A node's cells. -/
def nc (x : Rw) (pl pr : Option Addr) (h n b : Nat) : Array Value := #[.string x.1, .string x.2.1, .int .i64 x.2.2, .pointer pl, .pointer pr, .int .i64 h, .int .i64 n, .int .i64 b]
def TrF (o : Nat → Prop) (w : World) : Nat → Option Addr → Nat → List Rw → Prop
  | 0, p, h, xs => p = none ∧ h = 0 ∧ xs = []
  | f + 1, p, h, xs => (p = none ∧ h = 0 ∧ xs = []) ∨ ∃ b l x r pl pr hl hr, p = some ⟨b, 0, none⟩ ∧ o b ∧ Bk 62 w b (nc x pl pr h xs.length (szs xs)) ∧ TrF o w f pl hl l ∧ TrF o w f pr hr r ∧ xs = l ++ x :: r ∧ h = max hl hr + 1
/-- A tree of so many levels that holds these rows, in this order. -/
def Tr (o : Nat → Prop) (w : World) (p : Option Addr) (h : Nat) (xs : List Rw) : Prop := ∃ f, TrF o w f p h xs
theorem TrF.up {o : Nat → Prop} {w : World} : ∀ {f : Nat} {p h xs}, TrF o w f p h xs → TrF o w (f + 1) p h xs
  | 0, _, _, _, hh => .inl hh
  | f + 1, _, _, _, .inl hh => .inl hh
  | f + 1, _, _, _, .inr ⟨b, l, x, r, pl, pr, hl, hr, h1, ob, h2, h3, h4, h5⟩ => .inr ⟨b, l, x, r, pl, pr, hl, hr, h1, ob, h2, h3.up, h4.up, h5⟩
theorem TrF.more {o : Nat → Prop} {w : World} {f : Nat} {p h xs} (hh : TrF o w f p h xs) : ∀ k, TrF o w (f + k) p h xs
  | 0 => hh
  | k + 1 => (hh.more k).up
theorem tr_nil (o : Nat → Prop) (w : World) : Tr o w none 0 [] := ⟨0, rfl, rfl, rfl⟩
theorem tr_mk {o : Nat → Prop} {w : World} {b : Nat} {l r : List Rw} {x : Rw} {pl pr : Option Addr} {hl hr h n z : Nat} (ob : o b) (hb : Bk 62 w b (nc x pl pr h n z)) (h1 : Tr o w pl hl l) (h2 : Tr o w pr hr r) (hh : h = max hl hr + 1) (hn : n = (l ++ x :: r).length) (hz : z = szs (l ++ x :: r)) : Tr o w (some ⟨b, 0, none⟩) h (l ++ x :: r) := by
  obtain ⟨f1, h1⟩ := h1
  obtain ⟨f2, h2⟩ := h2
  subst hn hz
  refine ⟨f1 + f2 + 1, .inr ⟨b, l, x, r, pl, pr, hl, hr, rfl, ob, hb, h1.more f2, ?_, rfl, hh⟩⟩
  rw [Nat.add_comm f1 f2]
  exact h2.more f1
theorem Tr.nil0 {o : Nat → Prop} {w : World} {h : Nat} {xs : List Rw} (hh : Tr o w none h xs) : h = 0 ∧ xs = [] := by
  obtain ⟨f, hh⟩ := hh
  cases f with
  | zero => exact hh.2
  | succ f =>
    rcases hh with hh | ⟨b, _, _, _, _, _, _, _, h1, _⟩
    · exact hh.2
    · cases h1
theorem Tr.node {o : Nat → Prop} {w : World} {a : Addr} {h : Nat} {xs : List Rw} (hh : Tr o w (some a) h xs) : ∃ b l x r pl pr hl hr, a = ⟨b, 0, none⟩ ∧ o b ∧ Bk 62 w b (nc x pl pr h xs.length (szs xs)) ∧ Tr o w pl hl l ∧ Tr o w pr hr r ∧ xs = l ++ x :: r ∧ h = max hl hr + 1 := by
  obtain ⟨f, hh⟩ := hh
  cases f with
  | zero => cases hh.1
  | succ f =>
    rcases hh with ⟨h1, _⟩ | ⟨b, l, x, r, pl, pr, hl, hr, h1, ob, h2, h3, h4, h5, h6⟩
    · cases h1
    · exact ⟨b, l, x, r, pl, pr, hl, hr, Option.some.inj h1, ob, h2, ⟨f, h3⟩, ⟨f, h4⟩, h5, h6⟩
theorem TrF.gb {o : Nat → Prop} {w w' : World} {row : Option Nat} (hg : w.grownBy w' row) (hr : ∀ n, row = some n → ¬ o n) : ∀ {f : Nat} {p h xs}, TrF o w f p h xs → TrF o w' f p h xs
  | 0, _, _, _, hh => hh
  | f + 1, _, _, _, .inl hh => .inl hh
  | f + 1, _, _, _, .inr ⟨b, l, x, r, pl, pr, hl, hr', h1, ob, h2, h3, h4, h5⟩ => .inr ⟨b, l, x, r, pl, pr, hl, hr', h1, ob, h2.grew hg (fun e => hr b e ob), h3.gb hg hr, h4.gb hg hr, h5⟩
theorem Tr.gb {o : Nat → Prop} {w w' : World} {p h xs} (hh : Tr o w p h xs) (hg : w.grownBy w' none) : Tr o w' p h xs := by
  obtain ⟨f, hh⟩ := hh
  exact ⟨f, hh.gb hg (fun n e => by cases e)⟩
theorem Tr.gbr {o : Nat → Prop} {w w' : World} {p h xs} {row : Option Nat} (hh : Tr o w p h xs) (hg : w.grownBy w' row) (hr : ∀ n, row = some n → ¬ o n) : Tr o w' p h xs := by
  obtain ⟨f, hh⟩ := hh
  exact ⟨f, hh.gb hg hr⟩
theorem TrF.weak {o o' : Nat → Prop} {w : World} (hw : ∀ b, b < w.heap.size → o b → o' b) : ∀ {f : Nat} {p h xs}, TrF o w f p h xs → TrF o' w f p h xs
  | 0, _, _, _, hh => hh
  | f + 1, _, _, _, .inl hh => .inl hh
  | f + 1, _, _, _, .inr ⟨b, l, x, r, pl, pr, hl, hr', h1, ob, h2, h3, h4, h5⟩ => .inr ⟨b, l, x, r, pl, pr, hl, hr', h1, hw b (lt_of_block h2) ob, h2, h3.weak hw, h4.weak hw, h5⟩
theorem Tr.weak {o o' : Nat → Prop} {w : World} {p h xs} (hh : Tr o w p h xs) (hw : ∀ b, b < w.heap.size → o b → o' b) : Tr o' w p h xs := by
  obtain ⟨f, hh⟩ := hh
  exact ⟨f, hh.weak hw⟩
theorem TrF.len {o : Nat → Prop} {w : World} : ∀ {f : Nat} {p h xs}, TrF o w f p h xs → h ≤ xs.length
  | 0, _, _, _, hh => by rw [hh.2.1]; exact Nat.zero_le _
  | f + 1, _, _, _, .inl hh => by rw [hh.2.1]; exact Nat.zero_le _
  | f + 1, _, _, _, .inr ⟨b, l, x, r, pl, pr, hl, hr, h1, ob, h2, h3, h4, h5, h6⟩ => by
    have := h3.len
    have := h4.len
    subst h5 h6
    simp only [List.length_append, List.length_cons]; omega
theorem Tr.len {o : Nat → Prop} {w : World} {p h xs} (hh : Tr o w p h xs) : h ≤ xs.length := by
  obtain ⟨f, hh⟩ := hh
  exact hh.len
theorem Tr.pos {o : Nat → Prop} {w : World} {a : Addr} {h : Nat} {xs : List Rw} (hh : Tr o w (some a) h xs) : 0 < h := by
  obtain ⟨_, _, _, _, _, _, _, _, _, _, _, _, _, _, h⟩ := hh.node
  omega
theorem Tr.isNode {o : Nat → Prop} {w : World} {p : Option Addr} {h : Nat} {xs : List Rw} (hh : Tr o w p h xs) (h0 : 0 < h) : ∃ a, p = some a := by
  cases p with
  | none => have := hh.nil0; omega
  | some a => exact ⟨a, rfl⟩
theorem height_c (o : Nat → Prop) (p : Option Addr) (h : Nat) (xs : List Rw) (w : World) (hh : Tr o w p h xs) : Calls Try.prog 44 #[.pointer p] w fun r w' => r = .returned (.int .i64 h) ∧ w' = w := by
  cases p with
  | none =>
    obtain ⟨rfl, rfl⟩ := hh.nil0
    go_enter Try.func44, Try.ntmps44
    go_wp2
    go_ret
    exact ⟨rfl, rfl⟩
  | some a =>
    obtain ⟨b, l, x, r, pl, pr, hl, hr, rfl, ob, hb, h3, h4, h5, h6⟩ := hh.node
    have hc : w.cell? ⟨b, 5, none⟩ = some (.int .i64 h) := hb.cell 5
    clear ob hb hh h3 h4 h5 h6
    go_enter Try.func44, Try.ntmps44
    go_wp2
    go_ret
    exact ⟨rfl, rfl⟩
theorem count_c (o : Nat → Prop) (p : Option Addr) (h : Nat) (xs : List Rw) (w : World) (hh : Tr o w p h xs) : Calls Try.prog 21 #[.pointer p] w fun r w' => r = .returned (.int .i64 xs.length) ∧ w' = w := by
  cases p with
  | none =>
    obtain ⟨rfl, rfl⟩ := hh.nil0
    go_enter Try.func21, Try.ntmps21
    go_wp2
    go_ret
    exact ⟨rfl, rfl⟩
  | some a =>
    obtain ⟨b, l, x, r, pl, pr, hl, hr, rfl, ob, hb, h3, h4, h5, h6⟩ := hh.node
    have hc : w.cell? ⟨b, 6, none⟩ = some (.int .i64 xs.length) := hb.cell 6
    clear ob hb hh h3 h4 h5 h6
    go_enter Try.func21, Try.ntmps21
    go_wp2
    go_ret
    exact ⟨rfl, rfl⟩
theorem size_c (o : Nat → Prop) (p : Option Addr) (h : Nat) (xs : List Rw) (w : World) (hh : Tr o w p h xs) : Calls Try.prog 25 #[.pointer p] w fun r w' => r = .returned (.int .i64 (szs xs : Nat)) ∧ w' = w := by
  cases p with
  | none =>
    obtain ⟨rfl, rfl⟩ := hh.nil0
    go_enter Try.func25, Try.ntmps25
    go_wp2
    go_ret
    exact ⟨rfl, rfl⟩
  | some a =>
    obtain ⟨b, l, x, r, pl, pr, hl, hr, rfl, ob, hb, h3, h4, h5, h6⟩ := hh.node
    have hc : w.cell? ⟨b, 7, none⟩ = some (.int .i64 (szs xs : Nat)) := hb.cell 7
    clear ob hb hh h3 h4 h5 h6
    go_enter Try.func25, Try.ntmps25
    go_wp2
    go_ret
    exact ⟨rfl, rfl⟩
theorem place_c (x : Rw) (w : World) : Calls Try.prog 74 #[iv x] w fun r w' => r = .returned (.string x.1) ∧ w.grownBy w' none := by
  obtain ⟨k, v, n⟩ := x
  unfold iv
  go_enter Try.func74, Try.ntmps74
  go_wp2
  go_ret
  exact ⟨rfl, gb_alloc _ _⟩
theorem w64 (x : Int) (h : -9223372036854775808 ≤ x ∧ x ≤ 9223372036854775807) : wrap64 x = x := IntWalk.wrap64_in x h
theorem rsize_c (x : Rw) (w : World) (hz : sz x < 4611686018427387904) : Calls Try.prog 75 #[iv x] w fun r w' => r = .returned (.int .i64 (sz x : Nat)) ∧ w.grownBy w' none := by
  obtain ⟨k, v, n⟩ := x
  have e : wrap64 ((k.size : Int) + (v.size : Int)) = ((sz (k, v, n) : Nat) : Int) := by
    have h1 : sz (k, v, n) = k.size + v.size := rfl
    rw [w64 _ (by omega), h1]; omega
  generalize sz (k, v, n) = z at *
  unfold iv
  go_enter Try.func75, Try.ntmps75
  go_wp2
  go_ret
  exact ⟨congrArg _ (congrArg _ e), gb_alloc _ _⟩
theorem szs_cons (x : Rw) (l : List Rw) : szs (x :: l) = sz x + szs l := by simp [szs]
/-- Lists that no number outgrows. -/
def Sm (xs : List Rw) : Prop := xs.length < 4611686018427387904 ∧ szs xs < 4611686018427387904
/-- What is answered is a tree that holds these rows. -/
def TR (o : Nat → Prop) (w : World) (xs : List Rw) : Ending → World → Prop := fun e w' => ∃ p h, e = .returned (.pointer p) ∧ Tr o w' p h xs ∧ w.grownBy w' none
theorem nc_range {W : World} {b : Nat} {x : Rw} {pl pr : Option Addr} {h n z : Nat} (hb : Bk 62 W b (nc x pl pr h n z)) : W.rangeAt b 0 [.string x.1, .string x.2.1, .int .i64 x.2.2] := fun j v hv => by
  rw [Nat.zero_add, hb.cell]
  match j, hv with
  | 0, hv => exact hv
  | 1, hv => exact hv
  | 2, hv => exact hv
  | j + 3, hv => simp at hv
theorem it_range {T : TypeId} {W : World} {b : Nat} {x : Rw} (hb : Bk T W b (ivs x)) : W.rangeAt b 0 [.string x.1, .string x.2.1, .int .i64 x.2.2] := fun j v hv => by
  rw [Nat.zero_add, hb.cell]
  match j, hv with
  | 0, hv => exact hv
  | 1, hv => exact hv
  | 2, hv => exact hv
  | j + 3, hv => simp at hv
theorem infoItem : (Try.prog.info? 52).map (·.size) = some 3 := by kernel_rfl
end Go.Proofs.Ytdmchcdkfbijlab

/-
  What sameRows answers of two lists of the same rows: true; and rows that came in: what a law is told of them. Condition: at most 2^20 rows.
  Rows that came in: what a law is told of them; and rows of one's own: some appended. No condition of its own.
-/
import Derived.Test.YthbnbomdngecmaaMLg
import Derived.Test.YthbnbomdngecmaaRows
import Derived.BigQuiet
import Derived.Laws.StructEq
import Derived.WalkKit
import Derived.ProofKit
import Derived.OpenShut
import Derived.Deep.Slices
import Derived.Deep.Matrix
import Derived.Deep.Strs
import Derived.Laws.AppendOwnNone
namespace Go.Proofs.Ythbnbomdngecmaa
open Go.RowKit
set_option linter.unusedVariables false

theorem Rws.later {n0 : Nat} {w W : World} {a : Option Addr} {X : List Rw} (h : Rws n0 w a X) (hn : n0 ≤ w.heap.size) (hg : w.grownBy W none) : Rws n0 W a X := h.kb (KB.gb hg hn)
set_option maxRecDepth 20000 in
set_option maxHeartbeats 1000000 in
theorem sameR_c (a1 a2 : Option Addr) (c1 c2 n1 n2 : Nat) (X : List Rw) (w : World) (h1 : Rws n1 w a1 X) (h2 : Rws n2 w a2 X) (hn1 : n1 ≤ w.heap.size) (hn2 : n2 ≤ w.heap.size) (hX : X.length ≤ 1048576) :
    Calls Try.prog 9 #[.slice a1 X.length c1, .slice a2 X.length c2] w fun r w' => r = .returned (.bool true) ∧ w.grownBy w' none := by
  have HS : Hid (Rws n1 w a1 X ∧ Rws n2 w a2 X ∧ n1 ≤ w.heap.size ∧ n2 ≤ w.heap.size) := ⟨h1, h2, hn1, hn2⟩
  obtain ⟨n, hn⟩ : ∃ n, n = X.length := ⟨_, rfl⟩
  have HN : Hid (n = X.length) := hn
  rw [← hn] at hX ⊢
  clear h1 h2 hn hn1 hn2
  go_enter Try.func9, Try.ntmps9
  go_wp2
  go_loopw [5] (fun i wr => ∃ k : Nat, k ≤ n ∧ i = .int .i64 k ∧ Hid (w.grownBy wr none)) (fun i _ => n - (intOf i).toNat)
  case atStart => exact ⟨0, Nat.zero_le _, rfl, World.grownBy.refl _ _⟩
  case round =>
    obtain ⟨k, hk, rfl, hr⟩ := hrel
    by_cases hlt : k < n
    · have hi1 : (k : Int) < n := by omega
      have hi0 : (0 : Int) ≤ k := by omega
      have hne : X ≠ [] := fun e => by have := HN.out; rw [e] at this; simp at this; omega
      obtain ⟨b1, o1, rfl, hb1, hc1⟩ := (HS.out.1.later HS.out.2.2.1 hr.out).resolve_left hne
      obtain ⟨b2, o2, rfl, hb2, hc2⟩ := (HS.out.2.1.later HS.out.2.2.2 hr.out).resolve_left hne
      obtain ⟨d0, d1, d2⟩ := hc1 k (by have := HN.out; omega)
      obtain ⟨e0, e1, e2⟩ := hc2 k (by have := HN.out; omega)
      clear hc1 hc2 hne
      generalize X.getD k rw0 = r at d0 d1 d2 e0 e1 e2
      obtain ⟨kf, kv, kn⟩ := r
      simp only at d0 d1 d2 e0 e1 e2
      go_wp2
      go_quiet (fail)
      generalize hW5 : World.drewN wr _ = W5
      have H5 : Hid (w.grownBy W5 none) := by rw [← hW5]; exact gb_drewN hr.out _
      clear hW5
      go_wp2
      go_roundw
      case rel => exact ⟨k + 1, by omega, by go_num, H5⟩
      case measure => simp [intOf]; omega
    · obtain rfl : k = n := by omega
      go_wp2
      go_ret
      exact ⟨rfl, hr.out⟩
end Go.Proofs.Ythbnbomdngecmaa
namespace Go.Proofs.Ythbnbomdngecmaa
open Go.RowKit Go.WideShapes Go.ChangeShapes
set_option linter.unusedVariables false

theorem bulk_memR {H : Type} {d : DataW H} {l : List (DataW H)} (h : d ∈ l) : Rows.uptoBulk d ≤ Rows.uptoBulkAll l := by
  induction l with
  | nil => cases h
  | cons x r ih =>
    simp only [Rows.uptoBulkAll]
    rcases List.mem_cons.1 h with rfl | h
    · omega
    · have := ih h; omega
theorem take_oneR {l : List Value} {k : Nat} {v : Value} (h : (l.drop k).take 1 = [v]) : l[k]? = some v := by
  have := congrArg (fun l => l[0]?) h
  simpa using this
theorem list3 {α : Type} {l : List α} {a b c : α} (h : l.length = 3) (h0 : l[0]? = some a) (h1 : l[1]? = some b) (h2 : l[2]? = some c) : l = [a, b, c] := by
  match l, h with
  | [x, y, z], _ =>
    simp at h0 h1 h2
    rw [h0, h1, h2]
theorem row_open {H : Type} {enc : TypeId × Value → H} {w : World} {fuel : Nat} {cs : List Value} {x : DataW H × List MemPlace}
    (h : DataW.trod enc Try.prog w 0 (fun _ => true) true fuel 30 cs = some x) : ∃ r : Rw, cs = [.string r.1, .string r.2.1, .int .i64 r.2.2] ∧ r.1.size + r.2.1.size + 4 ≤ Rows.uptoBulk x.1 := by
  obtain ⟨xs, m, _, hx, hl, hxl, hfs⟩ := DataW.trod_struct Try.underlying30 h
  have hxl3 : xs.length = 3 := hxl
  have get : ∀ i, i < 3 → ∃ y, xs[i]? = some y := fun i hi => ⟨_, List.getElem?_eq_getElem (by omega)⟩
  obtain ⟨y0, e0⟩ := get 0 (by omega)
  obtain ⟨y1, e1⟩ := get 1 (by omega)
  obtain ⟨y2, e2⟩ := get 2 (by omega)
  have z9 : Try.prog.cellsOf 9 = 1 := by kernel_rfl
  have z3 : Try.prog.cellsOf 3 = 1 := by kernel_rfl
  have zr : Try.prog.cellsOf 30 = 3 := by kernel_rfl
  have f0 : DataW.trod enc Try.prog w 0 (fun _ => true) true m 9 ((cs.drop 0).take (Try.prog.cellsOf 9)) = some y0 := (hfs 0 _ rfl).trans e0
  have f1 : DataW.trod enc Try.prog w 0 (fun _ => true) true m 9 ((cs.drop 1).take (Try.prog.cellsOf 9)) = some y1 := (hfs 1 _ rfl).trans e1
  have f2 : DataW.trod enc Try.prog w 0 (fun _ => true) true m 3 ((cs.drop 2).take (Try.prog.cellsOf 3)) = some y2 := (hfs 2 _ rfl).trans e2
  rw [z9] at f0 f1
  rw [z3] at f2
  obtain ⟨k, c0, k1, _⟩ := DataW.trod_string Try.underlying9 f0
  obtain ⟨v, c1, k2, _⟩ := DataW.trod_string Try.underlying9 f1
  obtain ⟨n, c2, k3, _⟩ := DataW.trod_int Try.underlying3 f2
  rw [zr] at hl
  refine ⟨(k, v, n), ?_, ?_⟩
  · have q0 := take_oneR c0
    have q1 := take_oneR c1
    have q2 := take_oneR c2
    exact list3 hl q0 q1 q2
  · have hx3 := list3 hxl3 e0 e1 e2
    have hd : x.1 = _ := congrArg Prod.fst hx
    rw [hd, hx3]
    simp only [List.map_cons, List.map_nil, Rows.uptoBulk, Rows.uptoBulkAll, k1, k2, k3]
    simp
    omega
/-- How much rows hold. -/
def totR : List Rw → Nat
  | [] => 0
  | r :: l => (r.1.size + r.2.1.size + 4) + totR l
theorem tot_map {H : Type} (F : Nat → Rw) (D : Nat → DataW H) : ∀ l : List Nat, (∀ i ∈ l, (F i).1.size + (F i).2.1.size + 4 ≤ Rows.uptoBulk (D i)) → totR (l.map F) ≤ Rows.uptoBulkAll (l.map D)
  | [], _ => by simp [totR]
  | i :: l, h => by
    have h1 := h i (by simp)
    have h2 := tot_map F D l (fun j hj => h j (by simp [hj]))
    simp only [List.map_cons, totR, Rows.uptoBulkAll]
    omega
theorem rows_open {H : Type} {enc : TypeId × Value → H} {w : World} {v : Value} {d : DataW H} {p : List MemPlace} (sa : Option Addr) (sl sc : Nat) (hv : v = .slice sa sl sc)
    (h : DataW.Trod enc Try.prog w 0 (fun _ => true) true 28 v d p) : ∃ a cap X, v = .slice a X.length cap ∧ Rws w.heap.size w a X ∧ X.length ≤ cap ∧ cap ≤ maxLen ∧ (a = none → cap = 0) ∧ totR X ≤ Rows.uptoBulk d := by
  obtain ⟨fuel, hf⟩ := h
  subst hv
  rcases Go.Deep.open_slice Try.underlying28 hf with ⟨hcs, hx⟩ | ⟨a, len, cap, m, n, D, Pl, hcs, _, hlc, hcm, hm, hx, hr⟩
  · simp [Value.cells] at hcs
    obtain ⟨rfl, rfl, rfl⟩ := hcs
    exact ⟨none, 0, [], rfl, .inl rfl, Nat.le_refl _, Nat.zero_le _, fun _ => rfl, Nat.zero_le _⟩
  · simp [Value.cells] at hcs
    obtain ⟨rfl, rfl, rfl⟩ := hcs
    have zo : Try.prog.cellsOf 30 = 3 := by kernel_rfl
    simp only [if_true] at hm
    rw [hm] at hr hx
    rw [zo] at hr
    have hop : ∀ i, i < sc → ∃ r : Rw, w.cells? 0 (a.add (i * 3)) 3 = some [.string r.1, .string r.2.1, .int .i64 r.2.2] ∧ r.1.size + r.2.1.size + 4 ≤ Rows.uptoBulk (D i) := by
      intro i hi
      obtain ⟨cs', h1, h2⟩ := hr i hi
      obtain ⟨r, e, hb⟩ := row_open h2
      exact ⟨r, by rw [h1, e], hb⟩
    have hex : ∃ F : Nat → Rw, ∀ i, i < sc → w.cells? 0 (a.add (i * 3)) 3 = some [.string (F i).1, .string (F i).2.1, .int .i64 (F i).2.2] ∧ (F i).1.size + (F i).2.1.size + 4 ≤ Rows.uptoBulk (D i) := by
      refine ⟨fun i => if h : i < sc then Classical.choose (hop i h) else rw0, fun i hi => ?_⟩
      simp only [hi, dif_pos]
      exact Classical.choose_spec (hop i hi)
    obtain ⟨F, hF⟩ := hex
    have htot : totR ((List.range sl).map F) ≤ Rows.uptoBulk d := by
      have hd : d = _ := congrArg Prod.fst hx
      rw [hd]
      simp only [Rows.uptoBulk]
      have := tot_map F D (List.range sl) (fun i hi => (hF i (by have := List.mem_range.1 hi; omega)).2)
      omega
    refine ⟨some a, sc, (List.range sl).map F, by simp, ?_, by simpa using hlc, hcm, (fun h => by cases h), htot⟩
    by_cases h0 : sl = 0
    · subst h0; exact .inl rfl
    · right
      obtain ⟨b, off, spot⟩ := a
      have c0 := (World.cells?_some (hF 0 (by omega)).1).2.2 0 (by omega)
      simp only [List.getElem?_cons_zero] at c0
      have hspot : spot = none := by simpa [Addr.add] using World.cell?_spot c0
      subst hspot
      have hlt : b < w.heap.size := by
        rcases Nat.lt_or_ge b w.heap.size with h' | h'
        · exact h'
        · simp [World.cell?, Addr.add, h'] at c0
      refine ⟨b, off, rfl, hlt, fun i hi => ?_⟩
      have hi' : i < sl := by simpa using hi
      have eF : ((List.range sl).map F).getD i rw0 = F i := by simp [hi']
      have q := (World.cells?_some (hF i (by omega)).1).2.2
      have q0 := q 0 (by omega)
      have q1 := q 1 (by omega)
      have q2 := q 2 (by omega)
      rw [add_plain, add_plain] at q0 q1 q2
      rw [eF]
      exact ⟨q0, q1, q2⟩
theorem tot_each (X : List Rw) (i : Nat) : (X.getD i rw0).1.size + (X.getD i rw0).2.1.size ≤ totR X := by
  induction X generalizing i with
  | nil => simp [rw0]
  | cons r l ih =>
    cases i with
    | zero => simp only [List.getD_cons_zero, totR]; omega
    | succ i => have := ih i; simp only [List.getD_cons_succ, totR]; omega
theorem sml_of {X : List Rw} (h : totR X ≤ 1048576) : Sml X := fun i => by have := tot_each X i; omega
theorem tot_len (X : List Rw) : 4 * X.length ≤ totR X := by
  induction X with
  | nil => simp
  | cons r l ih => simp only [List.length_cons, totR]; omega
theorem pic_tot (X : List Rw) (h : totR X ≤ 1048576) (k : Nat) (hk : k ≤ X.length) : (picB X (List.range k)).length ≤ k * 2097182 := by
  induction k with
  | zero => simp [picB]
  | succ k ih =>
    have h1 := rowB_len (X.getD k rw0).1 (X.getD k rw0).2.1 (X.getD k rw0).2.2 (sml_of h k).1 (sml_of h k).2
    have h2 := tot_each X k
    have h3 := ih (by omega)
    rw [picB_snoc, List.length_append]
    unfold rowBr
    omega
theorem pic_small {X : List Rw} (h : totR X ≤ 1048576) : (picB X (List.range X.length)).length ≤ 1099511627000 := by
  have h1 := pic_tot X h X.length (Nat.le_refl _)
  have h2 := tot_len X
  omega
end Go.Proofs.Ythbnbomdngecmaa

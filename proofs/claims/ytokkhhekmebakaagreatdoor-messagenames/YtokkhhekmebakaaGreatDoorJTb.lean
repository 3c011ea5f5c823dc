/-
  The kinds of messages as plain lists (names, ways as bits, ways as texts, fields by number), and what the document's Table answers: memory of its own that holds them. No condition.
-/
import Derived.Test.YtokkhhekmebakaaGreatDoorRows
import Derived.RowKit
import Derived.WalkKit
import Derived.Below
namespace Go.Proofs.YtokkhhekmebakaaGreatDoor
open Go.RowKit
set_option linter.unusedVariables false

/-- The kinds' names; their ways as the document has them, as bits; as the program has them, as a text; the fields' numbers. -/
def tnms : List ByteArray := [⟨#[]⟩, ⟨#[114, 101, 113, 117, 101, 115, 116]⟩, ⟨#[114, 101, 112, 108, 121]⟩, ⟨#[114, 101, 97, 100]⟩, ⟨#[118, 97, 108, 117, 101]⟩, ⟨#[119, 114, 111, 110, 103]⟩, ⟨#[108, 111, 111, 107, 117, 112]⟩, ⟨#[99, 111, 110, 102, 105, 103]⟩, ⟨#[97, 100, 111, 112, 116, 101, 100]⟩, ⟨#[102, 111, 114, 119, 97, 114, 100]⟩, ⟨#[97, 99, 107]⟩, ⟨#[113, 117, 101, 114, 121]⟩, ⟨#[97, 110, 115, 119, 101, 114]⟩, ⟨#[106, 111, 105, 110]⟩, ⟨#[98, 101, 103, 105, 110]⟩, ⟨#[111, 112, 101, 110]⟩, ⟨#[111, 112, 101, 110, 101, 100]⟩, ⟨#[112, 114, 111, 98, 101]⟩, ⟨#[100, 105, 103, 101, 115, 116, 115]⟩, ⟨#[119, 97, 110, 116]⟩, ⟨#[99, 104, 117, 110, 107]⟩, ⟨#[103, 111, 116]⟩, ⟨#[100, 101, 108, 116, 97]⟩, ⟨#[99, 97, 117, 103, 104, 116]⟩, ⟨#[97, 98, 111, 114, 116]⟩, ⟨#[114, 101, 97, 100, 121]⟩, ⟨#[112, 114, 101, 112, 97, 114, 101]⟩, ⟨#[112, 114, 101, 112, 97, 114, 101, 100]⟩, ⟨#[99, 97, 110, 99, 101, 108]⟩]
def twys : List Int := [0, 2, 4, 2, 4, 4, 24, 96, 8, 1, 1, 1, 1, 8, 32, 1, 1, 1, 1, 1, 1, 1, 1, 1, 9, 8, 32, 8, 32]
def ttxs : List ByteArray := [⟨#[]⟩, ⟨#[99, 62, 110]⟩, ⟨#[110, 62, 99]⟩, ⟨#[99, 62, 110]⟩, ⟨#[110, 62, 99]⟩, ⟨#[110, 62, 99]⟩, ⟨#[110, 62, 109, 32, 99, 62, 109]⟩, ⟨#[109, 62, 110, 32, 109, 62, 99]⟩, ⟨#[110, 62, 109]⟩, ⟨#[110, 62, 110]⟩, ⟨#[110, 62, 110]⟩, ⟨#[110, 62, 110]⟩, ⟨#[110, 62, 110]⟩, ⟨#[110, 62, 109]⟩, ⟨#[109, 62, 110]⟩, ⟨#[110, 62, 110]⟩, ⟨#[110, 62, 110]⟩, ⟨#[110, 62, 110]⟩, ⟨#[110, 62, 110]⟩, ⟨#[110, 62, 110]⟩, ⟨#[110, 62, 110]⟩, ⟨#[110, 62, 110]⟩, ⟨#[110, 62, 110]⟩, ⟨#[110, 62, 110]⟩, ⟨#[110, 62, 110, 32, 110, 62, 109]⟩, ⟨#[110, 62, 109]⟩, ⟨#[109, 62, 110]⟩, ⟨#[110, 62, 109]⟩, ⟨#[109, 62, 110]⟩]
def tfls : List (List Int) := [[], [4, 5, 11], [0, 4, 5, 13], [4, 5, 10], [0, 4, 5, 14], [4, 5, 15], [1, 3], [15], [0], [0, 12], [0, 9, 7], [0, 4, 5], [0, 4, 5, 9], [6], [2, 6, 15], [0, 2, 6, 16], [2, 6, 16, 17], [2, 18, 19], [2, 18, 19, 20], [2, 21], [2, 22], [2, 9], [2, 12], [2, 6, 9], [2], [2, 6, 9], [0, 2, 8], [0, 2, 9], [0, 2]]
def tnm (k : Nat) : ByteArray := tnms.getD k ⟨#[]⟩
def twy (k : Nat) : Int := twys.getD k 0
def ttx (k : Nat) : ByteArray := ttxs.getD k ⟨#[]⟩
def tfl (k : Nat) : List Int := tfls.getD k []
/-- Numbers that can be read. -/
def Fls (w : World) (v : Value) (xs : List Int) : Prop := ∃ a : Option Addr, v = .slice a xs.length xs.length ∧ (xs = [] ∧ a = none ∨ ∃ g, a = some ⟨g, 0, none⟩ ∧ ∀ i, i < xs.length → w.cell? ⟨g, i, none⟩ = some (.int .i64 (xs.getD i 0)))
/-- The table as memory holds it. -/
def Tb (w : World) (b : Nat) : Prop := ∀ k, k < 29 → w.cell? ⟨b, 3 * k, none⟩ = some (.string (tnm k)) ∧ w.cell? ⟨b, 3 * k + 1, none⟩ = some (.int .i64 (twy k)) ∧ ∃ v, w.cell? ⟨b, 3 * k + 2, none⟩ = some v ∧ Fls w v (tfl k)
theorem gb_al {a b : World} (h : a.grownBy b none) (o : Obj) : a.grownBy (b.alloc o) none :=
  ⟨h.os, h.tape, h.output, by simp only [World.size_alloc]; exact Nat.le_succ_of_le h.size, fun i hi hn => (Below.heap_alloc b o i (Nat.lt_of_lt_of_le hi h.size)).trans (h.block i hi hn)⟩
theorem gb_rf (w : World) : w.grownBy w none := ⟨rfl, rfl, rfl, Nat.le_refl _, fun _ _ _ => rfl⟩
/-- Lists of numbers laid down one behind the other. -/
def alls (w : World) (xs : List (List Int)) : World := xs.foldl (fun w l => w.alloc (.cells (l.map (Value.int .i64)).toArray 3)) w
theorem alls_size : ∀ (xs : List (List Int)) (w : World), (alls w xs).heap.size = w.heap.size + xs.length
  | [], w => rfl
  | x :: xs, w => by
    show (alls (w.alloc _) xs).heap.size = _
    rw [alls_size xs]; simp only [World.size_alloc, List.length_cons]; omega
theorem alls_gb : ∀ (xs : List (List Int)) (w v : World), v.grownBy w none → v.grownBy (alls w xs) none
  | [], w, v, h => h
  | x :: xs, w, v, h => alls_gb xs (w.alloc _) v (gb_al h _)
theorem alls_cell : ∀ (xs : List (List Int)) (w : World) (i j : Nat), i < xs.length → (alls w xs).cell? ⟨w.heap.size + i, j, none⟩ = ((xs.getD i []).map (Value.int .i64)).toArray[j]?
  | x :: xs, w, 0, j, _ => by
    have hg := alls_gb xs (w.alloc (.cells (x.map (Value.int .i64)).toArray 3)) _ (gb_rf _)
    have h1 : (alls (w.alloc (.cells (x.map (Value.int .i64)).toArray 3)) xs).cell? ⟨w.heap.size, j, none⟩ = (w.alloc (.cells (x.map (Value.int .i64)).toArray 3)).cell? ⟨w.heap.size, j, none⟩ :=
      World.cell?_of_block (hg.block w.heap.size (by simp only [World.size_alloc]; omega) (by simp))
    exact h1.trans (World.cell?_alloc_new w _ _ _)
  | x :: xs, w, i + 1, j, h => by
    have := alls_cell xs (w.alloc (.cells (x.map (Value.int .i64)).toArray 3)) i j (by simpa using h)
    simp only [World.size_alloc] at this
    have e : w.heap.size + (i + 1) = w.heap.size + 1 + i := by omega
    rw [e]; exact this
def lns (B : Nat) : List Value := [.string (tnm 0), .int .i64 (twy 0), .slice none 0 0, .string (tnm 1), .int .i64 (twy 1), .slice (some ⟨B + 0, 0, none⟩) 3 3, .string (tnm 2), .int .i64 (twy 2), .slice (some ⟨B + 1, 0, none⟩) 4 4, .string (tnm 3), .int .i64 (twy 3), .slice (some ⟨B + 2, 0, none⟩) 3 3, .string (tnm 4), .int .i64 (twy 4), .slice (some ⟨B + 3, 0, none⟩) 4 4, .string (tnm 5), .int .i64 (twy 5), .slice (some ⟨B + 4, 0, none⟩) 3 3, .string (tnm 6), .int .i64 (twy 6), .slice (some ⟨B + 5, 0, none⟩) 2 2, .string (tnm 7), .int .i64 (twy 7), .slice (some ⟨B + 6, 0, none⟩) 1 1, .string (tnm 8), .int .i64 (twy 8), .slice (some ⟨B + 7, 0, none⟩) 1 1, .string (tnm 9), .int .i64 (twy 9), .slice (some ⟨B + 8, 0, none⟩) 2 2, .string (tnm 10), .int .i64 (twy 10), .slice (some ⟨B + 9, 0, none⟩) 3 3, .string (tnm 11), .int .i64 (twy 11), .slice (some ⟨B + 10, 0, none⟩) 3 3, .string (tnm 12), .int .i64 (twy 12), .slice (some ⟨B + 11, 0, none⟩) 4 4, .string (tnm 13), .int .i64 (twy 13), .slice (some ⟨B + 12, 0, none⟩) 1 1, .string (tnm 14), .int .i64 (twy 14), .slice (some ⟨B + 13, 0, none⟩) 3 3, .string (tnm 15), .int .i64 (twy 15), .slice (some ⟨B + 14, 0, none⟩) 4 4, .string (tnm 16), .int .i64 (twy 16), .slice (some ⟨B + 15, 0, none⟩) 4 4, .string (tnm 17), .int .i64 (twy 17), .slice (some ⟨B + 16, 0, none⟩) 3 3, .string (tnm 18), .int .i64 (twy 18), .slice (some ⟨B + 17, 0, none⟩) 4 4, .string (tnm 19), .int .i64 (twy 19), .slice (some ⟨B + 18, 0, none⟩) 2 2, .string (tnm 20), .int .i64 (twy 20), .slice (some ⟨B + 19, 0, none⟩) 2 2, .string (tnm 21), .int .i64 (twy 21), .slice (some ⟨B + 20, 0, none⟩) 2 2, .string (tnm 22), .int .i64 (twy 22), .slice (some ⟨B + 21, 0, none⟩) 2 2, .string (tnm 23), .int .i64 (twy 23), .slice (some ⟨B + 22, 0, none⟩) 3 3, .string (tnm 24), .int .i64 (twy 24), .slice (some ⟨B + 23, 0, none⟩) 1 1, .string (tnm 25), .int .i64 (twy 25), .slice (some ⟨B + 24, 0, none⟩) 3 3, .string (tnm 26), .int .i64 (twy 26), .slice (some ⟨B + 25, 0, none⟩) 3 3, .string (tnm 27), .int .i64 (twy 27), .slice (some ⟨B + 26, 0, none⟩) 3 3, .string (tnm 28), .int .i64 (twy 28), .slice (some ⟨B + 27, 0, none⟩) 2 2]
theorem all29 {P : Nat → Prop} (h0 : P 0) (h1 : P 1) (h2 : P 2) (h3 : P 3) (h4 : P 4) (h5 : P 5) (h6 : P 6) (h7 : P 7) (h8 : P 8) (h9 : P 9) (h10 : P 10) (h11 : P 11) (h12 : P 12) (h13 : P 13) (h14 : P 14) (h15 : P 15) (h16 : P 16) (h17 : P 17) (h18 : P 18) (h19 : P 19) (h20 : P 20) (h21 : P 21) (h22 : P 22) (h23 : P 23) (h24 : P 24) (h25 : P 25) (h26 : P 26) (h27 : P 27) (h28 : P 28) : ∀ k, k < 29 → P k
  | 0, _ => h0
  | 1, _ => h1
  | 2, _ => h2
  | 3, _ => h3
  | 4, _ => h4
  | 5, _ => h5
  | 6, _ => h6
  | 7, _ => h7
  | 8, _ => h8
  | 9, _ => h9
  | 10, _ => h10
  | 11, _ => h11
  | 12, _ => h12
  | 13, _ => h13
  | 14, _ => h14
  | 15, _ => h15
  | 16, _ => h16
  | 17, _ => h17
  | 18, _ => h18
  | 19, _ => h19
  | 20, _ => h20
  | 21, _ => h21
  | 22, _ => h22
  | 23, _ => h23
  | 24, _ => h24
  | 25, _ => h25
  | 26, _ => h26
  | 27, _ => h27
  | 28, _ => h28
  | k + 29, h => absurd h (by omega)
def tblW (w : World) : World := (alls w tfls.tail).alloc (.cells (lns w.heap.size).toArray 28)
theorem lns_at (w : World) (j : Nat) : (tblW w).cell? ⟨w.heap.size + 28, j, none⟩ = (lns w.heap.size).toArray[j]? := by
  have hb : w.heap.size + 28 = (alls w tfls.tail).heap.size := by rw [alls_size]; rfl
  rw [hb]; exact World.cell?_alloc_new _ _ _ _
theorem fls_of (w : World) (i n : Nat) (xs : List Int) (hi : i < 28) (hx : tfls.tail.getD i [] = xs) (hn : n = xs.length) : Fls (tblW w) (.slice (some ⟨w.heap.size + i, 0, none⟩) n n) xs := by
  subst hn
  refine ⟨_, rfl, .inr ⟨_, rfl, fun j hj => ?_⟩⟩
  have h1 : (tblW w).cell? ⟨w.heap.size + i, j, none⟩ = (alls w tfls.tail).cell? ⟨w.heap.size + i, j, none⟩ :=
    World.cell?_alloc_lt _ _ _ (by rw [alls_size]; show w.heap.size + i < w.heap.size + 28; omega)
  rw [h1, alls_cell tfls.tail w i j hi, hx]
  simp [hj]
theorem tb_of (w : World) : Tb (tblW w) (w.heap.size + 28) :=
  all29 ⟨lns_at w 0, lns_at w 1, _, lns_at w 2, none, rfl, .inl ⟨rfl, rfl⟩⟩
    ⟨lns_at w 3, lns_at w 4, _, lns_at w 5, fls_of w 0 _ _ (by omega) rfl rfl⟩
    ⟨lns_at w 6, lns_at w 7, _, lns_at w 8, fls_of w 1 _ _ (by omega) rfl rfl⟩
    ⟨lns_at w 9, lns_at w 10, _, lns_at w 11, fls_of w 2 _ _ (by omega) rfl rfl⟩
    ⟨lns_at w 12, lns_at w 13, _, lns_at w 14, fls_of w 3 _ _ (by omega) rfl rfl⟩
    ⟨lns_at w 15, lns_at w 16, _, lns_at w 17, fls_of w 4 _ _ (by omega) rfl rfl⟩
    ⟨lns_at w 18, lns_at w 19, _, lns_at w 20, fls_of w 5 _ _ (by omega) rfl rfl⟩
    ⟨lns_at w 21, lns_at w 22, _, lns_at w 23, fls_of w 6 _ _ (by omega) rfl rfl⟩
    ⟨lns_at w 24, lns_at w 25, _, lns_at w 26, fls_of w 7 _ _ (by omega) rfl rfl⟩
    ⟨lns_at w 27, lns_at w 28, _, lns_at w 29, fls_of w 8 _ _ (by omega) rfl rfl⟩
    ⟨lns_at w 30, lns_at w 31, _, lns_at w 32, fls_of w 9 _ _ (by omega) rfl rfl⟩
    ⟨lns_at w 33, lns_at w 34, _, lns_at w 35, fls_of w 10 _ _ (by omega) rfl rfl⟩
    ⟨lns_at w 36, lns_at w 37, _, lns_at w 38, fls_of w 11 _ _ (by omega) rfl rfl⟩
    ⟨lns_at w 39, lns_at w 40, _, lns_at w 41, fls_of w 12 _ _ (by omega) rfl rfl⟩
    ⟨lns_at w 42, lns_at w 43, _, lns_at w 44, fls_of w 13 _ _ (by omega) rfl rfl⟩
    ⟨lns_at w 45, lns_at w 46, _, lns_at w 47, fls_of w 14 _ _ (by omega) rfl rfl⟩
    ⟨lns_at w 48, lns_at w 49, _, lns_at w 50, fls_of w 15 _ _ (by omega) rfl rfl⟩
    ⟨lns_at w 51, lns_at w 52, _, lns_at w 53, fls_of w 16 _ _ (by omega) rfl rfl⟩
    ⟨lns_at w 54, lns_at w 55, _, lns_at w 56, fls_of w 17 _ _ (by omega) rfl rfl⟩
    ⟨lns_at w 57, lns_at w 58, _, lns_at w 59, fls_of w 18 _ _ (by omega) rfl rfl⟩
    ⟨lns_at w 60, lns_at w 61, _, lns_at w 62, fls_of w 19 _ _ (by omega) rfl rfl⟩
    ⟨lns_at w 63, lns_at w 64, _, lns_at w 65, fls_of w 20 _ _ (by omega) rfl rfl⟩
    ⟨lns_at w 66, lns_at w 67, _, lns_at w 68, fls_of w 21 _ _ (by omega) rfl rfl⟩
    ⟨lns_at w 69, lns_at w 70, _, lns_at w 71, fls_of w 22 _ _ (by omega) rfl rfl⟩
    ⟨lns_at w 72, lns_at w 73, _, lns_at w 74, fls_of w 23 _ _ (by omega) rfl rfl⟩
    ⟨lns_at w 75, lns_at w 76, _, lns_at w 77, fls_of w 24 _ _ (by omega) rfl rfl⟩
    ⟨lns_at w 78, lns_at w 79, _, lns_at w 80, fls_of w 25 _ _ (by omega) rfl rfl⟩
    ⟨lns_at w 81, lns_at w 82, _, lns_at w 83, fls_of w 26 _ _ (by omega) rfl rfl⟩
    ⟨lns_at w 84, lns_at w 85, _, lns_at w 86, fls_of w 27 _ _ (by omega) rfl rfl⟩
set_option maxHeartbeats 4000000 in
theorem table_c (w : World) : Calls Tryz.prog 8 #[] w fun r w' => ∃ b, r = .returned (.slice (some ⟨b, 0, none⟩) 29 29) ∧ Tb w' b ∧ w.grownBy w' none := by
  go_enter Tryz.func8, Tryz.ntmps8
  go_wp2
  go_ret
  refine ⟨w.heap.size + 28, rfl, ?_, ?_⟩
  · exact tb_of w
  · exact gb_al (alls_gb tfls.tail w w (gb_rf w)) _
end Go.Proofs.YtokkhhekmebakaaGreatDoor

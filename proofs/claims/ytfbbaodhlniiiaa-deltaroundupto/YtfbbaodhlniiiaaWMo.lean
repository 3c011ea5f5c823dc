/-
  A Writer of one's own: what its calls come to. Condition: what is laid down takes at most 2^47 bytes.
-/
import Derived.Test.YtfbbaodhlniiiaaWInt
import Derived.Test.YtfbbaodhlniiiaaWTx
import Derived.Test.YtfbbaodhlniiiaaWBy
namespace Go.Proofs.Ytfbbaodhlniiiaa
open Go.RowKit
set_option linter.unusedVariables false

theorem zeroWr : Try.zeroCells89 = (wcells 0 (.pointer none) (List.replicate 256 0) 0 0).toArray := by kernel_rfl
theorem ws_none {w : World} {g : Nat} (h : w.heap[g]? = some (.cells Try.zeroCells89 89 (0, 0))) : WS w g [] 0 [] := by
  rw [zeroWr] at h
  exact ⟨none, List.replicate 256 0, 0, [], ⟨h, List.length_replicate⟩, chain_nil _, by omega, rfl, by simp, fun i hi => by simp at hi⟩
/-- A writer of one's own, with blocks of one's own alone. -/
def WM (B : Nat) (w wr : World) (ys : List Int) (e : Int) : Prop := ∃ fs, WS wr B ys e fs ∧ (∀ k ∈ fs, B ≤ k) ∧ Below B w wr ∧ B ≤ wr.heap.size
theorem WM.goes {B w wr ys e ys' e'} {f : FuncId} {A : Array Value} {v : Value} (h : WM B w wr ys e) (hc : ∀ fs, WS wr B ys e fs → Calls Try.prog f A wr fun r w' => r = .returned v ∧ WGoes wr B fs w' ys' e') : Calls Try.prog f A wr fun r w' => r = .returned v ∧ WM B w w' ys' e' := by
  obtain ⟨fs, h1, h2, h3, h4⟩ := h
  refine (hc fs h1).mono ?_
  rintro r w' ⟨hr, fs', k1, k2, k3⟩
  have := k2.size
  exact ⟨hr, fs', k1, fun k hk => by rcases k3 k hk with q | q; exact h2 k q; omega, k2.below h3 (fun k hk => by omega) h4, by omega⟩
theorem WM.drew {B w wr w' ys e} (h : WM B w wr ys e) (hd : ∃ n, w' = wr.drewN n) : WM B w w' ys e := by
  obtain ⟨n, rfl⟩ := hd
  obtain ⟨fs, h1, h2, h3, h4⟩ := h
  have hg : wr.grownBy (wr.drewN n) none := gb_drewN (World.grownBy.refl _ _) n
  exact ⟨fs, h1.new hg, h2, h3.grown hg h4 (fun k hk => by cases hk), h4⟩
theorem WM.c0 {B w wr ys e} (h : WM B w wr ys e) : wr.cell? ⟨B, 0, none⟩ = some (.int .i64 e) := by obtain ⟨fs, h1, _⟩ := h; exact h1.c0
theorem WM.must_no {B w wr ys} (h : WM B w wr ys 0) (x : Int) (b : Bool) (hx : (x == 0) = false) (hb : b = false) : Calls Try.prog 60 #[.pointer (some ⟨B, 0, none⟩), .bool b, .int .i64 x] wr fun r w' => r = .returned (.bool false) ∧ WM B w w' ys x :=
  h.goes (fun fs hw => (wmust_no B ys fs wr hw x b hx hb).mono (fun r w' q => ⟨q.1, q.2.2⟩))
theorem WM.must_so {B w wr ys} (h : WM B w wr ys 0) (x : Int) (b : Bool) (hb : b = true) : Calls Try.prog 60 #[.pointer (some ⟨B, 0, none⟩), .bool b, .int .i64 x] wr fun r w' => r = .returned (.bool true) ∧ w' = wr := by
  obtain ⟨fs, h1, _⟩ := h
  exact wmust_so B ys fs wr h1 x b hb
theorem WM.must_late {B w wr ys e} (h : WM B w wr ys e) (x : Int) (b : Bool) (he : (e == 0) = false) : Calls Try.prog 60 #[.pointer (some ⟨B, 0, none⟩), .bool b, .int .i64 x] wr fun r w' => r = .returned (.bool false) ∧ w' = wr := wmust_late B wr e x b he h.c0
theorem WM.int {B w wr ys} (h : WM B w wr ys 0) (x most : Int) (h0 : 0 ≤ x) (h1 : x ≤ most) (hm : most ≤ 9223372036854775807) (hb : ys.length + 10 ≤ 140737488355328) : Calls Try.prog 56 #[.pointer (some ⟨B, 0, none⟩), .int .i64 x, .int .i64 most] wr fun r w' => r = .returned (.tuple #[]) ∧ WM B w w' (ys ++ enc x.toNat) 0 := by
  have e0 : ferr 0 (wie x most) = 0 := by unfold ferr wie; rw [if_pos rfl, if_neg (by omega), if_neg (by omega)]
  refine h.goes (fun fs hw => ?_)
  have := wint_c B ys 0 x most fs wr hw (by omega) hb
  rw [e0] at this
  unfold wadd at this
  rw [if_pos rfl] at this
  exact this
theorem WM.textm {B w wr ys} (h : WM B w wr ys 0) (s : ByteArray) (most : Int) (hm : (s.size : Int) ≤ most) (hs : s.size ≤ 1125899906842) (hb : ys.length + s.size + 10 ≤ 140737488355328) : Calls Try.prog 33 #[.pointer (some ⟨B, 0, none⟩), .string s, .int .i64 most] wr fun r w' => r = .returned (.tuple #[]) ∧ WM B w w' (ys ++ (enc s.size ++ sb s)) 0 := by
  have e0 : ferr 0 (wte s.size most) = 0 := by unfold ferr wte; rw [if_pos rfl, if_neg (by omega), if_neg (by omega)]
  refine h.goes (fun fs hw => ?_)
  have := wtext_c B ys 0 s most fs wr hw hs hb
  rw [e0] at this
  unfold wadd at this
  rw [if_pos rfl] at this
  exact this
theorem WM.text {B w wr ys} (h : WM B w wr ys 0) (s : ByteArray) (hs : s.size ≤ 65536) (hb : ys.length + s.size + 10 ≤ 140737488355328) : Calls Try.prog 33 #[.pointer (some ⟨B, 0, none⟩), .string s, .int .i64 65536] wr fun r w' => r = .returned (.tuple #[]) ∧ WM B w w' (ys ++ (enc s.size ++ sb s)) 0 := by
  have e0 : ferr 0 (wte s.size 65536) = 0 := by unfold ferr wte; rw [if_pos rfl, if_neg (by omega), if_neg (by omega)]
  refine h.goes (fun fs hw => ?_)
  have := wtext_c B ys 0 s 65536 fs wr hw (by omega) hb
  rw [e0] at this
  unfold wadd at this
  rw [if_pos rfl] at this
  exact this
theorem WM.bytes_no {B w wr ys e} (h : WM B w wr ys e) (he : (e == 0) = false) : Calls Try.prog 34 #[.pointer (some ⟨B, 0, none⟩)] wr fun r w' => r = .returned (.tuple #[.slice none 0 0, .int .i64 e]) ∧ Below B w w' := by
  obtain ⟨fs, h1, h2, h3, h4⟩ := h
  refine (wbytes_no B ys e fs wr h1 he).mono ?_
  rintro r w' ⟨hr, n, rfl⟩
  exact ⟨hr, h3.grown (gb_drewN (World.grownBy.refl wr none) n) h4 (fun k hk => by cases hk)⟩
theorem WM.bytes_ok {B w wr ys} (h : WM B w wr ys 0) (hb : ys.length ≤ 140737488355328) : Calls Try.prog 34 #[.pointer (some ⟨B, 0, none⟩)] wr fun r w' => ∃ b, r = .returned (.tuple #[.slice (some ⟨b, 0, none⟩) ys.length ys.length, .int .i64 0]) ∧ B ≤ b ∧ Row .u8 5 w' b ys ∧ Below B w w' := by
  obtain ⟨fs, h1, h2, h3, h4⟩ := h
  refine (wbytes_ok B ys fs wr h1 hb).mono ?_
  rintro r w' ⟨b, hr, hl, hrow, hbel⟩
  exact ⟨b, hr, by omega, hrow, h3.grown (grownBy_below hbel none) h4 (fun k hk => by cases hk)⟩
end Go.Proofs.Ytfbbaodhlniiiaa

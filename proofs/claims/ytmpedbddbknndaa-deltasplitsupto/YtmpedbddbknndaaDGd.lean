/-
  What the document's Decode answers of bytes. Condition: at most 2^47 bytes.
-/
import Derived.Test.YtmpedbddbknndaaDGt
namespace Go.Proofs.Ytmpedbddbknndaa.Dl
open Go.RowKit
set_option linter.unusedVariables false

/-- The place behind so many numbers; the number there; how many bytes it has. -/
def gp (xs : List Int) : Nat → Nat
  | 0 => 0
  | k + 1 => gp xs k + (grd (xs.drop (gp xs k)) 0 0).2
def gn (xs : List Int) (k : Nat) : Nat := (grd (xs.drop (gp xs k)) 0 0).1
def gk (xs : List Int) (k : Nat) : Nat := (grd (xs.drop (gp xs k)) 0 0).2
theorem gp_le (xs : List Int) : ∀ k, gp xs k ≤ xs.length
  | 0 => Nat.zero_le _
  | k + 1 => by
    have h := gp_le xs k
    have h2 := (grd_bd (xs.drop (gp xs k)) 0 0).2.1
    rw [List.length_drop] at h2
    show gp xs k + _ ≤ _
    omega
/-- The key; the value; the version: what is read, and how many bytes it has. -/
def g5 (xs : List Int) : List Int × Nat := gtk (xs.drop (gp xs 4))
def g6 (xs : List Int) : List Int × Nat := if 0 < (g5 xs).2 ∧ gn xs 3 ≠ 2 then gtk (xs.drop (gp xs 4 + (g5 xs).2)) else ([], (g5 xs).2)
def gp6 (xs : List Int) : Nat := if 0 < (g5 xs).2 ∧ gn xs 3 ≠ 2 then gp xs 4 + (g5 xs).2 + (g6 xs).2 else gp xs 4 + (g5 xs).2
def g7 (xs : List Int) : Nat × Nat := if 0 < (g6 xs).2 ∧ gn xs 3 = 3 then grd (xs.drop (gp6 xs)) 0 0 else (0, (g6 xs).2)
def gupd (xs : List Int) : Upd := ⟨(gn xs 0 : Int), (gn xs 1 : Int), (gn xs 2 : Int), (gn xs 3 : Int), strOfNums (g5 xs).1, strOfNums (g6 xs).1, ((g7 xs).1 : Int)⟩
def gfour (xs : List Int) : Bool := decide (gk xs 0 ≠ 0) && decide (gk xs 1 ≠ 0) && decide (gk xs 2 ≠ 0) && decide (gk xs 3 ≠ 0)
def gok (xs : List Int) : Bool := gfour xs && decide ((g7 xs).2 ≠ 0) && ((gupd xs).err == 0) && decide ((gupd xs).bytes = xs)
def gres (xs : List Int) : Array Value := if gok xs = true then (gupd xs).cells.toArray else noUpd
def gerr (xs : List Int) : Int := if gok xs = true then 0 else 86
theorem infoA4 : (Try.prog.info? 79).map (·.size) = some 4 := by kernel_rfl
theorem neq_list {s t : ByteArray} (h : s ≠ t) : (s.toList == t.toList) = false := by
  apply Bool.eq_false_iff.2
  intro q
  have := eq_of_beq q
  rw [ByteArray.toList_eq, ByteArray.toList_eq] at this
  exact h (Go.WideShapes.bytes_inj this)
/-- The answer's variable, and u's. -/
structure GD (w W : World) (N : Nat) (cs : Array Value) : Prop where
  b0 : Bk 36 W w.heap.size noUpd
  bu : Bk 36 W N cs
  gb : w.grownBy W none
  lt : w.heap.size < N
theorem GD.set {w W N cs} (h : GD w W N cs) (i : Nat) (v : Value) : GD w (W.setCell ⟨N, i, none⟩ v) N (cs.setIfInBounds i v) := by
  have hg : W.grownBy (W.setCell ⟨N, i, none⟩ v) (some N) := grownBy_cell W N i v
  have := h.lt
  exact ⟨h.b0.grew hg (fun q => by have := Option.some.inj q; omega), h.bu.set i v, gb_newer h.gb hg (by omega), h.lt⟩
theorem GD.new {w W W' N cs} (h : GD w W N cs) (hg : W.grownBy W' none) : GD w W' N cs := ⟨h.b0.grew hg (by simp), h.bu.grew hg (by simp), gb_trans h.gb hg, h.lt⟩
theorem GD.cell {w W N cs} (h : GD w W N cs) (i : Nat) : W.cell? ⟨N, i, none⟩ = cs[i]? := h.bu.cell i
theorem GD.free {w W N cs} (h : GD w W N cs) (i : Nat) : W.frozen? ⟨N, i, none⟩ = false := frozen_of_row W _ i _ _ h.bu
theorem bytes_upd (u : Upd) : Bytes u.bytes := bytes_of_mem (fun c hc => by
  have he : ∀ n, ∀ c ∈ enc n, (0 : Int) ≤ c ∧ c < 256 := fun n => enc_bytes n
  have hsb : ∀ (t : ByteArray), ∀ c ∈ sb t, (0 : Int) ≤ c ∧ c < 256 := fun t c hc => by
    unfold sb at hc
    obtain ⟨z, _, rfl⟩ := List.mem_map.1 hc
    have := z.toNat_lt
    omega
  unfold Upd.bytes updB updA at hc
  simp only [List.mem_append] at hc
  rcases hc with ((((((hc | hc) | hc) | hc) | (hc | hc))) | hc) | hc
  · exact he _ c hc
  · exact he _ c hc
  · exact he _ c hc
  · exact he _ c hc
  · exact he _ c hc
  · exact hsb _ c hc
  · split at hc
    · cases hc
    · rcases List.mem_append.1 hc with hc | hc
      · exact he _ c hc
      · exact hsb _ c hc
  · split at hc
    · exact he _ c hc
    · cases hc)
theorem str_own {W : World} {va : Option Addr} {L vc : Nat} {Z : List Int} {B : Nat} (h : Own B W (.slice va L vc) L Z) : (convert 27 9 (.slice va L vc)).run Try.prog W = .ok (.string (strOfNums Z)) W := by
  obtain ⟨a, c, e, hs, _, _⟩ := h.seg
  cases e
  exact seg_string (P := Try.prog) 27 9 5 vc hs Try.underlying27 Try.underlying5 Try.underlying9
/-- What Decode answers. -/
def GA (xs : List Int) (w : World) (r : Ending) (w' : World) : Prop := r = .returned (.tuple #[.agg (gres xs), .int .i64 (gerr xs)]) ∧ Below w.heap.size w w'
set_option maxRecDepth 20000 in
set_option maxHeartbeats 8000000 in
theorem gdecode_c (a : Option Addr) (len cap : Nat) (xs : List Int) (w : World) (h : Seg .u8 w a len xs) (hx : Bytes xs) (hl : len ≤ 140737488355328) (hlc : len ≤ cap) :
    Calls Try.prog 14 #[.slice a len cap] w fun r w' => GA xs w r w' := by
  have HS : Hid (Seg .u8 w a len xs ∧ Bytes xs ∧ len ≤ 140737488355328 ∧ len ≤ cap ∧ xs.length = len) := ⟨h, hx, hl, hlc, h.1⟩
  have HX := blk_two w 36 79 noUpd #[.int .i64 0, .int .i64 0, .int .i64 0, .int .i64 0]
  have H0 : Hid (Bk 36 ((w.alloc (.cells noUpd 36)).alloc (.cells #[.int .i64 0, .int .i64 0, .int .i64 0, .int .i64 0] 79)) w.heap.size noUpd ∧ Bk 79 ((w.alloc (.cells noUpd 36)).alloc (.cells #[.int .i64 0, .int .i64 0, .int .i64 0, .int .i64 0] 79)) (w.heap.size + 1) #[.int .i64 0, .int .i64 0, .int .i64 0, .int .i64 0] ∧ w.grownBy ((w.alloc (.cells noUpd 36)).alloc (.cells #[.int .i64 0, .int .i64 0, .int .i64 0, .int .i64 0] 79)) none) := HX
  unfold noUpd at H0
  have HRD : Hid (∀ W k, w.grownBy W none → Calls Try.prog 36 #[.slice (cutA a cap (gp xs k)) (len - gp xs k) (cap - gp xs k)] W fun r w' => r = .returned (.tuple #[.int .i64 (gn xs k : Int), .int .i64 (gk xs k : Int)]) ∧ w' = W) := fun W k hg => gread_c _ _ _ _ W (seg_cutA (h.grew hg (by simp)) _ hlc) (bytes_drop hx _) (by omega)
  have HSL : Hid (∀ p W, p ≤ len → (Instr.slice 27 (.slice a len cap) (some (.int .i64 (p : Int))) none none).run Try.prog W = .ok (.slice (cutA a cap p) (len - p) (cap - p)) W) := fun p W hp => slice_l a len cap p hp W
  have HTK : Hid (∀ W p, w.grownBy W none → Calls Try.prog 37 #[.slice (cutA a cap p) (len - p) (cap - p)] W fun r w' => r = .returned (.tuple #[.string (strOfNums (gtk (xs.drop p)).1), .int .i64 ((gtk (xs.drop p)).2 : Int)]) ∧ w' = W) := fun W p hg => gtaken_c _ _ _ _ W (seg_cutA (h.grew hg (by simp)) _ hlc) (bytes_drop hx _) (by omega) (by omega)
  have HRV : Hid (∀ W p, w.grownBy W none → Calls Try.prog 36 #[.slice (cutA a cap p) (len - p) (cap - p)] W fun r w' => r = .returned (.tuple #[.int .i64 ((grd (xs.drop p) 0 0).1 : Int), .int .i64 ((grd (xs.drop p) 0 0).2 : Int)]) ∧ w' = W) := fun W p hg => gread_c _ _ _ _ W (seg_cutA (h.grew hg (by simp)) _ hlc) (bytes_drop hx _) (by omega)
  have HPL : Hid (∀ k, gp xs k ≤ len) := fun k => by rw [← h.1]; exact gp_le xs k
  have HSX : Hid (∀ W, w.grownBy W none → (convert 27 9 (.slice a len cap)).run Try.prog W = .ok (.string (strOfNums xs)) W) := fun W hg => seg_string (P := Try.prog) 27 9 5 cap (h.grew hg (by simp)) Try.underlying27 Try.underlying5 Try.underlying9
  have hlm : (len : Int) ≤ 140737488355328 := by omega
  clear h hx hl hlc HX
  go_enter Try.func14, Try.ntmps14
  go_wp2
  go_loopw [5, 6] (fun at_ i wr => ∃ (k : Nat) (cs : Array Value), k ≤ 4 ∧ at_ = .int .i64 (gp xs k : Int) ∧ i = .int .i64 (k : Int) ∧ Hid (Bk 36 wr w.heap.size noUpd ∧ Bk 79 wr (w.heap.size + 1) cs ∧ w.grownBy wr none ∧ wr.heap.size = w.heap.size + 2 ∧ (∀ j, j < k → gk xs j ≠ 0) ∧ cs = #[.int .i64 (if 0 < k then gn xs 0 else 0 : Nat), .int .i64 (if 1 < k then gn xs 1 else 0 : Nat), .int .i64 (if 2 < k then gn xs 2 else 0 : Nat), .int .i64 (if 3 < k then gn xs 3 else 0 : Nat)])) (fun _ i _ => 5 - (intOf i).toNat)
  case atStart => exact ⟨0, _, by omega, rfl, rfl, H0.out.1, H0.out.2.1, H0.out.2.2, by simp, fun j hj => by omega, rfl⟩
  case round =>
    obtain ⟨k, cs, hk, rfl, rfl, hr⟩ := hrel
    obtain ⟨P, hP⟩ : ∃ P, P = gp xs k := ⟨_, rfl⟩
    have hPl : P ≤ len := by rw [hP]; exact HPL.out k
    rw [← hP]
    by_cases hlt : k < 4
    · have hi : (k : Int) < 4 := by omega
      obtain ⟨K, hK⟩ : ∃ K, K = gk xs k := ⟨_, rfl⟩
      obtain ⟨G, hG⟩ : ∃ G, G = gn xs k := ⟨_, rfl⟩
      have HR : Hid (Calls Try.prog 36 #[.slice (cutA a cap P) (len - P) (cap - P)] wr fun r w' => r = .returned (.tuple #[.int .i64 (G : Int), .int .i64 (K : Int)]) ∧ w' = wr) := by rw [hP, hG, hK]; exact HRD.out wr k hr.out.2.2.1
      have hsl : ∀ W, (Instr.slice 27 (.slice a len cap) (some (.int .i64 (P : Int))) none none).run Try.prog W = .ok (.slice (cutA a cap P) (len - P) (cap - P)) W := fun W => HSL.out P W hPl
      have HKB : Hid (K ≤ len - P ∧ G ≤ 4611686018427387904) := by
        have := grd_bd (xs.drop (gp xs k)) 0 0
        rw [List.length_drop, HS.out.2.2.2.2] at this
        refine ⟨?_, ?_⟩
        · rw [hK, hP]; unfold gk; omega
        · rw [hG]; unfold gn; exact this.1
      have HEQ : Hid (P = gp xs k ∧ K = gk xs k ∧ G = gn xs k) := ⟨hP, hK, hG⟩
      have hPK : (P : Int) + (K : Int) ≤ 140737488355328 := by have := HKB.out.1; omega
      clear hP hK hG hPl
      by_cases hK0 : K = 0
      · have hkb : ((K : Int) == 0) = true := by simp [hK0]
        have HD : Hid (gok xs = false) := by
          have hz : gk xs k = 0 := by rw [← HEQ.out.2.1]; exact hK0
          have : gfour xs = false := by
            unfold gfour
            rcases (show k = 0 ∨ k = 1 ∨ k = 2 ∨ k = 3 by omega) with rfl | rfl | rfl | rfl <;> rw [hz] <;> simp
          show _ = _
          unfold gok
          rw [this]
          rfl
        clear hK0
        go_wp2_with (first
          | (go_at_call 36; go_must (refine (Calls.mono HR.out ?_)); rintro r wq ⟨rfl, hq⟩; obtain rfl := hq.symm)
          | (refine wpList_store_bk 36 rfl (.tmp 2) (.tmp 27) rfl infoGupd w.heap.size _ noUpd rfl rfl hr.out.1 rfl rfl (by simp [noUpd, Value.oneCell']) ?_; intro w4 k1 k2; have H4 : Hid (Bk 36 w4 w.heap.size noUpd ∧ w.grownBy w4 none) := ⟨k1, gb_newer hr.out.2.2.1 k2 (Nat.le_refl _)⟩; clear k1 k2))
        refine bodyPost_ret (results_cell2 Try.results14 _ _ _ ⟨w.heap.size, 0, none⟩ _ _ rfl rfl (bk_load Try.underlying36 rfl infoGupd H4.out.1 rfl)) rfl ?_
        refine ⟨?_, gb_below H4.out.2⟩
        unfold gres gerr
        rw [if_neg (by rw [HD.out]; decide), if_neg (by rw [HD.out]; decide)]
        rfl
      · have hkb : ((K : Int) == 0) = false := by simp; omega
        have HK0 : Hid (K ≠ 0) := hK0
        clear hK0
        rcases (show k = 0 ∨ k = 1 ∨ k = 2 ∨ k = 3 by omega) with rfl | rfl | rfl | rfl
        · have hcs : cs = #[.int .i64 ((0 : Nat) : Int), .int .i64 ((0 : Nat) : Int), .int .i64 ((0 : Nat) : Int), .int .i64 ((0 : Nat) : Int)] := by rw [hr.out.2.2.2.2.2]; rfl
          have hB : Bk 79 wr (w.heap.size + 1) #[.int .i64 ((0 : Nat) : Int), .int .i64 ((0 : Nat) : Int), .int .i64 ((0 : Nat) : Int), .int .i64 ((0 : Nat) : Int)] := by rw [← hcs]; exact hr.out.2.1
          have c1 : wr.cell? ⟨w.heap.size + 1, 0, none⟩ = some (.int .i64 0) := hB.cell 0
          have f1 : wr.frozen? ⟨w.heap.size + 1, 0, none⟩ = false := frozen_of_row wr _ 0 _ _ hB
          have H3 : Hid (Bk 36 (wr.setCell ⟨w.heap.size + 1, 0, none⟩ (.int .i64 (G : Int))) w.heap.size noUpd ∧ Bk 79 (wr.setCell ⟨w.heap.size + 1, 0, none⟩ (.int .i64 (G : Int))) (w.heap.size + 1) #[.int .i64 ((gn xs 0 : Nat) : Int), .int .i64 ((0 : Nat) : Int), .int .i64 ((0 : Nat) : Int), .int .i64 ((0 : Nat) : Int)] ∧ w.grownBy (wr.setCell ⟨w.heap.size + 1, 0, none⟩ (.int .i64 (G : Int))) none ∧ (wr.setCell ⟨w.heap.size + 1, 0, none⟩ (.int .i64 (G : Int))).heap.size = w.heap.size + 2) := by
            have hg : wr.grownBy (wr.setCell ⟨w.heap.size + 1, 0, none⟩ (.int .i64 (G : Int))) (some (w.heap.size + 1)) := grownBy_cell wr _ 0 _
            refine ⟨hr.out.1.grew hg (fun z => by have := Option.some.inj z; omega), ?_, gb_newer hr.out.2.2.1 hg (by omega), by rw [← hr.out.2.2.2.1]; simp⟩
            have := hB.set 0 (.int .i64 (G : Int))
            rw [HEQ.out.2.2] at this ⊢
            exact this
          clear hcs hB
          go_wp2_with (go_at_call 36; go_must (refine (Calls.mono HR.out ?_)); rintro r wq ⟨rfl, hq⟩; obtain rfl := hq.symm)
          go_roundw
          case rel => exact ⟨1, _, by omega, by rw [show gp xs 1 = P + K from by rw [HEQ.out.1, HEQ.out.2.1]; rfl]; go_num, by go_num, H3.out.1, H3.out.2.1, H3.out.2.2.1, H3.out.2.2.2, fun j hj => by rcases (show j < 0 ∨ j = 0 by omega) with z | rfl; exact hr.out.2.2.2.2.1 j z; rw [← HEQ.out.2.1]; exact HK0.out, rfl⟩
          case measure => simp [intOf]
        · have hcs : cs = #[.int .i64 ((gn xs 0 : Nat) : Int), .int .i64 ((0 : Nat) : Int), .int .i64 ((0 : Nat) : Int), .int .i64 ((0 : Nat) : Int)] := by rw [hr.out.2.2.2.2.2]; rfl
          have hB : Bk 79 wr (w.heap.size + 1) #[.int .i64 ((gn xs 0 : Nat) : Int), .int .i64 ((0 : Nat) : Int), .int .i64 ((0 : Nat) : Int), .int .i64 ((0 : Nat) : Int)] := by rw [← hcs]; exact hr.out.2.1
          have c1 : wr.cell? ⟨w.heap.size + 1, 1, none⟩ = some (.int .i64 0) := hB.cell 1
          have f1 : wr.frozen? ⟨w.heap.size + 1, 1, none⟩ = false := frozen_of_row wr _ 1 _ _ hB
          have H3 : Hid (Bk 36 (wr.setCell ⟨w.heap.size + 1, 1, none⟩ (.int .i64 (G : Int))) w.heap.size noUpd ∧ Bk 79 (wr.setCell ⟨w.heap.size + 1, 1, none⟩ (.int .i64 (G : Int))) (w.heap.size + 1) #[.int .i64 ((gn xs 0 : Nat) : Int), .int .i64 ((gn xs 1 : Nat) : Int), .int .i64 ((0 : Nat) : Int), .int .i64 ((0 : Nat) : Int)] ∧ w.grownBy (wr.setCell ⟨w.heap.size + 1, 1, none⟩ (.int .i64 (G : Int))) none ∧ (wr.setCell ⟨w.heap.size + 1, 1, none⟩ (.int .i64 (G : Int))).heap.size = w.heap.size + 2) := by
            have hg : wr.grownBy (wr.setCell ⟨w.heap.size + 1, 1, none⟩ (.int .i64 (G : Int))) (some (w.heap.size + 1)) := grownBy_cell wr _ 1 _
            refine ⟨hr.out.1.grew hg (fun z => by have := Option.some.inj z; omega), ?_, gb_newer hr.out.2.2.1 hg (by omega), by rw [← hr.out.2.2.2.1]; simp⟩
            have := hB.set 1 (.int .i64 (G : Int))
            rw [HEQ.out.2.2] at this ⊢
            exact this
          clear hcs hB
          go_wp2_with (go_at_call 36; go_must (refine (Calls.mono HR.out ?_)); rintro r wq ⟨rfl, hq⟩; obtain rfl := hq.symm)
          go_roundw
          case rel => exact ⟨2, _, by omega, by rw [show gp xs 2 = P + K from by rw [HEQ.out.1, HEQ.out.2.1]; rfl]; go_num, by go_num, H3.out.1, H3.out.2.1, H3.out.2.2.1, H3.out.2.2.2, fun j hj => by rcases (show j < 1 ∨ j = 1 by omega) with z | rfl; exact hr.out.2.2.2.2.1 j z; rw [← HEQ.out.2.1]; exact HK0.out, rfl⟩
          case measure => simp [intOf]
        · have hcs : cs = #[.int .i64 ((gn xs 0 : Nat) : Int), .int .i64 ((gn xs 1 : Nat) : Int), .int .i64 ((0 : Nat) : Int), .int .i64 ((0 : Nat) : Int)] := by rw [hr.out.2.2.2.2.2]; rfl
          have hB : Bk 79 wr (w.heap.size + 1) #[.int .i64 ((gn xs 0 : Nat) : Int), .int .i64 ((gn xs 1 : Nat) : Int), .int .i64 ((0 : Nat) : Int), .int .i64 ((0 : Nat) : Int)] := by rw [← hcs]; exact hr.out.2.1
          have c1 : wr.cell? ⟨w.heap.size + 1, 2, none⟩ = some (.int .i64 0) := hB.cell 2
          have f1 : wr.frozen? ⟨w.heap.size + 1, 2, none⟩ = false := frozen_of_row wr _ 2 _ _ hB
          have H3 : Hid (Bk 36 (wr.setCell ⟨w.heap.size + 1, 2, none⟩ (.int .i64 (G : Int))) w.heap.size noUpd ∧ Bk 79 (wr.setCell ⟨w.heap.size + 1, 2, none⟩ (.int .i64 (G : Int))) (w.heap.size + 1) #[.int .i64 ((gn xs 0 : Nat) : Int), .int .i64 ((gn xs 1 : Nat) : Int), .int .i64 ((gn xs 2 : Nat) : Int), .int .i64 ((0 : Nat) : Int)] ∧ w.grownBy (wr.setCell ⟨w.heap.size + 1, 2, none⟩ (.int .i64 (G : Int))) none ∧ (wr.setCell ⟨w.heap.size + 1, 2, none⟩ (.int .i64 (G : Int))).heap.size = w.heap.size + 2) := by
            have hg : wr.grownBy (wr.setCell ⟨w.heap.size + 1, 2, none⟩ (.int .i64 (G : Int))) (some (w.heap.size + 1)) := grownBy_cell wr _ 2 _
            refine ⟨hr.out.1.grew hg (fun z => by have := Option.some.inj z; omega), ?_, gb_newer hr.out.2.2.1 hg (by omega), by rw [← hr.out.2.2.2.1]; simp⟩
            have := hB.set 2 (.int .i64 (G : Int))
            rw [HEQ.out.2.2] at this ⊢
            exact this
          clear hcs hB
          go_wp2_with (go_at_call 36; go_must (refine (Calls.mono HR.out ?_)); rintro r wq ⟨rfl, hq⟩; obtain rfl := hq.symm)
          go_roundw
          case rel => exact ⟨3, _, by omega, by rw [show gp xs 3 = P + K from by rw [HEQ.out.1, HEQ.out.2.1]; rfl]; go_num, by go_num, H3.out.1, H3.out.2.1, H3.out.2.2.1, H3.out.2.2.2, fun j hj => by rcases (show j < 2 ∨ j = 2 by omega) with z | rfl; exact hr.out.2.2.2.2.1 j z; rw [← HEQ.out.2.1]; exact HK0.out, rfl⟩
          case measure => simp [intOf]
        · have hcs : cs = #[.int .i64 ((gn xs 0 : Nat) : Int), .int .i64 ((gn xs 1 : Nat) : Int), .int .i64 ((gn xs 2 : Nat) : Int), .int .i64 ((0 : Nat) : Int)] := by rw [hr.out.2.2.2.2.2]; rfl
          have hB : Bk 79 wr (w.heap.size + 1) #[.int .i64 ((gn xs 0 : Nat) : Int), .int .i64 ((gn xs 1 : Nat) : Int), .int .i64 ((gn xs 2 : Nat) : Int), .int .i64 ((0 : Nat) : Int)] := by rw [← hcs]; exact hr.out.2.1
          have c1 : wr.cell? ⟨w.heap.size + 1, 3, none⟩ = some (.int .i64 0) := hB.cell 3
          have f1 : wr.frozen? ⟨w.heap.size + 1, 3, none⟩ = false := frozen_of_row wr _ 3 _ _ hB
          have H3 : Hid (Bk 36 (wr.setCell ⟨w.heap.size + 1, 3, none⟩ (.int .i64 (G : Int))) w.heap.size noUpd ∧ Bk 79 (wr.setCell ⟨w.heap.size + 1, 3, none⟩ (.int .i64 (G : Int))) (w.heap.size + 1) #[.int .i64 ((gn xs 0 : Nat) : Int), .int .i64 ((gn xs 1 : Nat) : Int), .int .i64 ((gn xs 2 : Nat) : Int), .int .i64 ((gn xs 3 : Nat) : Int)] ∧ w.grownBy (wr.setCell ⟨w.heap.size + 1, 3, none⟩ (.int .i64 (G : Int))) none ∧ (wr.setCell ⟨w.heap.size + 1, 3, none⟩ (.int .i64 (G : Int))).heap.size = w.heap.size + 2) := by
            have hg : wr.grownBy (wr.setCell ⟨w.heap.size + 1, 3, none⟩ (.int .i64 (G : Int))) (some (w.heap.size + 1)) := grownBy_cell wr _ 3 _
            refine ⟨hr.out.1.grew hg (fun z => by have := Option.some.inj z; omega), ?_, gb_newer hr.out.2.2.1 hg (by omega), by rw [← hr.out.2.2.2.1]; simp⟩
            have := hB.set 3 (.int .i64 (G : Int))
            rw [HEQ.out.2.2] at this ⊢
            exact this
          clear hcs hB
          go_wp2_with (go_at_call 36; go_must (refine (Calls.mono HR.out ?_)); rintro r wq ⟨rfl, hq⟩; obtain rfl := hq.symm)
          go_roundw
          case rel => exact ⟨4, _, by omega, by rw [show gp xs 4 = P + K from by rw [HEQ.out.1, HEQ.out.2.1]; rfl]; go_num, by go_num, H3.out.1, H3.out.2.1, H3.out.2.2.1, H3.out.2.2.2, fun j hj => by rcases (show j < 3 ∨ j = 3 by omega) with z | rfl; exact hr.out.2.2.2.2.1 j z; rw [← HEQ.out.2.1]; exact HK0.out, rfl⟩
          case measure => simp [intOf]
    · obtain rfl : k = 4 := by omega
      have hcs : cs = #[.int .i64 ((gn xs 0 : Nat) : Int), .int .i64 ((gn xs 1 : Nat) : Int), .int .i64 ((gn xs 2 : Nat) : Int), .int .i64 ((gn xs 3 : Nat) : Int)] := by rw [hr.out.2.2.2.2.2]; rfl
      have HF4 : Hid (gfour xs = true) := by
        show _ = _
        unfold gfour
        rw [decide_eq_true (hr.out.2.2.2.2.1 0 (by omega)), decide_eq_true (hr.out.2.2.2.2.1 1 (by omega)), decide_eq_true (hr.out.2.2.2.2.1 2 (by omega)), decide_eq_true (hr.out.2.2.2.2.1 3 (by omega))]
        rfl
      obtain ⟨G0, hG0⟩ : ∃ G, G = gn xs 0 := ⟨_, rfl⟩
      obtain ⟨G1, hG1⟩ : ∃ G, G = gn xs 1 := ⟨_, rfl⟩
      obtain ⟨G2, hG2⟩ : ∃ G, G = gn xs 2 := ⟨_, rfl⟩
      obtain ⟨G3, hG3⟩ : ∃ G, G = gn xs 3 := ⟨_, rfl⟩
      rw [← hG0, ← hG1, ← hG2, ← hG3] at hcs
      have hB : Bk 79 wr (w.heap.size + 1) #[.int .i64 (G0 : Int), .int .i64 (G1 : Int), .int .i64 (G2 : Int), .int .i64 (G3 : Int)] := by rw [← hcs]; exact hr.out.2.1
      have a0 : wr.cell? ⟨w.heap.size + 1, 0, none⟩ = some (.int .i64 (G0 : Int)) := hB.cell 0
      have a1 : wr.cell? ⟨w.heap.size + 1, 1, none⟩ = some (.int .i64 (G1 : Int)) := hB.cell 1
      have a2 : wr.cell? ⟨w.heap.size + 1, 2, none⟩ = some (.int .i64 (G2 : Int)) := hB.cell 2
      have a3 : wr.cell? ⟨w.heap.size + 1, 3, none⟩ = some (.int .i64 (G3 : Int)) := hB.cell 3
      obtain ⟨S5, hS5⟩ : ∃ S, S = strOfNums (g5 xs).1 := ⟨_, rfl⟩
      obtain ⟨K5, hK5⟩ : ∃ K, K = (g5 xs).2 := ⟨_, rfl⟩
      have hb5 := (gtk_bd (xs.drop (gp xs 4))).1
      rw [List.length_drop, HS.out.2.2.2.2, ← hP] at hb5
      have hK5b : K5 ≤ len - P := by rw [hK5]; unfold g5; rw [← hP]; exact hb5
      have HT5 : Hid (∀ W, w.grownBy W none → Calls Try.prog 37 #[.slice (cutA a cap P) (len - P) (cap - P)] W fun r w' => r = .returned (.tuple #[.string S5, .int .i64 (K5 : Int)]) ∧ w' = W) := fun W hg => by rw [hS5, hK5]; unfold g5; rw [← hP]; exact HTK.out W P hg
      have hsl : ∀ W, (Instr.slice 27 (.slice a len cap) (some (.int .i64 (P : Int))) none none).run Try.prog W = .ok (.slice (cutA a cap P) (len - P) (cap - P)) W := fun W => HSL.out P W hPl
      have hge : ¬ ((4 : Nat) : Int) < 4 := by omega
      have hP5 : (P : Int) + (K5 : Int) ≤ 140737488355328 := by omega
      have HG : Hid (G0 = gn xs 0 ∧ G1 = gn xs 1 ∧ G2 = gn xs 2 ∧ G3 = gn xs 3 ∧ S5 = strOfNums (g5 xs).1 ∧ K5 = (g5 xs).2 ∧ P = gp xs 4) := ⟨hG0, hG1, hG2, hG3, hS5, hK5, hP⟩
      clear hcs hB hb5 hG0 hG1 hG2 hG3 hS5 hK5 hP HRD HPL hk hlt
      by_cases h5 : K5 = 0
      · have H6 : g6 xs = ([], K5) := by unfold g6; rw [if_neg (by rw [← HG.out.2.2.2.2.2.1]; omega), ← HG.out.2.2.2.2.2.1]
        have H7 : g7 xs = (0, K5) := by unfold g7; rw [if_neg (by rw [H6]; show ¬ (0 < K5 ∧ _); omega), H6]
        have HK7 : Hid ((g7 xs).2 = K5) := by show _ = _; rw [H7]
        have hk5 : ¬ (0 : Int) < (K5 : Int) := by omega
        have hkz := h5
        obtain ⟨Z, hZ⟩ : ∃ Z, Z = updZ (G0 : Int) (G1 : Int) (G2 : Int) (G3 : Int) S5 { data := #[] } 0 := ⟨_, rfl⟩
        obtain ⟨L, hL⟩ : ∃ L, L = Z.length := ⟨_, rfl⟩
        obtain ⟨E, hE⟩ : ∃ E, E = updE (G0 : Int) (G1 : Int) (G2 : Int) (G3 : Int) S5 { data := #[] } 0 := ⟨_, rfl⟩
        have HE : Hid (∀ W, Calls Try.prog 10 #[.agg #[.int .i64 (G0 : Int), .int .i64 (G1 : Int), .int .i64 (G2 : Int), .int .i64 (G3 : Int), .string S5, .string { data := #[] }, .int .i64 0]] W fun r w' => ∃ va vc, r = .returned (.tuple #[.slice va L vc, .int .i64 E]) ∧ Own W.heap.size w' (.slice va L vc) L Z ∧ Below W.heap.size W w') := fun W => by
          have := gencode_c (G0 : Int) (G1 : Int) (G2 : Int) (G3 : Int) S5 { data := #[] } 0 W
          unfold EA at this
          rw [← hZ, ← hL, ← hE] at this
          exact this
        have HU : Hid (gupd xs = ⟨(G0 : Int), (G1 : Int), (G2 : Int), (G3 : Int), S5, { data := #[] }, 0⟩) := by
          show _ = _
          unfold gupd
          rw [← HG.out.1, ← HG.out.2.1, ← HG.out.2.2.1, ← HG.out.2.2.2.1, ← HG.out.2.2.2.2.1, H6, H7]; rfl
        have HQ : Hid (gok xs = (decide (K5 ≠ 0) && (E == 0) && decide (Upd.bytes ⟨(G0 : Int), (G1 : Int), (G2 : Int), (G3 : Int), S5, { data := #[] }, 0⟩ = xs))) := by
          show _ = _
          unfold gok
          rw [HF4.out, HU.out, HK7.out, Bool.true_and]
          unfold Upd.err
          rw [← hE]
        have hkf : ((K5 : Int) == 0) = true := by simp [hkz]
        have HNO : Hid (gok xs = false) := by show _ = _; rw [HQ.out, hkz]; rfl
        clear h5 H6 H7 hkz hZ hL hE HQ HK7
        go_wp2_with (first
          | ((fail_if_success (have z := A0)); refine wpList_store_bk 36 rfl (.tmp 9) (.tmp 43) rfl infoGupd wr.heap.size noUpd #[.int .i64 (G0 : Int), .int .i64 (G1 : Int), .int .i64 (G2 : Int), .int .i64 (G3 : Int), .string { data := #[] }, .string { data := #[] }, .int .i64 0] rfl rfl (blk_new wr 36 noUpd).1 rfl rfl (by simp [Value.oneCell']) ?_; intro x0 k1 k2; have A0 : Hid (GD w x0 wr.heap.size #[.int .i64 (G0 : Int), .int .i64 (G1 : Int), .int .i64 (G2 : Int), .int .i64 (G3 : Int), .string { data := #[] }, .string { data := #[] }, .int .i64 0]) := ⟨(hr.out.1.grew (gb_alloc _ _) (by simp)).grew k2 (fun z => by have := Option.some.inj z; have := hr.out.2.2.2.1; omega), k1, gb_newer (gb_trans hr.out.2.2.1 (gb_alloc _ _)) k2 (by have := hr.out.2.2.2.1; omega), by have := hr.out.2.2.2.1; omega⟩; clear k1 k2)
          | ((fail_if_success (have z := A1)); have z := A0; clear z; go_at_call 37; go_must (refine (Calls.mono (HT5.out _ A0.out.gb) ?_)); rintro r wq ⟨rfl, hq⟩; obtain rfl := hq.symm; have c4 : x0.cell? ⟨wr.heap.size, 4, none⟩ = some (.string { data := #[] }) := A0.out.cell 4; have f4 : x0.frozen? ⟨wr.heap.size, 4, none⟩ = false := A0.out.free 4; have A1 : Hid (GD w (x0.setCell ⟨wr.heap.size, 4, none⟩ (.string S5)) wr.heap.size #[.int .i64 (G0 : Int), .int .i64 (G1 : Int), .int .i64 (G2 : Int), .int .i64 (G3 : Int), .string S5, .string { data := #[] }, .int .i64 0]) := A0.out.set 4 _; have kd : (x0.setCell ⟨wr.heap.size, 4, none⟩ (.string S5)).cell? ⟨wr.heap.size, 3, none⟩ = some (.int .i64 (G3 : Int)) := A1.out.cell 3; clear hq)
          | ((fail_if_success (have z := Z1)); have z := A1; clear z; refine wpList_load_bk 36 rfl (.tmp 9) rfl Try.underlying36 rfl infoGupd wr.heap.size #[.int .i64 (G0 : Int), .int .i64 (G1 : Int), .int .i64 (G2 : Int), .int .i64 (G3 : Int), .string S5, .string { data := #[] }, .int .i64 0] rfl A1.out.bu rfl ?_)
          | ((fail_if_success (have z := Z1)); have z := A1; clear z; go_at_call 10; go_must (refine (Calls.mono (HE.out _) ?_)); rintro r y ⟨va, vc, rfl, h1, h2⟩; have Z1 : Hid (GD w y wr.heap.size #[.int .i64 (G0 : Int), .int .i64 (G1 : Int), .int .i64 (G2 : Int), .int .i64 (G3 : Int), .string S5, .string { data := #[] }, .int .i64 0]) := A1.out.new (below_gb h2); clear h1 h2)
          | (have z := Z1; clear z; refine wpList_store_bk 36 rfl (.tmp 2) (.tmp 112) rfl infoGupd w.heap.size _ noUpd rfl rfl Z1.out.b0 rfl rfl (by simp [noUpd, Value.oneCell']) ?_; intro w4 k1 k2; have Z2 : Hid (Bk 36 w4 w.heap.size noUpd ∧ w.grownBy w4 none) := ⟨k1, gb_newer Z1.out.gb k2 (Nat.le_refl _)⟩; clear k1 k2))
        refine bodyPost_ret (results_cell2 Try.results14 _ _ _ ⟨w.heap.size, 0, none⟩ _ _ rfl rfl (bk_load Try.underlying36 rfl infoGupd Z2.out.1 rfl)) rfl ?_
        refine ⟨?_, gb_below Z2.out.2⟩
        unfold gres gerr
        rw [if_neg (by rw [HNO.out]; decide), if_neg (by rw [HNO.out]; decide)]
        rfl
      · have hk5 : (0 : Int) < (K5 : Int) := by omega
        by_cases h2 : G3 = 2
        · subst h2
          have H6 : g6 xs = ([], K5) := by unfold g6; rw [if_neg (by rw [← HG.out.2.2.2.1]; simp), ← HG.out.2.2.2.2.2.1]
          have H7 : g7 xs = (0, K5) := by unfold g7; rw [if_neg (by rw [← HG.out.2.2.2.1]; omega), H6]
          have HK7 : Hid ((g7 xs).2 = K5) := by show _ = _; rw [H7]
          obtain ⟨Z, hZ⟩ : ∃ Z, Z = updZ (G0 : Int) (G1 : Int) (G2 : Int) 2 S5 { data := #[] } 0 := ⟨_, rfl⟩
          obtain ⟨L, hL⟩ : ∃ L, L = Z.length := ⟨_, rfl⟩
          obtain ⟨E, hE⟩ : ∃ E, E = updE (G0 : Int) (G1 : Int) (G2 : Int) 2 S5 { data := #[] } 0 := ⟨_, rfl⟩
          have HE : Hid (∀ W, Calls Try.prog 10 #[.agg #[.int .i64 (G0 : Int), .int .i64 (G1 : Int), .int .i64 (G2 : Int), .int .i64 2, .string S5, .string { data := #[] }, .int .i64 0]] W fun r w' => ∃ va vc, r = .returned (.tuple #[.slice va L vc, .int .i64 E]) ∧ Own W.heap.size w' (.slice va L vc) L Z ∧ Below W.heap.size W w') := fun W => by
            have := gencode_c (G0 : Int) (G1 : Int) (G2 : Int) 2 S5 { data := #[] } 0 W
            unfold EA at this
            rw [← hZ, ← hL, ← hE] at this
            exact this
          have HU : Hid (gupd xs = ⟨(G0 : Int), (G1 : Int), (G2 : Int), 2, S5, { data := #[] }, 0⟩) := by
            show _ = _
            unfold gupd
            rw [← HG.out.1, ← HG.out.2.1, ← HG.out.2.2.1, ← HG.out.2.2.2.1, ← HG.out.2.2.2.2.1, H6, H7]; rfl
          have HQ : Hid (gok xs = (decide (K5 ≠ 0) && (E == 0) && decide (Upd.bytes ⟨(G0 : Int), (G1 : Int), (G2 : Int), 2, S5, { data := #[] }, 0⟩ = xs))) := by
            show _ = _
            unfold gok
            rw [HF4.out, HU.out, HK7.out, Bool.true_and]
            unfold Upd.err
            rw [← hE]
          have hkf : ((K5 : Int) == 0) = false := by simp; omega
          by_cases hE0 : E = 0
          · have hZ2 : Z = Upd.bytes ⟨(G0 : Int), (G1 : Int), (G2 : Int), 2, S5, { data := #[] }, 0⟩ := by rw [hZ]; unfold updZ; rw [← hE, if_pos hE0]; rfl
            subst hE0
            by_cases hZX : strOfNums Z = strOfNums xs
            · have HOK : Hid (gok xs = true) := by
                have : Z = xs := strOfNums_inj (by rw [hZ2]; exact bytes_upd _) HS.out.2.1 hZX
                show _ = _
                rw [HQ.out, ← hZ2, decide_eq_true this, decide_eq_true (p := K5 ≠ 0) (by omega)]
                rfl
              clear hZ2 hZ hL hE HQ HK7 H6 H7
              go_wp2_with (first
                | ((fail_if_success (have z := A0)); refine wpList_store_bk 36 rfl (.tmp 9) (.tmp 43) rfl infoGupd wr.heap.size noUpd #[.int .i64 (G0 : Int), .int .i64 (G1 : Int), .int .i64 (G2 : Int), .int .i64 2, .string { data := #[] }, .string { data := #[] }, .int .i64 0] rfl rfl (blk_new wr 36 noUpd).1 rfl rfl (by simp [Value.oneCell']) ?_; intro x0 k1 k2; have A0 : Hid (GD w x0 wr.heap.size #[.int .i64 (G0 : Int), .int .i64 (G1 : Int), .int .i64 (G2 : Int), .int .i64 2, .string { data := #[] }, .string { data := #[] }, .int .i64 0]) := ⟨(hr.out.1.grew (gb_alloc _ _) (by simp)).grew k2 (fun z => by have := Option.some.inj z; have := hr.out.2.2.2.1; omega), k1, gb_newer (gb_trans hr.out.2.2.1 (gb_alloc _ _)) k2 (by have := hr.out.2.2.2.1; omega), by have := hr.out.2.2.2.1; omega⟩; clear k1 k2)
                | ((fail_if_success (have z := A1)); have z := A0; clear z; go_at_call 37; go_must (refine (Calls.mono (HT5.out _ A0.out.gb) ?_)); rintro r wq ⟨rfl, hq⟩; obtain rfl := hq.symm; have c4 : x0.cell? ⟨wr.heap.size, 4, none⟩ = some (.string { data := #[] }) := A0.out.cell 4; have f4 : x0.frozen? ⟨wr.heap.size, 4, none⟩ = false := A0.out.free 4; have A1 : Hid (GD w (x0.setCell ⟨wr.heap.size, 4, none⟩ (.string S5)) wr.heap.size #[.int .i64 (G0 : Int), .int .i64 (G1 : Int), .int .i64 (G2 : Int), .int .i64 2, .string S5, .string { data := #[] }, .int .i64 0]) := A0.out.set 4 _; have kd : (x0.setCell ⟨wr.heap.size, 4, none⟩ (.string S5)).cell? ⟨wr.heap.size, 3, none⟩ = some (.int .i64 2) := A1.out.cell 3; clear hq)
                | ((fail_if_success (have z := Z1)); have z := A1; clear z; refine wpList_load_bk 36 rfl (.tmp 9) rfl Try.underlying36 rfl infoGupd wr.heap.size #[.int .i64 (G0 : Int), .int .i64 (G1 : Int), .int .i64 (G2 : Int), .int .i64 2, .string S5, .string { data := #[] }, .int .i64 0] rfl A1.out.bu rfl ?_)
                | ((fail_if_success (have z := Z1)); have z := A1; clear z; go_at_call 10; go_must (refine (Calls.mono (HE.out _) ?_)); rintro r y ⟨va, vc, rfl, h1, h2⟩; have Z1 : Hid (GD w y wr.heap.size #[.int .i64 (G0 : Int), .int .i64 (G1 : Int), .int .i64 (G2 : Int), .int .i64 2, .string S5, .string { data := #[] }, .int .i64 0]) := A1.out.new (below_gb h2); have s1 := str_own h1; have s2 := HSX.out y (gb_trans A1.out.gb (below_gb h2)); rw [hZX] at s1; clear h1 h2)
                | (have z := Z1; clear z; (fail_if_success (have z := Z2)); refine wpList_load_bk 36 rfl (.tmp 9) rfl Try.underlying36 rfl infoGupd wr.heap.size #[.int .i64 (G0 : Int), .int .i64 (G1 : Int), .int .i64 (G2 : Int), .int .i64 2, .string S5, .string { data := #[] }, .int .i64 0] rfl Z1.out.bu rfl ?_)
                | (have z := Z1; clear z; refine wpList_store_bk 36 rfl (.tmp 2) (.tmp 113) rfl infoGupd w.heap.size _ #[.int .i64 (G0 : Int), .int .i64 (G1 : Int), .int .i64 (G2 : Int), .int .i64 2, .string S5, .string { data := #[] }, .int .i64 0] rfl rfl Z1.out.b0 rfl rfl (by simp [Value.oneCell']) ?_; intro w4 k1 k2; have Z2 : Hid (Bk 36 w4 w.heap.size #[.int .i64 (G0 : Int), .int .i64 (G1 : Int), .int .i64 (G2 : Int), .int .i64 2, .string S5, .string { data := #[] }, .int .i64 0] ∧ w.grownBy w4 none) := ⟨k1, gb_newer Z1.out.gb k2 (Nat.le_refl _)⟩; clear k1 k2))
              refine bodyPost_ret (results_cell2 Try.results14 _ _ _ ⟨w.heap.size, 0, none⟩ _ _ rfl rfl (bk_load Try.underlying36 rfl infoGupd Z2.out.1 rfl)) rfl ?_
              refine ⟨?_, gb_below Z2.out.2⟩
              unfold gres gerr
              rw [if_pos HOK.out, if_pos HOK.out, HU.out]
              rfl
            · have HNO : Hid (gok xs = false) := by
                have : ¬ Z = xs := fun z => hZX (by rw [z])
                show _ = _
                rw [HQ.out, ← hZ2, decide_eq_false this]
                simp
              have hrn := neq_list hZX
              clear hZ2 hZ hL hE HQ HK7 H6 H7 hZX
              go_wp2_with (first
                | ((fail_if_success (have z := A0)); refine wpList_store_bk 36 rfl (.tmp 9) (.tmp 43) rfl infoGupd wr.heap.size noUpd #[.int .i64 (G0 : Int), .int .i64 (G1 : Int), .int .i64 (G2 : Int), .int .i64 2, .string { data := #[] }, .string { data := #[] }, .int .i64 0] rfl rfl (blk_new wr 36 noUpd).1 rfl rfl (by simp [Value.oneCell']) ?_; intro x0 k1 k2; have A0 : Hid (GD w x0 wr.heap.size #[.int .i64 (G0 : Int), .int .i64 (G1 : Int), .int .i64 (G2 : Int), .int .i64 2, .string { data := #[] }, .string { data := #[] }, .int .i64 0]) := ⟨(hr.out.1.grew (gb_alloc _ _) (by simp)).grew k2 (fun z => by have := Option.some.inj z; have := hr.out.2.2.2.1; omega), k1, gb_newer (gb_trans hr.out.2.2.1 (gb_alloc _ _)) k2 (by have := hr.out.2.2.2.1; omega), by have := hr.out.2.2.2.1; omega⟩; clear k1 k2)
                | ((fail_if_success (have z := A1)); have z := A0; clear z; go_at_call 37; go_must (refine (Calls.mono (HT5.out _ A0.out.gb) ?_)); rintro r wq ⟨rfl, hq⟩; obtain rfl := hq.symm; have c4 : x0.cell? ⟨wr.heap.size, 4, none⟩ = some (.string { data := #[] }) := A0.out.cell 4; have f4 : x0.frozen? ⟨wr.heap.size, 4, none⟩ = false := A0.out.free 4; have A1 : Hid (GD w (x0.setCell ⟨wr.heap.size, 4, none⟩ (.string S5)) wr.heap.size #[.int .i64 (G0 : Int), .int .i64 (G1 : Int), .int .i64 (G2 : Int), .int .i64 2, .string S5, .string { data := #[] }, .int .i64 0]) := A0.out.set 4 _; have kd : (x0.setCell ⟨wr.heap.size, 4, none⟩ (.string S5)).cell? ⟨wr.heap.size, 3, none⟩ = some (.int .i64 2) := A1.out.cell 3; clear hq)
                | ((fail_if_success (have z := Z1)); have z := A1; clear z; refine wpList_load_bk 36 rfl (.tmp 9) rfl Try.underlying36 rfl infoGupd wr.heap.size #[.int .i64 (G0 : Int), .int .i64 (G1 : Int), .int .i64 (G2 : Int), .int .i64 2, .string S5, .string { data := #[] }, .int .i64 0] rfl A1.out.bu rfl ?_)
                | ((fail_if_success (have z := Z1)); have z := A1; clear z; go_at_call 10; go_must (refine (Calls.mono (HE.out _) ?_)); rintro r y ⟨va, vc, rfl, h1, h2⟩; have Z1 : Hid (GD w y wr.heap.size #[.int .i64 (G0 : Int), .int .i64 (G1 : Int), .int .i64 (G2 : Int), .int .i64 2, .string S5, .string { data := #[] }, .int .i64 0]) := A1.out.new (below_gb h2); have s1 := str_own h1; have s2 := HSX.out y (gb_trans A1.out.gb (below_gb h2)); generalize strOfNums Z = T1 at s1 hrn; generalize strOfNums xs = T2 at s2 hrn; clear h1 h2)
                | (have z := Z1; clear z; refine wpList_store_bk 36 rfl (.tmp 2) (.tmp 112) rfl infoGupd w.heap.size _ noUpd rfl rfl Z1.out.b0 rfl rfl (by simp [noUpd, Value.oneCell']) ?_; intro w4 k1 k2; have Z2 : Hid (Bk 36 w4 w.heap.size noUpd ∧ w.grownBy w4 none) := ⟨k1, gb_newer Z1.out.gb k2 (Nat.le_refl _)⟩; clear k1 k2))
              refine bodyPost_ret (results_cell2 Try.results14 _ _ _ ⟨w.heap.size, 0, none⟩ _ _ rfl rfl (bk_load Try.underlying36 rfl infoGupd Z2.out.1 rfl)) rfl ?_
              refine ⟨?_, gb_below Z2.out.2⟩
              unfold gres gerr
              rw [if_neg (by rw [HNO.out]; decide), if_neg (by rw [HNO.out]; decide)]
              rfl
          · have hEb : (E != 0) = true := by simp [hE0]
            have HNO : Hid (gok xs = false) := by
              show _ = _
              rw [HQ.out, show (E == 0) = false from by simpa using hE0]
              simp
            clear hE0 hZ hL hE HQ HK7 H6 H7
            go_wp2_with (first
              | ((fail_if_success (have z := A0)); refine wpList_store_bk 36 rfl (.tmp 9) (.tmp 43) rfl infoGupd wr.heap.size noUpd #[.int .i64 (G0 : Int), .int .i64 (G1 : Int), .int .i64 (G2 : Int), .int .i64 2, .string { data := #[] }, .string { data := #[] }, .int .i64 0] rfl rfl (blk_new wr 36 noUpd).1 rfl rfl (by simp [Value.oneCell']) ?_; intro x0 k1 k2; have A0 : Hid (GD w x0 wr.heap.size #[.int .i64 (G0 : Int), .int .i64 (G1 : Int), .int .i64 (G2 : Int), .int .i64 2, .string { data := #[] }, .string { data := #[] }, .int .i64 0]) := ⟨(hr.out.1.grew (gb_alloc _ _) (by simp)).grew k2 (fun z => by have := Option.some.inj z; have := hr.out.2.2.2.1; omega), k1, gb_newer (gb_trans hr.out.2.2.1 (gb_alloc _ _)) k2 (by have := hr.out.2.2.2.1; omega), by have := hr.out.2.2.2.1; omega⟩; clear k1 k2)
              | ((fail_if_success (have z := A1)); have z := A0; clear z; go_at_call 37; go_must (refine (Calls.mono (HT5.out _ A0.out.gb) ?_)); rintro r wq ⟨rfl, hq⟩; obtain rfl := hq.symm; have c4 : x0.cell? ⟨wr.heap.size, 4, none⟩ = some (.string { data := #[] }) := A0.out.cell 4; have f4 : x0.frozen? ⟨wr.heap.size, 4, none⟩ = false := A0.out.free 4; have A1 : Hid (GD w (x0.setCell ⟨wr.heap.size, 4, none⟩ (.string S5)) wr.heap.size #[.int .i64 (G0 : Int), .int .i64 (G1 : Int), .int .i64 (G2 : Int), .int .i64 2, .string S5, .string { data := #[] }, .int .i64 0]) := A0.out.set 4 _; have kd : (x0.setCell ⟨wr.heap.size, 4, none⟩ (.string S5)).cell? ⟨wr.heap.size, 3, none⟩ = some (.int .i64 2) := A1.out.cell 3; clear hq)
              | ((fail_if_success (have z := Z1)); have z := A1; clear z; refine wpList_load_bk 36 rfl (.tmp 9) rfl Try.underlying36 rfl infoGupd wr.heap.size #[.int .i64 (G0 : Int), .int .i64 (G1 : Int), .int .i64 (G2 : Int), .int .i64 2, .string S5, .string { data := #[] }, .int .i64 0] rfl A1.out.bu rfl ?_)
              | ((fail_if_success (have z := Z1)); have z := A1; clear z; go_at_call 10; go_must (refine (Calls.mono (HE.out _) ?_)); rintro r y ⟨va, vc, rfl, h1, h2⟩; have Z1 : Hid (GD w y wr.heap.size #[.int .i64 (G0 : Int), .int .i64 (G1 : Int), .int .i64 (G2 : Int), .int .i64 2, .string S5, .string { data := #[] }, .int .i64 0]) := A1.out.new (below_gb h2); clear h1 h2)
              | (have z := Z1; clear z; refine wpList_store_bk 36 rfl (.tmp 2) (.tmp 112) rfl infoGupd w.heap.size _ noUpd rfl rfl Z1.out.b0 rfl rfl (by simp [noUpd, Value.oneCell']) ?_; intro w4 k1 k2; have Z2 : Hid (Bk 36 w4 w.heap.size noUpd ∧ w.grownBy w4 none) := ⟨k1, gb_newer Z1.out.gb k2 (Nat.le_refl _)⟩; clear k1 k2))
            refine bodyPost_ret (results_cell2 Try.results14 _ _ _ ⟨w.heap.size, 0, none⟩ _ _ rfl rfl (bk_load Try.underlying36 rfl infoGupd Z2.out.1 rfl)) rfl ?_
            refine ⟨?_, gb_below Z2.out.2⟩
            unfold gres gerr
            rw [if_neg (by rw [HNO.out]; decide), if_neg (by rw [HNO.out]; decide)]
            rfl
        · have hb2 : ((G3 : Int) != 2) = true := by simp; omega
          obtain ⟨S6, hS6⟩ : ∃ S, S = strOfNums (g6 xs).1 := ⟨_, rfl⟩
          obtain ⟨K6, hK6⟩ : ∃ K, K = (g6 xs).2 := ⟨_, rfl⟩
          obtain ⟨P5, hP5'⟩ : ∃ Q, Q = P + K5 := ⟨_, rfl⟩
          have E6 : g6 xs = gtk (xs.drop P5) := by unfold g6; rw [if_pos ⟨by rw [← HG.out.2.2.2.2.2.1]; omega, by rw [← HG.out.2.2.2.1]; exact h2⟩, hP5', HG.out.2.2.2.2.2.2, HG.out.2.2.2.2.2.1]
          have hb6 := (gtk_bd (xs.drop P5)).1
          rw [List.length_drop, HS.out.2.2.2.2] at hb6
          have hK6b : K6 ≤ len - P5 := by rw [hK6, E6]; exact hb6
          have HT6 : Hid (∀ W, w.grownBy W none → Calls Try.prog 37 #[.slice (cutA a cap P5) (len - P5) (cap - P5)] W fun r w' => r = .returned (.tuple #[.string S6, .int .i64 (K6 : Int)]) ∧ w' = W) := fun W hg => by rw [hS6, hK6, E6]; exact HTK.out W P5 hg
          have hsl5 : ∀ W, (Instr.slice 27 (.slice a len cap) (some (.int .i64 (P5 : Int))) none none).run Try.prog W = .ok (.slice (cutA a cap P5) (len - P5) (cap - P5)) W := fun W => HSL.out P5 W (by omega)
          have hPP : (P : Int) + (K5 : Int) = (P5 : Int) := by omega
          have hP6 : (P5 : Int) + (K6 : Int) ≤ 140737488355328 := by omega
          have HG6 : Hid (S6 = strOfNums (g6 xs).1 ∧ K6 = (g6 xs).2 ∧ P5 = P + K5) := ⟨hS6, hK6, hP5'⟩
          have H2 : Hid (G3 ≠ 2) := h2
          clear hS6 hK6 E6 hb6 hP5' h2
          by_cases h3 : G3 = 3
          · subst h3
            by_cases h6 : K6 = 0
            · have H7 : g7 xs = (0, K6) := by unfold g7; rw [if_neg (by rw [← HG6.out.2.1]; omega), ← HG6.out.2.1]
              have HK7 : Hid ((g7 xs).2 = K6) := by show _ = _; rw [H7]
              have hk6 : ¬ (0 : Int) < (K6 : Int) := by omega
              have hkz := h6
              obtain ⟨Z, hZ⟩ : ∃ Z, Z = updZ (G0 : Int) (G1 : Int) (G2 : Int) 3 S5 S6 0 := ⟨_, rfl⟩
              obtain ⟨L, hL⟩ : ∃ L, L = Z.length := ⟨_, rfl⟩
              obtain ⟨E, hE⟩ : ∃ E, E = updE (G0 : Int) (G1 : Int) (G2 : Int) 3 S5 S6 0 := ⟨_, rfl⟩
              have HE : Hid (∀ W, Calls Try.prog 10 #[.agg #[.int .i64 (G0 : Int), .int .i64 (G1 : Int), .int .i64 (G2 : Int), .int .i64 3, .string S5, .string S6, .int .i64 0]] W fun r w' => ∃ va vc, r = .returned (.tuple #[.slice va L vc, .int .i64 E]) ∧ Own W.heap.size w' (.slice va L vc) L Z ∧ Below W.heap.size W w') := fun W => by
                have := gencode_c (G0 : Int) (G1 : Int) (G2 : Int) 3 S5 S6 0 W
                unfold EA at this
                rw [← hZ, ← hL, ← hE] at this
                exact this
              have HU : Hid (gupd xs = ⟨(G0 : Int), (G1 : Int), (G2 : Int), 3, S5, S6, 0⟩) := by
                show _ = _
                unfold gupd
                rw [← HG.out.1, ← HG.out.2.1, ← HG.out.2.2.1, ← HG.out.2.2.2.1, ← HG.out.2.2.2.2.1, ← HG6.out.1, H7]; rfl
              have HQ : Hid (gok xs = (decide (K6 ≠ 0) && (E == 0) && decide (Upd.bytes ⟨(G0 : Int), (G1 : Int), (G2 : Int), 3, S5, S6, 0⟩ = xs))) := by
                show _ = _
                unfold gok
                rw [HF4.out, HU.out, HK7.out, Bool.true_and]
                unfold Upd.err
                rw [← hE]
              have hkf : ((K6 : Int) == 0) = true := by simp [hkz]
              have HNO : Hid (gok xs = false) := by show _ = _; rw [HQ.out, hkz]; rfl
              clear h6 H7 hkz hZ hL hE HQ HK7
              go_wp2_with (first
                | ((fail_if_success (have z := A0)); refine wpList_store_bk 36 rfl (.tmp 9) (.tmp 43) rfl infoGupd wr.heap.size noUpd #[.int .i64 (G0 : Int), .int .i64 (G1 : Int), .int .i64 (G2 : Int), .int .i64 3, .string { data := #[] }, .string { data := #[] }, .int .i64 0] rfl rfl (blk_new wr 36 noUpd).1 rfl rfl (by simp [Value.oneCell']) ?_; intro x0 k1 k2; have A0 : Hid (GD w x0 wr.heap.size #[.int .i64 (G0 : Int), .int .i64 (G1 : Int), .int .i64 (G2 : Int), .int .i64 3, .string { data := #[] }, .string { data := #[] }, .int .i64 0]) := ⟨(hr.out.1.grew (gb_alloc _ _) (by simp)).grew k2 (fun z => by have := Option.some.inj z; have := hr.out.2.2.2.1; omega), k1, gb_newer (gb_trans hr.out.2.2.1 (gb_alloc _ _)) k2 (by have := hr.out.2.2.2.1; omega), by have := hr.out.2.2.2.1; omega⟩; clear k1 k2)
                | ((fail_if_success (have z := A1)); have z := A0; clear z; go_at_call 37; go_must (refine (Calls.mono (HT5.out _ A0.out.gb) ?_)); rintro r wq ⟨rfl, hq⟩; obtain rfl := hq.symm; have c4 : x0.cell? ⟨wr.heap.size, 4, none⟩ = some (.string { data := #[] }) := A0.out.cell 4; have f4 : x0.frozen? ⟨wr.heap.size, 4, none⟩ = false := A0.out.free 4; have A1 : Hid (GD w (x0.setCell ⟨wr.heap.size, 4, none⟩ (.string S5)) wr.heap.size #[.int .i64 (G0 : Int), .int .i64 (G1 : Int), .int .i64 (G2 : Int), .int .i64 3, .string S5, .string { data := #[] }, .int .i64 0]) := A0.out.set 4 _; have kd : (x0.setCell ⟨wr.heap.size, 4, none⟩ (.string S5)).cell? ⟨wr.heap.size, 3, none⟩ = some (.int .i64 3) := A1.out.cell 3; clear hq)
                | ((fail_if_success (have z := A2)); have z := A1; clear z; go_at_call 37; go_must (refine (Calls.mono (HT6.out _ A1.out.gb) ?_)); rintro r wq ⟨rfl, hq⟩; obtain rfl := hq.symm; have c5 : (x0.setCell ⟨wr.heap.size, 4, none⟩ (.string S5)).cell? ⟨wr.heap.size, 5, none⟩ = some (.string { data := #[] }) := A1.out.cell 5; have f5 : (x0.setCell ⟨wr.heap.size, 4, none⟩ (.string S5)).frozen? ⟨wr.heap.size, 5, none⟩ = false := A1.out.free 5; have A2 : Hid (GD w ((x0.setCell ⟨wr.heap.size, 4, none⟩ (.string S5)).setCell ⟨wr.heap.size, 5, none⟩ (.string S6)) wr.heap.size #[.int .i64 (G0 : Int), .int .i64 (G1 : Int), .int .i64 (G2 : Int), .int .i64 3, .string S5, .string S6, .int .i64 0]) := A1.out.set 5 _; have kd2 : ((x0.setCell ⟨wr.heap.size, 4, none⟩ (.string S5)).setCell ⟨wr.heap.size, 5, none⟩ (.string S6)).cell? ⟨wr.heap.size, 3, none⟩ = some (.int .i64 3) := A2.out.cell 3; clear hq)
                | ((fail_if_success (have z := Z1)); have z := A2; clear z; refine wpList_load_bk 36 rfl (.tmp 9) rfl Try.underlying36 rfl infoGupd wr.heap.size #[.int .i64 (G0 : Int), .int .i64 (G1 : Int), .int .i64 (G2 : Int), .int .i64 3, .string S5, .string S6, .int .i64 0] rfl A2.out.bu rfl ?_)
                | ((fail_if_success (have z := Z1)); have z := A2; clear z; go_at_call 10; go_must (refine (Calls.mono (HE.out _) ?_)); rintro r y ⟨va, vc, rfl, h1, h2⟩; have Z1 : Hid (GD w y wr.heap.size #[.int .i64 (G0 : Int), .int .i64 (G1 : Int), .int .i64 (G2 : Int), .int .i64 3, .string S5, .string S6, .int .i64 0]) := A2.out.new (below_gb h2); clear h1 h2)
                | (have z := Z1; clear z; refine wpList_store_bk 36 rfl (.tmp 2) (.tmp 112) rfl infoGupd w.heap.size _ noUpd rfl rfl Z1.out.b0 rfl rfl (by simp [noUpd, Value.oneCell']) ?_; intro w4 k1 k2; have Z2 : Hid (Bk 36 w4 w.heap.size noUpd ∧ w.grownBy w4 none) := ⟨k1, gb_newer Z1.out.gb k2 (Nat.le_refl _)⟩; clear k1 k2))
              refine bodyPost_ret (results_cell2 Try.results14 _ _ _ ⟨w.heap.size, 0, none⟩ _ _ rfl rfl (bk_load Try.underlying36 rfl infoGupd Z2.out.1 rfl)) rfl ?_
              refine ⟨?_, gb_below Z2.out.2⟩
              unfold gres gerr
              rw [if_neg (by rw [HNO.out]; decide), if_neg (by rw [HNO.out]; decide)]
              rfl
            · have hk6 : (0 : Int) < (K6 : Int) := by omega
              obtain ⟨V7, hV7⟩ : ∃ S, S = (g7 xs).1 := ⟨_, rfl⟩
              obtain ⟨K7, hK7⟩ : ∃ K, K = (g7 xs).2 := ⟨_, rfl⟩
              obtain ⟨P6, hP6'⟩ : ∃ Q, Q = P5 + K6 := ⟨_, rfl⟩
              have E7 : g7 xs = grd (xs.drop P6) 0 0 := by
                have hc : 0 < (g5 xs).2 ∧ gn xs 3 ≠ 2 := ⟨by rw [← HG.out.2.2.2.2.2.1]; omega, by rw [← HG.out.2.2.2.1]; omega⟩
                have e6 : gp6 xs = P6 := by unfold gp6; rw [if_pos hc, hP6', HG6.out.2.2, HG.out.2.2.2.2.2.2, HG.out.2.2.2.2.2.1, HG6.out.2.1]
                unfold g7
                rw [if_pos ⟨by rw [← HG6.out.2.1]; omega, HG.out.2.2.2.1.symm⟩, e6]
              have hb7 := grd_bd (xs.drop P6) 0 0
              rw [List.length_drop, HS.out.2.2.2.2, ← E7, ← hV7, ← hK7] at hb7
              have HR7 : Hid (∀ W, w.grownBy W none → Calls Try.prog 36 #[.slice (cutA a cap P6) (len - P6) (cap - P6)] W fun r w' => r = .returned (.tuple #[.int .i64 (V7 : Int), .int .i64 (K7 : Int)]) ∧ w' = W) := fun W hg => by rw [hV7, hK7, E7]; exact HRV.out W P6 hg
              have hsl6 : ∀ W, (Instr.slice 27 (.slice a len cap) (some (.int .i64 (P6 : Int))) none none).run Try.prog W = .ok (.slice (cutA a cap P6) (len - P6) (cap - P6)) W := fun W => HSL.out P6 W (by omega)
              have hPP6 : (P5 : Int) + (K6 : Int) = (P6 : Int) := by omega
              have hV7b : (V7 : Int) ≤ 4611686018427387904 := by omega
              have HG7 : Hid (V7 = (g7 xs).1) := hV7
              have HK7 : Hid ((g7 xs).2 = K7) := hK7.symm
              clear hV7 hK7 E7 hb7 hP6' h6
              obtain ⟨Z, hZ⟩ : ∃ Z, Z = updZ (G0 : Int) (G1 : Int) (G2 : Int) 3 S5 S6 (V7 : Int) := ⟨_, rfl⟩
              obtain ⟨L, hL⟩ : ∃ L, L = Z.length := ⟨_, rfl⟩
              obtain ⟨E, hE⟩ : ∃ E, E = updE (G0 : Int) (G1 : Int) (G2 : Int) 3 S5 S6 (V7 : Int) := ⟨_, rfl⟩
              have HE : Hid (∀ W, Calls Try.prog 10 #[.agg #[.int .i64 (G0 : Int), .int .i64 (G1 : Int), .int .i64 (G2 : Int), .int .i64 3, .string S5, .string S6, .int .i64 (V7 : Int)]] W fun r w' => ∃ va vc, r = .returned (.tuple #[.slice va L vc, .int .i64 E]) ∧ Own W.heap.size w' (.slice va L vc) L Z ∧ Below W.heap.size W w') := fun W => by
                have := gencode_c (G0 : Int) (G1 : Int) (G2 : Int) 3 S5 S6 (V7 : Int) W
                unfold EA at this
                rw [← hZ, ← hL, ← hE] at this
                exact this
              have HU : Hid (gupd xs = ⟨(G0 : Int), (G1 : Int), (G2 : Int), 3, S5, S6, (V7 : Int)⟩) := by
                show _ = _
                unfold gupd
                rw [← HG.out.1, ← HG.out.2.1, ← HG.out.2.2.1, ← HG.out.2.2.2.1, ← HG.out.2.2.2.2.1, ← HG6.out.1, ← HG7.out]; rfl
              have HQ : Hid (gok xs = (decide (K7 ≠ 0) && (E == 0) && decide (Upd.bytes ⟨(G0 : Int), (G1 : Int), (G2 : Int), 3, S5, S6, (V7 : Int)⟩ = xs))) := by
                show _ = _
                unfold gok
                rw [HF4.out, HU.out, HK7.out, Bool.true_and]
                unfold Upd.err
                rw [← hE]
              by_cases hkz : K7 = 0
              · have hk6' : ¬ (0 : Int) < (K7 : Int) := by omega
                have hkf : ((K7 : Int) == 0) = true := by simp [hkz]
                have HNO : Hid (gok xs = false) := by show _ = _; rw [HQ.out, hkz]; rfl
                clear hkz hZ hL hE HQ HK7
                go_wp2_with (first
                  | ((fail_if_success (have z := A0)); refine wpList_store_bk 36 rfl (.tmp 9) (.tmp 43) rfl infoGupd wr.heap.size noUpd #[.int .i64 (G0 : Int), .int .i64 (G1 : Int), .int .i64 (G2 : Int), .int .i64 3, .string { data := #[] }, .string { data := #[] }, .int .i64 0] rfl rfl (blk_new wr 36 noUpd).1 rfl rfl (by simp [Value.oneCell']) ?_; intro x0 k1 k2; have A0 : Hid (GD w x0 wr.heap.size #[.int .i64 (G0 : Int), .int .i64 (G1 : Int), .int .i64 (G2 : Int), .int .i64 3, .string { data := #[] }, .string { data := #[] }, .int .i64 0]) := ⟨(hr.out.1.grew (gb_alloc _ _) (by simp)).grew k2 (fun z => by have := Option.some.inj z; have := hr.out.2.2.2.1; omega), k1, gb_newer (gb_trans hr.out.2.2.1 (gb_alloc _ _)) k2 (by have := hr.out.2.2.2.1; omega), by have := hr.out.2.2.2.1; omega⟩; clear k1 k2)
                  | ((fail_if_success (have z := A1)); have z := A0; clear z; go_at_call 37; go_must (refine (Calls.mono (HT5.out _ A0.out.gb) ?_)); rintro r wq ⟨rfl, hq⟩; obtain rfl := hq.symm; have c4 : x0.cell? ⟨wr.heap.size, 4, none⟩ = some (.string { data := #[] }) := A0.out.cell 4; have f4 : x0.frozen? ⟨wr.heap.size, 4, none⟩ = false := A0.out.free 4; have A1 : Hid (GD w (x0.setCell ⟨wr.heap.size, 4, none⟩ (.string S5)) wr.heap.size #[.int .i64 (G0 : Int), .int .i64 (G1 : Int), .int .i64 (G2 : Int), .int .i64 3, .string S5, .string { data := #[] }, .int .i64 0]) := A0.out.set 4 _; have kd : (x0.setCell ⟨wr.heap.size, 4, none⟩ (.string S5)).cell? ⟨wr.heap.size, 3, none⟩ = some (.int .i64 3) := A1.out.cell 3; clear hq)
                  | ((fail_if_success (have z := A2)); have z := A1; clear z; go_at_call 37; go_must (refine (Calls.mono (HT6.out _ A1.out.gb) ?_)); rintro r wq ⟨rfl, hq⟩; obtain rfl := hq.symm; have c5 : (x0.setCell ⟨wr.heap.size, 4, none⟩ (.string S5)).cell? ⟨wr.heap.size, 5, none⟩ = some (.string { data := #[] }) := A1.out.cell 5; have f5 : (x0.setCell ⟨wr.heap.size, 4, none⟩ (.string S5)).frozen? ⟨wr.heap.size, 5, none⟩ = false := A1.out.free 5; have A2 : Hid (GD w ((x0.setCell ⟨wr.heap.size, 4, none⟩ (.string S5)).setCell ⟨wr.heap.size, 5, none⟩ (.string S6)) wr.heap.size #[.int .i64 (G0 : Int), .int .i64 (G1 : Int), .int .i64 (G2 : Int), .int .i64 3, .string S5, .string S6, .int .i64 0]) := A1.out.set 5 _; have kd2 : ((x0.setCell ⟨wr.heap.size, 4, none⟩ (.string S5)).setCell ⟨wr.heap.size, 5, none⟩ (.string S6)).cell? ⟨wr.heap.size, 3, none⟩ = some (.int .i64 3) := A2.out.cell 3; clear hq)
                  | ((fail_if_success (have z := A3)); have z := A2; clear z; go_at_call 36; go_must (refine (Calls.mono (HR7.out _ A2.out.gb) ?_)); rintro r wq ⟨rfl, hq⟩; obtain rfl := hq.symm; have c6 : ((x0.setCell ⟨wr.heap.size, 4, none⟩ (.string S5)).setCell ⟨wr.heap.size, 5, none⟩ (.string S6)).cell? ⟨wr.heap.size, 6, none⟩ = some (.int .i64 0) := A2.out.cell 6; have f6 : ((x0.setCell ⟨wr.heap.size, 4, none⟩ (.string S5)).setCell ⟨wr.heap.size, 5, none⟩ (.string S6)).frozen? ⟨wr.heap.size, 6, none⟩ = false := A2.out.free 6; have A3 : Hid (GD w (((x0.setCell ⟨wr.heap.size, 4, none⟩ (.string S5)).setCell ⟨wr.heap.size, 5, none⟩ (.string S6)).setCell ⟨wr.heap.size, 6, none⟩ (.int .i64 (V7 : Int))) wr.heap.size #[.int .i64 (G0 : Int), .int .i64 (G1 : Int), .int .i64 (G2 : Int), .int .i64 3, .string S5, .string S6, .int .i64 (V7 : Int)]) := A2.out.set 6 _; clear hq)
                  | ((fail_if_success (have z := Z1)); have z := A3; clear z; refine wpList_load_bk 36 rfl (.tmp 9) rfl Try.underlying36 rfl infoGupd wr.heap.size #[.int .i64 (G0 : Int), .int .i64 (G1 : Int), .int .i64 (G2 : Int), .int .i64 3, .string S5, .string S6, .int .i64 (V7 : Int)] rfl A3.out.bu rfl ?_)
                  | ((fail_if_success (have z := Z1)); have z := A3; clear z; go_at_call 10; go_must (refine (Calls.mono (HE.out _) ?_)); rintro r y ⟨va, vc, rfl, h1, h2⟩; have Z1 : Hid (GD w y wr.heap.size #[.int .i64 (G0 : Int), .int .i64 (G1 : Int), .int .i64 (G2 : Int), .int .i64 3, .string S5, .string S6, .int .i64 (V7 : Int)]) := A3.out.new (below_gb h2); clear h1 h2)
                  | (have z := Z1; clear z; refine wpList_store_bk 36 rfl (.tmp 2) (.tmp 112) rfl infoGupd w.heap.size _ noUpd rfl rfl Z1.out.b0 rfl rfl (by simp [noUpd, Value.oneCell']) ?_; intro w4 k1 k2; have Z2 : Hid (Bk 36 w4 w.heap.size noUpd ∧ w.grownBy w4 none) := ⟨k1, gb_newer Z1.out.gb k2 (Nat.le_refl _)⟩; clear k1 k2))
                refine bodyPost_ret (results_cell2 Try.results14 _ _ _ ⟨w.heap.size, 0, none⟩ _ _ rfl rfl (bk_load Try.underlying36 rfl infoGupd Z2.out.1 rfl)) rfl ?_
                refine ⟨?_, gb_below Z2.out.2⟩
                unfold gres gerr
                rw [if_neg (by rw [HNO.out]; decide), if_neg (by rw [HNO.out]; decide)]
                rfl
              · have hk6' : (0 : Int) < (K7 : Int) := by omega
                have hkf : ((K7 : Int) == 0) = false := by simp; omega
                by_cases hE0 : E = 0
                · have hZ2 : Z = Upd.bytes ⟨(G0 : Int), (G1 : Int), (G2 : Int), 3, S5, S6, (V7 : Int)⟩ := by rw [hZ]; unfold updZ; rw [← hE, if_pos hE0]; rfl
                  subst hE0
                  by_cases hZX : strOfNums Z = strOfNums xs
                  · have HOK : Hid (gok xs = true) := by
                      have : Z = xs := strOfNums_inj (by rw [hZ2]; exact bytes_upd _) HS.out.2.1 hZX
                      show _ = _
                      rw [HQ.out, ← hZ2, decide_eq_true this, decide_eq_true (p := K7 ≠ 0) (by omega)]
                      rfl
                    clear hZ2 hZ hL hE HQ HK7
                    go_wp2_with (first
                      | ((fail_if_success (have z := A0)); refine wpList_store_bk 36 rfl (.tmp 9) (.tmp 43) rfl infoGupd wr.heap.size noUpd #[.int .i64 (G0 : Int), .int .i64 (G1 : Int), .int .i64 (G2 : Int), .int .i64 3, .string { data := #[] }, .string { data := #[] }, .int .i64 0] rfl rfl (blk_new wr 36 noUpd).1 rfl rfl (by simp [Value.oneCell']) ?_; intro x0 k1 k2; have A0 : Hid (GD w x0 wr.heap.size #[.int .i64 (G0 : Int), .int .i64 (G1 : Int), .int .i64 (G2 : Int), .int .i64 3, .string { data := #[] }, .string { data := #[] }, .int .i64 0]) := ⟨(hr.out.1.grew (gb_alloc _ _) (by simp)).grew k2 (fun z => by have := Option.some.inj z; have := hr.out.2.2.2.1; omega), k1, gb_newer (gb_trans hr.out.2.2.1 (gb_alloc _ _)) k2 (by have := hr.out.2.2.2.1; omega), by have := hr.out.2.2.2.1; omega⟩; clear k1 k2)
                      | ((fail_if_success (have z := A1)); have z := A0; clear z; go_at_call 37; go_must (refine (Calls.mono (HT5.out _ A0.out.gb) ?_)); rintro r wq ⟨rfl, hq⟩; obtain rfl := hq.symm; have c4 : x0.cell? ⟨wr.heap.size, 4, none⟩ = some (.string { data := #[] }) := A0.out.cell 4; have f4 : x0.frozen? ⟨wr.heap.size, 4, none⟩ = false := A0.out.free 4; have A1 : Hid (GD w (x0.setCell ⟨wr.heap.size, 4, none⟩ (.string S5)) wr.heap.size #[.int .i64 (G0 : Int), .int .i64 (G1 : Int), .int .i64 (G2 : Int), .int .i64 3, .string S5, .string { data := #[] }, .int .i64 0]) := A0.out.set 4 _; have kd : (x0.setCell ⟨wr.heap.size, 4, none⟩ (.string S5)).cell? ⟨wr.heap.size, 3, none⟩ = some (.int .i64 3) := A1.out.cell 3; clear hq)
                      | ((fail_if_success (have z := A2)); have z := A1; clear z; go_at_call 37; go_must (refine (Calls.mono (HT6.out _ A1.out.gb) ?_)); rintro r wq ⟨rfl, hq⟩; obtain rfl := hq.symm; have c5 : (x0.setCell ⟨wr.heap.size, 4, none⟩ (.string S5)).cell? ⟨wr.heap.size, 5, none⟩ = some (.string { data := #[] }) := A1.out.cell 5; have f5 : (x0.setCell ⟨wr.heap.size, 4, none⟩ (.string S5)).frozen? ⟨wr.heap.size, 5, none⟩ = false := A1.out.free 5; have A2 : Hid (GD w ((x0.setCell ⟨wr.heap.size, 4, none⟩ (.string S5)).setCell ⟨wr.heap.size, 5, none⟩ (.string S6)) wr.heap.size #[.int .i64 (G0 : Int), .int .i64 (G1 : Int), .int .i64 (G2 : Int), .int .i64 3, .string S5, .string S6, .int .i64 0]) := A1.out.set 5 _; have kd2 : ((x0.setCell ⟨wr.heap.size, 4, none⟩ (.string S5)).setCell ⟨wr.heap.size, 5, none⟩ (.string S6)).cell? ⟨wr.heap.size, 3, none⟩ = some (.int .i64 3) := A2.out.cell 3; clear hq)
                      | ((fail_if_success (have z := A3)); have z := A2; clear z; go_at_call 36; go_must (refine (Calls.mono (HR7.out _ A2.out.gb) ?_)); rintro r wq ⟨rfl, hq⟩; obtain rfl := hq.symm; have c6 : ((x0.setCell ⟨wr.heap.size, 4, none⟩ (.string S5)).setCell ⟨wr.heap.size, 5, none⟩ (.string S6)).cell? ⟨wr.heap.size, 6, none⟩ = some (.int .i64 0) := A2.out.cell 6; have f6 : ((x0.setCell ⟨wr.heap.size, 4, none⟩ (.string S5)).setCell ⟨wr.heap.size, 5, none⟩ (.string S6)).frozen? ⟨wr.heap.size, 6, none⟩ = false := A2.out.free 6; have A3 : Hid (GD w (((x0.setCell ⟨wr.heap.size, 4, none⟩ (.string S5)).setCell ⟨wr.heap.size, 5, none⟩ (.string S6)).setCell ⟨wr.heap.size, 6, none⟩ (.int .i64 (V7 : Int))) wr.heap.size #[.int .i64 (G0 : Int), .int .i64 (G1 : Int), .int .i64 (G2 : Int), .int .i64 3, .string S5, .string S6, .int .i64 (V7 : Int)]) := A2.out.set 6 _; clear hq)
                      | ((fail_if_success (have z := Z1)); have z := A3; clear z; refine wpList_load_bk 36 rfl (.tmp 9) rfl Try.underlying36 rfl infoGupd wr.heap.size #[.int .i64 (G0 : Int), .int .i64 (G1 : Int), .int .i64 (G2 : Int), .int .i64 3, .string S5, .string S6, .int .i64 (V7 : Int)] rfl A3.out.bu rfl ?_)
                      | ((fail_if_success (have z := Z1)); have z := A3; clear z; go_at_call 10; go_must (refine (Calls.mono (HE.out _) ?_)); rintro r y ⟨va, vc, rfl, h1, h2⟩; have Z1 : Hid (GD w y wr.heap.size #[.int .i64 (G0 : Int), .int .i64 (G1 : Int), .int .i64 (G2 : Int), .int .i64 3, .string S5, .string S6, .int .i64 (V7 : Int)]) := A3.out.new (below_gb h2); have s1 := str_own h1; have s2 := HSX.out y (gb_trans A3.out.gb (below_gb h2)); rw [hZX] at s1; clear h1 h2)
                      | (have z := Z1; clear z; (fail_if_success (have z := Z2)); refine wpList_load_bk 36 rfl (.tmp 9) rfl Try.underlying36 rfl infoGupd wr.heap.size #[.int .i64 (G0 : Int), .int .i64 (G1 : Int), .int .i64 (G2 : Int), .int .i64 3, .string S5, .string S6, .int .i64 (V7 : Int)] rfl Z1.out.bu rfl ?_)
                      | (have z := Z1; clear z; refine wpList_store_bk 36 rfl (.tmp 2) (.tmp 113) rfl infoGupd w.heap.size _ #[.int .i64 (G0 : Int), .int .i64 (G1 : Int), .int .i64 (G2 : Int), .int .i64 3, .string S5, .string S6, .int .i64 (V7 : Int)] rfl rfl Z1.out.b0 rfl rfl (by simp [Value.oneCell']) ?_; intro w4 k1 k2; have Z2 : Hid (Bk 36 w4 w.heap.size #[.int .i64 (G0 : Int), .int .i64 (G1 : Int), .int .i64 (G2 : Int), .int .i64 3, .string S5, .string S6, .int .i64 (V7 : Int)] ∧ w.grownBy w4 none) := ⟨k1, gb_newer Z1.out.gb k2 (Nat.le_refl _)⟩; clear k1 k2))
                    refine bodyPost_ret (results_cell2 Try.results14 _ _ _ ⟨w.heap.size, 0, none⟩ _ _ rfl rfl (bk_load Try.underlying36 rfl infoGupd Z2.out.1 rfl)) rfl ?_
                    refine ⟨?_, gb_below Z2.out.2⟩
                    unfold gres gerr
                    rw [if_pos HOK.out, if_pos HOK.out, HU.out]
                    rfl
                  · have HNO : Hid (gok xs = false) := by
                      have : ¬ Z = xs := fun z => hZX (by rw [z])
                      show _ = _
                      rw [HQ.out, ← hZ2, decide_eq_false this]
                      simp
                    have hrn := neq_list hZX
                    clear hZ2 hZ hL hE HQ HK7 hZX
                    go_wp2_with (first
                      | ((fail_if_success (have z := A0)); refine wpList_store_bk 36 rfl (.tmp 9) (.tmp 43) rfl infoGupd wr.heap.size noUpd #[.int .i64 (G0 : Int), .int .i64 (G1 : Int), .int .i64 (G2 : Int), .int .i64 3, .string { data := #[] }, .string { data := #[] }, .int .i64 0] rfl rfl (blk_new wr 36 noUpd).1 rfl rfl (by simp [Value.oneCell']) ?_; intro x0 k1 k2; have A0 : Hid (GD w x0 wr.heap.size #[.int .i64 (G0 : Int), .int .i64 (G1 : Int), .int .i64 (G2 : Int), .int .i64 3, .string { data := #[] }, .string { data := #[] }, .int .i64 0]) := ⟨(hr.out.1.grew (gb_alloc _ _) (by simp)).grew k2 (fun z => by have := Option.some.inj z; have := hr.out.2.2.2.1; omega), k1, gb_newer (gb_trans hr.out.2.2.1 (gb_alloc _ _)) k2 (by have := hr.out.2.2.2.1; omega), by have := hr.out.2.2.2.1; omega⟩; clear k1 k2)
                      | ((fail_if_success (have z := A1)); have z := A0; clear z; go_at_call 37; go_must (refine (Calls.mono (HT5.out _ A0.out.gb) ?_)); rintro r wq ⟨rfl, hq⟩; obtain rfl := hq.symm; have c4 : x0.cell? ⟨wr.heap.size, 4, none⟩ = some (.string { data := #[] }) := A0.out.cell 4; have f4 : x0.frozen? ⟨wr.heap.size, 4, none⟩ = false := A0.out.free 4; have A1 : Hid (GD w (x0.setCell ⟨wr.heap.size, 4, none⟩ (.string S5)) wr.heap.size #[.int .i64 (G0 : Int), .int .i64 (G1 : Int), .int .i64 (G2 : Int), .int .i64 3, .string S5, .string { data := #[] }, .int .i64 0]) := A0.out.set 4 _; have kd : (x0.setCell ⟨wr.heap.size, 4, none⟩ (.string S5)).cell? ⟨wr.heap.size, 3, none⟩ = some (.int .i64 3) := A1.out.cell 3; clear hq)
                      | ((fail_if_success (have z := A2)); have z := A1; clear z; go_at_call 37; go_must (refine (Calls.mono (HT6.out _ A1.out.gb) ?_)); rintro r wq ⟨rfl, hq⟩; obtain rfl := hq.symm; have c5 : (x0.setCell ⟨wr.heap.size, 4, none⟩ (.string S5)).cell? ⟨wr.heap.size, 5, none⟩ = some (.string { data := #[] }) := A1.out.cell 5; have f5 : (x0.setCell ⟨wr.heap.size, 4, none⟩ (.string S5)).frozen? ⟨wr.heap.size, 5, none⟩ = false := A1.out.free 5; have A2 : Hid (GD w ((x0.setCell ⟨wr.heap.size, 4, none⟩ (.string S5)).setCell ⟨wr.heap.size, 5, none⟩ (.string S6)) wr.heap.size #[.int .i64 (G0 : Int), .int .i64 (G1 : Int), .int .i64 (G2 : Int), .int .i64 3, .string S5, .string S6, .int .i64 0]) := A1.out.set 5 _; have kd2 : ((x0.setCell ⟨wr.heap.size, 4, none⟩ (.string S5)).setCell ⟨wr.heap.size, 5, none⟩ (.string S6)).cell? ⟨wr.heap.size, 3, none⟩ = some (.int .i64 3) := A2.out.cell 3; clear hq)
                      | ((fail_if_success (have z := A3)); have z := A2; clear z; go_at_call 36; go_must (refine (Calls.mono (HR7.out _ A2.out.gb) ?_)); rintro r wq ⟨rfl, hq⟩; obtain rfl := hq.symm; have c6 : ((x0.setCell ⟨wr.heap.size, 4, none⟩ (.string S5)).setCell ⟨wr.heap.size, 5, none⟩ (.string S6)).cell? ⟨wr.heap.size, 6, none⟩ = some (.int .i64 0) := A2.out.cell 6; have f6 : ((x0.setCell ⟨wr.heap.size, 4, none⟩ (.string S5)).setCell ⟨wr.heap.size, 5, none⟩ (.string S6)).frozen? ⟨wr.heap.size, 6, none⟩ = false := A2.out.free 6; have A3 : Hid (GD w (((x0.setCell ⟨wr.heap.size, 4, none⟩ (.string S5)).setCell ⟨wr.heap.size, 5, none⟩ (.string S6)).setCell ⟨wr.heap.size, 6, none⟩ (.int .i64 (V7 : Int))) wr.heap.size #[.int .i64 (G0 : Int), .int .i64 (G1 : Int), .int .i64 (G2 : Int), .int .i64 3, .string S5, .string S6, .int .i64 (V7 : Int)]) := A2.out.set 6 _; clear hq)
                      | ((fail_if_success (have z := Z1)); have z := A3; clear z; refine wpList_load_bk 36 rfl (.tmp 9) rfl Try.underlying36 rfl infoGupd wr.heap.size #[.int .i64 (G0 : Int), .int .i64 (G1 : Int), .int .i64 (G2 : Int), .int .i64 3, .string S5, .string S6, .int .i64 (V7 : Int)] rfl A3.out.bu rfl ?_)
                      | ((fail_if_success (have z := Z1)); have z := A3; clear z; go_at_call 10; go_must (refine (Calls.mono (HE.out _) ?_)); rintro r y ⟨va, vc, rfl, h1, h2⟩; have Z1 : Hid (GD w y wr.heap.size #[.int .i64 (G0 : Int), .int .i64 (G1 : Int), .int .i64 (G2 : Int), .int .i64 3, .string S5, .string S6, .int .i64 (V7 : Int)]) := A3.out.new (below_gb h2); have s1 := str_own h1; have s2 := HSX.out y (gb_trans A3.out.gb (below_gb h2)); generalize strOfNums Z = T1 at s1 hrn; generalize strOfNums xs = T2 at s2 hrn; clear h1 h2)
                      | (have z := Z1; clear z; refine wpList_store_bk 36 rfl (.tmp 2) (.tmp 112) rfl infoGupd w.heap.size _ noUpd rfl rfl Z1.out.b0 rfl rfl (by simp [noUpd, Value.oneCell']) ?_; intro w4 k1 k2; have Z2 : Hid (Bk 36 w4 w.heap.size noUpd ∧ w.grownBy w4 none) := ⟨k1, gb_newer Z1.out.gb k2 (Nat.le_refl _)⟩; clear k1 k2))
                    refine bodyPost_ret (results_cell2 Try.results14 _ _ _ ⟨w.heap.size, 0, none⟩ _ _ rfl rfl (bk_load Try.underlying36 rfl infoGupd Z2.out.1 rfl)) rfl ?_
                    refine ⟨?_, gb_below Z2.out.2⟩
                    unfold gres gerr
                    rw [if_neg (by rw [HNO.out]; decide), if_neg (by rw [HNO.out]; decide)]
                    rfl
                · have hEb : (E != 0) = true := by simp [hE0]
                  have HNO : Hid (gok xs = false) := by
                    show _ = _
                    rw [HQ.out, show (E == 0) = false from by simpa using hE0]
                    simp
                  clear hE0 hZ hL hE HQ HK7
                  go_wp2_with (first
                    | ((fail_if_success (have z := A0)); refine wpList_store_bk 36 rfl (.tmp 9) (.tmp 43) rfl infoGupd wr.heap.size noUpd #[.int .i64 (G0 : Int), .int .i64 (G1 : Int), .int .i64 (G2 : Int), .int .i64 3, .string { data := #[] }, .string { data := #[] }, .int .i64 0] rfl rfl (blk_new wr 36 noUpd).1 rfl rfl (by simp [Value.oneCell']) ?_; intro x0 k1 k2; have A0 : Hid (GD w x0 wr.heap.size #[.int .i64 (G0 : Int), .int .i64 (G1 : Int), .int .i64 (G2 : Int), .int .i64 3, .string { data := #[] }, .string { data := #[] }, .int .i64 0]) := ⟨(hr.out.1.grew (gb_alloc _ _) (by simp)).grew k2 (fun z => by have := Option.some.inj z; have := hr.out.2.2.2.1; omega), k1, gb_newer (gb_trans hr.out.2.2.1 (gb_alloc _ _)) k2 (by have := hr.out.2.2.2.1; omega), by have := hr.out.2.2.2.1; omega⟩; clear k1 k2)
                    | ((fail_if_success (have z := A1)); have z := A0; clear z; go_at_call 37; go_must (refine (Calls.mono (HT5.out _ A0.out.gb) ?_)); rintro r wq ⟨rfl, hq⟩; obtain rfl := hq.symm; have c4 : x0.cell? ⟨wr.heap.size, 4, none⟩ = some (.string { data := #[] }) := A0.out.cell 4; have f4 : x0.frozen? ⟨wr.heap.size, 4, none⟩ = false := A0.out.free 4; have A1 : Hid (GD w (x0.setCell ⟨wr.heap.size, 4, none⟩ (.string S5)) wr.heap.size #[.int .i64 (G0 : Int), .int .i64 (G1 : Int), .int .i64 (G2 : Int), .int .i64 3, .string S5, .string { data := #[] }, .int .i64 0]) := A0.out.set 4 _; have kd : (x0.setCell ⟨wr.heap.size, 4, none⟩ (.string S5)).cell? ⟨wr.heap.size, 3, none⟩ = some (.int .i64 3) := A1.out.cell 3; clear hq)
                    | ((fail_if_success (have z := A2)); have z := A1; clear z; go_at_call 37; go_must (refine (Calls.mono (HT6.out _ A1.out.gb) ?_)); rintro r wq ⟨rfl, hq⟩; obtain rfl := hq.symm; have c5 : (x0.setCell ⟨wr.heap.size, 4, none⟩ (.string S5)).cell? ⟨wr.heap.size, 5, none⟩ = some (.string { data := #[] }) := A1.out.cell 5; have f5 : (x0.setCell ⟨wr.heap.size, 4, none⟩ (.string S5)).frozen? ⟨wr.heap.size, 5, none⟩ = false := A1.out.free 5; have A2 : Hid (GD w ((x0.setCell ⟨wr.heap.size, 4, none⟩ (.string S5)).setCell ⟨wr.heap.size, 5, none⟩ (.string S6)) wr.heap.size #[.int .i64 (G0 : Int), .int .i64 (G1 : Int), .int .i64 (G2 : Int), .int .i64 3, .string S5, .string S6, .int .i64 0]) := A1.out.set 5 _; have kd2 : ((x0.setCell ⟨wr.heap.size, 4, none⟩ (.string S5)).setCell ⟨wr.heap.size, 5, none⟩ (.string S6)).cell? ⟨wr.heap.size, 3, none⟩ = some (.int .i64 3) := A2.out.cell 3; clear hq)
                    | ((fail_if_success (have z := A3)); have z := A2; clear z; go_at_call 36; go_must (refine (Calls.mono (HR7.out _ A2.out.gb) ?_)); rintro r wq ⟨rfl, hq⟩; obtain rfl := hq.symm; have c6 : ((x0.setCell ⟨wr.heap.size, 4, none⟩ (.string S5)).setCell ⟨wr.heap.size, 5, none⟩ (.string S6)).cell? ⟨wr.heap.size, 6, none⟩ = some (.int .i64 0) := A2.out.cell 6; have f6 : ((x0.setCell ⟨wr.heap.size, 4, none⟩ (.string S5)).setCell ⟨wr.heap.size, 5, none⟩ (.string S6)).frozen? ⟨wr.heap.size, 6, none⟩ = false := A2.out.free 6; have A3 : Hid (GD w (((x0.setCell ⟨wr.heap.size, 4, none⟩ (.string S5)).setCell ⟨wr.heap.size, 5, none⟩ (.string S6)).setCell ⟨wr.heap.size, 6, none⟩ (.int .i64 (V7 : Int))) wr.heap.size #[.int .i64 (G0 : Int), .int .i64 (G1 : Int), .int .i64 (G2 : Int), .int .i64 3, .string S5, .string S6, .int .i64 (V7 : Int)]) := A2.out.set 6 _; clear hq)
                    | ((fail_if_success (have z := Z1)); have z := A3; clear z; refine wpList_load_bk 36 rfl (.tmp 9) rfl Try.underlying36 rfl infoGupd wr.heap.size #[.int .i64 (G0 : Int), .int .i64 (G1 : Int), .int .i64 (G2 : Int), .int .i64 3, .string S5, .string S6, .int .i64 (V7 : Int)] rfl A3.out.bu rfl ?_)
                    | ((fail_if_success (have z := Z1)); have z := A3; clear z; go_at_call 10; go_must (refine (Calls.mono (HE.out _) ?_)); rintro r y ⟨va, vc, rfl, h1, h2⟩; have Z1 : Hid (GD w y wr.heap.size #[.int .i64 (G0 : Int), .int .i64 (G1 : Int), .int .i64 (G2 : Int), .int .i64 3, .string S5, .string S6, .int .i64 (V7 : Int)]) := A3.out.new (below_gb h2); clear h1 h2)
                    | (have z := Z1; clear z; refine wpList_store_bk 36 rfl (.tmp 2) (.tmp 112) rfl infoGupd w.heap.size _ noUpd rfl rfl Z1.out.b0 rfl rfl (by simp [noUpd, Value.oneCell']) ?_; intro w4 k1 k2; have Z2 : Hid (Bk 36 w4 w.heap.size noUpd ∧ w.grownBy w4 none) := ⟨k1, gb_newer Z1.out.gb k2 (Nat.le_refl _)⟩; clear k1 k2))
                  refine bodyPost_ret (results_cell2 Try.results14 _ _ _ ⟨w.heap.size, 0, none⟩ _ _ rfl rfl (bk_load Try.underlying36 rfl infoGupd Z2.out.1 rfl)) rfl ?_
                  refine ⟨?_, gb_below Z2.out.2⟩
                  unfold gres gerr
                  rw [if_neg (by rw [HNO.out]; decide), if_neg (by rw [HNO.out]; decide)]
                  rfl
          · have hb3 : ((G3 : Int) == 3) = false := by simp; omega
            have H7 : g7 xs = (0, K6) := by unfold g7; rw [if_neg (by rw [← HG.out.2.2.2.1]; omega), ← HG6.out.2.1]
            have HK7 : Hid ((g7 xs).2 = K6) := by show _ = _; rw [H7]
            clear h3
            obtain ⟨Z, hZ⟩ : ∃ Z, Z = updZ (G0 : Int) (G1 : Int) (G2 : Int) (G3 : Int) S5 S6 0 := ⟨_, rfl⟩
            obtain ⟨L, hL⟩ : ∃ L, L = Z.length := ⟨_, rfl⟩
            obtain ⟨E, hE⟩ : ∃ E, E = updE (G0 : Int) (G1 : Int) (G2 : Int) (G3 : Int) S5 S6 0 := ⟨_, rfl⟩
            have HE : Hid (∀ W, Calls Try.prog 10 #[.agg #[.int .i64 (G0 : Int), .int .i64 (G1 : Int), .int .i64 (G2 : Int), .int .i64 (G3 : Int), .string S5, .string S6, .int .i64 0]] W fun r w' => ∃ va vc, r = .returned (.tuple #[.slice va L vc, .int .i64 E]) ∧ Own W.heap.size w' (.slice va L vc) L Z ∧ Below W.heap.size W w') := fun W => by
              have := gencode_c (G0 : Int) (G1 : Int) (G2 : Int) (G3 : Int) S5 S6 0 W
              unfold EA at this
              rw [← hZ, ← hL, ← hE] at this
              exact this
            have HU : Hid (gupd xs = ⟨(G0 : Int), (G1 : Int), (G2 : Int), (G3 : Int), S5, S6, 0⟩) := by
              show _ = _
              unfold gupd
              rw [← HG.out.1, ← HG.out.2.1, ← HG.out.2.2.1, ← HG.out.2.2.2.1, ← HG.out.2.2.2.2.1, ← HG6.out.1, H7]; rfl
            have HQ : Hid (gok xs = (decide (K6 ≠ 0) && (E == 0) && decide (Upd.bytes ⟨(G0 : Int), (G1 : Int), (G2 : Int), (G3 : Int), S5, S6, 0⟩ = xs))) := by
              show _ = _
              unfold gok
              rw [HF4.out, HU.out, HK7.out, Bool.true_and]
              unfold Upd.err
              rw [← hE]
            by_cases hkz : K6 = 0
            · have hk6' : ¬ (0 : Int) < (K6 : Int) := by omega
              have hkf : ((K6 : Int) == 0) = true := by simp [hkz]
              have HNO : Hid (gok xs = false) := by show _ = _; rw [HQ.out, hkz]; rfl
              clear hkz hZ hL hE HQ HK7 H7
              go_wp2_with (first
                | ((fail_if_success (have z := A0)); refine wpList_store_bk 36 rfl (.tmp 9) (.tmp 43) rfl infoGupd wr.heap.size noUpd #[.int .i64 (G0 : Int), .int .i64 (G1 : Int), .int .i64 (G2 : Int), .int .i64 (G3 : Int), .string { data := #[] }, .string { data := #[] }, .int .i64 0] rfl rfl (blk_new wr 36 noUpd).1 rfl rfl (by simp [Value.oneCell']) ?_; intro x0 k1 k2; have A0 : Hid (GD w x0 wr.heap.size #[.int .i64 (G0 : Int), .int .i64 (G1 : Int), .int .i64 (G2 : Int), .int .i64 (G3 : Int), .string { data := #[] }, .string { data := #[] }, .int .i64 0]) := ⟨(hr.out.1.grew (gb_alloc _ _) (by simp)).grew k2 (fun z => by have := Option.some.inj z; have := hr.out.2.2.2.1; omega), k1, gb_newer (gb_trans hr.out.2.2.1 (gb_alloc _ _)) k2 (by have := hr.out.2.2.2.1; omega), by have := hr.out.2.2.2.1; omega⟩; clear k1 k2)
                | ((fail_if_success (have z := A1)); have z := A0; clear z; go_at_call 37; go_must (refine (Calls.mono (HT5.out _ A0.out.gb) ?_)); rintro r wq ⟨rfl, hq⟩; obtain rfl := hq.symm; have c4 : x0.cell? ⟨wr.heap.size, 4, none⟩ = some (.string { data := #[] }) := A0.out.cell 4; have f4 : x0.frozen? ⟨wr.heap.size, 4, none⟩ = false := A0.out.free 4; have A1 : Hid (GD w (x0.setCell ⟨wr.heap.size, 4, none⟩ (.string S5)) wr.heap.size #[.int .i64 (G0 : Int), .int .i64 (G1 : Int), .int .i64 (G2 : Int), .int .i64 (G3 : Int), .string S5, .string { data := #[] }, .int .i64 0]) := A0.out.set 4 _; have kd : (x0.setCell ⟨wr.heap.size, 4, none⟩ (.string S5)).cell? ⟨wr.heap.size, 3, none⟩ = some (.int .i64 (G3 : Int)) := A1.out.cell 3; clear hq)
                | ((fail_if_success (have z := A2)); have z := A1; clear z; go_at_call 37; go_must (refine (Calls.mono (HT6.out _ A1.out.gb) ?_)); rintro r wq ⟨rfl, hq⟩; obtain rfl := hq.symm; have c5 : (x0.setCell ⟨wr.heap.size, 4, none⟩ (.string S5)).cell? ⟨wr.heap.size, 5, none⟩ = some (.string { data := #[] }) := A1.out.cell 5; have f5 : (x0.setCell ⟨wr.heap.size, 4, none⟩ (.string S5)).frozen? ⟨wr.heap.size, 5, none⟩ = false := A1.out.free 5; have A2 : Hid (GD w ((x0.setCell ⟨wr.heap.size, 4, none⟩ (.string S5)).setCell ⟨wr.heap.size, 5, none⟩ (.string S6)) wr.heap.size #[.int .i64 (G0 : Int), .int .i64 (G1 : Int), .int .i64 (G2 : Int), .int .i64 (G3 : Int), .string S5, .string S6, .int .i64 0]) := A1.out.set 5 _; have kd2 : ((x0.setCell ⟨wr.heap.size, 4, none⟩ (.string S5)).setCell ⟨wr.heap.size, 5, none⟩ (.string S6)).cell? ⟨wr.heap.size, 3, none⟩ = some (.int .i64 (G3 : Int)) := A2.out.cell 3; clear hq)
                | ((fail_if_success (have z := Z1)); have z := A2; clear z; refine wpList_load_bk 36 rfl (.tmp 9) rfl Try.underlying36 rfl infoGupd wr.heap.size #[.int .i64 (G0 : Int), .int .i64 (G1 : Int), .int .i64 (G2 : Int), .int .i64 (G3 : Int), .string S5, .string S6, .int .i64 0] rfl A2.out.bu rfl ?_)
                | ((fail_if_success (have z := Z1)); have z := A2; clear z; go_at_call 10; go_must (refine (Calls.mono (HE.out _) ?_)); rintro r y ⟨va, vc, rfl, h1, h2⟩; have Z1 : Hid (GD w y wr.heap.size #[.int .i64 (G0 : Int), .int .i64 (G1 : Int), .int .i64 (G2 : Int), .int .i64 (G3 : Int), .string S5, .string S6, .int .i64 0]) := A2.out.new (below_gb h2); clear h1 h2)
                | (have z := Z1; clear z; refine wpList_store_bk 36 rfl (.tmp 2) (.tmp 112) rfl infoGupd w.heap.size _ noUpd rfl rfl Z1.out.b0 rfl rfl (by simp [noUpd, Value.oneCell']) ?_; intro w4 k1 k2; have Z2 : Hid (Bk 36 w4 w.heap.size noUpd ∧ w.grownBy w4 none) := ⟨k1, gb_newer Z1.out.gb k2 (Nat.le_refl _)⟩; clear k1 k2))
              refine bodyPost_ret (results_cell2 Try.results14 _ _ _ ⟨w.heap.size, 0, none⟩ _ _ rfl rfl (bk_load Try.underlying36 rfl infoGupd Z2.out.1 rfl)) rfl ?_
              refine ⟨?_, gb_below Z2.out.2⟩
              unfold gres gerr
              rw [if_neg (by rw [HNO.out]; decide), if_neg (by rw [HNO.out]; decide)]
              rfl
            · have hk6' : (0 : Int) < (K6 : Int) := by omega
              have hkf : ((K6 : Int) == 0) = false := by simp; omega
              by_cases hE0 : E = 0
              · have hZ2 : Z = Upd.bytes ⟨(G0 : Int), (G1 : Int), (G2 : Int), (G3 : Int), S5, S6, 0⟩ := by rw [hZ]; unfold updZ; rw [← hE, if_pos hE0]; rfl
                subst hE0
                by_cases hZX : strOfNums Z = strOfNums xs
                · have HOK : Hid (gok xs = true) := by
                    have : Z = xs := strOfNums_inj (by rw [hZ2]; exact bytes_upd _) HS.out.2.1 hZX
                    show _ = _
                    rw [HQ.out, ← hZ2, decide_eq_true this, decide_eq_true (p := K6 ≠ 0) (by omega)]
                    rfl
                  clear hZ2 hZ hL hE HQ HK7 H7
                  go_wp2_with (first
                    | ((fail_if_success (have z := A0)); refine wpList_store_bk 36 rfl (.tmp 9) (.tmp 43) rfl infoGupd wr.heap.size noUpd #[.int .i64 (G0 : Int), .int .i64 (G1 : Int), .int .i64 (G2 : Int), .int .i64 (G3 : Int), .string { data := #[] }, .string { data := #[] }, .int .i64 0] rfl rfl (blk_new wr 36 noUpd).1 rfl rfl (by simp [Value.oneCell']) ?_; intro x0 k1 k2; have A0 : Hid (GD w x0 wr.heap.size #[.int .i64 (G0 : Int), .int .i64 (G1 : Int), .int .i64 (G2 : Int), .int .i64 (G3 : Int), .string { data := #[] }, .string { data := #[] }, .int .i64 0]) := ⟨(hr.out.1.grew (gb_alloc _ _) (by simp)).grew k2 (fun z => by have := Option.some.inj z; have := hr.out.2.2.2.1; omega), k1, gb_newer (gb_trans hr.out.2.2.1 (gb_alloc _ _)) k2 (by have := hr.out.2.2.2.1; omega), by have := hr.out.2.2.2.1; omega⟩; clear k1 k2)
                    | ((fail_if_success (have z := A1)); have z := A0; clear z; go_at_call 37; go_must (refine (Calls.mono (HT5.out _ A0.out.gb) ?_)); rintro r wq ⟨rfl, hq⟩; obtain rfl := hq.symm; have c4 : x0.cell? ⟨wr.heap.size, 4, none⟩ = some (.string { data := #[] }) := A0.out.cell 4; have f4 : x0.frozen? ⟨wr.heap.size, 4, none⟩ = false := A0.out.free 4; have A1 : Hid (GD w (x0.setCell ⟨wr.heap.size, 4, none⟩ (.string S5)) wr.heap.size #[.int .i64 (G0 : Int), .int .i64 (G1 : Int), .int .i64 (G2 : Int), .int .i64 (G3 : Int), .string S5, .string { data := #[] }, .int .i64 0]) := A0.out.set 4 _; have kd : (x0.setCell ⟨wr.heap.size, 4, none⟩ (.string S5)).cell? ⟨wr.heap.size, 3, none⟩ = some (.int .i64 (G3 : Int)) := A1.out.cell 3; clear hq)
                    | ((fail_if_success (have z := A2)); have z := A1; clear z; go_at_call 37; go_must (refine (Calls.mono (HT6.out _ A1.out.gb) ?_)); rintro r wq ⟨rfl, hq⟩; obtain rfl := hq.symm; have c5 : (x0.setCell ⟨wr.heap.size, 4, none⟩ (.string S5)).cell? ⟨wr.heap.size, 5, none⟩ = some (.string { data := #[] }) := A1.out.cell 5; have f5 : (x0.setCell ⟨wr.heap.size, 4, none⟩ (.string S5)).frozen? ⟨wr.heap.size, 5, none⟩ = false := A1.out.free 5; have A2 : Hid (GD w ((x0.setCell ⟨wr.heap.size, 4, none⟩ (.string S5)).setCell ⟨wr.heap.size, 5, none⟩ (.string S6)) wr.heap.size #[.int .i64 (G0 : Int), .int .i64 (G1 : Int), .int .i64 (G2 : Int), .int .i64 (G3 : Int), .string S5, .string S6, .int .i64 0]) := A1.out.set 5 _; have kd2 : ((x0.setCell ⟨wr.heap.size, 4, none⟩ (.string S5)).setCell ⟨wr.heap.size, 5, none⟩ (.string S6)).cell? ⟨wr.heap.size, 3, none⟩ = some (.int .i64 (G3 : Int)) := A2.out.cell 3; clear hq)
                    | ((fail_if_success (have z := Z1)); have z := A2; clear z; refine wpList_load_bk 36 rfl (.tmp 9) rfl Try.underlying36 rfl infoGupd wr.heap.size #[.int .i64 (G0 : Int), .int .i64 (G1 : Int), .int .i64 (G2 : Int), .int .i64 (G3 : Int), .string S5, .string S6, .int .i64 0] rfl A2.out.bu rfl ?_)
                    | ((fail_if_success (have z := Z1)); have z := A2; clear z; go_at_call 10; go_must (refine (Calls.mono (HE.out _) ?_)); rintro r y ⟨va, vc, rfl, h1, h2⟩; have Z1 : Hid (GD w y wr.heap.size #[.int .i64 (G0 : Int), .int .i64 (G1 : Int), .int .i64 (G2 : Int), .int .i64 (G3 : Int), .string S5, .string S6, .int .i64 0]) := A2.out.new (below_gb h2); have s1 := str_own h1; have s2 := HSX.out y (gb_trans A2.out.gb (below_gb h2)); rw [hZX] at s1; clear h1 h2)
                    | (have z := Z1; clear z; (fail_if_success (have z := Z2)); refine wpList_load_bk 36 rfl (.tmp 9) rfl Try.underlying36 rfl infoGupd wr.heap.size #[.int .i64 (G0 : Int), .int .i64 (G1 : Int), .int .i64 (G2 : Int), .int .i64 (G3 : Int), .string S5, .string S6, .int .i64 0] rfl Z1.out.bu rfl ?_)
                    | (have z := Z1; clear z; refine wpList_store_bk 36 rfl (.tmp 2) (.tmp 113) rfl infoGupd w.heap.size _ #[.int .i64 (G0 : Int), .int .i64 (G1 : Int), .int .i64 (G2 : Int), .int .i64 (G3 : Int), .string S5, .string S6, .int .i64 0] rfl rfl Z1.out.b0 rfl rfl (by simp [Value.oneCell']) ?_; intro w4 k1 k2; have Z2 : Hid (Bk 36 w4 w.heap.size #[.int .i64 (G0 : Int), .int .i64 (G1 : Int), .int .i64 (G2 : Int), .int .i64 (G3 : Int), .string S5, .string S6, .int .i64 0] ∧ w.grownBy w4 none) := ⟨k1, gb_newer Z1.out.gb k2 (Nat.le_refl _)⟩; clear k1 k2))
                  refine bodyPost_ret (results_cell2 Try.results14 _ _ _ ⟨w.heap.size, 0, none⟩ _ _ rfl rfl (bk_load Try.underlying36 rfl infoGupd Z2.out.1 rfl)) rfl ?_
                  refine ⟨?_, gb_below Z2.out.2⟩
                  unfold gres gerr
                  rw [if_pos HOK.out, if_pos HOK.out, HU.out]
                  rfl
                · have HNO : Hid (gok xs = false) := by
                    have : ¬ Z = xs := fun z => hZX (by rw [z])
                    show _ = _
                    rw [HQ.out, ← hZ2, decide_eq_false this]
                    simp
                  have hrn := neq_list hZX
                  clear hZ2 hZ hL hE HQ HK7 H7 hZX
                  go_wp2_with (first
                    | ((fail_if_success (have z := A0)); refine wpList_store_bk 36 rfl (.tmp 9) (.tmp 43) rfl infoGupd wr.heap.size noUpd #[.int .i64 (G0 : Int), .int .i64 (G1 : Int), .int .i64 (G2 : Int), .int .i64 (G3 : Int), .string { data := #[] }, .string { data := #[] }, .int .i64 0] rfl rfl (blk_new wr 36 noUpd).1 rfl rfl (by simp [Value.oneCell']) ?_; intro x0 k1 k2; have A0 : Hid (GD w x0 wr.heap.size #[.int .i64 (G0 : Int), .int .i64 (G1 : Int), .int .i64 (G2 : Int), .int .i64 (G3 : Int), .string { data := #[] }, .string { data := #[] }, .int .i64 0]) := ⟨(hr.out.1.grew (gb_alloc _ _) (by simp)).grew k2 (fun z => by have := Option.some.inj z; have := hr.out.2.2.2.1; omega), k1, gb_newer (gb_trans hr.out.2.2.1 (gb_alloc _ _)) k2 (by have := hr.out.2.2.2.1; omega), by have := hr.out.2.2.2.1; omega⟩; clear k1 k2)
                    | ((fail_if_success (have z := A1)); have z := A0; clear z; go_at_call 37; go_must (refine (Calls.mono (HT5.out _ A0.out.gb) ?_)); rintro r wq ⟨rfl, hq⟩; obtain rfl := hq.symm; have c4 : x0.cell? ⟨wr.heap.size, 4, none⟩ = some (.string { data := #[] }) := A0.out.cell 4; have f4 : x0.frozen? ⟨wr.heap.size, 4, none⟩ = false := A0.out.free 4; have A1 : Hid (GD w (x0.setCell ⟨wr.heap.size, 4, none⟩ (.string S5)) wr.heap.size #[.int .i64 (G0 : Int), .int .i64 (G1 : Int), .int .i64 (G2 : Int), .int .i64 (G3 : Int), .string S5, .string { data := #[] }, .int .i64 0]) := A0.out.set 4 _; have kd : (x0.setCell ⟨wr.heap.size, 4, none⟩ (.string S5)).cell? ⟨wr.heap.size, 3, none⟩ = some (.int .i64 (G3 : Int)) := A1.out.cell 3; clear hq)
                    | ((fail_if_success (have z := A2)); have z := A1; clear z; go_at_call 37; go_must (refine (Calls.mono (HT6.out _ A1.out.gb) ?_)); rintro r wq ⟨rfl, hq⟩; obtain rfl := hq.symm; have c5 : (x0.setCell ⟨wr.heap.size, 4, none⟩ (.string S5)).cell? ⟨wr.heap.size, 5, none⟩ = some (.string { data := #[] }) := A1.out.cell 5; have f5 : (x0.setCell ⟨wr.heap.size, 4, none⟩ (.string S5)).frozen? ⟨wr.heap.size, 5, none⟩ = false := A1.out.free 5; have A2 : Hid (GD w ((x0.setCell ⟨wr.heap.size, 4, none⟩ (.string S5)).setCell ⟨wr.heap.size, 5, none⟩ (.string S6)) wr.heap.size #[.int .i64 (G0 : Int), .int .i64 (G1 : Int), .int .i64 (G2 : Int), .int .i64 (G3 : Int), .string S5, .string S6, .int .i64 0]) := A1.out.set 5 _; have kd2 : ((x0.setCell ⟨wr.heap.size, 4, none⟩ (.string S5)).setCell ⟨wr.heap.size, 5, none⟩ (.string S6)).cell? ⟨wr.heap.size, 3, none⟩ = some (.int .i64 (G3 : Int)) := A2.out.cell 3; clear hq)
                    | ((fail_if_success (have z := Z1)); have z := A2; clear z; refine wpList_load_bk 36 rfl (.tmp 9) rfl Try.underlying36 rfl infoGupd wr.heap.size #[.int .i64 (G0 : Int), .int .i64 (G1 : Int), .int .i64 (G2 : Int), .int .i64 (G3 : Int), .string S5, .string S6, .int .i64 0] rfl A2.out.bu rfl ?_)
                    | ((fail_if_success (have z := Z1)); have z := A2; clear z; go_at_call 10; go_must (refine (Calls.mono (HE.out _) ?_)); rintro r y ⟨va, vc, rfl, h1, h2⟩; have Z1 : Hid (GD w y wr.heap.size #[.int .i64 (G0 : Int), .int .i64 (G1 : Int), .int .i64 (G2 : Int), .int .i64 (G3 : Int), .string S5, .string S6, .int .i64 0]) := A2.out.new (below_gb h2); have s1 := str_own h1; have s2 := HSX.out y (gb_trans A2.out.gb (below_gb h2)); generalize strOfNums Z = T1 at s1 hrn; generalize strOfNums xs = T2 at s2 hrn; clear h1 h2)
                    | (have z := Z1; clear z; refine wpList_store_bk 36 rfl (.tmp 2) (.tmp 112) rfl infoGupd w.heap.size _ noUpd rfl rfl Z1.out.b0 rfl rfl (by simp [noUpd, Value.oneCell']) ?_; intro w4 k1 k2; have Z2 : Hid (Bk 36 w4 w.heap.size noUpd ∧ w.grownBy w4 none) := ⟨k1, gb_newer Z1.out.gb k2 (Nat.le_refl _)⟩; clear k1 k2))
                  refine bodyPost_ret (results_cell2 Try.results14 _ _ _ ⟨w.heap.size, 0, none⟩ _ _ rfl rfl (bk_load Try.underlying36 rfl infoGupd Z2.out.1 rfl)) rfl ?_
                  refine ⟨?_, gb_below Z2.out.2⟩
                  unfold gres gerr
                  rw [if_neg (by rw [HNO.out]; decide), if_neg (by rw [HNO.out]; decide)]
                  rfl
              · have hEb : (E != 0) = true := by simp [hE0]
                have HNO : Hid (gok xs = false) := by
                  show _ = _
                  rw [HQ.out, show (E == 0) = false from by simpa using hE0]
                  simp
                clear hE0 hZ hL hE HQ HK7 H7
                go_wp2_with (first
                  | ((fail_if_success (have z := A0)); refine wpList_store_bk 36 rfl (.tmp 9) (.tmp 43) rfl infoGupd wr.heap.size noUpd #[.int .i64 (G0 : Int), .int .i64 (G1 : Int), .int .i64 (G2 : Int), .int .i64 (G3 : Int), .string { data := #[] }, .string { data := #[] }, .int .i64 0] rfl rfl (blk_new wr 36 noUpd).1 rfl rfl (by simp [Value.oneCell']) ?_; intro x0 k1 k2; have A0 : Hid (GD w x0 wr.heap.size #[.int .i64 (G0 : Int), .int .i64 (G1 : Int), .int .i64 (G2 : Int), .int .i64 (G3 : Int), .string { data := #[] }, .string { data := #[] }, .int .i64 0]) := ⟨(hr.out.1.grew (gb_alloc _ _) (by simp)).grew k2 (fun z => by have := Option.some.inj z; have := hr.out.2.2.2.1; omega), k1, gb_newer (gb_trans hr.out.2.2.1 (gb_alloc _ _)) k2 (by have := hr.out.2.2.2.1; omega), by have := hr.out.2.2.2.1; omega⟩; clear k1 k2)
                  | ((fail_if_success (have z := A1)); have z := A0; clear z; go_at_call 37; go_must (refine (Calls.mono (HT5.out _ A0.out.gb) ?_)); rintro r wq ⟨rfl, hq⟩; obtain rfl := hq.symm; have c4 : x0.cell? ⟨wr.heap.size, 4, none⟩ = some (.string { data := #[] }) := A0.out.cell 4; have f4 : x0.frozen? ⟨wr.heap.size, 4, none⟩ = false := A0.out.free 4; have A1 : Hid (GD w (x0.setCell ⟨wr.heap.size, 4, none⟩ (.string S5)) wr.heap.size #[.int .i64 (G0 : Int), .int .i64 (G1 : Int), .int .i64 (G2 : Int), .int .i64 (G3 : Int), .string S5, .string { data := #[] }, .int .i64 0]) := A0.out.set 4 _; have kd : (x0.setCell ⟨wr.heap.size, 4, none⟩ (.string S5)).cell? ⟨wr.heap.size, 3, none⟩ = some (.int .i64 (G3 : Int)) := A1.out.cell 3; clear hq)
                  | ((fail_if_success (have z := A2)); have z := A1; clear z; go_at_call 37; go_must (refine (Calls.mono (HT6.out _ A1.out.gb) ?_)); rintro r wq ⟨rfl, hq⟩; obtain rfl := hq.symm; have c5 : (x0.setCell ⟨wr.heap.size, 4, none⟩ (.string S5)).cell? ⟨wr.heap.size, 5, none⟩ = some (.string { data := #[] }) := A1.out.cell 5; have f5 : (x0.setCell ⟨wr.heap.size, 4, none⟩ (.string S5)).frozen? ⟨wr.heap.size, 5, none⟩ = false := A1.out.free 5; have A2 : Hid (GD w ((x0.setCell ⟨wr.heap.size, 4, none⟩ (.string S5)).setCell ⟨wr.heap.size, 5, none⟩ (.string S6)) wr.heap.size #[.int .i64 (G0 : Int), .int .i64 (G1 : Int), .int .i64 (G2 : Int), .int .i64 (G3 : Int), .string S5, .string S6, .int .i64 0]) := A1.out.set 5 _; have kd2 : ((x0.setCell ⟨wr.heap.size, 4, none⟩ (.string S5)).setCell ⟨wr.heap.size, 5, none⟩ (.string S6)).cell? ⟨wr.heap.size, 3, none⟩ = some (.int .i64 (G3 : Int)) := A2.out.cell 3; clear hq)
                  | ((fail_if_success (have z := Z1)); have z := A2; clear z; refine wpList_load_bk 36 rfl (.tmp 9) rfl Try.underlying36 rfl infoGupd wr.heap.size #[.int .i64 (G0 : Int), .int .i64 (G1 : Int), .int .i64 (G2 : Int), .int .i64 (G3 : Int), .string S5, .string S6, .int .i64 0] rfl A2.out.bu rfl ?_)
                  | ((fail_if_success (have z := Z1)); have z := A2; clear z; go_at_call 10; go_must (refine (Calls.mono (HE.out _) ?_)); rintro r y ⟨va, vc, rfl, h1, h2⟩; have Z1 : Hid (GD w y wr.heap.size #[.int .i64 (G0 : Int), .int .i64 (G1 : Int), .int .i64 (G2 : Int), .int .i64 (G3 : Int), .string S5, .string S6, .int .i64 0]) := A2.out.new (below_gb h2); clear h1 h2)
                  | (have z := Z1; clear z; refine wpList_store_bk 36 rfl (.tmp 2) (.tmp 112) rfl infoGupd w.heap.size _ noUpd rfl rfl Z1.out.b0 rfl rfl (by simp [noUpd, Value.oneCell']) ?_; intro w4 k1 k2; have Z2 : Hid (Bk 36 w4 w.heap.size noUpd ∧ w.grownBy w4 none) := ⟨k1, gb_newer Z1.out.gb k2 (Nat.le_refl _)⟩; clear k1 k2))
                refine bodyPost_ret (results_cell2 Try.results14 _ _ _ ⟨w.heap.size, 0, none⟩ _ _ rfl rfl (bk_load Try.underlying36 rfl infoGupd Z2.out.1 rfl)) rfl ?_
                refine ⟨?_, gb_below Z2.out.2⟩
                unfold gres gerr
                rw [if_neg (by rw [HNO.out]; decide), if_neg (by rw [HNO.out]; decide)]
                rfl
end Go.Proofs.Ytmpedbddbknndaa.Dl

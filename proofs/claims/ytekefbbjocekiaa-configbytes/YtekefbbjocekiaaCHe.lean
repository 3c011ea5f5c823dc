/-
  What config's Encode answers. Condition: the chain can be read.
-/
import Derived.Test.YtekefbbjocekiaaCGz
import Derived.Test.YtekefbbjocekiaaWInt
import Derived.Test.YtekefbbjocekiaaWBy
import Derived.Test.YtekefbbjocekiaaEnc
namespace Go.Proofs.Ytekefbbjocekiaa
open Go.RowKit
set_option linter.unusedVariables false

/-- The bytes of a configuration. -/
def cBy (e : Int) (xs : List Int) : List Int := enc e.toNat ++ ((xs.length : Int) :: xs)
/-- A configuration in a block of its own, and a Writer that holds these bytes, all right so far. -/
structure EcI (w W : World) (N G : Nat) (e : Int) (v : Value) (ys : List Int) : Prop where
  c : CfB 27 W N e v
  b : Below w.heap.size w W
  s : ∃ fs, WS W G ys 0 fs
  n : N < G
  g : w.heap.size ≤ G
theorem EcI.go {w W W' : World} {N G : Nat} {e : Int} {v : Value} {ys ys' : List Int} {fs : List Nat} (h : EcI w W N G e v ys) (k : WGoes W G fs W' ys' 0) : EcI w W' N G e v ys' := by
  obtain ⟨fs', h1, h2, _⟩ := k
  exact ⟨(h2.block N h.c.lt (fun z => by have := h.n; omega)).trans h.c, Gr.below h.b h2 (fun k hk => by have := h.g; omega) h.b.size, ⟨fs', h1⟩, h.n, h.g⟩
theorem wie_ok {x most : Int} (h0 : 0 ≤ x) (h1 : x ≤ most) : wie x most = 0 := by unfold wie; rw [if_neg (by omega), if_neg (by omega)]
theorem eint_c {w : World} {N G : Nat} {e : Int} {v : Value} {ys : List Int} (x most : Int) (W : World) (h : EcI w W N G e v ys) (h0 : 0 ≤ x) (h1 : x ≤ most) (h2 : most ≤ 9223372036854775807) (hl : ys.length ≤ 1000) :
    Calls Try.prog 44 #[.pointer (some ⟨G, 0, none⟩), .int .i64 x, .int .i64 most] W fun r w' => r = .returned (.tuple #[]) ∧ EcI w w' N G e v (ys ++ enc x.toNat) := by
  obtain ⟨fs, hs⟩ := h.s
  refine (wint_c G ys 0 x most fs W hs (by omega) (by omega)).mono ?_
  rintro r w' ⟨rfl, hg⟩
  have e1 : ferr 0 (wie x most) = 0 := by unfold ferr; rw [if_pos rfl, wie_ok h0 h1]
  rw [e1] at hg
  exact ⟨rfl, h.go hg⟩
theorem enc_x {x : Int} (h0 : 0 ≤ x) (h1 : x < 128) : enc x.toNat = [x] := by rw [enc_small (by omega), Int.toNat_of_nonneg h0]
def zWr : Array Value := (wcells 0 (.pointer none) (List.replicate 256 0) 0 0).toArray
set_option maxRecDepth 20000 in
theorem zeroW (w : World) : (zeroValue 70).run Try.prog w = .ok (.agg zWr) w := by
  have h : (Try.prog.info? 70).map (fun i => (i.zero, i.size)) = some (some (.agg zWr), 260) := by kernel_rfl
  exact (zero_of_info h).1 w
theorem ws_zeroC (w : World) : WS (w.alloc (.cells zWr 70)) w.heap.size [] 0 [] :=
  ⟨none, List.replicate 256 0, 0, [], ⟨heap_new w _, List.length_replicate⟩, chain_nil _, by omega, rfl, by simp, fun i hi => by simp at hi⟩
theorem cBy_len {e : Int} {xs : List Int} : (cBy e xs).length = (enc e.toNat).length + (xs.length + 1) := by simp [cBy]
set_option maxRecDepth 20000 in
set_option maxHeartbeats 8000000 in
theorem cencode_c (e : Int) (a : Option Addr) (n c : Nat) (xs : List Int) (w : World) (h : Seg .i64 w a n xs) (hk : chk e xs = 0) :
    Calls Try.prog 33 #[.agg #[.int .i64 e, .slice a n c]] w fun r w' => ∃ a' c', r = .returned (.tuple #[.slice a' (cBy e xs).length c', .int .i64 0]) ∧ Seg .u8 w' a' (cBy e xs).length (cBy e xs) ∧ Below w.heap.size w w' := by
  have HC : Hid _ := check_c e a n c xs _ (h.below (alloc_b w (.cells #[.int .i64 e, .slice a n c] 27)))
  rw [hk] at HC
  have HB : Hid (Kn [(w.heap.size, 27, e, .slice a n c)] w (w.alloc (.cells #[.int .i64 e, .slice a n c] 27))) := Kn.of (CfB.new _ _ _ _) (alloc_b _ _)
  have HS : Hid (Seg .i64 w a n xs ∧ xs.length = n) := ⟨h, h.1⟩
  have HK : Hid (chk e xs = 0) := hk
  clear h hk
  have hz := zeroW
  have hch := chk_ok.1 HK.out
  have hlen := HS.out.2
  have hn8 : n ≤ 8 := by omega
  have HEL : Hid ((enc e.toNat).length ≤ 10) := enc_leN e.toNat (by omega)
  have he : 1 ≤ e ∧ e ≤ 1099511627776 := hch.1
  have HG : Hid (∀ x ∈ xs, 1 ≤ x ∧ x ≤ 8) := hch.2.2.1
  clear hch
  obtain ⟨G, hG⟩ : ∃ G : Nat → Nat, G = fun k => k := ⟨_, rfl⟩
  clear hG G
  go_enter Try.func33, Try.ntmps33
  go_wp2_with (first
    | (go_at_call 12; go_must (refine (Calls.mono HC.out ?_)); rintro r w1 ⟨rfl, hb⟩; have H1 : Hid (Kn [(w.heap.size, 27, e, .slice a n c)] w w1) := HB.out.below hb; go_must (have JA : Hid (EcI w (w1.alloc (.cells zWr 70)) w.heap.size w1.heap.size e (.slice a n c) []) := ⟨(H1.out.get 0 rfl).below (alloc_b _ _), H1.out.2.trans ((alloc_b _ _).mono H1.out.2.size), ⟨[], ws_zeroC w1⟩, H1.out.lt 0 rfl, H1.out.2.size⟩); have c0 := JA.out.c.c0; have c1 := JA.out.c.c1; clear hb))
  refine (Calls.mono (eint_c e 1099511627776 _ JA.out (by omega) he.2 (by decide) (by simp)) ?_)
  rintro r w2 ⟨rfl, k2⟩
  rw [List.nil_append] at k2
  have JB : Hid (EcI w w2 w.heap.size w1.heap.size e (.slice a n c) (enc e.toNat)) := k2
  have d0 := JB.out.c.c0
  have d1 := JB.out.c.c1
  clear k2 c0 c1
  go_wp2_with fail
  refine (Calls.mono (eint_c (n : Int) 8 _ JB.out (by omega) (by omega) (by decide) (by have := HEL.out; omega)) ?_)
  rintro r w3 ⟨rfl, k3⟩
  rw [enc_x (x := (n : Int)) (by omega) (by omega)] at k3
  have JC : Hid (EcI w w3 w.heap.size w1.heap.size e (.slice a n c) (enc e.toNat ++ [(n : Int)])) := k3
  have f0 := JC.out.c.c0
  have f1 := JC.out.c.c1
  clear k3 d0 d1
  go_wp2
  obtain ⟨G, hG⟩ : ∃ G, G = w1.heap.size := ⟨_, rfl⟩
  rw [← hG] at JC ⊢
  clear hG JA JB H1 HC HB hz
  go_loopw [23] (fun i wr => ∃ k : Nat, k ≤ n ∧ i = .int .i64 (k : Int) ∧ Hid (EcI w wr w.heap.size G e (.slice a n c) (enc e.toNat ++ [(n : Int)] ++ xs.take k))) (fun i _ => n - (intOf i).toNat)
  case atStart => exact ⟨0, Nat.zero_le _, rfl, by rw [List.take_zero, List.append_nil]; exact JC.out⟩
  case round =>
    obtain ⟨k, hk, rfl, hr⟩ := hrel
    have hw3 : wrap64 ((k : Int) + 1) = (k : Int) + 1 := IntWalk.wrap64_in _ ⟨by omega, by omega⟩
    by_cases hlt : k < n
    · have hi1 : (k : Int) < n := by omega
      obtain ⟨ba, oa, x, rfl, hx, ca⟩ := seg_at1 (HS.out.1.below hr.out.b) hlt
      have hx8 := HG.out x (List.mem_of_getElem? hx)
      have HX : Hid (xs.take (k + 1) = xs.take k ++ [x]) := by show _ = _; rw [List.take_add_one, hx]; rfl
      have HT : Hid ((xs.take k).length ≤ 8) := by show _ ≤ _; rw [List.length_take]; omega
      clear hx
      go_wp2_with fail
      refine (Calls.mono (eint_c x 8 _ hr.out (by omega) hx8.2 (by decide) (by have := HEL.out; have := HT.out; simp; omega)) ?_)
      rintro r w5 ⟨rfl, k5⟩
      rw [enc_x (x := x) (by omega) (by omega), List.append_assoc, ← HX.out] at k5
      have JD : Hid (EcI w w5 w.heap.size G e (.slice (some ⟨ba, oa, none⟩) n c) (enc e.toNat ++ [(n : Int)] ++ xs.take (k + 1))) := k5
      clear k5
      go_wp2
      go_roundw
      case rel => exact ⟨k + 1, by omega, by go_num, JD.out⟩
      case measure => simp [intOf]; omega
    · obtain rfl : k = n := by omega
      have hi1 : ¬ (k : Int) < k := by omega
      have HY : Hid (enc e.toNat ++ [(k : Int)] ++ xs.take k = cBy e xs) := by
        show _ = _
        rw [List.take_of_length_le (Nat.le_of_eq HS.out.2)]
        unfold cBy
        rw [HS.out.2, List.append_assoc]; rfl
      rw [HY.out] at hr
      obtain ⟨fs, hs⟩ := hr.out.s
      have HWB : Hid _ := wbytes_ok G (cBy e xs) fs wr hs (by have := HEL.out; rw [cBy_len]; omega)
      have HBB : Hid (Below w.heap.size w wr) := hr.out.b
      clear hs
      go_wp2_with (go_at_call 45; go_must (refine (Calls.mono HWB.out ?_)); rintro r w6 ⟨b, rfl, hb1, hb2, hb3⟩; have H6 : Hid (Row .u8 5 w6 b (cBy e xs) ∧ Below w.heap.size w w6) := ⟨hb2, HBB.out.trans (hb3.mono HBB.out.size)⟩; clear hb1 hb2 hb3)
      go_ret2
      exact ⟨_, _, rfl, H6.out.1.segAll _ rfl, H6.out.2⟩
theorem cencode_no (e : Int) (a : Option Addr) (n c : Nat) (xs : List Int) (w : World) (h : Seg .i64 w a n xs) (hk : chk e xs ≠ 0) :
    Calls Try.prog 33 #[.agg #[.int .i64 e, .slice a n c]] w fun r w' => r = .returned (.tuple #[.slice none 0 0, .int .i64 (chk e xs)]) ∧ Below w.heap.size w w' := by
  have HC : Hid _ := check_c e a n c xs _ (h.below (alloc_b w (.cells #[.int .i64 e, .slice a n c] 27)))
  have HB : Hid (Below w.heap.size w (w.alloc (.cells #[.int .i64 e, .slice a n c] 27))) := alloc_b _ _
  have hck : (chk e xs != 0) = true := by simpa using hk
  clear h hk
  go_enter Try.func33, Try.ntmps33
  go_wp2_with (go_at_call 12; go_must (refine (Calls.mono HC.out ?_)); rintro r w1 ⟨rfl, hb⟩; have H1 : Hid (Below w.heap.size w w1) := HB.out.trans (hb.mono HB.out.size); clear hb)
  go_ret2
  exact ⟨rfl, H1.out⟩
end Go.Proofs.Ytekefbbjocekiaa

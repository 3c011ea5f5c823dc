/-
  What merkle's laid answers: a row's bytes. Condition: its texts are no longer than 2^30 bytes.
-/
import Derived.Test.YthbnbomdngecmaaPkA
import Derived.Test.YthbnbomdngecmaaMNd
namespace Go.Proofs.Ythbnbomdngecmaa
set_option linter.unusedVariables false
open Go.RowKit

/-- A number without a sign, modulo 2^64. -/
def vu (n : Int) : Nat := (IntKind.u64.wrap n).toNat
/-- A row's bytes. -/
def rowB (k v : ByteArray) (n : Int) : List Int := ((Pk.enc k.size ++ Pk.sb k) ++ (Pk.enc v.size ++ Pk.sb v)) ++ Pk.enc (vu n)
theorem grown_ofM {a b : World} (h : Below a.heap.size a b) : a.grownBy b none := ⟨h.os, h.tape, h.output, h.size, fun i hi _ => h.block i hi⟩
theorem vu_bd (n : Int) : 0 ≤ IntKind.u64.wrap n ∧ IntKind.u64.wrap n < 18446744073709551616 := by
  have h : IntKind.u64.wrap n = n % 18446744073709551616 := by simp [IntKind.wrap, IntKind.signed, IntKind.bits]
  rw [h]; omega
theorem WM.uint {B : Nat} {w wr : World} {ys : List Int} (h : Pk.WM B w wr ys 0) (V : Int) (h0 : 0 ≤ V) (h1 : V < 18446744073709551616) (hb : ys.length + 10 ≤ 140737488355328) : Calls Try.prog 44 #[.pointer (some ⟨B, 0, none⟩), .int .u64 V] wr fun r w' => r = .returned (.tuple #[]) ∧ Pk.WM B w w' (ys ++ Pk.enc V.toNat) 0 := by
  refine h.goes (fun fs hw => ?_)
  have := Pk.wuint_c B ys 0 V fs wr hw h0 h1 hb
  unfold Pk.wadd at this
  rw [if_pos rfl] at this
  exact this
theorem rowB_bytes (k v : ByteArray) (n : Int) : Bytes (rowB k v n) := by
  have e : ∀ m, Bytes (Pk.enc m) := fun m => bytes_of_mem (Pk.enc_bytes m)
  have s : ∀ t, Bytes (Pk.sb t) := fun t => Pk.sb_bytes t
  exact bytes_cat (bytes_cat (bytes_cat (e _) (s _)) (bytes_cat (e _) (s _))) (e _)
theorem rowB_len (k v : ByteArray) (n : Int) (hk : k.size ≤ 1073741824) (hv : v.size ≤ 1073741824) : (rowB k v n).length ≤ k.size + v.size + 30 := by
  have h1 := Pk.enc_leN k.size (by omega)
  have h2 := Pk.enc_leN v.size (by omega)
  have h3 := Pk.enc_leN (vu n) (by have := vu_bd n; unfold vu; omega)
  simp only [rowB, List.length_append, Pk.sb_length]
  omega
set_option maxRecDepth 20000 in
set_option maxHeartbeats 1000000 in
theorem mlaid_c (k v : ByteArray) (n : Int) (w : World) (hk : k.size ≤ 1073741824) (hv : v.size ≤ 1073741824) :
    Calls Try.prog 28 #[.agg #[.string k, .string v, .int .i64 n]] w fun e w' => ∃ b, e = .returned (.slice (some ⟨b, 0, none⟩) (rowB k v n).length (rowB k v n).length) ∧ w.heap.size ≤ b ∧ Seg .u8 w' (some ⟨b, 0, none⟩) (rowB k v n).length (rowB k v n) ∧ w.grownBy w' none := by
  have HK : Hid (k.size ≤ 1073741824 ∧ v.size ≤ 1073741824) := ⟨hk, hv⟩
  have HLL : Hid ((rowB k v n).length ≤ k.size + v.size + 30) := rowB_len k v n hk hv
  have HVU : Hid (0 ≤ IntKind.u64.wrap n ∧ IntKind.u64.wrap n < 18446744073709551616) := vu_bd n
  have HB : Hid (Bk 30 (w.alloc (.cells #[.string k, .string v, .int .i64 n] 30)) w.heap.size #[.string k, .string v, .int .i64 n] ∧ w.grownBy (w.alloc (.cells #[.string k, .string v, .int .i64 n] 30)) none) := blk_new w _ _
  have HW0 : Hid (Pk.WM (w.heap.size + 1) (w.alloc (.cells #[.string k, .string v, .int .i64 n] 30)) ((w.alloc (.cells #[.string k, .string v, .int .i64 n] 30)).alloc (.cells Try.zeroCells87 87)) [] 0) := by
    have hs : (w.alloc (.cells #[.string k, .string v, .int .i64 n] 30)).heap.size = w.heap.size + 1 := by simp
    refine ⟨[], Pk.ws_none ?_, fun k hk => by simp at hk, ?_, by simp⟩
    · have := heap_new (w.alloc (.cells #[.string k, .string v, .int .i64 n] 30)) (.cells Try.zeroCells87 87)
      rw [hs] at this
      exact this
    · have := gb_below (World.grownBy_alloc (w.alloc (.cells #[.string k, .string v, .int .i64 n] 30)) (.cells Try.zeroCells87 87) none)
      rw [hs] at this
      exact this
  have HEB : Hid ([] ++ (Pk.enc k.size ++ Pk.sb k) ++ (Pk.enc v.size ++ Pk.sb v) ++ Pk.enc (IntKind.u64.wrap n).toNat = rowB k v n) := by show _ = _; rw [List.nil_append]; rfl
  have HLN : Hid (([] ++ (Pk.enc k.size ++ Pk.sb k)).length + 30 ≤ 140737488355328 ∧ ([] ++ (Pk.enc k.size ++ Pk.sb k)).length + v.size + 10 ≤ 140737488355328 ∧ ([] ++ (Pk.enc k.size ++ Pk.sb k) ++ (Pk.enc v.size ++ Pk.sb v)).length + 10 ≤ 140737488355328) := by
    have h1 := Pk.enc_leN k.size (by omega)
    have h2 := Pk.enc_leN v.size (by omega)
    simp only [List.nil_append, List.length_append, Pk.sb_length]
    show _ ∧ _ ∧ _
    omega
  obtain ⟨R, hR⟩ : ∃ R, R = rowB k v n := ⟨_, rfl⟩
  rw [← hR] at HEB HLL ⊢
  obtain ⟨w1, hw1⟩ : ∃ w1, w1 = w.alloc (.cells #[.string k, .string v, .int .i64 n] 30) := ⟨_, rfl⟩
  clear hk hv hR
  have kc : ∀ {wr : World} {ys : List Int}, Pk.WM (w.heap.size + 1) w1 wr ys 0 → wr.cell? ⟨w.heap.size, 1, none⟩ = some (.string v) ∧ wr.cell? ⟨w.heap.size, 2, none⟩ = some (.int .i64 n) := fun {wr ys} h => by
    obtain ⟨fs, _, _, hb, _⟩ := h
    have h1 : Bk 30 wr w.heap.size #[.string k, .string v, .int .i64 n] := by rw [hw1] at hb; exact HB.out.1.below hb (by omega)
    exact ⟨h1.cell 1, h1.cell 2⟩
  have KC : Hid _ := @kc
  clear kc
  go_enter Try.func28, Try.ntmps28
  go_wp2_with (first
    | ((fail_if_success (have z := H2)); go_at_call 43; go_must (refine (Calls.mono (HW0.out.textm k k.size (Int.le_refl _) (by have := HK.out.1; omega) (by have := HK.out.1; simp; omega)) ?_)); rintro r w2 ⟨rfl, q⟩; have H2 : Hid (Pk.WM (w.heap.size + 1) w1 w2 ([] ++ (Pk.enc k.size ++ Pk.sb k)) 0) := hw1 ▸ q; have c1 := (KC.out H2.out).1; clear q)
    | ((fail_if_success (have z := H3)); have z := H2; clear z; go_at_call 43; go_must (refine (Calls.mono (H2.out.textm v v.size (Int.le_refl _) (by have := HK.out.2; omega) HLN.out.2.1) ?_)); rintro r w3 ⟨rfl, q⟩; have H3 : Hid (Pk.WM (w.heap.size + 1) w1 w3 ([] ++ (Pk.enc k.size ++ Pk.sb k) ++ (Pk.enc v.size ++ Pk.sb v)) 0) := q; have c2 := (KC.out H3.out).2; clear q)
    | (go_at_call 44; go_must (refine (Calls.mono (WM.uint H3.out (IntKind.u64.wrap n) HVU.out.1 HVU.out.2 HLN.out.2.2) ?_)); rintro r w4 ⟨rfl, q⟩; have H4 : Hid (Pk.WM (w.heap.size + 1) w1 w4 R 0) := HEB.out ▸ q; clear q)
    | (go_at_call 45; go_must (refine (Calls.mono (H4.out.bytes_ok (by have := HLL.out; have := HK.out; omega)) ?_)); rintro r w5 ⟨b, rfl, q1, q2, q3⟩; have H5 : Hid (w.heap.size + 1 ≤ b ∧ Pk.Row .u8 5 w5 b R ∧ Below (w.heap.size + 1) w1 w5) := ⟨q1, q2, q3⟩; clear q1 q2 q3))
  go_ret
  refine ⟨b, rfl, by have := H5.out.1; omega, ⟨rfl, .inr ⟨b, 0, rfl, H5.out.2.1.lt, fun i hi => by rw [Nat.zero_add]; exact H5.out.2.1.cell i hi⟩⟩, ?_⟩
  rw [hw1] at H5
  exact gb_trans HB.out.2 (grown_ofM (by simpa using H5.out.2.2))
end Go.Proofs.Ythbnbomdngecmaa

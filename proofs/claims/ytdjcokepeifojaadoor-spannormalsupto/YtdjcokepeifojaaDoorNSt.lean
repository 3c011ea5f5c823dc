/-
  What the library's sort makes of a list of texts of one's own: the same ones, rising. Condition: fewer than 2^62.
-/
import Derived.Test.YtdjcokepeifojaaDoorNSs
import Derived.Test.YtdjcokepeifojaaDoorNOw
import Derived.Test.YtdjcokepeifojaaDoorNMa
import Derived.Sort.OwnSorted
import Derived.Sort.Walk0
namespace Go.Proofs.YtdjcokepeifojaaDoor
set_option linter.unusedVariables false
open Go.RowKit Go.Sort

def flS (K : List ByteArray) : List Value := K.map Value.string
theorem flS_len (K : List ByteArray) : (flS K).length = K.length := by simp [flS]
theorem flS_one (K : List ByteArray) : ∀ u ∈ flS K, u.oneCell' = true := fun u hu => by
  obtain ⟨z, _, rfl⟩ := List.mem_map.1 hu; rfl
theorem flS_app (K L : List ByteArray) : flS (K ++ L) = flS K ++ flS L := by simp [flS]
theorem cells_str {w : World} {a : Option Addr} {K : List ByteArray} (h : Cells w a (flS K)) (i : Nat) (hi : i < K.length) : ∃ b off, a = some ⟨b, off, none⟩ ∧ b < w.heap.size ∧ w.cell? ⟨b, off + i, none⟩ = some (.string (K.getD i .empty)) := by
  rcases h with h | ⟨b, off, ha, hb, hc⟩
  · have e : (flS K).length = 0 := by rw [h]; rfl
    rw [flS_len] at e; omega
  · exact ⟨b, off, ha, hb, hc i _ (by simp [flS, hi])⟩
theorem infoTxt : (Tryd.prog.info? 9).map (fun i => (i.zero, i.size, i.bytes)) = some (some (.string .empty), 1, 16) := by kernel_rfl
def un (l : List UInt8) : ByteArray := ⟨l.toArray⟩
theorem un_back (s : ByteArray) : un s.data.toList = s := rfl
theorem enc_un (l : List UInt8) : encStr l = Value.string (un l) := rfl
theorem fl_enc (K : List ByteArray) : flS K = (K.map fun s => s.data.toList).map encStr := by
  rw [List.map_map]; rfl
theorem fl_un (L : List (List UInt8)) : L.map encStr = flS (L.map un) := by
  unfold flS
  rw [List.map_map]; rfl
set_option maxHeartbeats 1000000 in
theorem sortS_c (B g cap : Nat) (ls : List ByteArray) (w : World) (h : w.ownsRow B 9 1 (.slice (some ⟨g, 0, none⟩) ls.length cap) ls.length (flS ls)) (hl : ls.length < 4611686018427387904) :
    Calls Tryd.prog 44 #[.slice (some ⟨g, 0, none⟩) ls.length cap] w fun e w' => e = .returned (.tuple #[]) ∧ ∃ ls', ls.Perm ls' ∧ Srts ls' ∧ w'.ownsRow B 9 1 (.slice (some ⟨g, 0, none⟩) ls.length cap) ls.length (flS ls') ∧ w.grownBy w' (some g) := by
  obtain ⟨ss, hss⟩ : ∃ ss, ss = ls.map fun s => s.data.toList := ⟨_, rfl⟩
  have hlen : ss.length = ls.length := by rw [hss]; simp
  rcases h.2 with ⟨h0, _⟩ | ⟨g', cap', cur, h0, hB, hg, h1, h2, h3, h4⟩
  · cases h0
  simp only [Value.slice.injEq, Option.some.injEq, Addr.mk.injEq, and_true, true_and] at h0
  obtain ⟨rfl, rfl⟩ := h0
  have hH : Holds encStr w g 0 ss.toArray := holds_of_block hg (by rw [hlen, hss, ← fl_enc]; simpa using h4)
  have hcon := AnyM.slices_Sort_string Tryd.sortS g 0 cap ss w hH (Array.getElem?_eq_some_iff.1 hg).1 (by omega)
  change Calls Tryd.prog 50 _ _ _ at hcon
  rw [hlen] at hcon
  have HC : Hid _ := hcon
  have HG : Hid (ls.map (fun s => s.data.toList) = ss ∧ w.heap[g]? = some (.cells cur 9 (0, 0)) ∧ B ≤ g ∧ ls.length ≤ cap ∧ cap ≤ maxLen ∧ cur.size = cap * 1) := ⟨hss.symm, hg, hB, h1, h2, h3⟩
  obtain ⟨n, hn⟩ : ∃ n, n = ls.length := ⟨_, rfl⟩
  rw [← hn] at HC HG ⊢
  have HN : Hid (n = ls.length ∧ n = ss.length) := ⟨hn, by rw [hn, hlen]⟩
  clear hcon hss h hH hn hlen h1 h2 h3 h4 hg hB hl
  go_enter Tryd.func44, Tryd.ntmps44
  go_wp2_with (first
    | (go_at_call 50; go_must (refine (Calls.mono HC.out ?_)); rintro e w1 ⟨rfl, q, os, hw⟩; have HW : Hid (w1 = grow (putRow encStr (Sort.ahead w q) g 0 (ss.mergeSort fun x y => decide (x ≤ y)).toArray) os) := hw; clear hw))
  go_end0
  obtain ⟨k1, k2, k3, k4, k5, k6⟩ := HG.out
  have hw := HW.out
  have hp : (ss.mergeSort fun x y => decide (x ≤ y)).Perm ss := List.mergeSort_perm _ _
  refine ⟨rfl, (ss.mergeSort fun x y => decide (x ≤ y)).map un, ?_, ?_, ?_, ?_⟩
  · have := (hp.map un).symm
    rw [← k1, List.map_map] at this
    rw [k1] at this
    have e : ls.map (un ∘ fun s => s.data.toList) = ls := by
      refine (List.map_congr_left fun s _ => ?_).trans (List.map_id _)
      rfl
    rwa [e] at this
  · unfold Srts
    rw [List.pairwise_map]
    have hs := List.pairwise_mergeSort (le := fun x y : List UInt8 => decide (x ≤ y)) (fun a b c h1 h2 => by
      simp only [decide_eq_true_eq] at h1 h2 ⊢
      exact List.le_trans h1 h2) (fun a b => by
      simp only [Bool.or_eq_true, decide_eq_true_eq]
      exact List.le_total a b) ss
    refine hs.imp fun {a b} h => ?_
    rw [tl_bs]
    show Op.bytesLess b a = false
    rw [bytesLess_eq]
    have h' : a ≤ b := by simpa using h
    exact decide_eq_false (List.not_lt.2 h')
  · have := ownsRow_sorted (w := w) (n := q) (os := os) (ss := ss) (ts := ss.mergeSort fun x y => decide (x ≤ y)) hp.length_eq k3 k2 (by have := HN.out; omega) k5 k6
    rw [← HN.out.2, fl_un] at this
    rw [hw]; exact this
  · rw [hw]; exact grownBy_sorted _
end Go.Proofs.YtdjcokepeifojaaDoor

/-
  What sha's take does: the state goes on as shz says. Condition: the bytes can be read, and lie in another block.
-/
import Derived.Test.YtlfppknpnfeplaaSTa
import Derived.Deep.RegionHeld3
import Derived.Laws.CopyRow
import Derived.Laws.IdiomCopy
namespace Go.Proofs.Ytlfppknpnfeplaa
set_option linter.unusedVariables false
open Go.RowKit

/-- What stands behind the last whole block, and zeros. -/
def rz (hs : List Int) : List Int := hs ++ List.replicate (64 - hs.length) 0
theorem rz_len (hs : List Int) (h : hs.length ≤ 64) : (rz hs).length = 64 := by simp [rz]; omega
theorem rz_lay (hs xs : List Int) (h : hs.length + xs.length ≤ 64) : (rz hs).take hs.length ++ xs ++ (rz hs).drop (hs.length + xs.length) = rz (hs ++ xs) := by
  unfold rz
  rw [List.take_left' rfl, List.drop_length_add_append, List.drop_replicate, List.length_append, Nat.sub_sub]
/-- A state that has come to p behind n bytes. -/
def Hs (T : TypeId) (pre : List Value) (w : World) (g : Nat) (p : St × List Int) (n : Nat) : Prop := Sta T pre w g p.1 (rz p.2) n ∧ p.2.length = n % 64
/-- Bytes that lie in another block. -/
def Far (g : Nat) (a : Option Addr) (len : Nat) : Prop := len = 0 ∨ ∃ b off, a = some ⟨b, off, none⟩ ∧ b ≠ g
def slen : Value → Nat
  | .slice _ n _ => n
  | _ => 0
theorem Sta.setWords {T pre w g s rs n} (h : Sta T pre w g s rs n) (s' : St) (o : Nat) (hp : pre.length = o) : ∃ w', Sem.run Try.prog (storeCells ⟨g, o, none⟩ (wds s'.words).toList) w = .ok () w' ∧ Sta T pre w' g s' rs n ∧ w.grownBy w' (some g) := by
  subst hp
  have hr := run_storeCells_at (P := Try.prog) g pre.length T (wds s'.words).toList 0 _ w h.1 (by simp [stc, wds, words_len]) (by intro v hv; simp only [wds, List.toList_toArray, List.mem_map] at hv; obtain ⟨z, _, rfl⟩ := hv; rfl)
  refine ⟨_, hr, ⟨?_, h.2⟩, ⟨rfl, rfl, rfl, by simp [World.setRow], fun k _ hk => setRow_other w g k _ (fun e => hk (by rw [e]))⟩⟩
  rw [setRow_heap w g _ _ T _ h.1]
  congr 3
  show (pre ++ stc s rs n).take (pre.length + 0) ++ (wds s'.words).toList ++ (pre ++ stc s rs n).drop (pre.length + 0 + (wds s'.words).toList.length) = _
  rw [show pre.length + 0 = pre.length from rfl, List.take_left' rfl, List.drop_length_add_append]
  unfold stc
  rw [show (wds s'.words).toList = s'.words.map (fun x => Value.int .u32 (W x)) from rfl, List.append_assoc]
  congr 2
set_option maxRecDepth 20000 in
theorem Sta.setRest {T pre w g s rs n} (h : Sta T pre w g s rs n) : ∃ w', Sem.run Try.prog (storeVar 65 ⟨g, pre.length + 8, none⟩ (.agg (u8s bz64))) w = .ok () w' ∧ Sta T pre w' g s (rz []) n ∧ w.grownBy w' (some g) := by
  have hth : w.there g (pre.length + 8) (u8s bz64).size := fun j hj => ⟨by rw [h.rest j (by simpa [u8s, bz64] using hj)]; rfl, h.free _⟩
  have h1 := run_storeVar_mid (P := Try.prog) w g (pre.length + 8) 65 (u8s bz64) hth info64b (u8s_one _)
  have h2 := run_storeCells_cells (P := Try.prog) g (pre.length + 8) (u8s bz64).toList 0 w (fun j hj => (hth j (by simpa using hj)).1) (fun j hj => (hth j (by simpa using hj)).2) (by intro v hv; simp only [u8s, List.toList_toArray, List.mem_map] at hv; obtain ⟨z, _, rfl⟩ := hv; rfl)
  have h3 := run_storeCells_at (P := Try.prog) g (pre.length + 8) T (u8s bz64).toList 0 _ w h.1 (by have := h.2; simp [stc, u8s, bz64, words_len]; omega) (by intro v hv; simp only [u8s, List.toList_toArray, List.mem_map] at hv; obtain ⟨z, _, rfl⟩ := hv; rfl)
  rw [h3] at h2
  injection h2 with _ h4
  refine ⟨_, h1, ?_, ?_⟩
  · rw [show pre.length + 8 + 0 = pre.length + 8 from rfl] at h4
    rw [← h4]
    refine ⟨?_, rfl⟩
    rw [setRow_heap w g _ _ T _ h.1]
    congr 3
    have e2 := stc_splice s rs n pre 0 bz64 h.2 (by show 0 + 64 ≤ 64; omega)
    show (pre ++ stc s rs n).take (pre.length + 8 + 0) ++ bz64.map (Value.int .u8) ++ (pre ++ stc s rs n).drop (pre.length + 8 + 0 + (bz64.map (Value.int .u8)).length) = _
    rw [e2]
    congr 2
    have := h.2
    rw [List.take_zero, List.nil_append, List.drop_eq_nil_of_le (by rw [this]; show 64 ≤ 0 + 64; omega), List.append_nil]
    rfl
  · rw [show pre.length + 8 + 0 = pre.length + 8 from rfl] at h4
    rw [← h4]
    exact ⟨rfl, rfl, rfl, by simp [World.setRow], fun k _ hk => setRow_other w g k _ (fun e => hk (by rw [e]))⟩
end Go.Proofs.Ytlfppknpnfeplaa

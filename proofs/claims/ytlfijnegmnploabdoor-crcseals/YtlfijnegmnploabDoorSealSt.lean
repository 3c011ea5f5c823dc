/-
  What the law CrcSeals holds of memory between its steps: two sealed texts that are written over, the room that Seal was handed, and the document's answer, each in a block of its own. No condition of its own.
-/
import Derived.Test.YtlfijnegmnploabDoorApart
import Derived.Test.YtlfijnegmnploabDoorSealC
namespace Go.Proofs.YtlfijnegmnploabDoor
set_option linter.unusedVariables false
open Go.RowKit

def eight : List Int := [201, 202, 203, 204, 205, 206, 207, 208]
structure St (w wr : World) (gr gw len : Nat) (xs : List Int) (va vb : Value) (na nb : Nat) (la lb : List Int) : Prop where
  below : Below w.heap.size w wr
  room : Seg .u8 wr (some ⟨gr, 0, none⟩) (len + 8) (xs ++ eight)
  want : Seg .u8 wr (some ⟨gw, 0, none⟩) (len + 4) (sealed xs)
  a : Own w.heap.size wr va na la
  b : Own w.heap.size wr vb nb lb
  ar : va.ownBlock ≠ some gr
  aw : va.ownBlock ≠ some gw
  br : vb.ownBlock ≠ some gr
  bw : vb.ownBlock ≠ some gw
  ab : ∀ g, va.ownBlock = some g → vb.ownBlock ≠ some g
theorem Seg.lt {w : World} {g len : Nat} {xs : List Int} (h : Seg .u8 w (some ⟨g, 0, none⟩) len xs) (h0 : 0 < len) : g < w.heap.size := by
  rcases h.2 with h' | ⟨b, off, hb, hw, _⟩
  · omega
  · cases hb; exact hw
theorem St.keep {w wr wr' : World} {gr gw len : Nat} {xs : List Int} {va vb : Value} {na nb : Nat} {la lb : List Int} (h : St w wr gr gw len xs va vb na nb la lb) (hb : Below wr.heap.size wr wr') : St w wr' gr gw len xs va vb na nb la lb :=
  ⟨h.below.trans (hb.mono h.below.size), h.room.below hb, h.want.below hb, h.a.below hb, h.b.below hb, h.ar, h.aw, h.br, h.bw, h.ab⟩
theorem St.onA {w wr wr' : World} {gr gw len : Nat} {xs : List Int} {va vb va' : Value} {na nb na' : Nat} {la lb la' : List Int} (h : St w wr gr gw len xs va vb na nb la lb)
    (hg : wr.grownBy wr' va.ownBlock) (ho : Own w.heap.size wr' va' na' la') (hat : va'.ownBlock = va.ownBlock ∨ va'.ownBlock = some wr.heap.size) : St w wr' gr gw len xs va' vb na' nb la' lb := by
  have hgr := h.room.lt (by omega)
  have hgw := h.want.lt (by omega)
  refine ⟨Below.grew h.below hg h.below.size (fun k hk => (h.a.lo k hk).1), h.room.grown hg h.ar, h.want.grown hg h.aw, ho, h.b.grown hg (fun g hgb e => h.ab g e hgb), ?_, ?_, h.br, h.bw, ?_⟩
  · rcases hat with e | e <;> rw [e]
    · exact h.ar
    · intro q; have := Option.some.inj q; omega
  · rcases hat with e | e <;> rw [e]
    · exact h.aw
    · intro q; have := Option.some.inj q; omega
  · intro g hg' hb'
    rcases hat with e | e
    · exact h.ab g (by rw [← e]; exact hg') hb'
    · rw [e] at hg'; have := Option.some.inj hg'; have := (h.b.lo g hb').2; omega
theorem St.flip {w wr : World} {gr gw len : Nat} {xs : List Int} {va vb : Value} {na nb : Nat} {la lb : List Int} (h : St w wr gr gw len xs va vb na nb la lb) : St w wr gr gw len xs vb va nb na lb la :=
  ⟨h.below, h.room, h.want, h.b, h.a, h.br, h.bw, h.ar, h.aw, fun g h1 h2 => h.ab g h2 h1⟩
theorem St.onB {w wr wr' : World} {gr gw len : Nat} {xs : List Int} {va vb vb' : Value} {na nb nb' : Nat} {la lb lb' : List Int} (h : St w wr gr gw len xs va vb na nb la lb)
    (hg : wr.grownBy wr' vb.ownBlock) (ho : Own w.heap.size wr' vb' nb' lb') (hat : vb'.ownBlock = vb.ownBlock ∨ vb'.ownBlock = some wr.heap.size) : St w wr' gr gw len xs va vb' na nb' la lb' :=
  (h.flip.onA hg ho hat).flip
theorem grown_set (w : World) (g i : Nat) (v : Value) : w.grownBy (w.setCell ⟨g, i, none⟩ v) (some g) :=
  ⟨rfl, rfl, rfl, by simp, fun k _ hk => Below.heap_setCell w _ v k (fun e => hk (by rw [e]))⟩
theorem St.setA {w wr : World} {gr gw len : Nat} {xs : List Int} {ga ca : Nat} {vb : Value} {na nb : Nat} {la lb : List Int} (h : St w wr gr gw len xs (.slice (some ⟨ga, 0, none⟩) na ca) vb na nb la lb) (i : Nat) (hi : i < na) (x : Int) :
    St w (wr.setCell ⟨ga, i, none⟩ (.int .u8 x)) gr gw len xs (.slice (some ⟨ga, 0, none⟩) na ca) vb na nb (la.set i x) lb :=
  h.onA (grown_set wr ga i _) (h.a.set i hi x) (.inl rfl)
theorem St.setB {w wr : World} {gr gw len : Nat} {xs : List Int} {gb cb : Nat} {va : Value} {na nb : Nat} {la lb : List Int} (h : St w wr gr gw len xs va (.slice (some ⟨gb, 0, none⟩) nb cb) na nb la lb) (i : Nat) (hi : i < nb) (x : Int) :
    St w (wr.setCell ⟨gb, i, none⟩ (.int .u8 x)) gr gw len xs va (.slice (some ⟨gb, 0, none⟩) nb cb) na nb la (lb.set i x) :=
  h.onB (grown_set wr gb i _) (h.b.set i hi x) (.inl rfl)
/-- A list written over from its beginning on. -/
def over (x : Int) (k : Nat) (l : List Int) : List Int := List.replicate k x ++ l.drop k
theorem over_zero (x : Int) (l : List Int) : over x 0 l = l := by simp [over]
theorem over_set (x : Int) (k : Nat) (l : List Int) (h : k < l.length) : (over x k l).set k x = over x (k + 1) l := by
  unfold over
  rw [List.set_append, if_neg (by simp), List.length_replicate, Nat.sub_self, List.drop_eq_getElem_cons h, List.set_cons_zero, List.replicate_succ', List.append_assoc]
  rfl
theorem over_all (x : Int) (l : List Int) : over x l.length l = List.replicate l.length x := by simp [over]
theorem over_length (x : Int) (k : Nat) (l : List Int) (h : k ≤ l.length) : (over x k l).length = l.length := by simp [over]; omega
theorem rep_snoc (l : List Int) (x : Int) (k : Nat) : (l ++ List.replicate k x) ++ [x] = l ++ List.replicate (k + 1) x := by
  rw [List.append_assoc, List.replicate_succ']
theorem rep_get (m j i : Nat) (x y : Int) (h : i < m + j) : (List.replicate m x ++ List.replicate j y)[i]?.getD 0 = if i < m then x else y := by
  by_cases hi : i < m
  · rw [List.getElem?_append_left (by simpa using hi)]; simp [hi]
  · rw [List.getElem?_append_right (by simpa using hi)]; rw [List.getElem?_replicate, if_pos (by simp; omega)]; simp [hi]
end Go.Proofs.YtlfijnegmnploabDoor

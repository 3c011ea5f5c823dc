/-
  What a call of the document's Writer comes to, as plain data. Condition: what is laid down takes at most 2^47 bytes.
-/
import Derived.Test.YtcdgfghcmeadgaaDoorFc
import Derived.Test.YtcdgfghcmeadgaaDoorOps
namespace Go.Proofs.YtcdgfghcmeadgaaDoor
open Go.RowKit
set_option linter.unusedVariables false

/-- What a call makes of what was laid down, and of the first error. -/
def wst (o : OpD) (ys : List Int) (e : Int) : List Int × Int :=
  if o.call = 0 then (wadd e ys (enc o.v.toNat), e)
  else if o.call = 1 then (wadd (ferr e (wie o.n o.most)) ys (enc o.n.toNat), ferr e (wie o.n o.most))
  else if o.call = 2 then (wadd (ferr e (wte o.s.size o.most)) ys (enc o.s.size ++ sb o.s), ferr e (wte o.s.size o.most))
  else if o.call = 3 then (wadd e ys [fb o.f], e)
  else if o.call = 4 then (wadd e ys o.ds, e)
  else if o.call = 5 then (wadd (ferr e (wre o.key o.val o.ver)) ys (rowB o.key o.val o.ver), ferr e (wre o.key o.val o.ver))
  else if o.call = 6 then (ys, ferr e o.n)
  else (ys, e)
theorem enc_le (V : Int) (h0 : V < 18446744073709551616) : (enc V.toNat).length ≤ 10 := by
  rw [enc_length _ (by omega)]; exact (sz_bd _).2
theorem wst_len (o : OpD) (h : o.Ok) (hw : o.weight ≤ 1048576) (ys : List Int) (e : Int) : (wst o ys e).1.length ≤ ys.length + 10 * o.weight := by
  have b1 := wf_u64 h.v
  have b2 := bounds_i64 h.n
  have b3 := bounds_i64 h.ver
  have hl := h.len
  have e1 := enc_le o.v (by omega)
  have e2 := enc_le o.n (by omega)
  have e3 := enc_le o.ver (by omega)
  unfold OpD.weight at hw ⊢
  have e4 := enc_leN o.s.size (by omega)
  have e5 := enc_leN o.key.size (by omega)
  have e6 := enc_leN o.val.size (by omega)
  have s1 := sb_length o.s
  have s2 := sb_length o.key
  have s3 := sb_length o.val
  have W := fun e zs => wadd_len e ys zs
  unfold wst
  split
  · have := W e (enc o.v.toNat); simp only; omega
  split
  · have := W (ferr e (wie o.n o.most)) (enc o.n.toNat); simp only; omega
  split
  · have := W (ferr e (wte o.s.size o.most)) (enc o.s.size ++ sb o.s); rw [List.length_append] at this; simp only; omega
  split
  · have := W e [fb o.f]; rw [List.length_singleton] at this; simp only; omega
  split
  · have := W e o.ds; simp only; omega
  split
  · have := W (ferr e (wre o.key o.val o.ver)) (rowB o.key o.val o.ver)
    have hr : (rowB o.key o.val o.ver).length = (enc o.key.size).length + (sb o.key).length + ((enc o.val.size).length + (sb o.val).length + (enc o.ver.toNat).length) := by simp only [rowB, List.length_append]
    simp only; omega
  split
  · simp only; omega
  · simp only; omega

theorem infoRow3 : (Tryd.prog.info? 48).map (·.size) = some 3 := by kernel_rfl
theorem cells_one (o : OpD) : o.cells.toArray.all (·.oneCell') = true := all_oneCell_toArray (fun v hv => by
  simp only [OpD.cells, List.mem_append, List.mem_cons, List.mem_map, List.not_mem_nil, or_false] at hv
  rcases hv with (rfl | rfl | rfl | rfl | rfl | rfl) | ⟨z, _, rfl⟩ | rfl | rfl | rfl <;> rfl)
end Go.Proofs.YtcdgfghcmeadgaaDoor

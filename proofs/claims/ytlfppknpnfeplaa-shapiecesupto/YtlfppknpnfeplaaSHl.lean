/-
  What a Hasher's Len, Save and Load do. Condition: it was made; fewer than 2^62 bytes were taken, for Load no more than 2^60.
-/
import Derived.Test.YtlfppknpnfeplaaSLd
namespace Go.Proofs.Ytlfppknpnfeplaa
set_option linter.unusedVariables false
open Go.RowKit

theorem one_more (l : List Value) (n : Nat) (h : l.length = n + 1) : ∃ c t, l = c :: t ∧ t.length = n := by
  cases l with
  | nil => simp at h
  | cons c t => exact ⟨c, t, rfl, by simpa using h⟩
theorem no_more (l : List Value) (h : l.length = 0) : l = [] := List.length_eq_zero_iff.1 h
set_option maxRecDepth 20000 in
theorem build_73 (c0 c1 c2 c3 c4 c5 c6 c7 c8 c9 c10 c11 c12 c13 c14 c15 c16 c17 c18 c19 c20 c21 c22 c23 c24 c25 c26 c27 c28 c29 c30 c31 c32 c33 c34 c35 c36 c37 c38 c39 c40 c41 c42 c43 c44 c45 c46 c47 c48 c49 c50 c51 c52 c53 c54 c55 c56 c57 c58 c59 c60 c61 c62 c63 c64 c65 c66 c67 c68 c69 c70 c71 c72 : Value) (w : World) : (Instr.build 70 #[(0, .bool true), (1, .agg #[c0, c1, c2, c3, c4, c5, c6, c7, c8, c9, c10, c11, c12, c13, c14, c15, c16, c17, c18, c19, c20, c21, c22, c23, c24, c25, c26, c27, c28, c29, c30, c31, c32, c33, c34, c35, c36, c37, c38, c39, c40, c41, c42, c43, c44, c45, c46, c47, c48, c49, c50, c51, c52, c53, c54, c55, c56, c57, c58, c59, c60, c61, c62, c63, c64, c65, c66, c67, c68, c69, c70, c71, c72])]).run Try.prog w = .ok (.agg #[.bool true, c0, c1, c2, c3, c4, c5, c6, c7, c8, c9, c10, c11, c12, c13, c14, c15, c16, c17, c18, c19, c20, c21, c22, c23, c24, c25, c26, c27, c28, c29, c30, c31, c32, c33, c34, c35, c36, c37, c38, c39, c40, c41, c42, c43, c44, c45, c46, c47, c48, c49, c50, c51, c52, c53, c54, c55, c56, c57, c58, c59, c60, c61, c62, c63, c64, c65, c66, c67, c68, c69, c70, c71, c72]) w := by kernel_rfl
set_option maxRecDepth 20000 in
theorem build_h (cs : List Value) (h : cs.length = 73) (w : World) : (Instr.build 70 #[(0, .bool true), (1, .agg cs.toArray)]).run Try.prog w = .ok (.agg (.bool true :: cs).toArray) w := by
  obtain ⟨c0, l1, e0, h1⟩ := one_more cs 72 h
  obtain ⟨c1, l2, e1, h2⟩ := one_more l1 71 h1
  obtain ⟨c2, l3, e2, h3⟩ := one_more l2 70 h2
  obtain ⟨c3, l4, e3, h4⟩ := one_more l3 69 h3
  obtain ⟨c4, l5, e4, h5⟩ := one_more l4 68 h4
  obtain ⟨c5, l6, e5, h6⟩ := one_more l5 67 h5
  obtain ⟨c6, l7, e6, h7⟩ := one_more l6 66 h6
  obtain ⟨c7, l8, e7, h8⟩ := one_more l7 65 h7
  obtain ⟨c8, l9, e8, h9⟩ := one_more l8 64 h8
  obtain ⟨c9, l10, e9, h10⟩ := one_more l9 63 h9
  obtain ⟨c10, l11, e10, h11⟩ := one_more l10 62 h10
  obtain ⟨c11, l12, e11, h12⟩ := one_more l11 61 h11
  obtain ⟨c12, l13, e12, h13⟩ := one_more l12 60 h12
  obtain ⟨c13, l14, e13, h14⟩ := one_more l13 59 h13
  obtain ⟨c14, l15, e14, h15⟩ := one_more l14 58 h14
  obtain ⟨c15, l16, e15, h16⟩ := one_more l15 57 h15
  obtain ⟨c16, l17, e16, h17⟩ := one_more l16 56 h16
  obtain ⟨c17, l18, e17, h18⟩ := one_more l17 55 h17
  obtain ⟨c18, l19, e18, h19⟩ := one_more l18 54 h18
  obtain ⟨c19, l20, e19, h20⟩ := one_more l19 53 h19
  obtain ⟨c20, l21, e20, h21⟩ := one_more l20 52 h20
  obtain ⟨c21, l22, e21, h22⟩ := one_more l21 51 h21
  obtain ⟨c22, l23, e22, h23⟩ := one_more l22 50 h22
  obtain ⟨c23, l24, e23, h24⟩ := one_more l23 49 h23
  obtain ⟨c24, l25, e24, h25⟩ := one_more l24 48 h24
  obtain ⟨c25, l26, e25, h26⟩ := one_more l25 47 h25
  obtain ⟨c26, l27, e26, h27⟩ := one_more l26 46 h26
  obtain ⟨c27, l28, e27, h28⟩ := one_more l27 45 h27
  obtain ⟨c28, l29, e28, h29⟩ := one_more l28 44 h28
  obtain ⟨c29, l30, e29, h30⟩ := one_more l29 43 h29
  obtain ⟨c30, l31, e30, h31⟩ := one_more l30 42 h30
  obtain ⟨c31, l32, e31, h32⟩ := one_more l31 41 h31
  obtain ⟨c32, l33, e32, h33⟩ := one_more l32 40 h32
  obtain ⟨c33, l34, e33, h34⟩ := one_more l33 39 h33
  obtain ⟨c34, l35, e34, h35⟩ := one_more l34 38 h34
  obtain ⟨c35, l36, e35, h36⟩ := one_more l35 37 h35
  obtain ⟨c36, l37, e36, h37⟩ := one_more l36 36 h36
  obtain ⟨c37, l38, e37, h38⟩ := one_more l37 35 h37
  obtain ⟨c38, l39, e38, h39⟩ := one_more l38 34 h38
  obtain ⟨c39, l40, e39, h40⟩ := one_more l39 33 h39
  obtain ⟨c40, l41, e40, h41⟩ := one_more l40 32 h40
  obtain ⟨c41, l42, e41, h42⟩ := one_more l41 31 h41
  obtain ⟨c42, l43, e42, h43⟩ := one_more l42 30 h42
  obtain ⟨c43, l44, e43, h44⟩ := one_more l43 29 h43
  obtain ⟨c44, l45, e44, h45⟩ := one_more l44 28 h44
  obtain ⟨c45, l46, e45, h46⟩ := one_more l45 27 h45
  obtain ⟨c46, l47, e46, h47⟩ := one_more l46 26 h46
  obtain ⟨c47, l48, e47, h48⟩ := one_more l47 25 h47
  obtain ⟨c48, l49, e48, h49⟩ := one_more l48 24 h48
  obtain ⟨c49, l50, e49, h50⟩ := one_more l49 23 h49
  obtain ⟨c50, l51, e50, h51⟩ := one_more l50 22 h50
  obtain ⟨c51, l52, e51, h52⟩ := one_more l51 21 h51
  obtain ⟨c52, l53, e52, h53⟩ := one_more l52 20 h52
  obtain ⟨c53, l54, e53, h54⟩ := one_more l53 19 h53
  obtain ⟨c54, l55, e54, h55⟩ := one_more l54 18 h54
  obtain ⟨c55, l56, e55, h56⟩ := one_more l55 17 h55
  obtain ⟨c56, l57, e56, h57⟩ := one_more l56 16 h56
  obtain ⟨c57, l58, e57, h58⟩ := one_more l57 15 h57
  obtain ⟨c58, l59, e58, h59⟩ := one_more l58 14 h58
  obtain ⟨c59, l60, e59, h60⟩ := one_more l59 13 h59
  obtain ⟨c60, l61, e60, h61⟩ := one_more l60 12 h60
  obtain ⟨c61, l62, e61, h62⟩ := one_more l61 11 h61
  obtain ⟨c62, l63, e62, h63⟩ := one_more l62 10 h62
  obtain ⟨c63, l64, e63, h64⟩ := one_more l63 9 h63
  obtain ⟨c64, l65, e64, h65⟩ := one_more l64 8 h64
  obtain ⟨c65, l66, e65, h66⟩ := one_more l65 7 h65
  obtain ⟨c66, l67, e66, h67⟩ := one_more l66 6 h66
  obtain ⟨c67, l68, e67, h68⟩ := one_more l67 5 h67
  obtain ⟨c68, l69, e68, h69⟩ := one_more l68 4 h68
  obtain ⟨c69, l70, e69, h70⟩ := one_more l69 3 h69
  obtain ⟨c70, l71, e70, h71⟩ := one_more l70 2 h70
  obtain ⟨c71, l72, e71, h72⟩ := one_more l71 1 h71
  obtain ⟨c72, l73, e72, h73⟩ := one_more l72 0 h72
  have e73 := no_more l73 h73
  subst e73
  have e : cs = [c0, c1, c2, c3, c4, c5, c6, c7, c8, c9, c10, c11, c12, c13, c14, c15, c16, c17, c18, c19, c20, c21, c22, c23, c24, c25, c26, c27, c28, c29, c30, c31, c32, c33, c34, c35, c36, c37, c38, c39, c40, c41, c42, c43, c44, c45, c46, c47, c48, c49, c50, c51, c52, c53, c54, c55, c56, c57, c58, c59, c60, c61, c62, c63, c64, c65, c66, c67, c68, c69, c70, c71, c72] := by rw [e0, e1, e2, e3, e4, e5, e6, e7, e8, e9, e10, e11, e12, e13, e14, e15, e16, e17, e18, e19, e20, e21, e22, e23, e24, e25, e26, e27, e28, e29, e30, e31, e32, e33, e34, e35, e36, e37, e38, e39, e40, e41, e42, e43, e44, e45, e46, e47, e48, e49, e50, e51, e52, e53, e54, e55, e56, e57, e58, e59, e60, e61, e62, e63, e64, e65, e66, e67, e68, e69, e70, e71, e72]
  rw [e]
  exact build_73 c0 c1 c2 c3 c4 c5 c6 c7 c8 c9 c10 c11 c12 c13 c14 c15 c16 c17 c18 c19 c20 c21 c22 c23 c24 c25 c26 c27 c28 c29 c30 c31 c32 c33 c34 c35 c36 c37 c38 c39 c40 c41 c42 c43 c44 c45 c46 c47 c48 c49 c50 c51 c52 c53 c54 c55 c56 c57 c58 c59 c60 c61 c62 c63 c64 c65 c66 c67 c68 c69 c70 c71 c72 w
set_option maxRecDepth 20000 in
set_option maxHeartbeats 400000 in
theorem hlen_c (g : Nat) (p : St × List Int) (n : Nat) (w : World) (h : Hs 70 [.bool true] w g p n) : Calls Try.prog 15 #[.pointer (some ⟨g, 0, none⟩)] w fun r w' => r = .returned (.int .i64 (n : Int)) ∧ w' = w := by
  have HR : Hid _ := ready_yes g w h.made
  have c := h.1.size
  have c1 : w.cell? ⟨g, 73, none⟩ = some (.int .i64 (n : Int)) := c
  clear c h
  go_enter Try.func15, Try.ntmps15
  go_wp2_with (first
    | (go_at_call 30; refine (Calls.mono HR.out ?_); rintro r wq ⟨rfl, hq⟩; obtain rfl := hq.symm))
  go_ret
  exact ⟨rfl, rfl⟩
set_option maxRecDepth 20000 in
set_option maxHeartbeats 400000 in
theorem hsave_c (g : Nat) (p : St × List Int) (n : Nat) (w : World) (h : Hs 70 [.bool true] w g p n) (hb : Bytes p.2) (hn : n < 4611686018427387904) :
    Calls Try.prog 17 #[.pointer (some ⟨g, 0, none⟩)] w fun r w' => ∃ v, r = .returned v ∧ Own w.heap.size w' v (svB p n).length (svB p n) ∧ Below w.heap.size w w' := by
  have HR : Hid _ := ready_yes g w h.made
  have HV : Hid (Calls Try.prog 35 #[.pointer (some ⟨g, 1, none⟩)] w fun r w' => ∃ v, r = .returned v ∧ Own w.heap.size w' v (svB p n).length (svB p n) ∧ Below w.heap.size w w') := save_c 70 [.bool true] g p n w h hb hn
  clear h hb
  go_enter Try.func17, Try.ntmps17
  go_wp2_with (first
    | (go_at_call 30; refine (Calls.mono HR.out ?_); rintro r wq ⟨rfl, hq⟩; obtain rfl := hq.symm)
    | (go_at_call 35; refine (Calls.mono HV.out ?_); rintro r w1 ⟨v, rfl, h1⟩; have H1 : Hid _ := h1; clear h1))
  go_ret
  exact ⟨v, rfl, H1.out⟩
set_option maxRecDepth 20000 in
set_option maxHeartbeats 400000 in
theorem hload_c (b off len cap : Nat) (p : St × List Int) (n : Nat) (w : World) (hs : Seg .u8 w (some ⟨b, off, none⟩) len (svB p n)) (hp : p.2.length = n % 64) (hb : Bytes p.2) (hn : n ≤ 1152921504606846976) (hlc : len ≤ cap) (hcm : cap ≤ maxLen) :
    Calls Try.prog 20 #[.slice (some ⟨b, off, none⟩) len cap] w fun r w' => ∃ g, r = .returned (.tuple #[.pointer (some ⟨g, 0, none⟩), .int .i64 0]) ∧ w.heap.size ≤ g ∧ Hs 70 [.bool true] w' g p n ∧ w.grownBy w' none := by
  have hz := zSt
  have HL : Hid _ := load_c b off len cap p n w hs hp hb hn hlc hcm
  have HR : Hid ((rz p.2).length = 64) := rz_len _ (by omega)
  have HSZ : Hid ((stc p.1 (rz p.2) n).toArray.size = 73) := stc_size _ _ _ HR.out
  have HP : Hid (p.2.length = n % 64) := hp
  have HB : Hid (∀ W, (Instr.build 70 #[(0, .bool true), (1, .agg (stc p.1 (rz p.2) n).toArray)]).run Try.prog W = .ok (.agg (.bool true :: stc p.1 (rz p.2) n).toArray) W) := fun W => build_h _ (by simpa using HSZ.out) W
  clear hs hp hb
  go_enter Try.func20, Try.ntmps20
  go_wp2_with (first
    | (go_at_call 37; refine (Calls.mono HL.out ?_); rintro r w1 ⟨rfl, h1⟩; have H1 : Hid (w.grownBy w1 none) := h1; clear h1; have HN1 : Hid (Bk 67 (w1.alloc (.cells czst 67)) w1.heap.size czst ∧ w1.grownBy (w1.alloc (.cells czst 67)) none) := blk_new w1 _ _)
    | (refine wpList_store_bk 67 rfl (.tmp 4) (.tmp 9) rfl infoSt w1.heap.size czst (stc p.1 (rz p.2) n).toArray rfl rfl HN1.out.1 rfl HSZ.out (stc_one _ _ _) ?_; intro w2 h1 h2; have H2 : Hid (Bk 67 w2 w1.heap.size (stc p.1 (rz p.2) n).toArray ∧ w.grownBy w2 none) := ⟨h1, gb_newer (gb_trans H1.out HN1.out.2) h2 H1.out.size⟩; clear h1 h2)
    | (refine wpList_load_bk 67 rfl (.tmp 4) rfl Try.underlying67 rfl infoSt w1.heap.size (stc p.1 (rz p.2) n).toArray rfl H2.out.1 HSZ.out ?_)
    | (refine wpList_build_run rfl 70 _ rfl (.agg (.bool true :: stc p.1 (rz p.2) n).toArray) (by simp only [List.map_toArray, List.map_cons, List.map_nil]; exact HB.out _) ?_))
  go_ret2
  exact ⟨w2.heap.size, rfl, H2.out.2.size, ⟨⟨heap_new w2 _, HR.out⟩, HP.out⟩, gb_trans H2.out.2 (World.grownBy_alloc _ _ _)⟩
end Go.Proofs.Ytlfppknpnfeplaa

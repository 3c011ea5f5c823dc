/-
  What sha's digest of a state answers: dgs. Condition: fewer than 2^60 bytes and some were taken.
-/
import Derived.Test.YtlfppknpnfeplaaSTm
import Derived.Test.YtlfppknpnfeplaaSDz
import Derived.Laws.CopyOwn
namespace Go.Proofs.Ytlfppknpnfeplaa
set_option linter.unusedVariables false
open Go.RowKit

theorem b4_bytes (x : Wd) : ∀ z ∈ b4 x, 0 ≤ z ∧ z < 256 := by
  intro z hz
  rw [b4_of] at hz
  simp only [List.mem_cons, List.not_mem_nil, or_false] at hz
  rcases hz with rfl | rfl | rfl | rfl <;> omega
theorem fill_bytes (n : Nat) : Bytes (fill n) := by
  refine bytes_of_mem fun z hz => ?_
  unfold fill at hz
  simp only [List.mem_cons, List.mem_append, List.mem_replicate] at hz
  rcases hz with rfl | (⟨_, rfl⟩ | h) | h
  · omega
  · omega
  · exact b4_bytes _ z h
  · exact b4_bytes _ z h
theorem own_open {B : Nat} {w : World} {v : Value} {k : Nat} {xs : List Int} (h : Own B w v k xs) (hk : 0 < k) : ∃ b cap, v = .slice (some ⟨b, 0, none⟩) k cap ∧ Seg .u8 w (some ⟨b, 0, none⟩) k xs ∧ B ≤ b ∧ k ≤ cap ∧ cap ≤ 9223372036854775807 := by
  obtain ⟨a, c, hv, hs, _, _⟩ := h.seg
  rcases h.2 with ⟨rfl, rfl⟩ | ⟨g, cap, cur, rfl, hB, hg, hc, hm, _⟩
  · omega
  · injection hv with e1 e2 e3
    subst e1
    exact ⟨g, cap, rfl, hs, hB, hc, hm⟩
theorem sta_new (w : World) (s : St) (rs : List Int) (n : Int) (hr : rs.length = 64) (o : Obj) : Sta 67 [] ((w.alloc (.cells (stc s rs n).toArray 67)).alloc o) w.heap.size s rs n := by
  refine ⟨?_, hr⟩
  exact (Below.heap_alloc _ _ _ (by simp)).trans (heap_new w _)
theorem fill_pos (n : Nat) : 0 < (fill n).length := by simp [fill]
theorem szb8 : (Try.prog.info? 5).map (·.size) = some 1 := by kernel_rfl
theorem bytes_len (s : St) : s.bytes.length = 32 := by simp [St.bytes, St.words, b4]
theorem dig_step {w w5 w6 : World} {M N : Nat} {BS : List Int} (h : Bk 37 w5 (N + 1) (u8s dz32)) (hg : w.grownBy w5 none) (hNM : N + 1 < M) (hwN : w.heap.size ≤ N) (hl : BS.length = 32)
    (h6 : w6.heap[M]? = some (.cells (splice (dz32.map (Value.int .u8)) 0 (BS.map (Value.int .u8))).toArray 37 (0, 0))) (hb : Below M w5 w6) : Bk 37 w6 M (u8s BS) ∧ Bk 37 w6 (N + 1) (u8s dz32) ∧ w.grownBy w6 none := by
  refine ⟨?_, h.below hb hNM, ⟨hb.os.trans hg.os, hb.tape.trans hg.tape, hb.output.trans hg.output, Nat.le_trans hg.size hb.size, fun i hi hn => (hb.block i (by omega)).trans (hg.block i hi hn)⟩⟩
  unfold Bk u8s
  rw [h6]
  congr 3
  rw [splice, List.take_zero, List.nil_append, List.drop_eq_nil_of_le (by rw [List.length_map, List.length_map, hl]; show 32 ≤ 0 + 32; omega), List.append_nil]
set_option maxRecDepth 20000 in
set_option maxHeartbeats 300000 in
theorem digest_c (s : St) (held : List Int) (n : Nat) (hh : held.length = n % 64) (hb : Bytes held) (hn : n < 2305843009213693952) (w : World) :
    Calls Try.prog 33 #[.agg (stc s (rz held) n).toArray] w fun r w' => r = .returned (.agg (u8s (dgs (s, held) n))) ∧ w.grownBy w' none := by
  have hz := zD
  have HS0 : Hid (Sta 67 [] ((w.alloc (.cells (stc s (rz held) n).toArray 67)).alloc (.cells (u8s dz32) 37)) w.heap.size s (rz held) n) := sta_new w s (rz held) n (rz_len held (by omega)) _
  have HG0 : Hid (w.grownBy ((w.alloc (.cells (stc s (rz held) n).toArray 67)).alloc (.cells (u8s dz32) 37)) none) := gb_trans (World.grownBy_alloc _ _ _) (World.grownBy_alloc _ _ _)
  have HD0 : Hid (Bk 37 ((w.alloc (.cells (stc s (rz held) n).toArray 67)).alloc (.cells (u8s dz32) 37)) (w.heap.size + 1) (u8s dz32)) := by
    have := heap_new (w.alloc (.cells (stc s (rz held) n).toArray 67)) (.cells (u8s dz32) 37)
    rw [World.size_alloc] at this
    exact this
  have kc : ((w.alloc (.cells (stc s (rz held) n).toArray 67)).alloc (.cells (u8s dz32) 37)).cell? ⟨w.heap.size, 72, none⟩ = some (.int .i64 (n : Int)) := HS0.out.size
  have HB : Hid (Bytes held) := hb
  have HH : Hid (held.length = n % 64) := hh
  obtain ⟨cs, hcs⟩ : ∃ cs, cs = (stc s (rz held) n).toArray := ⟨_, rfl⟩
  rw [← hcs] at HS0 HG0 HD0 kc ⊢
  clear hcs hb hh
  go_enter Try.func33, Try.ntmps33
  go_wp2_with fail
  generalize hW1 : World.alloc (World.alloc w _) _ = W1 at HS0 HG0 HD0 kc ⊢
  clear hW1 kc
  obtain ⟨N, hN⟩ : ∃ N, N = w.heap.size := ⟨_, rfl⟩
  rw [← hN] at HS0 HD0 ⊢
  have HN : Hid (N = w.heap.size) := hN
  clear hN
  refine (filling_c n hn W1).mono ?_
  rintro r w2 ⟨v2, rfl, ho2, hb2⟩
  obtain ⟨b2, c2, rfl, hs2, hB2, hk2, hm2⟩ := own_open ho2 (fill_pos n)
  obtain ⟨F, hF⟩ : ∃ F, F = (fill n).length := ⟨_, rfl⟩
  have hF2 : F < 200 := by have := fill_len n; rw [hF]; simp [fill, b4]; omega
  rw [← hF] at hs2 hk2 ⊢
  have H2 : Hid (Hs 67 [] w2 N (s, held) n ∧ Bk 37 w2 (N + 1) (u8s dz32) ∧ w.grownBy w2 none) := by
    have hg : W1.grownBy w2 none := ⟨hb2.os, hb2.tape, hb2.output, hb2.size, fun i hi _ => hb2.block i hi⟩
    exact ⟨⟨HS0.out.gb hg, HH.out⟩, HD0.out.grew hg (by simp), gb_trans HG0.out hg⟩
  have HFA : Hid (Far N (some ⟨b2, 0, none⟩) F) := .inr ⟨b2, 0, rfl, by have := HS0.out.lt; omega⟩
  have HTK : Hid (Calls Try.prog 31 #[.pointer (some ⟨N, 0, none⟩), .slice (some ⟨b2, 0, none⟩) F c2] w2 fun r w' => r = .returned (.tuple #[]) ∧ Hs 67 [] w' N (shz (s, held) (fill n)) (n + F) ∧ w2.grownBy w' (some N)) := take_c 67 [] N (s, held) n (some ⟨b2, 0, none⟩) F c2 (fill n) w2 H2.out.1 hs2 (fill_bytes n) HB.out HFA.out hk2 hm2 (by omega)
  clear ho2 hb2 hs2 hB2 HS0 HG0 HD0
  obtain ⟨q, hq⟩ : ∃ q, q = shz (s, held) (fill n) := ⟨_, rfl⟩
  have HDG : Hid (dgs (s, held) n = q.1.bytes) := by show _ = _; rw [hq]; rfl
  rw [← hq] at HTK
  clear hq hF
  go_wp2_with fail
  refine (Calls.mono HTK.out ?_)
  rintro r w3 ⟨rfl, hH3, hg3⟩
  have H3 : Hid (Sta 67 [] w3 N q.1 (rz q.2) ((n + F : Nat) : Int) ∧ Bk 37 w3 (N + 1) (u8s dz32) ∧ w.grownBy w3 none) := ⟨hH3.1, H2.out.2.1.grew hg3 (fun e => by have := Option.some.inj e; omega), gb_newer H2.out.2.2 hg3 (by have := HN.out; omega)⟩
  clear hH3 hg3
  have HN3 : Hid (Bk 37 (w3.alloc (.cells (u8s dz32) 37)) w3.heap.size (u8s dz32) ∧ w3.grownBy (w3.alloc (.cells (u8s dz32) 37)) none) := blk_new w3 _ _
  go_wp2
  generalize hW4 : World.alloc w3 _ = w4 at HN3 ⊢
  obtain ⟨M, hM⟩ : ∃ M, M = w3.heap.size := ⟨_, rfl⟩
  rw [← hM] at HN3 ⊢
  have H4 : Hid (Sta 67 [] w4 N q.1 (rz q.2) ((n + F : Nat) : Int) ∧ Bk 37 w4 (N + 1) (u8s dz32) ∧ Bk 37 w4 M (u8s dz32) ∧ w.grownBy w4 none ∧ N + 1 < M ∧ w.heap.size ≤ N) := ⟨H3.out.1.gb HN3.out.2, H3.out.2.1.grew HN3.out.2 (by simp), HN3.out.1, gb_trans H3.out.2.2 HN3.out.2, by rw [hM]; exact lt_of_block H3.out.2.1, by have := HN.out; omega⟩
  clear hW4 hM HN3 H3 HN
  have HBL : Hid (q.1.bytes.length = 32) := bytes_len q.1
  have HSGW : Hid (Seg .u32 w4.drew (some ⟨N, 0, none⟩) 8 (q.1.words.map W)) := ⟨rfl, .inr ⟨N, 0, rfl, H4.out.1.lt, fun i hi => by
    have := H4.out.1.word i hi
    rw [show ([] : List Value).length + i = 0 + i from rfl] at this
    show w4.cell? _ = _
    rw [this]
    simp only [List.getElem?_map, List.getElem?_eq_getElem (show i < q.1.words.length from hi), List.getD_eq_getElem?_getD, Option.map_some, Option.getD_some]⟩⟩
  have HLA : Hid (Calls Try.prog 50 #[.slice (some ⟨N, 0, none⟩) 8 8] w4.drew fun r w' => ∃ b c, r = .returned (.slice (some ⟨b, 0, none⟩) 32 c) ∧ Seg .u8 w' (some ⟨b, 0, none⟩) 32 q.1.bytes ∧ Below w4.heap.size w4 w') := by
    refine (laid_c (some ⟨N, 0, none⟩) q.1.words 8 8 w4.drew rfl HSGW.out (by omega)).mono ?_
    rintro r w' ⟨v, rfl, ho, hb⟩
    obtain ⟨b, c, rfl, hs, _⟩ := own_open ho (by omega)
    exact ⟨b, c, rfl, hs, ⟨hb.os, hb.tape, hb.output, hb.size, hb.block⟩⟩
  obtain ⟨BS, hBS⟩ : ∃ BS, BS = q.1.bytes := ⟨_, rfl⟩
  rw [← hBS] at HLA HBL HDG
  clear hBS HSGW
  go_region_held3 (fun _ => True) (trivial) (first
    | (go_at_call 50; go_must (refine (Calls.mono HLA.out ?_)); rintro r w5 ⟨b5, c5, rfl, hs5, hb5⟩; have H5 : Hid (Seg .u8 w5 (some ⟨b5, 0, none⟩) 32 BS ∧ Bk 37 w5 M (u8s dz32) ∧ Bk 37 w5 (N + 1) (u8s dz32) ∧ w.grownBy w5 none) := ⟨hs5, H4.out.2.2.1.below hb5 (lt_of_block H4.out.2.2.1), H4.out.2.1.below hb5 (lt_of_block H4.out.2.1), gb_trans H4.out.2.2.2.1 ⟨hb5.os, hb5.tape, hb5.output, hb5.size, fun i hi _ => hb5.block i hi⟩⟩; clear hs5 hb5)
    | (refine step_copy_splice rfl (.tmp 8) (.tmp 11) 29 29 rfl 5 Try.underlying29 szb8 _ _ _ _ _ _ rfl rfl M 0 (dz32.map (Value.int .u8)) 37 H5.out.2.1 (BS.map (Value.int .u8)) (by rw [List.length_map, HBL.out]; rfl) (fun _ => ⟨rfl, ⟨b5, 0, none⟩, rfl, seg_news' H5.out.1 _ rfl⟩) (by rw [List.length_map, List.length_map, HBL.out]; show 0 + 32 ≤ 32; omega) (by intro v hv; obtain ⟨z, _, rfl⟩ := List.mem_map.1 hv; rfl) M w5 (Below.refl _ _) (Nat.le_refl _) ?_; intro w6 hg6 hb6; have H6 : Hid (Bk 37 w6 M (u8s BS) ∧ Bk 37 w6 (N + 1) (u8s dz32) ∧ w.grownBy w6 none) := dig_step H5.out.2.2.1 H5.out.2.2.2 H4.out.2.2.2.2.1 H4.out.2.2.2.2.2 HBL.out hg6.out hb6; clear hg6 hb6))
  go_wp2_with (first
    | (refine wpList_load_bk 37 rfl (.tmp 3) rfl Try.underlying37 rfl infoD M (u8s BS) rfl H6.out.1 (by rw [u8s_size]; exact HBL.out) ?_)
    | (refine wpList_store_bk 37 rfl (.tmp 2) (.tmp 13) rfl infoD (N + 1) (u8s dz32) (u8s BS) rfl rfl H6.out.2.1 rfl (by rw [u8s_size]; exact HBL.out) (u8s_one _) ?_; intro w7 h1 h2; have H7 : Hid (Bk 37 w7 (N + 1) (u8s BS) ∧ w.grownBy w7 none) := ⟨h1, gb_newer H6.out.2.2 h2 (by have := H4.out.2.2.2.2.2; omega)⟩; clear h1 h2))
  refine bodyPost_ret (results_cell1 Try.results33 _ _ _ ⟨N + 1, 0, none⟩ (.agg (u8s BS)) rfl (bk_load (T := 37) Try.underlying37 rfl infoD H7.out.1 (by rw [u8s_size]; exact HBL.out))) rfl ?_
  rw [HDG.out]
  exact ⟨rfl, H7.out.2⟩
end Go.Proofs.Ytlfppknpnfeplaa

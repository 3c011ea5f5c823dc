/-
  What the law's read answers of a pack Reader and the document's that stand alike, whatever the call: true, and they stand alike behind it. Condition: their bytes can be read, and their length is one that a machine has.
-/
import Derived.Test.YtdedmmodlbnnfaaPair
import Derived.Test.YtdedmmodlbnnfaaEqT
namespace Go.Proofs.Ytdedmmodlbnnfaa
open Go.RowKit
set_option linter.unusedVariables false

/-- What is read of a call's cells. -/
structure OpF (O : Array Value) (call n most : Int) : Prop where
  size : O.size = 41
  c0 : O[0]? = some (.int .i64 call)
  c2 : O[2]? = some (.int .i64 n)
  c3 : O[3]? = some (.int .i64 most)
  nle : n ≤ 9223372036854775807
  mle : most ≤ 9223372036854775807
theorem Bk.cell0 {T w b O call n most} (h : Bk T w b O) (o : OpF O call n most) : w.cell? ⟨b, 0, none⟩ = some (.int .i64 call) := (h.cell 0).trans o.c0
theorem Bk.cell2 {T w b O call n most} (h : Bk T w b O) (o : OpF O call n most) : w.cell? ⟨b, 2, none⟩ = some (.int .i64 n) := (h.cell 2).trans o.c2
theorem Bk.cell3 {T w b O call n most} (h : Bk T w b O) (o : OpF O call n most) : w.cell? ⟨b, 3, none⟩ = some (.int .i64 most) := (h.cell 3).trans o.c3

theorem two_a {w W1 w2 : World} {g1 g2 N : Nat} {a1 a2 : Option Addr} {len c1 c2 : Nat} {xs : List Int} {e : Int} {p : Nat} {O : Array Value} {e' : Int} {p' : Nat}
    (H : RS W1 g1 a1 len c1 xs e p ∧ XS W1 g2 a2 len c2 xs e p ∧ Bk 39 W1 N O ∧ Gr (fun k => k = g1 ∨ k = g2) w W1) (hne : g1 ≠ g2) (ha : len = 0 ∨ Off a2 g1) (hN : N ≠ g1 ∧ N ≠ g2)
    (h1 : RS w2 g1 a1 len c1 xs e' p') (h2 : W1.grownBy w2 (some g1)) : RS w2 g1 a1 len c1 xs e' p' ∧ XS w2 g2 a2 len c2 xs e p ∧ Bk 39 w2 N O ∧ Gr (fun k => k = g1 ∨ k = g2) w w2 :=
  ⟨h1, H.2.1.other h2 (fun e => hne (Option.some.inj e)) (fun k hk => by cases hk; exact ha), H.2.2.1.grew h2 (fun e => hN.1 (Option.some.inj e).symm), H.2.2.2.trans (Gr.of h2 (fun k hk => by cases hk; exact .inl (.inl rfl)))⟩
theorem two_c {w w2 w3 : World} {g1 g2 N : Nat} {a1 a2 : Option Addr} {len c1 c2 : Nat} {xs : List Int} {e : Int} {p : Nat} {O : Array Value} {e' : Int} {p' : Nat}
    (H : RS w2 g1 a1 len c1 xs e' p' ∧ XS w2 g2 a2 len c2 xs e p ∧ Bk 39 w2 N O ∧ Gr (fun k => k = g1 ∨ k = g2) w w2) (hne : g1 ≠ g2) (ha : Off a1 g2) (hN : N ≠ g1 ∧ N ≠ g2)
    (h1 : XS w3 g2 a2 len c2 xs e' p') (h2 : w2.grownBy w3 (some g2)) : RS w3 g1 a1 len c1 xs e' p' ∧ XS w3 g2 a2 len c2 xs e' p' ∧ Bk 39 w3 N O ∧ Gr (fun k => k = g1 ∨ k = g2) w w3 :=
  ⟨H.1.other h2 (fun e => hne (Option.some.inj e).symm) (fun k hk => by cases hk; exact ha), h1, H.2.2.1.grew h2 (fun e => hN.2 (Option.some.inj e).symm), H.2.2.2.trans (Gr.of h2 (fun k hk => by cases hk; exact .inl (.inr rfl)))⟩
theorem two_b {w w2 w3 : World} {g1 g2 N : Nat} {a1 a2 : Option Addr} {len c1 c2 : Nat} {xs : List Int} {e : Int} {p : Nat} {O : Array Value} {e' : Int} {p' : Nat}
    (H : RS w2 g1 a1 len c1 xs e' p' ∧ XS w2 g2 a2 len c2 xs e p ∧ Bk 39 w2 N O ∧ Gr (fun k => k = g1 ∨ k = g2) w w2) (hne : g1 ≠ g2) (ha : Off a1 g2)
    (h1 : XS w3 g2 a2 len c2 xs e' p') (h2 : w2.grownBy w3 (some g2)) : RS w3 g1 a1 len c1 xs e' p' ∧ XS w3 g2 a2 len c2 xs e' p' ∧ Gr (fun k => k = g1 ∨ k = g2) w w3 :=
  ⟨H.1.other h2 (fun e => hne (Option.some.inj e).symm) (fun k hk => by cases hk; exact ha), h1, H.2.2.2.trans (Gr.of h2 (fun k hk => by cases hk; exact .inl (.inr rfl)))⟩

theorem pair_digest' (xs : List Int) (e : Int) (p : Nat) (hx : Bytes xs) : ∃ (ds : List Int) (e' : Int) (p' : Nat), ds.length = 32 ∧ Bytes ds ∧ RDoes 42 [] xs e p (.agg (u8s ds)) e' p' ∧ XDoes 43 [] xs e p (.agg (u8s ds)) e' p' := by
  have hz : Bytes (List.replicate 32 0) := fun i hi => by
    rw [List.length_replicate] at hi
    rw [List.getElem?_replicate, if_pos hi]
    exact ⟨Int.le_refl _, by decide⟩
  by_cases he : e = 0
  · subst he
    refine ⟨_, _, _, rg_len xs p, ?_, fun w g a len cap h => digest_ok g a len cap xs p w h, fun w g a len cap h => xdigest_ok g a len cap xs p w h⟩
    unfold rg
    split
    · exact hz
    · exact bytes_take (bytes_drop hx _) _
  · have hb : (e == 0) = false := by simp [he]
    exact ⟨_, e, p, by simp, hz, fun w g a len cap h => digest_no g a len cap xs e p w h hb, fun w g a len cap h => xdigest_no g a len cap xs e p w h hb⟩

set_option maxRecDepth 20000 in
set_option maxHeartbeats 4000000 in
theorem read_op (g1 g2 : Nat) (a1 a2 : Option Addr) (len c1 c2 : Nat) (xs : List Int) (e : Int) (p : Nat) (O : Array Value) (call n most : Int) (w : World) (h1 : RS w g1 a1 len c1 xs e p) (h2 : XS w g2 a2 len c2 xs e p)
    (hne : g1 ≠ g2) (ha1 : Off a1 g2) (ha2 : len = 0 ∨ Off a2 g1) (ho : OpF O call n most) :
    Calls Try.prog 11 #[.pointer (some ⟨g1, 0, none⟩), .pointer (some ⟨g2, 0, none⟩), .agg O] w fun r w' => r = .returned (.bool true) ∧ ∃ (e' : Int) (p' : Nat), RS w' g1 a1 len c1 xs e' p' ∧ XS w' g2 a2 len c2 xs e' p' ∧ Gr (fun k => k = g1 ∨ k = g2) w w' := by
  have HR : Hid (RS w g1 a1 len c1 xs e p) := h1
  have HX : Hid (XS w g2 a2 len c2 xs e p) := h2
  have HNE : Hid (g1 ≠ g2) := hne
  have HA1 : Hid (Off a1 g2) := ha1
  have HA2 : Hid (len = 0 ∨ Off a2 g1) := ha2
  have HO : Hid (OpF O call n most) := ho
  obtain ⟨N, hN⟩ : ∃ N, N = w.heap.size := ⟨_, rfl⟩
  have HNG : Hid (N ≠ g1 ∧ N ≠ g2) := by
    have h3 := lt_of_block h1.rdr
    have h4 := lt_of_block h2.rdr
    exact ⟨by omega, by omega⟩
  have b0 : (w.alloc (.cells O 39)).cell? ⟨w.heap.size, 0, none⟩ = some (.int .i64 call) := (show Bk 39 (w.alloc (.cells O 39)) w.heap.size O from heap_new w _).cell0 ho
  have hml := ho.mle
  have hnl := ho.nle
  clear h1 h2 hne ha1 ha2 ho
  by_cases h0 : call = 0
  · subst h0
    obtain ⟨v, e', p', d1, d2⟩ := pair_uint xs e p
    have D1 : Hid (_) := d1
    have D2 : Hid (_) := d2
    clear d1 d2
    go_enter Try.func11, Try.ntmps11
    go_wp2_with fail
    generalize hW1 : World.alloc w _ = W1
    rw [← hN]
    have H1 : Hid (RS W1 g1 a1 len c1 xs e p ∧ XS W1 g2 a2 len c2 xs e p ∧ Bk 39 W1 N O ∧ Gr (fun k => k = g1 ∨ k = g2) w W1) := by
      rw [← hW1, hN]
      exact ⟨HR.out.new (World.grownBy_alloc _ _ _), HX.out.new (World.grownBy_alloc _ _ _), heap_new w _, (Gr.refl _ w).alloc _⟩
    clear hW1 hN b0
    refine (D1.out _ _ _ _ _ H1.out.1).mono ?_
    rintro r w2 ⟨rfl, h1, h2⟩
    have H2 : Hid (RS w2 g1 a1 len c1 xs e' p' ∧ XS w2 g2 a2 len c2 xs e p ∧ Bk 39 w2 N O ∧ Gr (fun k => k = g1 ∨ k = g2) w w2) := two_a H1.out HNE.out HA2.out HNG.out h1 h2
    clear h1 h2
    go_wp2_with fail
    refine (D2.out _ _ _ _ _ H2.out.2.1).mono ?_
    rintro r w3 ⟨rfl, h1, h2⟩
    have H3 : Hid (RS w3 g1 a1 len c1 xs e' p' ∧ XS w3 g2 a2 len c2 xs e' p' ∧ Gr (fun k => k = g1 ∨ k = g2) w w3) := two_b H2.out HNE.out HA1.out h1 h2
    clear h1 h2
    go_wp2
    go_ret
    exact ⟨rfl, e', p', H3.out.1, H3.out.2.1, H3.out.2.2⟩
  by_cases h1 : call = 1
  · subst h1
    obtain ⟨v, e', p', d1, d2⟩ := pair_int xs e p most hml
    have D1 : Hid (_) := d1
    have D2 : Hid (_) := d2
    clear d1 d2
    go_enter Try.func11, Try.ntmps11
    go_wp2
    generalize hW1 : World.alloc w _ = W1
    rw [← hN]
    have H1 : Hid (RS W1 g1 a1 len c1 xs e p ∧ XS W1 g2 a2 len c2 xs e p ∧ Bk 39 W1 N O ∧ Gr (fun k => k = g1 ∨ k = g2) w W1) := by
      rw [← hW1, hN]
      exact ⟨HR.out.new (World.grownBy_alloc _ _ _), HX.out.new (World.grownBy_alloc _ _ _), heap_new w _, (Gr.refl _ w).alloc _⟩
    clear hW1 hN b0
    have H1d : Hid (RS W1.drew g1 a1 len c1 xs e p ∧ XS W1.drew g2 a2 len c2 xs e p ∧ Bk 39 W1.drew N O ∧ Gr (fun k => k = g1 ∨ k = g2) w W1.drew) := ⟨H1.out.1.drewN 1, H1.out.2.1.drewN 1, H1.out.2.2.1, H1.out.2.2.2.drewN 1⟩
    have hS1 : W1.cell? ⟨N, 3, none⟩ = some (.int .i64 most) := (H1.out.2.2.1).cell3 HO.out
    go_region_held3 (fun w' => w'.cell? ⟨N, 3, none⟩ = some (.int .i64 most)) (first | assumption | exact hS1) (first
      | (go_at_call 36; refine (D1.out _ _ _ _ _ H1d.out.1).mono ?_; rintro r w2 ⟨rfl, h1, h2⟩; have H2 : Hid (RS w2 g1 a1 len c1 xs e' p' ∧ XS w2 g2 a2 len c2 xs e p ∧ Bk 39 w2 N O ∧ Gr (fun k => k = g1 ∨ k = g2) w w2) := two_a H1d.out HNE.out HA2.out HNG.out h1 h2; clear h1 h2; have hS2 : w2.cell? ⟨N, 3, none⟩ = some (.int .i64 most) := (H2.out.2.2.1).cell3 HO.out)
      | (go_at_call 37; refine (D2.out _ _ _ _ _ H2.out.2.1).mono ?_; rintro r w3 ⟨rfl, h1, h2⟩; have H3 : Hid (RS w3 g1 a1 len c1 xs e' p' ∧ XS w3 g2 a2 len c2 xs e' p' ∧ Bk 39 w3 N O ∧ Gr (fun k => k = g1 ∨ k = g2) w w3) := two_c H2.out HNE.out HA1.out HNG.out h1 h2; clear h1 h2; have hS3 : w3.cell? ⟨N, 3, none⟩ = some (.int .i64 most) := (H3.out.2.2.1).cell3 HO.out))
    go_wp2
    go_ret
    exact ⟨rfl, e', p', H3.out.1, H3.out.2.1, H3.out.2.2.2⟩
  by_cases h2 : call = 2
  · subst h2
    obtain ⟨v, e', p', d1, d2⟩ := pair_text xs e p most hml
    have D1 : Hid (_) := d1
    have D2 : Hid (_) := d2
    clear d1 d2
    go_enter Try.func11, Try.ntmps11
    go_wp2
    generalize hW1 : World.alloc w _ = W1
    rw [← hN]
    have H1 : Hid (RS W1 g1 a1 len c1 xs e p ∧ XS W1 g2 a2 len c2 xs e p ∧ Bk 39 W1 N O ∧ Gr (fun k => k = g1 ∨ k = g2) w W1) := by
      rw [← hW1, hN]
      exact ⟨HR.out.new (World.grownBy_alloc _ _ _), HX.out.new (World.grownBy_alloc _ _ _), heap_new w _, (Gr.refl _ w).alloc _⟩
    clear hW1 hN b0
    have H1d : Hid (RS W1.drew g1 a1 len c1 xs e p ∧ XS W1.drew g2 a2 len c2 xs e p ∧ Bk 39 W1.drew N O ∧ Gr (fun k => k = g1 ∨ k = g2) w W1.drew) := ⟨H1.out.1.drewN 1, H1.out.2.1.drewN 1, H1.out.2.2.1, H1.out.2.2.2.drewN 1⟩
    have hS1 : W1.cell? ⟨N, 3, none⟩ = some (.int .i64 most) := (H1.out.2.2.1).cell3 HO.out
    go_region_held3 (fun w' => w'.cell? ⟨N, 3, none⟩ = some (.int .i64 most)) (first | assumption | exact hS1) (first
      | (go_at_call 38; refine (D1.out _ _ _ _ _ H1d.out.1).mono ?_; rintro r w2 ⟨rfl, h1, h2⟩; have H2 : Hid (RS w2 g1 a1 len c1 xs e' p' ∧ XS w2 g2 a2 len c2 xs e p ∧ Bk 39 w2 N O ∧ Gr (fun k => k = g1 ∨ k = g2) w w2) := two_a H1d.out HNE.out HA2.out HNG.out h1 h2; clear h1 h2; have hS2 : w2.cell? ⟨N, 3, none⟩ = some (.int .i64 most) := (H2.out.2.2.1).cell3 HO.out)
      | (go_at_call 39; refine (D2.out _ _ _ _ _ H2.out.2.1).mono ?_; rintro r w3 ⟨rfl, h1, h2⟩; have H3 : Hid (RS w3 g1 a1 len c1 xs e' p' ∧ XS w3 g2 a2 len c2 xs e' p' ∧ Bk 39 w3 N O ∧ Gr (fun k => k = g1 ∨ k = g2) w w3) := two_c H2.out HNE.out HA1.out HNG.out h1 h2; clear h1 h2; have hS3 : w3.cell? ⟨N, 3, none⟩ = some (.int .i64 most) := (H3.out.2.2.1).cell3 HO.out))
    go_wp2
    go_ret
    exact ⟨rfl, e', p', H3.out.1, H3.out.2.1, H3.out.2.2.2⟩
  by_cases h3 : call = 3
  · subst h3
    obtain ⟨v, e', p', d1, d2⟩ := pair_flag xs e p
    have D1 : Hid (_) := d1
    have D2 : Hid (_) := d2
    clear d1 d2
    go_enter Try.func11, Try.ntmps11
    go_wp2_with fail
    generalize hW1 : World.alloc w _ = W1
    rw [← hN]
    have H1 : Hid (RS W1 g1 a1 len c1 xs e p ∧ XS W1 g2 a2 len c2 xs e p ∧ Bk 39 W1 N O ∧ Gr (fun k => k = g1 ∨ k = g2) w W1) := by
      rw [← hW1, hN]
      exact ⟨HR.out.new (World.grownBy_alloc _ _ _), HX.out.new (World.grownBy_alloc _ _ _), heap_new w _, (Gr.refl _ w).alloc _⟩
    clear hW1 hN b0
    refine (D1.out _ _ _ _ _ H1.out.1).mono ?_
    rintro r w2 ⟨rfl, h1, h2⟩
    have H2 : Hid (RS w2 g1 a1 len c1 xs e' p' ∧ XS w2 g2 a2 len c2 xs e p ∧ Bk 39 w2 N O ∧ Gr (fun k => k = g1 ∨ k = g2) w w2) := two_a H1.out HNE.out HA2.out HNG.out h1 h2
    clear h1 h2
    go_wp2_with fail
    refine (D2.out _ _ _ _ _ H2.out.2.1).mono ?_
    rintro r w3 ⟨rfl, h1, h2⟩
    have H3 : Hid (RS w3 g1 a1 len c1 xs e' p' ∧ XS w3 g2 a2 len c2 xs e' p' ∧ Gr (fun k => k = g1 ∨ k = g2) w w3) := two_b H2.out HNE.out HA1.out h1 h2
    clear h1 h2
    go_wp2
    go_ret
    exact ⟨rfl, e', p', H3.out.1, H3.out.2.1, H3.out.2.2⟩
  by_cases h4 : call = 4
  · subst h4
    obtain ⟨v, e', p', hl, hby, d1, d2⟩ := pair_digest' xs e p HR.out.bytes
    have D1 : Hid (_) := d1
    have D2 : Hid (_) := d2
    clear d1 d2
    have heq := eqD v hby hl
    clear hl hby
    go_enter Try.func11, Try.ntmps11
    go_wp2_with fail
    generalize hW1 : World.alloc w _ = W1
    rw [← hN]
    have H1 : Hid (RS W1 g1 a1 len c1 xs e p ∧ XS W1 g2 a2 len c2 xs e p ∧ Bk 39 W1 N O ∧ Gr (fun k => k = g1 ∨ k = g2) w W1) := by
      rw [← hW1, hN]
      exact ⟨HR.out.new (World.grownBy_alloc _ _ _), HX.out.new (World.grownBy_alloc _ _ _), heap_new w _, (Gr.refl _ w).alloc _⟩
    clear hW1 hN b0
    refine (D1.out _ _ _ _ _ H1.out.1).mono ?_
    rintro r w2 ⟨rfl, h1, h2⟩
    have H2 : Hid (RS w2 g1 a1 len c1 xs e' p' ∧ XS w2 g2 a2 len c2 xs e p ∧ Bk 39 w2 N O ∧ Gr (fun k => k = g1 ∨ k = g2) w w2) := two_a H1.out HNE.out HA2.out HNG.out h1 h2
    clear h1 h2
    go_wp2_with fail
    refine (D2.out _ _ _ _ _ H2.out.2.1).mono ?_
    rintro r w3 ⟨rfl, h1, h2⟩
    have H3 : Hid (RS w3 g1 a1 len c1 xs e' p' ∧ XS w3 g2 a2 len c2 xs e' p' ∧ Gr (fun k => k = g1 ∨ k = g2) w w3) := two_b H2.out HNE.out HA1.out h1 h2
    clear h1 h2
    go_wp2
    go_ret
    exact ⟨rfl, e', p', H3.out.1, H3.out.2.1, H3.out.2.2⟩
  by_cases h5 : call = 5
  · subst h5
    obtain ⟨kk, vv, nn, e', p', d1, d2⟩ := pair_row xs e p
    have D1 : Hid (_) := d1
    have D2 : Hid (_) := d2
    clear d1 d2
    have heq := eqRow kk vv nn
    go_enter Try.func11, Try.ntmps11
    go_wp2_with fail
    generalize hW1 : World.alloc w _ = W1
    rw [← hN]
    have H1 : Hid (RS W1 g1 a1 len c1 xs e p ∧ XS W1 g2 a2 len c2 xs e p ∧ Bk 39 W1 N O ∧ Gr (fun k => k = g1 ∨ k = g2) w W1) := by
      rw [← hW1, hN]
      exact ⟨HR.out.new (World.grownBy_alloc _ _ _), HX.out.new (World.grownBy_alloc _ _ _), heap_new w _, (Gr.refl _ w).alloc _⟩
    clear hW1 hN b0
    refine (D1.out _ _ _ _ _ H1.out.1).mono ?_
    rintro r w2 ⟨rfl, h1, h2⟩
    have H2 : Hid (RS w2 g1 a1 len c1 xs e' p' ∧ XS w2 g2 a2 len c2 xs e p ∧ Bk 39 w2 N O ∧ Gr (fun k => k = g1 ∨ k = g2) w w2) := two_a H1.out HNE.out HA2.out HNG.out h1 h2
    clear h1 h2
    go_wp2_with fail
    refine (D2.out _ _ _ _ _ H2.out.2.1).mono ?_
    rintro r w3 ⟨rfl, h1, h2⟩
    have H3 : Hid (RS w3 g1 a1 len c1 xs e' p' ∧ XS w3 g2 a2 len c2 xs e' p' ∧ Gr (fun k => k = g1 ∨ k = g2) w w3) := two_b H2.out HNE.out HA1.out h1 h2
    clear h1 h2
    go_wp2
    go_ret
    exact ⟨rfl, e', p', H3.out.1, H3.out.2.1, H3.out.2.2⟩
  by_cases h8 : call = 8
  · subst h8
    obtain ⟨v, e', p', d1, d2⟩ := pair_count xs e p most n hml hnl
    have D1 : Hid (_) := d1
    have D2 : Hid (_) := d2
    clear d1 d2
    go_enter Try.func11, Try.ntmps11
    go_wp2
    generalize hW1 : World.alloc w _ = W1
    rw [← hN]
    have H1 : Hid (RS W1 g1 a1 len c1 xs e p ∧ XS W1 g2 a2 len c2 xs e p ∧ Bk 39 W1 N O ∧ Gr (fun k => k = g1 ∨ k = g2) w W1) := by
      rw [← hW1, hN]
      exact ⟨HR.out.new (World.grownBy_alloc _ _ _), HX.out.new (World.grownBy_alloc _ _ _), heap_new w _, (Gr.refl _ w).alloc _⟩
    clear hW1 hN b0
    have H1d : Hid (RS W1.drew g1 a1 len c1 xs e p ∧ XS W1.drew g2 a2 len c2 xs e p ∧ Bk 39 W1.drew N O ∧ Gr (fun k => k = g1 ∨ k = g2) w W1.drew) := ⟨H1.out.1.drewN 1, H1.out.2.1.drewN 1, H1.out.2.2.1, H1.out.2.2.2.drewN 1⟩
    have hS1 : W1.cell? ⟨N, 3, none⟩ = some (.int .i64 most) ∧ W1.cell? ⟨N, 2, none⟩ = some (.int .i64 n) := ⟨(H1.out.2.2.1).cell3 HO.out, (H1.out.2.2.1).cell2 HO.out⟩
    go_region_held3 (fun w' => w'.cell? ⟨N, 3, none⟩ = some (.int .i64 most) ∧ w'.cell? ⟨N, 2, none⟩ = some (.int .i64 n)) (first | assumption | exact hS1) (first
      | (go_at_call 46; refine (D1.out _ _ _ _ _ H1d.out.1).mono ?_; rintro r w2 ⟨rfl, h1, h2⟩; have H2 : Hid (RS w2 g1 a1 len c1 xs e' p' ∧ XS w2 g2 a2 len c2 xs e p ∧ Bk 39 w2 N O ∧ Gr (fun k => k = g1 ∨ k = g2) w w2) := two_a H1d.out HNE.out HA2.out HNG.out h1 h2; clear h1 h2; have hS2 : w2.cell? ⟨N, 3, none⟩ = some (.int .i64 most) ∧ w2.cell? ⟨N, 2, none⟩ = some (.int .i64 n) := ⟨(H2.out.2.2.1).cell3 HO.out, (H2.out.2.2.1).cell2 HO.out⟩)
      | (go_at_call 47; refine (D2.out _ _ _ _ _ H2.out.2.1).mono ?_; rintro r w3 ⟨rfl, h1, h2⟩; have H3 : Hid (RS w3 g1 a1 len c1 xs e' p' ∧ XS w3 g2 a2 len c2 xs e' p' ∧ Bk 39 w3 N O ∧ Gr (fun k => k = g1 ∨ k = g2) w w3) := two_c H2.out HNE.out HA1.out HNG.out h1 h2; clear h1 h2; have hS3 : w3.cell? ⟨N, 3, none⟩ = some (.int .i64 most) ∧ w3.cell? ⟨N, 2, none⟩ = some (.int .i64 n) := ⟨(H3.out.2.2.1).cell3 HO.out, (H3.out.2.2.1).cell2 HO.out⟩))
    go_wp2
    go_ret
    exact ⟨rfl, e', p', H3.out.1, H3.out.2.1, H3.out.2.2.2⟩
  by_cases h6 : call = 6
  · subst h6
    obtain ⟨d1, d2⟩ := pair_fail xs e p n
    obtain ⟨e', he'⟩ : ∃ e', e' = (if e = 0 then n else e) := ⟨_, rfl⟩
    rw [← he'] at d1 d2
    have D1 : Hid (_) := d1
    have D2 : Hid (_) := d2
    clear d1 d2 he'
    have b2 : (w.alloc (.cells O 39)).cell? ⟨w.heap.size, 2, none⟩ = some (.int .i64 n) := (show Bk 39 (w.alloc (.cells O 39)) w.heap.size O from heap_new w _).cell2 HO.out
    go_enter Try.func11, Try.ntmps11
    go_wp2_with fail
    generalize hW1 : World.alloc w _ = W1
    rw [← hN]
    have H1 : Hid (RS W1 g1 a1 len c1 xs e p ∧ XS W1 g2 a2 len c2 xs e p ∧ Bk 39 W1 N O ∧ Gr (fun k => k = g1 ∨ k = g2) w W1) := by
      rw [← hW1, hN]
      exact ⟨HR.out.new (World.grownBy_alloc _ _ _), HX.out.new (World.grownBy_alloc _ _ _), heap_new w _, (Gr.refl _ w).alloc _⟩
    clear hW1 hN b0 b2
    refine (D1.out _ _ _ _ _ H1.out.1).mono ?_
    rintro r w2 ⟨rfl, h1, h2⟩
    have H2 : Hid (RS w2 g1 a1 len c1 xs e' p ∧ XS w2 g2 a2 len c2 xs e p ∧ Bk 39 w2 N O ∧ Gr (fun k => k = g1 ∨ k = g2) w w2) := two_a H1.out HNE.out HA2.out HNG.out h1 h2
    clear h1 h2
    have b2 := H2.out.2.2.1.cell2 HO.out
    go_wp2_with fail
    refine (D2.out _ _ _ _ _ H2.out.2.1).mono ?_
    rintro r w3 ⟨rfl, h1, h2⟩
    have H3 : Hid (RS w3 g1 a1 len c1 xs e' p ∧ XS w3 g2 a2 len c2 xs e' p ∧ Gr (fun k => k = g1 ∨ k = g2) w w3) := two_b H2.out HNE.out HA1.out h1 h2
    clear h1 h2
    go_wp2
    go_ret
    exact ⟨rfl, e', p, H3.out.1, H3.out.2.1, H3.out.2.2⟩
  by_cases h7 : call = 7
  · subst h7
    have HLK : Hid (∀ w, RS w g1 a1 len c1 xs e p → XS w g2 a2 len c2 xs e p → Calls Try.prog 12 #[.pointer (some ⟨g1, 0, none⟩), .pointer (some ⟨g2, 0, none⟩)] w fun r w' => r = .returned (.bool true) ∧ ∃ n, w' = w.drewN n) := fun w h1 h2 => looked_c g1 g2 a1 a2 len c1 c2 xs e p w h1 h2
    go_enter Try.func11, Try.ntmps11
    go_wp2_with fail
    generalize hW1 : World.alloc w _ = W1
    rw [← hN]
    have H1 : Hid (RS W1 g1 a1 len c1 xs e p ∧ XS W1 g2 a2 len c2 xs e p ∧ Bk 39 W1 N O ∧ Gr (fun k => k = g1 ∨ k = g2) w W1) := by
      rw [← hW1, hN]
      exact ⟨HR.out.new (World.grownBy_alloc _ _ _), HX.out.new (World.grownBy_alloc _ _ _), heap_new w _, (Gr.refl _ w).alloc _⟩
    clear hW1 hN b0
    refine (HLK.out _ H1.out.1 H1.out.2.1).mono ?_
    rintro r w2 ⟨rfl, m, hw2⟩
    have H2 : Hid (RS w2 g1 a1 len c1 xs e p ∧ XS w2 g2 a2 len c2 xs e p ∧ Gr (fun k => k = g1 ∨ k = g2) w w2) := by
      rw [hw2]; exact ⟨H1.out.1.drewN _, H1.out.2.1.drewN _, H1.out.2.2.2.drewN _⟩
    clear hw2
    go_wp2
    go_ret
    exact ⟨rfl, e, p, H2.out.1, H2.out.2.1, H2.out.2.2⟩
  have q0 : (call == 0) = false := by simp [h0]
  have q1 : (call == 1) = false := by simp [h1]
  have q2 : (call == 2) = false := by simp [h2]
  have q3 : (call == 3) = false := by simp [h3]
  have q4 : (call == 4) = false := by simp [h4]
  have q5 : (call == 5) = false := by simp [h5]
  have q6 : (call == 6) = false := by simp [h6]
  have q7 : (call == 7) = false := by simp [h7]
  have q8 : (call == 8) = false := by simp [h8]
  clear h0 h1 h2 h3 h4 h5 h6 h7 h8
  go_enter Try.func11, Try.ntmps11
  go_wp2
  go_ret
  exact ⟨rfl, e, p, HR.out.new (World.grownBy_alloc _ _ _), HX.out.new (World.grownBy_alloc _ _ _), (Gr.refl _ w).alloc _⟩
end Go.Proofs.Ytdedmmodlbnnfaa

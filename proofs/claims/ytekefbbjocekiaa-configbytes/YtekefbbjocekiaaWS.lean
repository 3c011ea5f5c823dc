/-
  The Writer as plain data: what was laid down, the first error; and what its lay comes to. Condition: what is laid down takes at most 2^47 bytes.
-/
import Derived.Test.YtekefbbjocekiaaLayC
namespace Go.Proofs.Ytekefbbjocekiaa
open Go.RowKit
set_option linter.unusedVariables false

/-- The blocks that were laid aside, the last one first, and all their bytes; which blocks of memory that takes. -/
def ChainL (w : World) : List Nat → Option Addr → List Int → Prop
  | [], d, ys => d = none ∧ ys = []
  | [_], _, _ => False
  | b :: k :: fs, d, ys => ∃ (cap : Nat) (d' : Option Addr) (ys' zs : List Int), d = some ⟨b, 0, none⟩ ∧ ys = ys' ++ zs ∧ Bk 82 w b #[.pointer d', .slice (some ⟨k, 0, none⟩) zs.length cap] ∧ Seg .u8 w (some ⟨k, 0, none⟩) zs.length zs ∧ k < w.heap.size ∧ 0 < zs.length ∧ ChainL w fs d' ys'
def Chain (w : World) (d : Option Addr) (ys : List Int) (fs : List Nat) : Prop := ChainL w fs d ys
theorem chain_nil (w : World) : Chain w none [] [] := ⟨rfl, rfl⟩
theorem chain_cons {w : World} (b k cap : Nat) (d : Option Addr) (ys zs : List Int) (fs : List Nat) (hb : Bk 82 w b #[.pointer d, .slice (some ⟨k, 0, none⟩) zs.length cap]) (hs : Seg .u8 w (some ⟨k, 0, none⟩) zs.length zs) (hk : k < w.heap.size) (hz : 0 < zs.length) (hc : Chain w d ys fs) : Chain w (some ⟨b, 0, none⟩) (ys ++ zs) (b :: k :: fs) :=
  ⟨cap, d, ys, zs, rfl, rfl, hb, hs, hk, hz, hc⟩
theorem Chain.ways {w d ys fs} (h : Chain w d ys fs) : (d = none ∧ ys = [] ∧ fs = []) ∨ ∃ (b k cap : Nat) (d' : Option Addr) (ys' zs : List Int) (fs' : List Nat), d = some ⟨b, 0, none⟩ ∧ ys = ys' ++ zs ∧ fs = b :: k :: fs' ∧ Bk 82 w b #[.pointer d', .slice (some ⟨k, 0, none⟩) zs.length cap] ∧ Seg .u8 w (some ⟨k, 0, none⟩) zs.length zs ∧ k < w.heap.size ∧ 0 < zs.length ∧ Chain w d' ys' fs' := by
  match fs, h with
  | [], h => exact .inl ⟨h.1, h.2, rfl⟩
  | [_], h => exact absurd h (by simp [Chain, ChainL])
  | b :: k :: fs, h =>
    obtain ⟨cap, d', ys', zs, h1, h2, h3⟩ := h
    exact .inr ⟨b, k, cap, d', ys', zs, fs, h1, h2, rfl, h3⟩
theorem chain_gr {G : Nat → Prop} {w w' : World} : ∀ (n : Nat) {d ys fs}, fs.length ≤ n → Chain w d ys fs → Gr G w w' → (∀ k ∈ fs, ¬ G k) → Chain w' d ys fs
  | n, d, ys, fs, hl, h, hg, hn => by
    rcases h.ways with ⟨rfl, rfl, rfl⟩ | ⟨b, k, cap, d', ys', zs, fs', rfl, rfl, rfl, hb, hs, hk, hz, hc⟩
    · exact chain_nil _
    · match n, hl with
      | n + 1, hl =>
        have ih := chain_gr n (by simp at hl; omega) hc hg (fun j hj => hn j (by simp [hj]))
        refine chain_cons b k cap d' ys' zs fs' (hb.gr hg (hn b (by simp))) (hs.gr hg (fun j hj => ?_)) (Nat.lt_of_lt_of_le hk hg.size) hz ih
        intro b' o s e
        simp only [Option.some.injEq, Addr.mk.injEq] at e
        obtain ⟨rfl, _⟩ := e
        rintro rfl
        exact hn k (by simp) hj
theorem Chain.gr {G : Nat → Prop} {w w' d ys fs} (h : Chain w d ys fs) (hg : Gr G w w') (hn : ∀ k ∈ fs, ¬ G k) : Chain w' d ys fs := chain_gr fs.length (Nat.le_refl _) h hg hn
theorem chain_lt {w : World} : ∀ (n : Nat) {d ys fs}, fs.length ≤ n → Chain w d ys fs → ∀ k ∈ fs, k < w.heap.size
  | n, d, ys, fs, hl, h => by
    rcases h.ways with ⟨rfl, rfl, rfl⟩ | ⟨b, k, cap, d', ys', zs, fs', rfl, rfl, rfl, hb, hs, hk, hz, hc⟩
    · simp
    · match n, hl with
      | n + 1, hl =>
        have ih := chain_lt n (by simp at hl; omega) hc
        intro j hj
        simp only [List.mem_cons] at hj
        rcases hj with rfl | rfl | hj
        · exact lt_of_block hb
        · exact hk
        · exact ih j hj
theorem Chain.lt {w d ys fs} (h : Chain w d ys fs) : ∀ k ∈ fs, k < w.heap.size := chain_lt fs.length (Nat.le_refl _) h
/-- The Writer as plain data: what was laid down, the first error; fs: the blocks of memory that it has besides its own. -/
def WS (w : World) (g : Nat) (ys : List Int) (e : Int) (fs : List Nat) : Prop :=
  ∃ d ps u cs, Wr w g e (.pointer d) ps ((u : Nat) : Int) ((ys.length : Nat) : Int) ∧ Chain w d cs fs ∧ u ≤ 256 ∧ ys = cs ++ ps.take u ∧ g ∉ fs ∧ Bytes ys
/-- What a call of it comes to. -/
def WGoes (w : World) (g : Nat) (fs : List Nat) (w' : World) (ys' : List Int) (e' : Int) : Prop :=
  ∃ fs', WS w' g ys' e' fs' ∧ Gr (fun k => k = g) w w' ∧ ∀ k ∈ fs', k ∈ fs ∨ w.heap.size ≤ k
theorem WS.stay {w g ys e fs} (h : WS w g ys e fs) : WGoes w g fs w ys e := ⟨fs, h, Gr.refl _ _, fun k hk => .inl hk⟩
theorem WS.lt {w g ys e fs} (h : WS w g ys e fs) : g < w.heap.size := by obtain ⟨d, ps, u, cs, h1, _⟩ := h; exact h1.lt
theorem WS.bytes {w g ys e fs} (h : WS w g ys e fs) : Bytes ys := by obtain ⟨d, ps, u, cs, _, _, _, _, _, h⟩ := h; exact h
theorem WS.c0 {w g ys e fs} (h : WS w g ys e fs) : w.cell? ⟨g, 0, none⟩ = some (.int .i64 e) := by obtain ⟨d, ps, u, cs, h1, _⟩ := h; exact h1.c0
theorem WS.cN {w g ys e fs} (h : WS w g ys e fs) : w.cell? ⟨g, 259, none⟩ = some (.int .i64 (ys.length : Int)) := by obtain ⟨d, ps, u, cs, h1, _⟩ := h; exact h1.cN
theorem WS.free {w g ys e fs} (h : WS w g ys e fs) (i : Nat) : w.frozen? ⟨g, i, none⟩ = false := by obtain ⟨d, ps, u, cs, h1, _⟩ := h; exact h1.free i
theorem WS.gr {G : Nat → Prop} {w w' g ys e fs} (h : WS w g ys e fs) (hg : Gr G w w') (h1 : ¬ G g) (h2 : ∀ k ∈ fs, ¬ G k) : WS w' g ys e fs := by
  obtain ⟨d, ps, u, cs, a, b, c⟩ := h
  exact ⟨d, ps, u, cs, a.gr hg h1, b.gr hg h2, c⟩
theorem WS.new {w w' g ys e fs} (h : WS w g ys e fs) (hg : w.grownBy w' none) : WS w' g ys e fs := h.gr (G := fun _ => False) (Gr.of hg (by simp)) (by simp) (by simp)
theorem WS.setE {w g ys e fs} (h : WS w g ys e fs) (x : Int) : WS (w.setCell ⟨g, 0, none⟩ (.int .i64 x)) g ys x fs := by
  obtain ⟨d, ps, u, cs, a, b, c, c2, c3, c4⟩ := h
  exact ⟨d, ps, u, cs, a.setE x, b.gr (Gr.of (G := fun k => k = g) (grownBy_cell w g 0 _) (fun k hk => by cases hk; exact .inl rfl)) (fun k hk e => c3 (e ▸ hk)), c, c2, c3, c4⟩
theorem WGoes.then {w g fs w1 w2 ys1 e1 ys2 e2} (h : WGoes w g fs w1 ys1 e1) (k : ∀ fs', WS w1 g ys1 e1 fs' → WGoes w1 g fs' w2 ys2 e2) : WGoes w g fs w2 ys2 e2 := by
  obtain ⟨f1, h1, g1, l1⟩ := h
  obtain ⟨f2, h2, g2, l2⟩ := k f1 h1
  refine ⟨f2, h2, g1.trans g2, fun j hj => ?_⟩
  rcases l2 j hj with h | h
  · exact l1 j h
  · exact .inr (Nat.le_trans g1.size h)
theorem bytes_app {ys zs : List Int} (h1 : Bytes ys) (h2 : Bytes zs) : Bytes (ys ++ zs) := fun i hi => by
  rw [List.length_append] at hi
  by_cases h : i < ys.length
  · rw [List.getElem?_append_left h]; exact h1 i h
  · rw [List.getElem?_append_right (by omega)]; exact h2 _ (by omega)
theorem splice_take {ps zs : List Int} {u : Nat} (h : u + zs.length ≤ ps.length) : (splice ps u zs).take (u + zs.length) = ps.take u ++ zs := by
  unfold splice
  rw [← List.append_assoc, List.take_append_of_le_length (by simp; omega)]
  exact List.take_of_length_le (by simp; omega)
theorem lay_c (g : Nat) (ys zs : List Int) (e : Int) (fs : List Nat) (a : Option Addr) (len cap : Nat) (w : World) (hw : WS w g ys e fs) (hx : Seg .u8 w a len zs) (ho : Off a g) (ha : a = none → cap = 0) (hz : Bytes zs) (hl : ys.length + len ≤ 140737488355328) :
    Calls Try.prog 56 #[.pointer (some ⟨g, 0, none⟩), .slice a len cap] w fun r w' => r = .returned (.tuple #[]) ∧ WGoes w g fs w' (ys ++ zs) e := by
  obtain ⟨d, ps, u, cs, h1, h2, h3, h4, h5, h6⟩ := hw
  have hlz := hx.1
  have hyl : ys.length = cs.length + u := by rw [h4]; simp [h1.2]; omega
  by_cases h : u + len ≤ 256
  · refine Calls.mono (lay_part g u ys.length e (.pointer d) a len cap ps zs w h1 hx ho hl h) ?_
    rintro r w' ⟨rfl, a1, a2⟩
    have hg : Gr (fun k => k = g) w w' := Gr.of a2 (fun k hk => by cases hk; exact .inl rfl)
    refine ⟨rfl, fs, ⟨d, splice ps u zs, u + len, cs, ?_, h2.gr hg (fun k hk e => h5 (e ▸ hk)), h, ?_, h5, bytes_app h6 hz⟩, hg, fun k hk => .inl hk⟩
    · rw [List.length_append, hlz]; exact a1
    · have := h1.2
      rw [h4, ← hlz, splice_take (by omega), List.append_assoc]
  · refine Calls.mono (lay_block g u ys.length e d a len cap ps zs w h1 hx ho ha h3 hl (by omega) (by omega)) ?_
    rintro r w' ⟨rfl, b, v, a1, a2, a3, a4, a5⟩
    obtain ⟨k, vc, rfl, hk, hkc⟩ := a4.form (by omega)
    have hcl : (ps.take u ++ zs).length = u + len := by simp [h1.2, hlz]; omega
    obtain ⟨a', c', he, hs, _⟩ := a4.seg
    cases he
    have hkl := (a4.lo k rfl).2
    refine ⟨rfl, b :: k :: fs, ⟨_, ps, 0, cs ++ (ps.take u ++ zs), ?_, chain_cons b k vc d cs _ fs ?_ ?_ hkl (by rw [hcl]; omega) (h2.gr a5 (fun j hj e => h5 (e ▸ hj))), by omega, ?_, ?_, bytes_app h6 hz⟩, a5, ?_⟩
    · rw [List.length_append, hlz]; exact a1
    · rw [hcl]; exact a3
    · rw [hcl]; exact hs
    · rw [h4]; simp
    · have := h1.lt
      simp only [List.mem_cons, not_or]
      exact ⟨by omega, by omega, h5⟩
    · intro j hj
      simp only [List.mem_cons] at hj
      rcases hj with rfl | rfl | hj
      · exact .inr a2
      · exact .inr hk
      · exact .inl hj
end Go.Proofs.Ytekefbbjocekiaa

/-
  A disk in memory: its files that are seen, its files that last, and the steps between. No condition of its own.
-/
import Derived.Test.YteoohgjoffpmkaaKIs
namespace Go.Proofs.Yteoohgjoffpmkaa
open Go.RowKit
set_option linter.unusedVariables false

/-- A disk as plain data. -/
structure Dk where
  room : Nat
  free : Nat
  seen : ByteArray → Option (List Int)
  last : ByteArray → Option (List Int)
  steps : List Stp
  acts : Nat
  fail : Nat
  down : Bool
/-- A step as a value; its bytes lie where O says. -/
def StV (O : Nat → Prop) (w : World) (v : Value) (p : Stp) : Prop :=
  (p.kind = 1 ∧ v = .iface 118 (.agg #[.string p.s])) ∨
  (p.kind = 2 ∧ ∃ a c, v = .iface 120 (.agg #[.string p.s, .slice a p.xs.length c]) ∧ Seg .u8 w a p.xs.length p.xs ∧ Bytes p.xs ∧ (a = none → c = 0) ∧ p.xs.length ≤ c ∧ p.xs.length ≤ 67108864 ∧ ∀ b o q, a = some ⟨b, o, q⟩ → O b) ∨
  (p.kind = 3 ∧ v = .iface 125 (.agg #[.string p.s, .int .i64 (p.n : Int)])) ∨
  (p.kind = 4 ∧ v = .iface 127 (.agg #[.string p.s, .string p.t])) ∨
  (p.kind = 5 ∧ v = .iface 128 (.agg #[.string p.s]))
theorem StV.gr {O G : Nat → Prop} {w w' : World} {v : Value} {p : Stp} (h : StV O w v p) (hg : Gr G w w') (hn : ∀ k, O k → ¬ G k) : StV O w' v p := by
  rcases h with h | ⟨h0, a, c, h1, h2, h3, h4, h5, h6, h7⟩ | h | h | h
  · exact .inl h
  · exact .inr (.inl ⟨h0, a, c, h1, h2.gr hg (fun b o s e => hn b (h7 b o s e)), h3, h4, h5, h6, h7⟩)
  · exact .inr (.inr (.inl h))
  · exact .inr (.inr (.inr (.inl h)))
  · exact .inr (.inr (.inr (.inr h)))
theorem StV.weak {O O' : Nat → Prop} {w : World} {v : Value} {p : Stp} (h : StV O w v p) (hn : ∀ k, O k → O' k) : StV O' w v p := by
  rcases h with h | ⟨h0, a, c, h1, h2, h3, h4, h5, h6, h7⟩ | h | h | h
  · exact .inl h
  · exact .inr (.inl ⟨h0, a, c, h1, h2, h3, h4, h5, h6, fun b o s e => hn b (h7 b o s e)⟩)
  · exact .inr (.inr (.inl h))
  · exact .inr (.inr (.inr (.inl h)))
  · exact .inr (.inr (.inr (.inr h)))
/-- Steps as values. -/
def StL (O : Nat → Prop) (w : World) (vs : List Value) (L : List Stp) : Prop := vs.length = L.length ∧ ∀ (i : Nat) v p, vs[i]? = some v → L[i]? = some p → StV O w v p
theorem StL.gr {O G : Nat → Prop} {w w' : World} {vs L} (h : StL O w vs L) (hg : Gr G w w') (hn : ∀ k, O k → ¬ G k) : StL O w' vs L := ⟨h.1, fun i v p h1 h2 => (h.2 i v p h1 h2).gr hg hn⟩
theorem StL.weak {O O' : Nat → Prop} {w : World} {vs L} (h : StL O w vs L) (hn : ∀ k, O k → O' k) : StL O' w vs L := ⟨h.1, fun i v p h1 h2 => (h.2 i v p h1 h2).weak hn⟩
/-- A disk in memory, at block g: which blocks are whose. -/
structure DkI (w : World) (g s l : Nat) (st : Value) (V U : ByteArray → Option Value) (vs : List Value) (Os Ol Od : Nat → Prop) (D : Dk) : Prop where
  bk : Bk 83 w g (dcells D.room D.free (some s) (some l) st (scnts D.steps) D.acts D.fail D.down)
  seen : Fl Os w s V D.seen
  last : Fl Ol w l U D.last
  row : w.ownsRow 0 123 1 st D.steps.length vs
  stl : StL Od w vs D.steps
  hs : ∀ k, Os k → k < w.heap.size ∧ k ≠ g ∧ ¬ Ol k ∧ ¬ Od k ∧ st.ownBlock ≠ some k
  hl : ∀ k, Ol k → k < w.heap.size ∧ k ≠ g ∧ ¬ Od k ∧ st.ownBlock ≠ some k
  hd : ∀ k, Od k → k < w.heap.size ∧ k ≠ g ∧ st.ownBlock ≠ some k
  hg : st.ownBlock ≠ some g
/-- A disk in memory whose blocks all lie in G. -/
def DkM (G : Nat → Prop) (w : World) (g : Nat) (D : Dk) : Prop := ∃ s l st V U vs Os Ol Od, DkI w g s l st V U vs Os Ol Od D ∧ ∀ k, (k = g ∨ Os k ∨ Ol k ∨ Od k ∨ st.ownBlock = some k) → G k
theorem DkI.gr {G : Nat → Prop} {w w' : World} {g s l st V U vs Os Ol Od D} (h : DkI w g s l st V U vs Os Ol Od D) (hgr : Gr G w w') (hn : ∀ k, (k = g ∨ Os k ∨ Ol k ∨ Od k ∨ st.ownBlock = some k) → ¬ G k) : DkI w' g s l st V U vs Os Ol Od D :=
  ⟨h.bk.gr hgr (hn _ (.inl rfl)), h.seen.gr hgr (fun k hk => hn k (.inr (.inl hk))), h.last.gr hgr (fun k hk => hn k (.inr (.inr (.inl hk)))), own_gr h.row hgr (fun b hb => hn b (.inr (.inr (.inr (.inr hb))))), h.stl.gr hgr (fun k hk => hn k (.inr (.inr (.inr (.inl hk))))),
   fun k hk => ⟨Nat.lt_of_lt_of_le (h.hs k hk).1 hgr.size, (h.hs k hk).2⟩, fun k hk => ⟨Nat.lt_of_lt_of_le (h.hl k hk).1 hgr.size, (h.hl k hk).2⟩, fun k hk => ⟨Nat.lt_of_lt_of_le (h.hd k hk).1 hgr.size, (h.hd k hk).2⟩, h.hg⟩
theorem DkI.below {w w' : World} {g s l st V U vs Os Ol Od D} (h : DkI w g s l st V U vs Os Ol Od D) (hb : Below w.heap.size w w') : DkI w' g s l st V U vs Os Ol Od D :=
  h.gr (G := fun _ => False) (Gr.ofB hb) (fun _ _ z => z)
theorem DkM.gr {G G' : Nat → Prop} {w w' : World} {g D} (h : DkM G w g D) (hgr : Gr G' w w') (hn : ∀ k, G k → ¬ G' k) : DkM G w' g D := by
  obtain ⟨s, l, st, V, U, vs, Os, Ol, Od, h1, h2⟩ := h
  exact ⟨s, l, st, V, U, vs, Os, Ol, Od, h1.gr hgr (fun k hk => hn k (h2 k hk)), h2⟩
theorem DkM.weak {G G' : Nat → Prop} {w : World} {g D} (h : DkM G w g D) (hn : ∀ k, G k → G' k) : DkM G' w g D := by
  obtain ⟨s, l, st, V, U, vs, Os, Ol, Od, h1, h2⟩ := h
  exact ⟨s, l, st, V, U, vs, Os, Ol, Od, h1, fun k hk => hn k (h2 k hk)⟩
/-- What disk's ready says. -/
def rdE (D : Dk) (S : List ByteArray) : Int := if D.down then 125 else if S.all nmB then 0 else 120
theorem hz_u8s : ∀ w : World, (zeroValue 57).run Try.prog w = .ok (.slice none 0 0) w := fun w => by kernel_rfl
theorem readyA_c (g b n c : Nat) (room free : Int) (s l : Nat) (st : Value) (pend acts fail : Int) (down : Bool) (S : List ByteArray) (w : World) (h : Bk 83 w g (dcells room free (some s) (some l) st pend acts fail down)) (hT : Txs w b S) (hn : S.length = n) (hb : b < w.heap.size) (hl : n ≤ 1000) (hs : ∀ s ∈ S, s.size ≤ 140737488355328) :
    Calls Try.prog 54 #[.pointer (some ⟨g, 0, none⟩), .slice (some ⟨b, 0, none⟩) n c] w fun r w' => r = .returned (.int .i64 (if down then 125 else if S.all nmB then 0 else 120)) ∧ Below w.heap.size w w' := by
  have c2 : w.cell? ⟨g, 2, none⟩ = some (.map (some s)) := Bk.cell h 2
  have hz := neq_map0 (some s)
  have HM : Hid (Calls Try.prog 53 #[.pointer (some ⟨g, 0, none⟩)] w fun r w' => r = .returned (.bool true) ∧ w' = w) := by
    show Calls _ _ _ _ _
    clear hT h
    go_enter Try.func53, Try.ntmps53
    go_wp2
    go_ret
    exact ⟨rfl, rfl⟩
  have HL : Hid _ := allsA_c b n c S w hT hn hb hl hs
  have c8 : w.cell? ⟨g, 8, none⟩ = some (.bool down) := Bk.cell h 8
  clear h hb hT hn hl hs c2 hz
  cases down with
  | true =>
    go_enter Try.func54, Try.ntmps54
    go_wp2_with (go_at_call 53; go_must (refine (Calls.mono HM.out ?_)); rintro r wq ⟨rfl, hq⟩; obtain rfl := hq.symm; clear hq)
    go_ret
    exact ⟨rfl, Below.refl _ _⟩
  | false =>
    cases hA : S.all nmB with
    | true =>
      rw [hA] at HL
      clear hA
      go_enter Try.func54, Try.ntmps54
      go_wp2_with (first
        | (go_at_call 53; go_must (refine (Calls.mono HM.out ?_)); rintro r wq ⟨rfl, hq⟩; obtain rfl := hq.symm; clear hq)
        | (go_at_call 76; go_must (refine (Calls.mono HL.out ?_)); rintro r w1 ⟨rfl, h1⟩; have H1 : Hid (Below w.heap.size w w1) := h1; clear h1))
      go_ret
      exact ⟨rfl, H1.out⟩
    | false =>
      rw [hA] at HL
      clear hA
      go_enter Try.func54, Try.ntmps54
      go_wp2_with (first
        | (go_at_call 53; go_must (refine (Calls.mono HM.out ?_)); rintro r wq ⟨rfl, hq⟩; obtain rfl := hq.symm; clear hq)
        | (go_at_call 76; go_must (refine (Calls.mono HL.out ?_)); rintro r w1 ⟨rfl, h1⟩; have H1 : Hid (Below w.heap.size w w1) := h1; clear h1))
      go_ret
      exact ⟨rfl, H1.out⟩
theorem haveA_c {O : Nat → Prop} (b : Nat) (V : ByteArray → Option Value) (F : ByteArray → Option (List Int)) (s : ByteArray) (w : World) (h : Fl O w b V F) : Calls Try.prog 37 #[.map (some b), .string s] w fun r w' => r = .returned (.bool (F s).isSome) ∧ w' = w := by
  have hl := mps_look Try.underlying76 Try.underlying9 h.mp (.slice none 0 0) (hz_u8s w) s true
  have HE : Hid ((V s).isSome = (F s).isSome) := h.some_iff s
  rw [if_pos rfl] at hl
  generalize (V s).getD (.slice none 0 0) = vv at hl
  generalize (V s).isSome = bb at hl HE
  clear h
  go_enter Try.func37, Try.ntmps37
  go_wp2
  go_ret
  exact ⟨by rw [← HE.out]; simp, rfl⟩
end Go.Proofs.Yteoohgjoffpmkaa

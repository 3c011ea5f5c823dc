/-
  Proved, in its second form: for every frame and all bytes behind it that hold together at most 2^20 values, hawserlaw04.FrameRound answers true: Decode of a frame's bytes, with anything behind them, is the frame, and One of them alone, too. Condition: the second form's own (the card ties the table of package crc to the program's text).
-/
import Derived.Test.YtdgoncpebfkbdacDoorRows
import Derived.Test.YtdgoncpebfkbdacDoorCards
import Derived.Test.YtdgoncpebfkbdacDoorTie
import Derived.Test.YtdgoncpebfkbdacDoorFEn
import Derived.Test.YtdgoncpebfkbdacDoorFDc
import Derived.Test.YtdgoncpebfkbdacDoorFIs
import Derived.WalkKit
import Derived.ProofKit
import Derived.OpenShut
import Derived.ShutString
import Derived.ChangeOld
import Derived.Below
import Derived.Lib.SmallJoins
import Derived.JoinedCond
import Derived.Deep.DeepHandedRow
import Derived.Lib.LaidTab
import Derived.Deep.RegionHeld3
namespace Go.Proofs.YtdgoncpebfkbdacDoor.frameRound
open Go.ChangeShapes Go.WideShapes Go.ChangeAt Go.RowKit
set_option linter.unusedVariables false

theorem own : ownKnob Tryd.prog.godebug = none := by kernel_rfl
theorem laidOut : laidOutB Tryd.prog = true := by kernel_rfl

/-- What the walk is told of a slice of integers that came in. -/
def IsRow (k : IntKind) (R : Nat) (w : World) (a : Option Addr) (len cap : Nat) (zs : List Int) : Prop :=
  (a = none ∧ len = 0 ∧ cap = 0 ∧ zs = []) ∨
  ∃ x, a = some x ∧ len ≤ cap ∧ cap ≤ R ∧ zs.length = cap ∧ (∀ i, i < zs.length → w.cell? (x.add i) = some (.int k (zs.getD i 0))) ∧ ∀ n ∈ zs, (Lit.int k n).wf = true

theorem row_nil {k : IntKind} {R : Nat} {w : World} {a : Option Addr} {len cap : Nat} {zs : List Int} (h : IsRow k R w a len cap zs) : a = none → cap = 0 := by
  rcases h with ⟨_, _, h, _⟩ | ⟨x, h, _⟩
  · exact fun _ => h
  · intro h'; rw [h] at h'; cases h'

theorem round_nine {w w7 w9 : World} {P len : Nat} {u v : Value} {a7 : Option Addr} {xs : List Int} {T : Int} (h1 : Bk 42 w7 P #[.int .i64 T, u]) (hb : Below w.heap.size w w7) (hs : Seg .u8 w7 a7 len xs) (h9 : Below (w7.alloc (.cells #[.int .i64 T, v] 42)).heap.size (w7.alloc (.cells #[.int .i64 T, v] 42)) w9) :
    Bk 42 w9 P #[.int .i64 T, u] ∧ Below w.heap.size w w9 ∧ Seg .u8 w9 a7 len xs ∧ Bk 42 w9 w7.heap.size #[.int .i64 T, v] := by
  have h8 : Below w7.heap.size w7 w9 := (below_of rfl).trans (h9.mono (by simp))
  exact ⟨h1.below h8 (lt_of_block h1), hb.trans (h8.mono hb.size), hs.below h8, Bk.below (T := 42) (heap_new w7 _) h9 (by simp)⟩

set_option maxHeartbeats 2000000 in
theorem walk (T : Int) (a : Option Addr) (len cap : Nat) (zs : List Int) (a1 : Option Addr) (len1 cap1 : Nat) (zs1 : List Int) (w : World) (wT : (Lit.int .i64 T).wf = true) (x0 : IsRow .u8 1048576 w a len cap zs) (x1 : IsRow .u8 1048576 w a1 len1 cap1 zs1) (ht : Tab w) :
    Calls Tryd.prog 5 #[.agg #[.int .i64 T, .slice a len cap], .slice a1 len1 cap1] w fun e w' => e = .returned (.bool true) ∧ Below w.heap.size w w' := by
  obtain ⟨hs, hlc, hcr, hwf⟩ := seg_of_row x0
  obtain ⟨hs1, hlc1, hcr1, hwf1⟩ := seg_of_row x1
  have HN : Hid ((a = none → cap = 0) ∧ (a1 = none → cap1 = 0)) := ⟨row_nil x0, row_nil x1⟩
  have HX : Hid (Bytes (zs.take len)) := fun i hi => wf_u8 (hwf i hi)
  have HX1 : Hid (Bytes (zs1.take len1)) := fun i hi => wf_u8 (hwf1 i hi)
  obtain ⟨xs, hxs⟩ : ∃ xs, xs = zs.take len := ⟨_, rfl⟩
  rw [← hxs] at hs HX
  obtain ⟨bs, hbs⟩ : ∃ bs, bs = zs1.take len1 := ⟨_, rfl⟩
  rw [← hbs] at hs1 HX1
  have HS : Hid (Seg .u8 w a len xs ∧ Seg .u8 w a1 len1 bs) := ⟨hs, hs1⟩
  have HLN : Hid (xs.length = len) := hs.1
  have HT : Hid (Tab w) := ht
  have hl : len ≤ 1048576 := by omega
  have hl1 : len1 ≤ 1048576 := by omega
  clear ht x0 x1 hwf hwf1 hxs hbs hs hs1 hlc hlc1 hcr hcr1
  obtain ⟨P, hP⟩ : ∃ P, P = w.heap.size := ⟨_, rfl⟩
  by_cases hT : 1 ≤ T ∧ T ≤ 255
  · have HM : Hid (fmay T len = true) := decide_eq_true ⟨hT.1, hT.2, hl⟩
    have HE : Hid (fee T len = 0 ∧ feb T xs = fenc T xs) := by
      have q : fee T len = 0 := by unfold fee; rw [if_neg (by omega), if_neg (by omega)]
      refine ⟨q, ?_⟩
      unfold feb; rw [HLN.out, q]; rfl
    have HBF : Hid (Bytes (fenc T xs) ∧ (fenc T xs).length = len + 14) := ⟨fenc_bytes (by omega) (by omega) HX.out, by rw [fenc_length, HLN.out]⟩
    have HD : Hid (∀ b, ftp (fenc T xs ++ b) = T ∧ fnn (fenc T xs ++ b) = len + 14 ∧ fdec (fenc T xs ++ b) = 0 ∧ fbd (fenc T xs ++ b) = xs) := fun b => by
      obtain ⟨q1, q2, q3, q4⟩ := fdec_fenc T xs b hT.1 hT.2 (by rw [HLN.out]; exact hl)
      have q5 : fdec (fenc T xs ++ b) = 0 := q4 1048576 (by rw [HLN.out]; exact hl)
      unfold ftp fnn fbd
      rw [q5, q1, q2, q3, HLN.out]; exact ⟨rfl, rfl, rfl, rfl⟩
    have HO : Hid (ftp1 (fenc T xs) = T ∧ fone (fenc T xs) = 0 ∧ fbd1 (fenc T xs) = xs) := by
      obtain ⟨q1, q2, q3, q4⟩ := fdec_fenc T xs [] hT.1 hT.2 (by rw [HLN.out]; exact hl)
      rw [List.append_nil] at q1 q2 q3 q4
      have q5 : fdec (fenc T xs) = 0 := q4 1048576 (by rw [HLN.out]; exact hl)
      have q6 : fone (fenc T xs) = 0 := by
        unfold fone
        rw [q5, q1, HBF.out.2, HLN.out, if_neg (by omega)]
      unfold ftp1 fbd1
      rw [q6, q2, q3]; exact ⟨rfl, rfl, rfl⟩
    obtain ⟨fs, hfs⟩ : ∃ fs, fs = fenc T xs := ⟨_, rfl⟩
    rw [← hfs] at HE HBF HD HO
    clear hfs
    go_enter Tryd.func5, Tryd.ntmps5
    go_wp2_with (first
      | (refine wpList_load_bk 42 rfl _ rfl Tryd.underlying42 rfl Tryd.infoFrame w.heap.size #[.int .i64 T, .slice a len cap] rfl (heap_new w _) rfl ?_)
      | (go_at_call 20; rw [← hP]; generalize hW0 : World.alloc w _ = W0; have H0 : Hid (Bk 42 W0 P #[.int .i64 T, .slice a len cap] ∧ Below w.heap.size w W0) := by (rw [← hW0, hP]; exact ⟨heap_new w _, (Below.refl _ _).alloc (Nat.le_refl _) _⟩)
         have HPW : Hid (P = w.heap.size) := hP
         clear hW0 hP
         go_must (refine (encode_c T a len cap xs W0 HN.out.1 (HS.out.1.below H0.out.2) HX.out (by omega) (HT.out.below H0.out.2)).mono ?_); rintro e w1 ⟨u, rfl, hu, hb1⟩; rw [HE.out.1]; rw [HE.out.2, HBF.out.2] at hu; obtain ⟨g1, c1, rfl, _, hk1⟩ := hu.form (by omega); have H1 : Hid (Bk 42 w1 P #[.int .i64 T, .slice a len cap] ∧ Below w.heap.size w w1 ∧ Seg .u8 w1 (some ⟨g1, 0, none⟩) (len + 14) fs) := ⟨H0.out.1.below hb1 (lt_of_block H0.out.1), H0.out.2.trans (hb1.mono H0.out.2.size), by (obtain ⟨a', c', he, hseg, _⟩ := hu.seg; cases he; exact hseg)⟩; clear hu hb1)
      | (refine wpList_load_bk 42 rfl _ rfl Tryd.underlying42 rfl Tryd.infoFrame P _ rfl H1.out.1 rfl ?_)
      | (go_at_call 21; go_must (refine (may_c T a len cap w1 true HM.out).mono ?_); rintro e w2 ⟨rfl, hb2⟩; have H2 : Hid (Bk 42 w2 P #[.int .i64 T, .slice a len cap] ∧ Below w.heap.size w w2 ∧ Seg .u8 w2 (some ⟨g1, 0, none⟩) (len + 14) fs) := ⟨H1.out.1.below hb2 (lt_of_block H1.out.1), H1.out.2.1.trans (hb2.mono H1.out.2.1.size), H1.out.2.2.below hb2⟩; clear hb2; have p1 := H2.out.1.cell 1; simp at p1)
      | (at_builtin; refine wpList_append_grow _ rfl _ _ rfl w2.heap.size (len + 14) _ fs rfl ho3.out a1 len1 cap1 bs rfl HN.out.2 (HS.out.2.below (H2.out.2.1.trans (hb3.out.mono H2.out.2.1.size))) (by omega) hb3.out.size ?_; intro v4 w4 ho4 hb4; obtain ⟨g4, c4, rfl, _, hk4⟩ := ho4.form (by omega); have H4 : Hid (Bk 42 w4 P #[.int .i64 T, .slice a len cap] ∧ Below w.heap.size w w4 ∧ Seg .u8 w4 (some ⟨g1, 0, none⟩) (len + 14) fs ∧ Seg .u8 w4 (some ⟨g4, 0, none⟩) (len + 14 + len1) (fs ++ bs)) := by (have hb34 := hb3.out.trans hb4; exact ⟨H2.out.1.below hb34 (lt_of_block H2.out.1), H2.out.2.1.trans (hb34.mono H2.out.2.1.size), H2.out.2.2.below hb34, by (obtain ⟨a', c', he, hseg, _⟩ := ho4.seg; cases he; exact hseg)⟩)
         clear ho4 hb4)
      | (at_builtin; go_must (refine wpList_append_grow _ rfl _ _ rfl w2.heap.size 0 _ [] rfl (own_nil _ _) (some ⟨g1, 0, none⟩) (len + 14) c1 fs rfl (fun h => by cases h) H2.out.2.2 (by omega) (Nat.le_refl _) ?_); intro v3 w3 ho3 hb3; rw [Nat.zero_add, List.nil_append] at ho3; replace ho3 : Hid _ := ho3; replace hb3 : Hid _ := hb3)
      | (go_at_call 22; go_must (refine (decode_c (some ⟨g4, 0, none⟩) (len + 14 + len1) c4 (fs ++ bs) w4 (by omega) H4.out.2.2.2 (bytes_append HBF.out.1 HX1.out) (by omega) (HT.out.below H4.out.2.1)).mono ?_); rintro e w5 ⟨u5, rfl, hu5, hb5⟩; rw [(HD.out bs).1, (HD.out bs).2.1, (HD.out bs).2.2.1]; rw [(HD.out bs).2.2.2, HLN.out] at hu5; obtain ⟨a5, c5, rfl, hs5, hn5, hl5⟩ := hu5.seg; have H5 : Hid (Bk 42 w5 P #[.int .i64 T, .slice a len cap] ∧ Below w.heap.size w w5 ∧ Seg .u8 w5 (some ⟨g1, 0, none⟩) (len + 14) fs ∧ Seg .u8 w5 a5 len xs) := ⟨H4.out.1.below hb5 (lt_of_block H4.out.1), H4.out.2.1.trans (hb5.mono H4.out.2.1.size), H4.out.2.2.1.below hb5, hs5⟩; clear hu5 hb5 hs5)
      | (go_at_call 23
         obtain ⟨M, hM⟩ : ∃ M, M = w5.heap.size := ⟨_, rfl⟩
         rw [← hM]
         generalize hW6 : World.alloc w5 _ = W6
         go_loud (have H6 : Hid (Bk 42 W6 P #[.int .i64 T, .slice a len cap] ∧ Below w.heap.size w W6 ∧ Seg .u8 W6 (some ⟨g1, 0, none⟩) (len + 14) fs ∧ Seg .u8 W6 a5 len xs ∧ Bk 42 W6 M #[.int .i64 T, .slice a5 len c5]) := by (have hb6 : Below w5.heap.size w5 W6 := below_of hW6; exact ⟨H5.out.1.below hb6 (lt_of_block H5.out.1), H5.out.2.1.trans (hb6.mono H5.out.2.1.size), H5.out.2.2.1.below hb6, H5.out.2.2.2.below hb6, bk_of hW6 hM⟩))
         clear hW6 hM
         go_must (refine (one_c (some ⟨g1, 0, none⟩) (len + 14) c1 fs W6 (by omega) H6.out.2.2.1 HBF.out.1 (by omega) (HT.out.below H6.out.2.1)).mono ?_); rintro e w7 ⟨u7, rfl, hu7, hb7⟩; rw [HO.out.1, HO.out.2.1]; rw [HO.out.2.2, HLN.out] at hu7; obtain ⟨a7, c7, rfl, hs7, hn7, hl7⟩ := hu7.seg; have H7 : Hid (Bk 42 w7 P #[.int .i64 T, .slice a len cap] ∧ Below w.heap.size w w7 ∧ Seg .u8 w7 a5 len xs ∧ Bk 42 w7 M #[.int .i64 T, .slice a5 len c5] ∧ Seg .u8 w7 a7 len xs) := ⟨H6.out.1.below hb7 (lt_of_block H6.out.1), H6.out.2.1.trans (hb7.mono H6.out.2.1.size), H6.out.2.2.2.1.below hb7, H6.out.2.2.2.2.below hb7 (lt_of_block H6.out.2.2.2.2), hs7⟩; clear hu7 hb7 hs7)
      | (refine wpList_load_bkG 42 rfl (.tmp 2) rfl Tryd.underlying42 rfl Tryd.infoFrame P _ rfl H9.out.1 rfl ?_)
      | (refine wpList_load_bkG 42 rfl _ rfl Tryd.underlying42 rfl Tryd.infoFrame w7.heap.size _ rfl H9.out.2.2.2 rfl ?_)
      | (refine wpList_load_bkG 42 rfl (.tmp 2) rfl Tryd.underlying42 rfl Tryd.infoFrame P #[.int .i64 T, .slice a len cap] rfl (H7.out.1.below (below_of rfl) (lt_of_block H7.out.1)) rfl ?_)
      | (refine wpList_load_bkG 42 rfl _ rfl Tryd.underlying42 rfl Tryd.infoFrame M #[.int .i64 T, .slice a5 len c5] rfl (H7.out.2.2.2.1.below (below_of rfl) (lt_of_block H7.out.2.2.2.1)) rfl ?_)
      | (go_at_call 24; refine (is_c T a a7 len cap len c7 xs _ (HS.out.1.below H9.out.2.1) H9.out.2.2.1 HX.out).mono ?_; rintro e w10 ⟨rfl, hb10⟩; have H10 : Hid (Below w.heap.size w w10) := H9.out.2.1.trans (hb10.mono H9.out.2.1.size); clear hb10)
      | (go_at_call 24; go_must (refine (is_c T a a5 len cap len c5 xs _ (HS.out.1.below (H7.out.2.1.trans ((below_of rfl).mono H7.out.2.1.size))) (H7.out.2.2.1.below (below_of rfl)) HX.out).mono ?_); rintro e w9 ⟨rfl, hb9⟩; have H9 : Hid (Bk 42 w9 P #[.int .i64 T, .slice a len cap] ∧ Below w.heap.size w w9 ∧ Seg .u8 w9 a7 len xs ∧ Bk 42 w9 w7.heap.size #[.int .i64 T, .slice a7 len c7]) := round_nine H7.out.1 H7.out.2.1 H7.out.2.2.2.2 hb9; clear hb9))
    go_ret
    exact ⟨rfl, H10.out⟩
  · have HM : Hid (fmay T len = false) := decide_eq_false (fun h => hT ⟨h.1, h.2.1⟩)
    have HE : Hid (fee T len = 42 ∧ feb T xs = []) := by
      have q : fee T len = 42 := by unfold fee; rw [if_pos (by omega)]
      refine ⟨q, ?_⟩
      unfold feb; rw [HLN.out, q]; rfl
    go_enter Tryd.func5, Tryd.ntmps5
    go_wp2_with (first
      | (refine wpList_load_bk 42 rfl _ rfl Tryd.underlying42 rfl Tryd.infoFrame w.heap.size #[.int .i64 T, .slice a len cap] rfl (heap_new w _) rfl ?_)
      | (go_at_call 20; rw [← hP]; generalize hW0 : World.alloc w _ = W0; have H0 : Hid (Bk 42 W0 P #[.int .i64 T, .slice a len cap] ∧ Below w.heap.size w W0) := by (rw [← hW0, hP]; exact ⟨heap_new w _, (Below.refl _ _).alloc (Nat.le_refl _) _⟩)
         have HPW : Hid (P = w.heap.size) := hP
         clear hW0 hP
         go_must (refine (encode_c T a len cap xs W0 HN.out.1 (HS.out.1.below H0.out.2) HX.out (by omega) (HT.out.below H0.out.2)).mono ?_); rintro e w1 ⟨u, rfl, hu, hb1⟩; rw [HE.out.1]; rw [HE.out.2] at hu; obtain ⟨a1', c1, rfl, _, _, hk1⟩ := hu.seg; have H1 : Hid (Bk 42 w1 P #[.int .i64 T, .slice a len cap] ∧ Below w.heap.size w w1) := ⟨H0.out.1.below hb1 (lt_of_block H0.out.1), H0.out.2.trans (hb1.mono H0.out.2.size)⟩; clear hu hb1)
      | (refine wpList_load_bk 42 rfl _ rfl Tryd.underlying42 rfl Tryd.infoFrame P _ rfl H1.out.1 rfl ?_)
      | (go_at_call 21; go_must (refine (may_c T a len cap w1 false HM.out).mono ?_); rintro e w2 ⟨rfl, hb2⟩; have H2 : Hid (Below w.heap.size w w2) := H1.out.2.trans (hb2.mono H1.out.2.size); clear hb2))
    go_ret
    exact ⟨rfl, H2.out⟩

theorem bulk_len {H : Type} (l : List (DataW H)) : l.length ≤ Rows.uptoBulkAll l := by
  induction l with
  | nil => simp
  | cons d r ih =>
    have : 1 ≤ Rows.uptoBulk d := by
      cases d with
      | lit x => cases x <;> simp [Rows.uptoBulk]
      | _ => simp [Rows.uptoBulk]
    simp only [Rows.uptoBulkAll, List.length_cons]; omega
theorem bulk_mem {H : Type} {d : DataW H} {l : List (DataW H)} (h : d ∈ l) : Rows.uptoBulk d ≤ Rows.uptoBulkAll l := by
  induction l with
  | nil => cases h
  | cons x r ih =>
    simp only [Rows.uptoBulkAll]
    rcases List.mem_cons.1 h with rfl | h
    · omega
    · have := ih h; omega
theorem bulk_slice {H : Type} {ds : List (DataW H)} {d : DataW H} {l r : List (DataW H)} (hk : Rows.uptoSmall H ds = true) (hd : d ∈ ds) (e : d = .slice l r) : l.length + r.length ≤ 1048576 := by
  have h0 : Rows.uptoBulkAll ds ≤ 1048576 := of_decide_eq_true hk
  have h1 := bulk_mem hd
  have h3 := bulk_len l
  have h4 := bulk_len r
  rw [e] at h1
  simp only [Rows.uptoBulk] at h1
  omega

theorem gTab : Tryd.prog.globalNamed "hawser/crc.halves" = some 0 := by kernel_rfl
theorem gTabType : (Tryd.prog.globals[0]?).map (·.type) = some 103 := by kernel_rfl
theorem cellsT : Tryd.prog.cellsOf 103 = 16 := by kernel_rfl
theorem cellsE : Tryd.prog.cellsOf 92 = 1 := by kernel_rfl
/-- What the row's list gives: the table's cells. -/
theorem table {W : World} (h : laidMetH Tryd.prog Rows.frameRoundUptoRow.laid W) : Lib.TabIs Tryd.prog W "hawser/crc.halves" .u32 tabl :=
  Lib.tabIs_of_head (rest := []) gTab gTabType Tryd.underlying103 Tryd.underlying92 cellsE cellsT h
theorem tab_of {W : World} (h : laidMetH Tryd.prog Rows.frameRoundUptoRow.laid W) : Tab W := fun i hi => (table h).cell gTab i (show i < tabl.length from hi)
theorem laid_met (os : Os) : laidMet Tryd.prog Rows.frameRoundUptoRow.laid (({ World.holding Tryd.prog os ⟨#[], #[], []⟩ with heap := (World.holding Tryd.prog os ⟨#[], #[], []⟩).heap.modify 0 fun | .cells _ t frozen => .cells (tabl.map fun z => Value.int .u32 z).toArray t frozen | o => o } : World).forCall (fun _ _ => 0) ⟨#[], #[.agg #[.int .i64 0, .slice none 0 0], .slice none 0 0], []⟩).memory :=
  laidMet_of_run' 8 (by kernel_rfl) (by kernel_rfl)
theorem reads (os : Os) {H : Type} (enc : TypeId × Value → H) : ∃ places, DataW.whole enc Tryd.prog (({ World.holding Tryd.prog os ⟨#[], #[], []⟩ with heap := (World.holding Tryd.prog os ⟨#[], #[], []⟩).heap.modify 0 fun | .cells _ t frozen => .cells (tabl.map fun z => Value.int .u32 z).toArray t frozen | o => o } : World).forCall (fun _ _ => 0) ⟨#[], #[.agg #[.int .i64 0, .slice none 0 0], .slice none 0 0], []⟩).memory Tryd.f5.params.toList Rows.frameRoundSpec.vars false (#[.agg #[.int .i64 0, .slice none 0 0], .slice none 0 0] : Array Value).toList 8 = some ([.agg [.lit (.int .i64 0), .nil], .nil], [], places) :=
  ⟨[], by kernel_rfl⟩

set_option maxRecDepth 100000 in
theorem lifted (os : Os) (started : os.Started) (H : Type) (enc : TypeId × Value → H) (F : Stop.Interp) :
    ReturnsInHanded {} Tryd.checked os 5 .any ((Rows.OpenSpec.upto Rows.frameRoundSpec).preRow enc Tryd.prog Tryd.f5 Rows.frameRoundUptoRow.domain false Rows.frameRoundUptoRow.laid) (((Rows.OpenSpec.upto Rows.frameRoundSpec).at F).post enc Tryd.prog Tryd.f5 false true false false) := by
  obtain ⟨places, hx⟩ := reads os enc
  refine returnsInHanded_of_row (C := Tryd.checked) (s := Rows.OpenSpec.upto Rows.frameRoundSpec) own started (by kernel_rfl) Tryd.func5
    (witness_row_at (enc := enc) (C := Tryd.checked) false ({ World.holding Tryd.prog os ⟨#[], #[], []⟩ with heap := (World.holding Tryd.prog os ⟨#[], #[], []⟩).heap.modify 0 fun | .cells _ t frozen => .cells (tabl.map fun z => Value.int .u32 z).toArray t frozen | o => o } : World) #[.agg #[.int .i64 0, .slice none 0 0], .slice none 0 0] rfl (by kernel_rfl) (by kernel_rfl) (by kernel_rfl)
      (OpenSpec.preRow_of_cond 8 hx (by kernel_rfl) (fun k hk => by cases hk; kernel_rfl) (by kernel_rfl) (laid_met os))) ?_
  intro W base args ds gs before hval0 hW _ hcond0 hsz0 hL _ _
  have hk : Rows.uptoSmall H (ds ++ gs) = true := hcond0 _ rfl
  have hval : ∀ (j : Nat) t v, Tryd.f5.params[j]? = some t → args[j]? = some v → Value.okWide Tryd.prog W .any base t v := hval0
  have hW' := hW
  obtain ⟨p, q, hA0, hV, rfl, hfz, hnd⟩ := hW
  have hA : DataW.TrodAll enc Tryd.prog W 0 (fun _ => true) true Tryd.f5.params.toList args.toList ds p := hA0
  rw [Tryd.params5] at hA hval
  obtain ⟨v0, vs0, d0, ds0, p0, q0, hargs, rfl, rfl, h0, r0⟩ := trodAll_cons hA
  obtain ⟨v1, vs1, d1, ds1, p1, q1, rfl, rfl, rfl, h1, r1⟩ := trodAll_cons r0
  obtain ⟨rfl, rfl, rfl⟩ := trodAll_nil r1
  obtain rfl : args = #[v0, v1] := by cases args; simp_all
  obtain ⟨rfl, rfl⟩ := trodVars_none hV
  have k0 := h0
  have lt0 : ∀ x ∈ p0, x.block < W.heap.size := by obtain ⟨m, hm⟩ := k0; exact DataW.trod_lt m _ _ _ hm
  obtain ⟨c00, c10, y00, y10, m0, rfl, hd0, hp0, hy00, hy10⟩ := Go.Joins.open_agg2 Tryd.underlying42 (by kernel_rfl) (by kernel_rfl) (hval 0 42 v0 rfl rfl) h0
  obtain ⟨T0, eT0, _, wT0⟩ := DataW.trod_int Tryd.underlying3 hy00
  simp at eT0
  subst eT0
  obtain ⟨a0, len0, cap0, z0, rfl, x0⟩ : ∃ a len cap zs, c10 = .slice a len cap ∧ IsRow .u8 1048576 W a len cap zs := by
    rcases open_ints Tryd.underlying28 Tryd.underlying5 (by kernel_rfl) hy10 with ⟨hcs, _⟩ | ⟨x, l, c, zs, hcs, _, hl, hm, hz, hx, hcell, hwz⟩
    · simp at hcs
      exact ⟨none, 0, 0, [], hcs, .inl ⟨rfl, rfl, rfl, rfl⟩⟩
    · simp at hcs
      have hz' : zs.length = c := by simpa using hz
      have hd1 : y10.1 = _ := congrArg Prod.fst hx
      have hb : Rows.uptoBulk d0 ≤ 1048576 := Nat.le_trans (bulk_mem (show d0 ∈ _ by simp)) (of_decide_eq_true hk)
      rw [hd0, hd1] at hb
      have hl1 := bulk_len (lits (H := H) .u8 (zs.take l))
      have hl2 := bulk_len (lits (H := H) .u8 (zs.drop l))
      simp only [Rows.uptoBulk, Rows.uptoBulkAll] at hb
      simp only [lits, List.length_map, List.length_take, List.length_drop] at hl1 hl2
      simp only [lits] at hb
      exact ⟨some x, l, c, zs, hcs, .inr ⟨_, rfl, hl, by omega, hz', hcell, hwz⟩⟩
  have k1 := h1
  have lt1 : ∀ x ∈ p1, x.block < W.heap.size := by obtain ⟨m, hm⟩ := k1; exact DataW.trod_lt m _ _ _ hm
  obtain ⟨a1, len1, cap1, z1, rfl, x1⟩ : ∃ a len cap zs, v1 = .slice a len cap ∧ IsRow .u8 1048576 W a len cap zs := by
    obtain ⟨sa, sl, sc, rfl⟩ := okWide_slice Tryd.underlying28 (hval 1 28 v1 rfl rfl)
    obtain ⟨fuel, hf⟩ := h1
    rcases open_ints Tryd.underlying28 Tryd.underlying5 (by kernel_rfl) hf with ⟨hcs, _⟩ | ⟨x, l, c, zs, hcs, _, hl, hm, hz, hx, hcell, hwz⟩
    · simp [Value.cells] at hcs; obtain ⟨rfl, rfl, rfl⟩ := hcs
      exact ⟨none, 0, 0, [], rfl, .inl ⟨rfl, rfl, rfl, rfl⟩⟩
    · simp [Value.cells] at hcs; obtain ⟨rfl, rfl, rfl⟩ := hcs
      have hz' : zs.length = sc := by simpa using hz
      have hd : d1 = _ := congrArg Prod.fst hx
      have hb := bulk_slice hk (show d1 ∈ _ by simp) hd
      simp only [lits, List.length_map, List.length_take, List.length_drop] at hb
      exact ⟨some x, sl, sc, zs, rfl, .inr ⟨_, rfl, hl, by omega, hz', hcell, hwz⟩⟩
  clear hA0 hval0
  simp only [List.append_nil] at hW'
  refine (walk T0 a0 len0 cap0 z0 a1 len1 cap1 z1 W wT0 x0 x1 (tab_of hL)).mono fun e W' ⟨he, bel⟩ => ?_
  subst he
  exact ⟨_, rfl, _, _, _, [], _, [], hW', trodAll_mk1 (shut_bool Tryd.underlying4 _), (trodAll_cons_mk (Below.trod laidOut (by kernel_rfl) (of_decide_eq_true (by kernel_rfl)) k0 bel lt0) (trodAll_cons_mk (Below.trod laidOut (by kernel_rfl) (of_decide_eq_true (by kernel_rfl)) k1 bel lt1) trodAll_mk0)), rfl, bel.frame _, fun h => by cases h⟩

theorem over : Rows.frameRoundUptoRow.holds Tryd.pinned (Rows.OpenSpec.upto Rows.frameRoundSpec) :=
  OpenClaim.holds_of_cond 5 Tryd.f5 rfl rfl rfl rfl rfl rfl rfl ⟨rfl, rfl, rfl, rfl, rfl⟩ rfl rfl rfl rfl rfl (by kernel_rfl) Tryd.func5 (by kernel_rfl)
    (of_decide_eq_true (by kernel_rfl)) (by unfold Func.isWrapper; first | (rw [if_pos (by decide +kernel)]; kernel_rfl) | (rw [if_neg (by decide +kernel)]; exact ⟨rfl, rfl⟩))
    (fun os started H enc _ F => by rw [OpenClaim.pre_eq_preRow]; exact lifted os started H enc F)

/-- No parameter wants a stand-in; the program's own looks are off. -/
theorem plain (f : FuncId) (fn : Func) (hf : Tryd.pinned.checked.prog.funcNamed "hawser/hawserlaw04.FrameRound" = some f) (hfn : Tryd.pinned.checked.prog.funcs[f]? = some fn) :
    false = Tryd.pinned.checked.prog.looks [] ∧ ∀ (j : Nat) t, fn.params[j]? = some t → Tryd.pinned.checked.prog.wantsStandIn t = false := by
  obtain rfl : f = 5 := Option.some.inj ((show Tryd.prog.funcNamed "hawser/hawserlaw04.FrameRound" = some 5 by kernel_rfl).symm.trans hf) |>.symm
  obtain rfl : fn = Tryd.f5 := (Option.some.inj (Tryd.func5.symm.trans hfn)).symm
  refine ⟨by kernel_rfl, fun j t ht => ?_⟩
  rw [Tryd.params5] at ht
  have hm : t ∈ [42, 28] := by simpa using Array.mem_of_getElem? ht
  have hall : (([42, 28] : List TypeId).all fun u => !Tryd.prog.wantsStandIn u) = true := by kernel_rfl
  exact (show Tryd.prog.wantsStandIn t = false by simpa using List.all_eq_true.1 hall t hm)
theorem card : Rows.FrameRoundUptoCardSaid :=
  Claim7.holds_tied_plain_at .later [] _ _ _ _ over (fun _ h => by cases h) (by kernel_rfl) (fun _ h => by cases h) frameRoundUpto_row_tie rfl ⟨rfl, rfl⟩ (by kernel_rfl) rfl plain (by kernel_rfl)

end Go.Proofs.YtdgoncpebfkbdacDoor.frameRound
namespace Go.Proofs.YtdgoncpebfkbdacDoor
theorem frameRound_holds : Rows.FrameRoundUptoCardSaid := frameRound.card
#print axioms frameRound_holds
end Go.Proofs.YtdgoncpebfkbdacDoor

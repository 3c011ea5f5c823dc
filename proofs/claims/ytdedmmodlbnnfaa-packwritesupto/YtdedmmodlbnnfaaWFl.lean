/-
  What the Writer's Fail and Flag come to. Condition: what is laid down takes at most 2^47 bytes.
-/
import Derived.Test.YtdedmmodlbnnfaaWUi
namespace Go.Proofs.Ytdedmmodlbnnfaa
open Go.RowKit
set_option linter.unusedVariables false

set_option maxRecDepth 20000 in
theorem wfail_c (g : Nat) (ys : List Int) (e x : Int) (fs : List Nat) (w : World) (h : WS w g ys e fs) :
    Calls Try.prog 31 #[.pointer (some ⟨g, 0, none⟩), .int .i64 x] w fun r w' => r = .returned (.tuple #[]) ∧ WGoes w g fs w' ys (ferr e x) := by
  have HW : Hid (WS w g ys e fs) := h
  have c0 := h.c0
  have f0 := h.free 0
  clear h
  by_cases he : e = 0
  · subst he
    go_enter Try.func31, Try.ntmps31
    go_wp2_with fail
    refine (fail_ok g x w c0 f0).mono ?_
    rintro r w1 ⟨rfl, rfl⟩
    go_wp2
    go_end0
    exact ⟨rfl, WGoes.err HW.out x⟩
  · have hbq : (e == 0) = false := by simp [he]
    have HE : Hid (ferr e x = e) := by show _ = _; rw [ferr, if_neg he]
    rw [HE.out]
    clear he HE
    go_enter Try.func31, Try.ntmps31
    go_wp2_with fail
    refine (fail_no g e x w c0 hbq).mono ?_
    rintro r w1 ⟨rfl, rfl⟩
    go_wp2
    go_end0
    exact ⟨rfl, HW.out.stay⟩

set_option maxRecDepth 20000 in
theorem wflag_c (g : Nat) (ys : List Int) (e : Int) (f : Bool) (fs : List Nat) (w : World) (h : WS w g ys e fs) (hb : ys.length + 1 ≤ 140737488355328) :
    Calls Try.prog 25 #[.pointer (some ⟨g, 0, none⟩), .bool f] w fun r w' => r = .returned (.tuple #[]) ∧ WGoes w g fs w' (wadd e ys [fb f]) e := by
  have HW : Hid (WS w g ys e fs) := h
  have HR : Hid (Calls Try.prog 60 #[.pointer (some ⟨g, 0, none⟩)] w fun r w' => r = .returned (.bool (e == 0)) ∧ w' = w) := wready_c g e w h.c0
  by_cases he : e = 0
  · subst he
    rw [show wadd 0 ys [fb f] = ys ++ [fb f] from rfl]
    have HL : Hid (∀ z : Int, z = fb f → Calls Try.prog 61 #[.pointer (some ⟨g, 0, none⟩), .slice (some ⟨w.heap.size, 0, none⟩) 1 1] (w.alloc (Obj.cells #[.int .u8 z] 5)) fun r w' => r = .returned (.tuple #[]) ∧ WGoes w g fs w' (ys ++ [fb f]) 0) := fun z hz => by
      have hrow : Row .u8 5 (w.alloc (Obj.cells #[.int .u8 z] 5)) w.heap.size [z] := heap_new w _
      have hgb := World.grownBy_alloc w (Obj.cells #[.int .u8 z] 5) none
      refine Calls.mono (lay_c g ys [z] 0 fs _ 1 1 _ (h.new hgb) (hrow.segAll 1 rfl) (fun b o s e => by cases e; have := h.lt; omega) (fun h => by cases h) (bytes_of_mem (fun c hc => by simp at hc; subst hc; rw [hz]; cases f <;> decide)) hb) ?_
      rintro r w' ⟨rfl, h'⟩
      exact ⟨rfl, hz ▸ h'.pre hgb⟩
    clear h hb
    cases f with
    | true =>
      go_enter Try.func25, Try.ntmps25
      go_wp2_with fail
      refine Calls.mono HR.out ?_
      rintro r w1 ⟨rfl, rfl⟩
      go_wp2_with fail
      refine (HL.out 1 rfl).mono ?_
      rintro _ w3 ⟨rfl, h3⟩
      replace h3 : Hid _ := h3
      go_wp2
      go_end0
      exact ⟨rfl, h3.out⟩
    | false =>
      go_enter Try.func25, Try.ntmps25
      go_wp2_with fail
      refine Calls.mono HR.out ?_
      rintro r w1 ⟨rfl, rfl⟩
      go_wp2_with fail
      refine (HL.out 0 rfl).mono ?_
      rintro _ w3 ⟨rfl, h3⟩
      replace h3 : Hid _ := h3
      go_wp2
      go_end0
      exact ⟨rfl, h3.out⟩
  · have hbq : (e == 0) = false := by simp [he]
    have HE : Hid (wadd e ys [fb f] = ys) := by show _ = _; rw [wadd, if_neg he]
    rw [HE.out]
    rw [hbq] at HR
    clear he HE h hb
    go_enter Try.func25, Try.ntmps25
    go_wp2_with fail
    refine Calls.mono HR.out ?_
    rintro r w1 ⟨rfl, rfl⟩
    go_wp2
    first | go_end0 | (simp only [Exit.inBlock, Exit.then]; refine bodyPost_ret (results_none rfl _ _ _) rfl ?_) | refine bodyPost_ret (results_none rfl _ _ _) rfl ?_
    exact ⟨rfl, HW.out.stay⟩
end Go.Proofs.Ytdedmmodlbnnfaa

/-
  Layer 11: what the functions of package opt and of its reference answer, of all arguments: the small ones.
-/
import Derived.Test.YtbnihoimhfcjiaaDoorGa
import Derived.Test.YtbnihoimhfcjiaaDoorFx5
import Derived.Test.YtbnihoimhfcjiaaDoorFx9
import Derived.Below
import Derived.Defers
import Derived.Recover
namespace Go.Proofs.YtbnihoimhfcjiaaDoor.Ot
open Go.RowKit
open Go.Proofs.YtbnihoimhfcjiaaDoor.Fx
set_option linter.unusedVariables false
set_option linter.unusedSimpArgs false

theorem mark_any (x : Int) (w : World) :
    Calls Tryd.prog 35 #[.int .i64 x] w fun e w' => e = .returned (.bool (mkB x)) ∧ w = w' := by
  by_cases h1 : 0 ≤ x
  · by_cases h2 : x ≤ 100000000000000
    · have EE := Lib.hid (mkB_iff.2 ⟨h1, h2⟩)
      go_enter Tryd.func35, Tryd.ntmps35
      go_wp2
      go_ret
      exact ⟨by rw [EE.out] <;> rfl, rfl⟩
    · have EE := Lib.hid (mkB_no (x := x).2 (by omega))
      go_enter Tryd.func35, Tryd.ntmps35
      go_wp2
      go_ret
      exact ⟨by rw [EE.out] <;> rfl, rfl⟩
  · have EE := Lib.hid (mkB_no (x := x).2 (by omega))
    go_enter Tryd.func35, Tryd.ntmps35
    go_wp2
    go_ret
    exact ⟨by rw [EE.out] <;> rfl, rfl⟩
theorem date_any (x : Int) (w : World) :
    Calls Tryd.prog 36 #[.int .i64 x] w fun e w' => e = .returned (.bool (dayB x)) ∧ w = w' := by
  by_cases h1 : 0 ≤ x
  · by_cases h2 : x ≤ 100000
    · have EE := Lib.hid (dayB_iff.2 ⟨h1, h2⟩)
      go_enter Tryd.func36, Tryd.ntmps36
      go_wp2
      go_ret
      exact ⟨by rw [EE.out] <;> rfl, rfl⟩
    · have EE := Lib.hid (dayB_no (x := x).2 (by omega))
      go_enter Tryd.func36, Tryd.ntmps36
      go_wp2
      go_ret
      exact ⟨by rw [EE.out] <;> rfl, rfl⟩
  · have EE := Lib.hid (dayB_no (x := x).2 (by omega))
    go_enter Tryd.func36, Tryd.ntmps36
    go_wp2
    go_ret
    exact ⟨by rw [EE.out] <;> rfl, rfl⟩
theorem rfit_any (x : Int) (w : World) :
    Calls Tryd.prog 33 #[.int .i64 x] w fun e w' => e = .returned (.bool (mkB x)) ∧ w = w' := by
  by_cases h1 : 0 ≤ x
  · by_cases h2 : x ≤ 100000000000000
    · have EE := Lib.hid (mkB_iff.2 ⟨h1, h2⟩)
      go_enter Tryd.func33, Tryd.ntmps33
      go_wp2
      go_ret
      exact ⟨by rw [EE.out] <;> rfl, rfl⟩
    · have EE := Lib.hid (mkB_no (x := x).2 (by omega))
      go_enter Tryd.func33, Tryd.ntmps33
      go_wp2
      go_ret
      exact ⟨by rw [EE.out] <;> rfl, rfl⟩
  · have EE := Lib.hid (mkB_no (x := x).2 (by omega))
    go_enter Tryd.func33, Tryd.ntmps33
    go_wp2
    go_ret
    exact ⟨by rw [EE.out] <;> rfl, rfl⟩

theorem must_ok (x : Int) (w : World) : Calls Tryd.prog 42 #[.int .i64 x, .int .i64 0] w fun e w' => e = .returned (.int .i64 x) ∧ w = w' := by
  go_enter Tryd.func42, Tryd.ntmps42
  go_wp2
  go_ret
  exact ⟨rfl, rfl⟩
theorem must_no (x c : Int) (hc : c ≠ 0) (w : World) : Calls Tryd.prog 42 #[.int .i64 x, .int .i64 c] w fun e w' => e = .panicked [{ v := .iface 23 (.int .i64 c), recovered := false }] ∧ w = w' := by
  have t1 : (c == 0) = false := by simpa using hc
  have t2 : (c != 0) = true := by simpa using hc
  go_enter Tryd.func42, Tryd.ntmps42
  go_wp2
  exact ⟨rfl, rfl, rfl⟩

set_option maxRecDepth 100000 in
theorem time_ok (k g v n t m : Int) (w : World) (h1 : mulS v n = (t, 0)) (h2 : divS k t 3650000 0 = (m, 0)) (hg : -100000000000000 ≤ g ∧ g ≤ 100000000000000) :
    Calls Tryd.prog 44 #[.int .i64 k, .int .i64 g, .int .i64 v, .int .i64 n] w fun e w' => e = .returned (.int .i64 (moreS m g)) ∧ ∃ n, w' = w.drewN n := by
  have m1 := fun w => mul_any v n w
  rw [h1] at m1; simp only at m1
  have m2 := fun w => muldiv_any k t 3650000 0 w
  rw [h2] at m2; simp only at m2
  obtain ⟨_, _, _, _, hl, hm⟩ := divS_ok h2
  have bm : -4611686018427387904 ≤ m ∧ m ≤ 4611686018427387904 := by rw [hm]; split <;> omega
  clear hl hm h1 h2
  go_enter Tryd.func44, Tryd.ntmps44
  go_wp2_with (first | (go_at_call 48; refine (m1 _).mono ?_; rintro e w' ⟨rfl, n1, rfl⟩) | (go_at_call 47; refine (m2 _).mono ?_; rintro e w' ⟨rfl, n2, rfl⟩) | (go_at_call 42; refine (must_ok _ _).mono ?_; rintro e w' ⟨rfl, rfl⟩))
  all_goals
    go_ret
    refine ⟨congrArg (fun z => Ending.returned (.int .i64 z)) (?_ : _ = moreS m g), _, rfl⟩
    unfold moreS; omega
set_option maxRecDepth 100000 in
theorem time_no (k g v n c : Int) (w : World) (h : (topS k v n).2 = c) (hc : c ≠ 0) :
    Calls Tryd.prog 44 #[.int .i64 k, .int .i64 g, .int .i64 v, .int .i64 n] w fun e w' => e = .panicked [{ v := .iface 23 (.int .i64 c), recovered := false }] ∧ ∃ n, w' = w.drewN n := by
  obtain ⟨t, d, e1⟩ : ∃ t d, mulS v n = (t, d) := ⟨_, _, rfl⟩
  have m1 := fun w => mul_any v n w
  rw [e1] at m1; simp only at m1
  by_cases hd : d = 0
  · subst hd
    rw [topS_ok e1] at h
    obtain ⟨m, d, e2⟩ : ∃ m d, divS k t 3650000 0 = (m, d) := ⟨_, _, rfl⟩
    have m2 := fun w => muldiv_any k t 3650000 0 w
    rw [e2] at m2 h; simp only at m2 h
    subst h
    clear e1 e2
    go_enter Tryd.func44, Tryd.ntmps44
    go_wp2_with (first | (go_at_call 48; refine (m1 _).mono ?_; rintro e w' ⟨rfl, n1, rfl⟩) | (go_at_call 47; refine (m2 _).mono ?_; rintro e w' ⟨rfl, n2, rfl⟩) | (go_at_call 42; with_reducible refine (must_no m _ hc _).mono ?_; rintro e w' ⟨rfl, rfl⟩) | (go_at_call 42; with_reducible refine (must_ok t _).mono ?_; rintro e w' ⟨rfl, rfl⟩))
    exact ⟨rfl, rfl, _, rfl⟩
  · rw [topS_no e1 hd] at h
    subst h
    clear e1
    go_enter Tryd.func44, Tryd.ntmps44
    go_wp2_with (first | (go_at_call 48; refine (m1 _).mono ?_; rintro e w' ⟨rfl, n1, rfl⟩) | (go_at_call 42; refine (must_no _ _ hd _).mono ?_; rintro e w' ⟨rfl, rfl⟩))
    exact ⟨rfl, rfl, _, rfl⟩
set_option maxRecDepth 100000 in
theorem catch_panicking (b4 b5 : Nat) (c : Int) (older : List PanicEntry) (w : World) (h4 : ∃ x, w.cell? ⟨b4, 0, none⟩ = some x) (h5 : ∃ x, w.cell? ⟨b5, 0, none⟩ = some x)
    (f4 : w.frozen? ⟨b4, 0, none⟩ = false) (f5 : w.frozen? ⟨b5, 0, none⟩ = false) (d5 : b5 = b4 + 1) :
    CallsD Tryd.prog 41 #[.pointer (some ⟨b4, 0, none⟩), .pointer (some ⟨b5, 0, none⟩)] (.panicking ({ v := .iface 23 (.int .i64 c), recovered := false } :: older)) w fun e u' w' => e = .returned (.tuple #[]) ∧ u' = .panicking ({ v := .iface 23 (.int .i64 c), recovered := true } :: older) ∧
      w' = ((w.setCell ⟨b4, 0, none⟩ (.int .i64 0)).setCell ⟨b5, 0, none⟩ (.int .i64 c)).drew := by
  refine callsD_of_wpS Tryd.func41 rfl fun c₀ cs hu => ?_
  apply wpS_seq
  apply wpS_region
  simp [wpOpsS, go_sem, recoverD, hu, Tryd.ntmps41, Exit.thenS]
  apply wpS_seq
  apply wpS_region
  simp [wpOpsS, go_sem, Exit.thenS]
  refine wpS_cond (t := true) (by simp [Act.eval, Array.replicate]) ?_
  simp only [if_true]
  refine wpS_of_wp ?_
  obtain ⟨x4, h4⟩ := h4; obtain ⟨x5, h5⟩ := h5
  subst d5
  simp only [List.append_toArray, List.cons_append, List.nil_append, List.setIfInBounds_toArray, List.set_cons_zero, List.set_cons_succ, Array.replicate, List.replicate, List.replicate_succ]
  have ta : ∀ (w : World) (t : TypeId), (Instr.typeAssert (.iface 23 (.int .i64 c)) t 23 false).run Tryd.prog w = .ok (.int .i64 c) w := fun _ _ => by kernel_rfl
  go_region
  simp [bodyPostS, results, Tryd.results41]
set_option maxRecDepth 100000 in
theorem catch_idle (p4 p5 : Addr) (w : World) :
    CallsD Tryd.prog 41 #[.pointer (some p4), .pointer (some p5)] .returning w fun e u' w' => e = .returned (.tuple #[]) ∧ u' = .returning ∧ w' = w := by
  refine callsD_of_wpS Tryd.func41 rfl fun c₀ cs hu => ?_
  apply wpS_seq
  apply wpS_region
  simp [wpOpsS, go_sem, recoverD, hu, Tryd.ntmps41, Exit.thenS]
  apply wpS_seq
  apply wpS_region
  simp [wpOpsS, go_sem, Exit.thenS]
  refine wpS_cond (t := false) (by simp [Act.eval, Array.replicate]) ?_
  simp only [Bool.false_eq_true, if_false]
  refine wpS_of_wp (wp_skip ?_)
  cases c₀
  simp_all [bodyPostS, results, Tryd.results41]
end Go.Proofs.YtbnihoimhfcjiaaDoor.Ot

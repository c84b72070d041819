/-
  Layer 1's laws FixpRounds and FixpBack: each returns true, for all arguments.
-/
import Derived.Test.YtghnhdooedmpjaaFx5
import Derived.Test.YtghnhdooedmpjaaFx6
namespace Go.Proofs.Ytghnhdooedmpjaa.Fx
open Go.RowKit
set_option linter.unusedVariables false

theorem below_drewN {W w : World} (h : Below W.heap.size W w) (n : Nat) : Below W.heap.size W (w.drewN n) := h.trans ⟨rfl, rfl, rfl, Nat.le_refl _, fun _ _ => rfl⟩

set_option maxRecDepth 100000 in
theorem wakes_any (w : World) :
    Calls Try.prog 9 #[] w fun e w' => e = .returned (.bool true) ∧ ∃ n, w' = w.drewN n := by
  have e1 : divS (-7) 3 2 0 = (-11, 0) := by decide
  have e2 : addS 4611686018427387904 1 = (0, 4) := by decide
  go_enter Try.func9, Try.ntmps9
  go_wp2_with (first | (go_at_call 18; refine (muldiv_any _ _ _ _ _).mono ?_; rintro e w' ⟨rfl, n, rfl⟩) | (go_at_call 10; refine (add_any _ _ _).mono ?_; rintro e w' ⟨rfl, rfl⟩))
  go_ret
  exact ⟨rfl, _, rfl⟩

set_option maxRecDepth 100000 in
set_option maxHeartbeats 1000000 in
theorem rounds_walk (a b c : Int) (w : World) :
    Calls Try.prog 6 #[.int .i64 a, .int .i64 b, .int .i64 c] w fun e w' => e = .returned (.bool true) ∧ Below w.heap.size w w' := by
  obtain ⟨d, e, r0⟩ : ∃ d e, divS a b c 0 = (d, e) := ⟨_, _, rfl⟩
  obtain ⟨u, f, r1⟩ : ∃ d e, divS a b c 1 = (d, e) := ⟨_, _, rfl⟩
  obtain ⟨z, g, r2⟩ : ∃ d e, divS a b c 2 = (d, e) := ⟨_, _, rfl⟩
  obtain ⟨y, h, r3⟩ : ∃ d e, divS a b c 3 = (d, e) := ⟨_, _, rfl⟩
  by_cases he : e = 0
  · subst he
    by_cases hf : f = 0
    · subst hf
      by_cases hh : h = 0
      · subst hh
        obtain ⟨hg, l1, l2, l3, l4, l5, l6⟩ := rounds_law r0 r1 r2 r3
        subst hg
        have t1 : decide (1 < u - d) = false := decide_eq_false (by omega)
        have t2 : decide (u < d) = false := decide_eq_false (by omega)
        by_cases hu : 0 < u
        · obtain ⟨q1, q2⟩ := l5 hu
          clear l5 l6
          subst q1 q2
          have t3 : decide (0 < y) = true := decide_eq_true hu
          go_enter Try.func6, Try.ntmps6
          go_wp2_with (first | (go_at_call 9; refine (wakes_any _).mono ?_; rintro e w' ⟨rfl, n, rfl⟩) | (go_at_call 18; refine (muldiv_any _ _ _ _ _).mono ?_; rintro e w' ⟨rfl, n, rfl⟩))
          go_ret
          exact ⟨rfl, below_drewN (Below.refl _ _) _⟩
        · obtain ⟨q1, q2⟩ := l6 hu
          clear l5 l6
          subst q1 q2
          have t3 : decide (0 < z) = false := decide_eq_false hu
          go_enter Try.func6, Try.ntmps6
          go_wp2_with (first | (go_at_call 9; refine (wakes_any _).mono ?_; rintro e w' ⟨rfl, n, rfl⟩) | (go_at_call 18; refine (muldiv_any _ _ _ _ _).mono ?_; rintro e w' ⟨rfl, n, rfl⟩))
          go_ret
          exact ⟨rfl, below_drewN (Below.refl _ _) _⟩
      · have t1 : (h != 0) = true := by rw [bne_iff_ne]; exact hh
        clear hh
        go_enter Try.func6, Try.ntmps6
        go_wp2_with (first | (go_at_call 9; refine (wakes_any _).mono ?_; rintro e w' ⟨rfl, n, rfl⟩) | (go_at_call 18; refine (muldiv_any _ _ _ _ _).mono ?_; rintro e w' ⟨rfl, n, rfl⟩))
        go_ret
        exact ⟨rfl, below_drewN (Below.refl _ _) _⟩
    · have t1 : (f != 0) = true := by rw [bne_iff_ne]; exact hf
      clear hf
      go_enter Try.func6, Try.ntmps6
      go_wp2_with (first | (go_at_call 9; refine (wakes_any _).mono ?_; rintro e w' ⟨rfl, n, rfl⟩) | (go_at_call 18; refine (muldiv_any _ _ _ _ _).mono ?_; rintro e w' ⟨rfl, n, rfl⟩))
      go_ret
      exact ⟨rfl, below_drewN (Below.refl _ _) _⟩
  · have t1 : (e != 0) = true := by rw [bne_iff_ne]; exact he
    clear he
    go_enter Try.func6, Try.ntmps6
    go_wp2_with (first | (go_at_call 9; refine (wakes_any _).mono ?_; rintro e w' ⟨rfl, n, rfl⟩) | (go_at_call 18; refine (muldiv_any _ _ _ _ _).mono ?_; rintro e w' ⟨rfl, n, rfl⟩))
    go_ret
    exact ⟨rfl, below_drewN (Below.refl _ _) _⟩
end Go.Proofs.Ytghnhdooedmpjaa.Fx

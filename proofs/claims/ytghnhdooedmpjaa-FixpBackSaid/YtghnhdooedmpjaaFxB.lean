/-
  Layer 1's law FixpBack: it returns true, for all arguments.
-/
import Derived.Test.YtghnhdooedmpjaaFxA
namespace Go.Proofs.Ytghnhdooedmpjaa.Fx
open Go.RowKit
set_option linter.unusedVariables false

set_option maxRecDepth 100000 in
set_option maxHeartbeats 2000000 in
theorem back_walk (a b c : Int) (hb : -9223372036854775808 ≤ b ∧ b ≤ 9223372036854775807) (w : World) :
    Calls Try.prog 7 #[.int .i64 a, .int .i64 b, .int .i64 c] w fun e w' => e = .returned (.bool true) ∧ Below w.heap.size w w' := by
  obtain ⟨x, e, a1⟩ : ∃ d e, addS a b = (d, e) := ⟨_, _, rfl⟩
  have a2 : addS b a = (x, e) := (addS_comm b a).trans a1
  by_cases he : e = 0
  · subst he
    have a3 := sub_back a1
    obtain ⟨p, f, m1⟩ : ∃ d e, mulS a b = (d, e) := ⟨_, _, rfl⟩
    have m2 : mulS b a = (p, f) := (mulS_comm b a).trans m1
    by_cases hf : f = 0
    · subst hf
      by_cases hc : 1 ≤ c
      · have t2 : decide (c < 1) = false := decide_eq_false (by omega)
        cases hfc : fitB c
        · clear hc
          go_enter Try.func7, Try.ntmps7
          go_wp2_with (first | (go_at_call 9; refine (wakes_any _).mono ?_; rintro e w' ⟨rfl, n, rfl⟩) | (go_at_call 10; refine (add_any _ _ _).mono ?_; rintro e w' ⟨rfl, rfl⟩) | (go_at_call 14; refine (sub_any _ _ _ hb).mono ?_; rintro e w' ⟨rfl, rfl⟩) | (go_at_call 12; refine (fits_any _ _).mono ?_; rintro e w' ⟨rfl, rfl⟩) | (go_at_call 18; refine (muldiv_any _ _ _ _ _).mono ?_; rintro e w' ⟨rfl, n, rfl⟩) | (go_at_call 16; refine (mul_any _ _ _).mono ?_; rintro e w' ⟨rfl, n, rfl⟩))
          go_ret
          exact ⟨rfl, below_drewN (Below.refl _ _) _⟩
        · obtain ⟨D, r1, hD⟩ := back_law m1 hc hfc
          rcases hD with ⟨m, r2, q1, q2, q3, q4⟩ | ⟨m, r2, q1⟩
          · have bc := fitB_true hfc
            have t3 : decide (0 ≤ p - m) = true := decide_eq_true (by omega)
            have t4 : decide (p - m < c) = true := decide_eq_true (by omega)
            go_enter Try.func7, Try.ntmps7
            go_wp2_with (first | (go_at_call 9; refine (wakes_any _).mono ?_; rintro e w' ⟨rfl, n, rfl⟩) | (go_at_call 10; refine (add_any _ _ _).mono ?_; rintro e w' ⟨rfl, rfl⟩) | (go_at_call 14; refine (sub_any _ _ _ hb).mono ?_; rintro e w' ⟨rfl, rfl⟩) | (go_at_call 12; refine (fits_any _ _).mono ?_; rintro e w' ⟨rfl, rfl⟩) | (go_at_call 18; refine (muldiv_any _ _ _ _ _).mono ?_; rintro e w' ⟨rfl, n, rfl⟩) | (go_at_call 16; refine (mul_any _ _ _).mono ?_; rintro e w' ⟨rfl, n, rfl⟩))
            go_ret
            exact ⟨rfl, below_drewN (Below.refl _ _) _⟩
          · have t3 : decide (p < -4611686018427387904 + c) = true := decide_eq_true (by omega)
            have bc := fitB_true hfc
            go_enter Try.func7, Try.ntmps7
            go_wp2_with (first | (go_at_call 9; refine (wakes_any _).mono ?_; rintro e w' ⟨rfl, n, rfl⟩) | (go_at_call 10; refine (add_any _ _ _).mono ?_; rintro e w' ⟨rfl, rfl⟩) | (go_at_call 14; refine (sub_any _ _ _ hb).mono ?_; rintro e w' ⟨rfl, rfl⟩) | (go_at_call 12; refine (fits_any _ _).mono ?_; rintro e w' ⟨rfl, rfl⟩) | (go_at_call 18; refine (muldiv_any _ _ _ _ _).mono ?_; rintro e w' ⟨rfl, n, rfl⟩) | (go_at_call 16; refine (mul_any _ _ _).mono ?_; rintro e w' ⟨rfl, n, rfl⟩))
            go_ret
            exact ⟨rfl, below_drewN (Below.refl _ _) _⟩
      · have t2 : decide (c < 1) = true := decide_eq_true (by omega)
        clear hc
        go_enter Try.func7, Try.ntmps7
        go_wp2_with (first | (go_at_call 9; refine (wakes_any _).mono ?_; rintro e w' ⟨rfl, n, rfl⟩) | (go_at_call 10; refine (add_any _ _ _).mono ?_; rintro e w' ⟨rfl, rfl⟩) | (go_at_call 14; refine (sub_any _ _ _ hb).mono ?_; rintro e w' ⟨rfl, rfl⟩) | (go_at_call 12; refine (fits_any _ _).mono ?_; rintro e w' ⟨rfl, rfl⟩) | (go_at_call 18; refine (muldiv_any _ _ _ _ _).mono ?_; rintro e w' ⟨rfl, n, rfl⟩) | (go_at_call 16; refine (mul_any _ _ _).mono ?_; rintro e w' ⟨rfl, n, rfl⟩))
        go_ret
        exact ⟨rfl, below_drewN (Below.refl _ _) _⟩
    · have t2 : (f != 0) = true := by rw [bne_iff_ne]; exact hf
      clear hf
      go_enter Try.func7, Try.ntmps7
      go_wp2_with (first | (go_at_call 9; refine (wakes_any _).mono ?_; rintro e w' ⟨rfl, n, rfl⟩) | (go_at_call 10; refine (add_any _ _ _).mono ?_; rintro e w' ⟨rfl, rfl⟩) | (go_at_call 14; refine (sub_any _ _ _ hb).mono ?_; rintro e w' ⟨rfl, rfl⟩) | (go_at_call 12; refine (fits_any _ _).mono ?_; rintro e w' ⟨rfl, rfl⟩) | (go_at_call 18; refine (muldiv_any _ _ _ _ _).mono ?_; rintro e w' ⟨rfl, n, rfl⟩) | (go_at_call 16; refine (mul_any _ _ _).mono ?_; rintro e w' ⟨rfl, n, rfl⟩))
      go_ret
      exact ⟨rfl, below_drewN (Below.refl _ _) _⟩
  · have t1 : (e == 0) = false := beq_eq_false_iff_ne.2 he
    clear he
    obtain ⟨p, f, m1⟩ : ∃ d e, mulS a b = (d, e) := ⟨_, _, rfl⟩
    have m2 : mulS b a = (p, f) := (mulS_comm b a).trans m1
    by_cases hf : f = 0
    · subst hf
      by_cases hc : 1 ≤ c
      · have t2 : decide (c < 1) = false := decide_eq_false (by omega)
        cases hfc : fitB c
        · clear hc
          go_enter Try.func7, Try.ntmps7
          go_wp2_with (first | (go_at_call 9; refine (wakes_any _).mono ?_; rintro e w' ⟨rfl, n, rfl⟩) | (go_at_call 10; refine (add_any _ _ _).mono ?_; rintro e w' ⟨rfl, rfl⟩) | (go_at_call 14; refine (sub_any _ _ _ hb).mono ?_; rintro e w' ⟨rfl, rfl⟩) | (go_at_call 12; refine (fits_any _ _).mono ?_; rintro e w' ⟨rfl, rfl⟩) | (go_at_call 18; refine (muldiv_any _ _ _ _ _).mono ?_; rintro e w' ⟨rfl, n, rfl⟩) | (go_at_call 16; refine (mul_any _ _ _).mono ?_; rintro e w' ⟨rfl, n, rfl⟩))
          go_ret
          exact ⟨rfl, below_drewN (Below.refl _ _) _⟩
        · obtain ⟨D, r1, hD⟩ := back_law m1 hc hfc
          rcases hD with ⟨m, r2, q1, q2, q3, q4⟩ | ⟨m, r2, q1⟩
          · have bc := fitB_true hfc
            have t3 : decide (0 ≤ p - m) = true := decide_eq_true (by omega)
            have t4 : decide (p - m < c) = true := decide_eq_true (by omega)
            go_enter Try.func7, Try.ntmps7
            go_wp2_with (first | (go_at_call 9; refine (wakes_any _).mono ?_; rintro e w' ⟨rfl, n, rfl⟩) | (go_at_call 10; refine (add_any _ _ _).mono ?_; rintro e w' ⟨rfl, rfl⟩) | (go_at_call 14; refine (sub_any _ _ _ hb).mono ?_; rintro e w' ⟨rfl, rfl⟩) | (go_at_call 12; refine (fits_any _ _).mono ?_; rintro e w' ⟨rfl, rfl⟩) | (go_at_call 18; refine (muldiv_any _ _ _ _ _).mono ?_; rintro e w' ⟨rfl, n, rfl⟩) | (go_at_call 16; refine (mul_any _ _ _).mono ?_; rintro e w' ⟨rfl, n, rfl⟩))
            go_ret
            exact ⟨rfl, below_drewN (Below.refl _ _) _⟩
          · have t3 : decide (p < -4611686018427387904 + c) = true := decide_eq_true (by omega)
            have bc := fitB_true hfc
            go_enter Try.func7, Try.ntmps7
            go_wp2_with (first | (go_at_call 9; refine (wakes_any _).mono ?_; rintro e w' ⟨rfl, n, rfl⟩) | (go_at_call 10; refine (add_any _ _ _).mono ?_; rintro e w' ⟨rfl, rfl⟩) | (go_at_call 14; refine (sub_any _ _ _ hb).mono ?_; rintro e w' ⟨rfl, rfl⟩) | (go_at_call 12; refine (fits_any _ _).mono ?_; rintro e w' ⟨rfl, rfl⟩) | (go_at_call 18; refine (muldiv_any _ _ _ _ _).mono ?_; rintro e w' ⟨rfl, n, rfl⟩) | (go_at_call 16; refine (mul_any _ _ _).mono ?_; rintro e w' ⟨rfl, n, rfl⟩))
            go_ret
            exact ⟨rfl, below_drewN (Below.refl _ _) _⟩
      · have t2 : decide (c < 1) = true := decide_eq_true (by omega)
        clear hc
        go_enter Try.func7, Try.ntmps7
        go_wp2_with (first | (go_at_call 9; refine (wakes_any _).mono ?_; rintro e w' ⟨rfl, n, rfl⟩) | (go_at_call 10; refine (add_any _ _ _).mono ?_; rintro e w' ⟨rfl, rfl⟩) | (go_at_call 14; refine (sub_any _ _ _ hb).mono ?_; rintro e w' ⟨rfl, rfl⟩) | (go_at_call 12; refine (fits_any _ _).mono ?_; rintro e w' ⟨rfl, rfl⟩) | (go_at_call 18; refine (muldiv_any _ _ _ _ _).mono ?_; rintro e w' ⟨rfl, n, rfl⟩) | (go_at_call 16; refine (mul_any _ _ _).mono ?_; rintro e w' ⟨rfl, n, rfl⟩))
        go_ret
        exact ⟨rfl, below_drewN (Below.refl _ _) _⟩
    · have t2 : (f != 0) = true := by rw [bne_iff_ne]; exact hf
      clear hf
      go_enter Try.func7, Try.ntmps7
      go_wp2_with (first | (go_at_call 9; refine (wakes_any _).mono ?_; rintro e w' ⟨rfl, n, rfl⟩) | (go_at_call 10; refine (add_any _ _ _).mono ?_; rintro e w' ⟨rfl, rfl⟩) | (go_at_call 14; refine (sub_any _ _ _ hb).mono ?_; rintro e w' ⟨rfl, rfl⟩) | (go_at_call 12; refine (fits_any _ _).mono ?_; rintro e w' ⟨rfl, rfl⟩) | (go_at_call 18; refine (muldiv_any _ _ _ _ _).mono ?_; rintro e w' ⟨rfl, n, rfl⟩) | (go_at_call 16; refine (mul_any _ _ _).mono ?_; rintro e w' ⟨rfl, n, rfl⟩))
      go_ret
      exact ⟨rfl, below_drewN (Below.refl _ _) _⟩
end Go.Proofs.Ytghnhdooedmpjaa.Fx

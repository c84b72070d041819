/-
  Layer 1's laws FixpAdds and FixpDivides: each returns true, for all arguments.
-/
import Derived.Test.YtghnhdooedmpjaaFxA
import Derived.Test.YtghnhdooedmpjaaFx9
namespace Go.Proofs.Ytghnhdooedmpjaa.Fx
open Go.RowKit
set_option linter.unusedVariables false

theorem below_next {W w w' : World} (h : Below W.heap.size W w) (h' : Below w.heap.size w w') : Below W.heap.size W w' := h.trans (h'.mono h.size)

set_option maxRecDepth 100000 in
theorem adds_walk (a b : Int) (hb : -9223372036854775808 ≤ b ∧ b ≤ 9223372036854775807) (w : World) :
    Calls Try.prog 3 #[.int .i64 a, .int .i64 b] w fun e w' => e = .returned (.bool true) ∧ Below w.heap.size w w' := by
  go_enter Try.func3, Try.ntmps3
  go_wp2_with (first | (go_at_call 9; refine (wakes_any _).mono ?_; rintro e w' ⟨rfl, n, rfl⟩) | (go_at_call 10; refine (add_any _ _ _).mono ?_; rintro e w' ⟨rfl, rfl⟩) | (go_at_call 14; refine (sub_any _ _ _ hb).mono ?_; rintro e w' ⟨rfl, rfl⟩) | (go_at_call 12; refine (fits_any _ _).mono ?_; rintro e w' ⟨rfl, rfl⟩) | (go_at_call 16; refine (mul_any _ _ _).mono ?_; rintro e w' ⟨rfl, n, rfl⟩) | (go_at_call 11; refine (radd_any _ _ _).mono ?_; rintro e w' ⟨rfl, rfl⟩) | (go_at_call 15; refine (rsub_any _ _ _).mono ?_; rintro e w' ⟨rfl, rfl⟩) | (go_at_call 13; refine (rfits_any _ _).mono ?_; rintro e w' ⟨rfl, rfl⟩) | (go_at_call 17; refine (rmul_any _ _ _).mono ?_; rintro e w1 ⟨rfl, hb1⟩))
  go_ret
  exact ⟨rfl, below_next (below_drewN (Below.refl _ _) _) hb1⟩

set_option maxRecDepth 100000 in
theorem divides_walk (a b c m : Int) (w : World) :
    Calls Try.prog 4 #[.int .i64 a, .int .i64 b, .agg #[.int .i64 c, .int .i64 m]] w fun e w' => e = .returned (.bool true) ∧ Below w.heap.size w w' := by
  go_enter Try.func4, Try.ntmps4
  go_wp2_with (first | (go_at_call 9; refine (wakes_any _).mono ?_; rintro e w' ⟨rfl, n, rfl⟩) | (go_at_call 18; refine (muldiv_any _ _ _ _ _).mono ?_; rintro e w' ⟨rfl, n, rfl⟩) | (go_at_call 19; refine (rmuldiv_any _ _ _ _ _).mono ?_; rintro e w1 ⟨rfl, hb1⟩))
  go_ret
  exact ⟨rfl, below_next (below_drewN ((Below.refl _ _).alloc (Nat.le_refl _) _) _) hb1⟩
end Go.Proofs.Ytghnhdooedmpjaa.Fx

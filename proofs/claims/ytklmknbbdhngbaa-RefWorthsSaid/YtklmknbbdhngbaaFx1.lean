/-
  Layer 1 (exact amounts): what each function of package fixp returns, of all arguments.
-/
import Derived.Test.YtklmknbbdhngbaaChecked
import Derived.Test.YtklmknbbdhngbaaFx0
import Derived.Lib.Mul64
import Derived.Laws.Bits64b
import Derived.Lib.BitFns
import Derived.Lib.Hide
import Derived.WalkKit
import Derived.ProofKit
namespace Go.Proofs.Ytklmknbbdhngbaa.Fx
open Go.RowKit

theorem fits_any (x : Int) (w : World) :
    Calls Try.prog 25 #[.int .i64 x] w fun e w' => e = .returned (.bool (fitB x)) ∧ w = w' := by
  by_cases h1 : -4611686018427387904 ≤ x
  · by_cases h2 : x ≤ 4611686018427387904
    · go_enter Try.func25, Try.ntmps25
      go_wp2
      go_ret
      exact ⟨by rw [fitB_mk h1 h2] <;> rfl, rfl⟩
    · have H := fitB_not (x := x) (by omega)
      have HH := Lib.hid H; clear H
      go_enter Try.func25, Try.ntmps25
      go_wp2
      go_ret
      exact ⟨by rw [HH.out] <;> rfl, rfl⟩
  · have H := fitB_not (x := x) (by omega)
    have HH := Lib.hid H; clear H
    go_enter Try.func25, Try.ntmps25
    go_wp2
    go_ret
    exact ⟨by rw [HH.out] <;> rfl, rfl⟩

theorem checked_any (x : Int) (w : World) :
    Calls Try.prog 30 #[.int .i64 x] w fun e w' => e = .returned (.tuple #[.int .i64 (chkS x).1, .int .i64 (chkS x).2]) ∧ w = w' := by
  cases hx : fitB x
  · go_enter Try.func30, Try.ntmps30
    go_wp2_with (go_at_call 25; refine (fits_any _ _).mono ?_; rintro e w' ⟨rfl, rfl⟩)
    go_ret2
    exact ⟨by rw [chkS_no hx] <;> rfl, rfl⟩
  · go_enter Try.func30, Try.ntmps30
    go_wp2_with (go_at_call 25; refine (fits_any _ _).mono ?_; rintro e w' ⟨rfl, rfl⟩)
    go_ret2
    exact ⟨by rw [chkS_fit hx] <;> rfl, rfl⟩

theorem size_any (x : Int) (w : World) (hx : -9223372036854775808 < x ∧ x ≤ 9223372036854775807) :
    Calls Try.prog 27 #[.int .i64 x] w fun e w' => e = .returned (.int .u64 (absN x : Int)) ∧ w = w' := by
  by_cases h : x < 0
  · have e1 : -x = (absN x : Int) := by unfold absN; omega
    have HE := Lib.hid e1; clear e1
    go_enter Try.func27, Try.ntmps27
    go_wp2
    go_ret
    exact ⟨by rw [HE.out] <;> rfl, rfl⟩
  · have e1 : x = (absN x : Int) := by unfold absN; omega
    have HE := Lib.hid e1; clear e1
    go_enter Try.func27, Try.ntmps27
    go_wp2
    go_ret
    exact ⟨by rw [← HE.out] <;> rfl, rfl⟩

theorem outward_any (m : Int) (n : Bool) (w : World) :
    Calls Try.prog 29 #[.int .i64 m, .bool n] w fun e w' => e = .returned (.bool (outB m n)) ∧ w = w' := by
  by_cases h0 : m = 0
  · subst h0
    go_enter Try.func29, Try.ntmps29
    go_wp2
    go_ret
    exact ⟨rfl, rfl⟩
  · by_cases h1 : m = 1
    · subst h1
      go_enter Try.func29, Try.ntmps29
      go_wp2
      go_ret
      exact ⟨rfl, rfl⟩
    · have hs : outB m n = (m == 3) := by unfold outB; rw [if_neg h0, if_neg h1]
      have HS := Lib.hid hs; clear hs
      go_enter Try.func29, Try.ntmps29
      go_wp2
      go_ret
      exact ⟨by rw [HS.out] <;> rfl, rfl⟩
end Go.Proofs.Ytklmknbbdhngbaa.Fx

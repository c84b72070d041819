/-
  Layer 1 (exact amounts): what each function of package fixp returns, of all arguments.
-/
import Derived.Test.YtbnihoimhfcjiaaDoorChecked
import Derived.Test.YtbnihoimhfcjiaaDoorFx0
import Derived.Lib.Mul64
import Derived.Laws.Bits64b
import Derived.Lib.BitFns
import Derived.Lib.Hide
import Derived.WalkKit
import Derived.ProofKit
namespace Go.Proofs.YtbnihoimhfcjiaaDoor.Fx
open Go.RowKit

theorem fits_any (x : Int) (w : World) :
    Calls Tryd.prog 45 #[.int .i64 x] w fun e w' => e = .returned (.bool (fitB x)) ∧ w = w' := by
  by_cases h1 : -4611686018427387904 ≤ x
  · by_cases h2 : x ≤ 4611686018427387904
    · go_enter Tryd.func45, Tryd.ntmps45
      go_wp2
      go_ret
      exact ⟨by rw [fitB_mk h1 h2] <;> rfl, rfl⟩
    · have H := fitB_not (x := x) (by omega)
      have HH := Lib.hid H; clear H
      go_enter Tryd.func45, Tryd.ntmps45
      go_wp2
      go_ret
      exact ⟨by rw [HH.out] <;> rfl, rfl⟩
  · have H := fitB_not (x := x) (by omega)
    have HH := Lib.hid H; clear H
    go_enter Tryd.func45, Tryd.ntmps45
    go_wp2
    go_ret
    exact ⟨by rw [HH.out] <;> rfl, rfl⟩

theorem checked_any (x : Int) (w : World) :
    Calls Tryd.prog 46 #[.int .i64 x] w fun e w' => e = .returned (.tuple #[.int .i64 (chkS x).1, .int .i64 (chkS x).2]) ∧ w = w' := by
  cases hx : fitB x
  · go_enter Tryd.func46, Tryd.ntmps46
    go_wp2_with (go_at_call 45; refine (fits_any _ _).mono ?_; rintro e w' ⟨rfl, rfl⟩)
    go_ret2
    exact ⟨by rw [chkS_no hx] <;> rfl, rfl⟩
  · go_enter Tryd.func46, Tryd.ntmps46
    go_wp2_with (go_at_call 45; refine (fits_any _ _).mono ?_; rintro e w' ⟨rfl, rfl⟩)
    go_ret2
    exact ⟨by rw [chkS_fit hx] <;> rfl, rfl⟩

theorem add_any (a b : Int) (w : World) :
    Calls Tryd.prog 43 #[.int .i64 a, .int .i64 b] w fun e w' => e = .returned (.tuple #[.int .i64 (addS a b).1, .int .i64 (addS a b).2]) ∧ w = w' := by
  cases ha : fitB a
  · go_enter Tryd.func43, Tryd.ntmps43
    go_wp2_with (go_at_call 45; refine (fits_any _ _).mono ?_; rintro e w' ⟨rfl, rfl⟩)
    go_ret2
    exact ⟨by rw [addS_no1 ha] <;> rfl, rfl⟩
  · cases hb : fitB b
    · go_enter Tryd.func43, Tryd.ntmps43
      go_wp2_with (go_at_call 45; refine (fits_any _ _).mono ?_; rintro e w' ⟨rfl, rfl⟩)
      go_ret2
      exact ⟨by rw [addS_no2 hb] <;> rfl, rfl⟩
    · have b1 := fitB_true ha
      have b2 := fitB_true hb
      by_cases hw : a + b ≤ 9223372036854775807
      · go_enter Tryd.func43, Tryd.ntmps43
        go_wp2_with (first | (go_at_call 45; refine (fits_any _ _).mono ?_; rintro e w' ⟨rfl, rfl⟩) | (go_at_call 46; refine (checked_any _ _).mono ?_; rintro e w' ⟨rfl, rfl⟩))
        go_ret2
        exact ⟨by rw [addS_fit ha hb] <;> rfl, rfl⟩
      · have hs : addS a b = chkS (wrap64 (a + b)) := by
          rw [addS_fit ha hb, chkS_no (fitB_not (by omega)), chkS_no (fitB_not (by unfold wrap64; omega))]
        have HS := Lib.hid hs; clear hs
        go_enter Tryd.func43, Tryd.ntmps43
        go_wp2_with (first | (go_at_call 45; refine (fits_any _ _).mono ?_; rintro e w' ⟨rfl, rfl⟩) | (go_at_call 46; refine (checked_any _ _).mono ?_; rintro e w' ⟨rfl, rfl⟩))
        go_ret2
        exact ⟨by rw [HS.out] <;> rfl, rfl⟩

theorem size_any (x : Int) (w : World) (hx : -9223372036854775808 < x ∧ x ≤ 9223372036854775807) :
    Calls Tryd.prog 50 #[.int .i64 x] w fun e w' => e = .returned (.int .u64 (absN x : Int)) ∧ w = w' := by
  by_cases h : x < 0
  · have e1 : -x = (absN x : Int) := by unfold absN; omega
    have HE := Lib.hid e1; clear e1
    go_enter Tryd.func50, Tryd.ntmps50
    go_wp2
    go_ret
    exact ⟨by rw [HE.out] <;> rfl, rfl⟩
  · have e1 : x = (absN x : Int) := by unfold absN; omega
    have HE := Lib.hid e1; clear e1
    go_enter Tryd.func50, Tryd.ntmps50
    go_wp2
    go_ret
    exact ⟨by rw [← HE.out] <;> rfl, rfl⟩

theorem outward_any (m : Int) (n : Bool) (w : World) :
    Calls Tryd.prog 52 #[.int .i64 m, .bool n] w fun e w' => e = .returned (.bool (outB m n)) ∧ w = w' := by
  by_cases h0 : m = 0
  · subst h0
    go_enter Tryd.func52, Tryd.ntmps52
    go_wp2
    go_ret
    exact ⟨rfl, rfl⟩
  · by_cases h1 : m = 1
    · subst h1
      go_enter Tryd.func52, Tryd.ntmps52
      go_wp2
      go_ret
      exact ⟨rfl, rfl⟩
    · have hs : outB m n = (m == 3) := by unfold outB; rw [if_neg h0, if_neg h1]
      have HS := Lib.hid hs; clear hs
      go_enter Tryd.func52, Tryd.ntmps52
      go_wp2
      go_ret
      exact ⟨by rw [HS.out] <;> rfl, rfl⟩
end Go.Proofs.YtbnihoimhfcjiaaDoor.Fx

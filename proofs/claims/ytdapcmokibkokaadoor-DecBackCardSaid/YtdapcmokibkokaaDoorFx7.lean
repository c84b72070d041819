/-
  Layer 1's reference: what each of its functions returns.
-/
import Derived.Test.YtdapcmokibkokaaDoorFx6
import Derived.Test.YtdapcmokibkokaaDoorFx4
import Derived.Handy
import Derived.Below
namespace Go.Proofs.YtdapcmokibkokaaDoor.Fx
open Go.RowKit
set_option linter.unusedVariables false

theorem rfits_any (x : Int) (w : World) :
    Calls Tryd.prog 17 #[.int .i64 x] w fun e w' => e = .returned (.bool (fitB x)) ∧ w = w' := by
  by_cases h1 : x ≤ 4611686018427387904
  · by_cases h2 : -4611686018427387904 ≤ x
    · go_enter Tryd.func17, Tryd.ntmps17
      go_wp2
      go_ret
      exact ⟨by rw [fitB_mk h2 h1] <;> rfl, rfl⟩
    · have H := fitB_not (x := x) (by omega)
      have HH := Lib.hid H; clear H
      go_enter Tryd.func17, Tryd.ntmps17
      go_wp2
      go_ret
      exact ⟨by rw [HH.out] <;> rfl, rfl⟩
  · have H := fitB_not (x := x) (by omega)
    have HH := Lib.hid H; clear H
    go_enter Tryd.func17, Tryd.ntmps17
    go_wp2
    go_ret
    exact ⟨by rw [HH.out] <;> rfl, rfl⟩

/-- Twice a number of 128 bits, and a bit: its two halves. -/
def twHi (h l : Nat) : Nat := h * 2 % 18446744073709551616 + l / 9223372036854775808
def twLo (l bit : Nat) : Nat := l * 2 % 18446744073709551616 + bit

theorem tw_or (x b : Nat) (hb : b ≤ 1) : x * 2 % 18446744073709551616 ||| b = x * 2 % 18446744073709551616 + b := by
  have e : x * 2 % 18446744073709551616 = x % 9223372036854775808 * 2 ^ 1 := by omega
  rw [e]; exact or_add _ b 1 (by omega)
theorem tw_val (h l bit : Nat) (hh : h < 9223372036854775808) (hl : l < 18446744073709551616) (hb : bit ≤ 1) :
    twHi h l * 18446744073709551616 + twLo l bit = 2 * (h * 18446744073709551616 + l) + bit ∧ twHi h l < 18446744073709551616 ∧ twLo l bit < 18446744073709551616 := by
  unfold twHi twLo; omega
theorem twLo_lt (l bit : Nat) (hb : bit ≤ 1) : twLo l bit < 18446744073709551616 := by unfold twLo; omega

theorem half_bit (b k : Nat) : b / 2 ^ k = 2 * (b / 2 ^ (k + 1)) + b / 2 ^ k % 2 := by
  rw [Nat.pow_succ, ← Nat.div_div_eq_div_mul]; omega
theorem times_small {a b k h l : Nat} (ha : a < 18446744073709551616) (hb : b < 18446744073709551616) (hv : h * 18446744073709551616 + l = a * (b / 2 ^ (k + 1))) : h < 9223372036854775808 := by
  have h1 : b / 2 ^ (k + 1) ≤ 9223372036854775807 := by
    have : b / 2 ^ (k + 1) ≤ b / 2 := by
      rw [Nat.pow_succ, Nat.mul_comm, ← Nat.div_div_eq_div_mul]; exact Nat.div_le_self _ _
    omega
  have h2 := Nat.mul_le_mul (Nat.le_of_lt_succ ha) h1
  generalize a * (b / 2 ^ (k + 1)) = V at *
  omega
theorem times_next {a b k h l : Nat} (hv : h * 18446744073709551616 + l = a * (b / 2 ^ (k + 1))) :
    2 * (h * 18446744073709551616 + l) + a * (b / 2 ^ k % 2) = a * (b / 2 ^ k) := by
  have e := congrArg (fun z => a * z) (half_bit b k)
  rw [hv]
  refine Eq.trans ?_ e.symm
  show _ = a * (2 * (b / 2 ^ (k + 1)) + b / 2 ^ k % 2)
  rw [Nat.mul_add, Nat.mul_left_comm]
theorem times_lt {a b k : Nat} (ha : a < 18446744073709551616) (hb : b < 18446744073709551616) : a * (b / 2 ^ k) < 340282366920938463463374607431768211456 := by
  have h1 : b / 2 ^ k ≤ 18446744073709551615 := Nat.le_trans (Nat.div_le_self _ _) (by omega)
  have h2 := Nat.mul_le_mul (Nat.le_of_lt_succ ha) h1
  generalize a * (b / 2 ^ k) = V at *
  omega
theorem times_end {a b h l : Nat} (hv : h * 18446744073709551616 + l = a * (b / 2 ^ 0)) (hl : l < 18446744073709551616) : h = hiN a b ∧ l = loN a b := by
  unfold hiN loN
  rw [Nat.pow_zero, Nat.div_one] at hv
  rw [← hv]
  omega
theorem times_carry {a h l bk lo th tl : Nat} (q1 : 2 * (h * 18446744073709551616 + l) + a = a * bk) (q2 : th * 18446744073709551616 + tl = 2 * (h * 18446744073709551616 + l) + 0) (q3 : a * bk < 340282366920938463463374607431768211456)
    (hc : 18446744073709551616 ≤ tl + a) (elo : lo = tl + a - 18446744073709551616) (hl : tl < 18446744073709551616) (ha : a < 18446744073709551616) :
    (th + 1) * 18446744073709551616 + lo = a * bk ∧ th + 1 < 18446744073709551616 ∧ lo < 18446744073709551616 := by
  generalize a * bk = V at *
  omega
theorem times_plain {a h l bk lo th tl : Nat} (q1 : 2 * (h * 18446744073709551616 + l) + a = a * bk) (q2 : th * 18446744073709551616 + tl = 2 * (h * 18446744073709551616 + l) + 0)
    (hc : ¬ 18446744073709551616 ≤ tl + a) (elo : lo = tl + a) : th * 18446744073709551616 + lo = a * bk ∧ lo < 18446744073709551616 := by
  generalize a * bk = V at *
  omega
theorem andOne (x : Nat) (hx : x < 18446744073709551616) : bits .and .u64 (x : Int) 1 = ((x % 2 : Nat) : Int) := by
  have h := bits_and_u64_nat x 1 hx (by omega)
  have e : x &&& 1 = x % 2 := Nat.and_one_is_mod x
  rw [e] at h
  exact h
end Go.Proofs.YtdapcmokibkokaaDoor.Fx

/-
  The plain mathematics of a division of 128 bits by 64, digit by digit (two digits of 32 bits): no program is imported.
-/
import Derived.Lib.BitFns
namespace Go.Proofs.YtbnihoimhfcjiaaDoor.Fx
set_option linter.unusedVariables false

/-- A digit that is tried: q times the high digit, and the rest r, is u; and q is not below the true digit. -/
def Tried (u d y1 y0 q r : Nat) : Prop := q * y1 + r = u ∧ r < 4294967296 ∧ (u * 4294967296 + d) / (y1 * 4294967296 + y0) ≤ q

theorem tried_first {u d y1 y0 : Nat} (h1 : 0 < y1) (h2 : y1 < 4294967296) (hd : d < 4294967296) : Tried u d y1 y0 (u / y1) (u - u / y1 * y1) := by
  have e := Nat.div_add_mod' u y1
  have l := Nat.mod_lt u h1
  refine ⟨by omega, by omega, ?_⟩
  refine Nat.le_of_lt_succ ((Nat.div_lt_iff_lt_mul (by omega)).2 ?_)
  have h : u + 1 ≤ (u / y1).succ * y1 := by rw [Nat.succ_mul]; omega
  have h3 := Nat.mul_le_mul_right 4294967296 h
  rw [Nat.mul_add, ← Nat.mul_assoc]
  omega

theorem tried_mul {u y1 y0 q r : Nat} (h : q * y1 + r = u) : q * (y1 * 4294967296 + y0) + r * 4294967296 = u * 4294967296 + q * y0 := by
  rw [← h, Nat.mul_add, ← Nat.mul_assoc, Nat.add_mul]; omega

theorem tried_end {u d y1 y0 q r : Nat} (h1 : 0 < y1) (h : Tried u d y1 y0 q r) (hq : q * y0 ≤ 4294967296 * r + d) :
    q = (u * 4294967296 + d) / (y1 * 4294967296 + y0) := by
  obtain ⟨ha, hb, hc⟩ := h
  refine Nat.le_antisymm ((Nat.le_div_iff_mul_le (by omega)).2 ?_) hc
  have := tried_mul (y0 := y0) ha
  omega

theorem true_small {u d y1 y0 : Nat} (h1 : 0 < y1) (hu : u < y1 * 4294967296 + y0) (hd : d < 4294967296) :
    (u * 4294967296 + d) / (y1 * 4294967296 + y0) < 4294967296 := by
  rw [Nat.div_lt_iff_lt_mul (by omega)]
  omega

theorem tried_more {u d y1 y0 q r : Nat} (h1 : 0 < y1) (hu : u < y1 * 4294967296 + y0) (hd : d < 4294967296)
    (h : Tried u d y1 y0 q r) (hq : 4294967296 ≤ q ∨ 4294967296 * r + d < q * y0) :
    1 ≤ q ∧ (q - 1) * y1 + (r + y1) = u ∧ (u * 4294967296 + d) / (y1 * 4294967296 + y0) ≤ q - 1 := by
  obtain ⟨ha, hb, hc⟩ := h
  have hl : (u * 4294967296 + d) / (y1 * 4294967296 + y0) < q := by
    rcases hq with hq | hq
    · exact Nat.lt_of_lt_of_le (true_small h1 hu hd) hq
    · rw [Nat.div_lt_iff_lt_mul (by omega)]
      have := tried_mul (y0 := y0) ha
      omega
  have hp : 1 ≤ q := Nat.lt_of_le_of_lt (Nat.zero_le _) hl
  obtain ⟨k, rfl⟩ : ∃ k, q = k + 1 := ⟨q - 1, by omega⟩
  refine ⟨hp, ?_, Nat.le_of_lt_succ hl⟩
  rw [Nat.add_mul] at ha
  rw [Nat.add_sub_cancel]
  omega

theorem tried_break {u d y1 y0 q r : Nat} (h1 : 0 < y1) (hy : y0 < 4294967296) (hu : u < y1 * 4294967296 + y0)
    (ha : q * y1 + r = u) (hr : 4294967296 ≤ r) (hc : (u * 4294967296 + d) / (y1 * 4294967296 + y0) ≤ q) :
    q = (u * 4294967296 + d) / (y1 * 4294967296 + y0) := by
  refine Nat.le_antisymm ((Nat.le_div_iff_mul_le (by omega)).2 ?_) hc
  have hm := tried_mul (y0 := y0) ha
  have hq : q < 4294967296 := by
    refine Nat.lt_of_mul_lt_mul_right (a := y1) ?_
    rw [Nat.mul_comm 4294967296]
    omega
  have h2 : q * y0 ≤ 4294967296 * 4294967296 := Nat.mul_le_mul (by omega) (by omega)
  omega

/-- The two digits are the quotient's, and what is left is the remainder. -/
theorem two_digits' {u a b D K : Nat} (hD : 0 < D) :
    ((u * K + a) / D) * K + ((u * K + a) % D * K + b) / D = (u * (K * K) + (a * K + b)) / D ∧
    ((u * K + a) % D * K + b) % D = (u * (K * K) + (a * K + b)) % D := by
  have e := Nat.div_add_mod (u * K + a) D
  have h : u * (K * K) + (a * K + b) = D * ((u * K + a) / D * K) + ((u * K + a) % D * K + b) := by
    have : u * (K * K) + (a * K + b) = (u * K + a) * K + b := by rw [Nat.add_mul, Nat.mul_assoc]; omega
    rw [this]
    conv => lhs; rw [← e]
    rw [Nat.add_mul, Nat.mul_assoc]; omega
  rw [h, Nat.mul_add_div hD, Nat.mul_add_mod]
  exact ⟨rfl, rfl⟩
theorem two_digits {u a b D : Nat} (hD : 0 < D) :
    ((u * 4294967296 + a) / D) * 4294967296 + ((u * 4294967296 + a) % D * 4294967296 + b) / D = (u * 18446744073709551616 + (a * 4294967296 + b)) / D ∧
    ((u * 4294967296 + a) % D * 4294967296 + b) % D = (u * 18446744073709551616 + (a * 4294967296 + b)) % D :=
  two_digits' (K := 4294967296) hD

theorem bitLenAux_low : ∀ (f x : Nat), x < 2 ^ f → 0 < x → 2 ^ (Lib.bitLenAux f x) ≤ 2 * x ∧ x < 2 ^ (Lib.bitLenAux f x)
  | 0, x, h, h0 => by simp at h; omega
  | f + 1, x, h, h0 => by
    unfold Lib.bitLenAux
    rw [if_neg (by omega), Nat.add_comm 1, Nat.pow_succ]
    by_cases h1 : x / 2 = 0
    · have : x = 1 := by omega
      subst this
      have : Lib.bitLenAux f (1 / 2) = 0 := by cases f <;> simp [Lib.bitLenAux]
      rw [this]; decide
    · have ih := bitLenAux_low f (x / 2) (by rw [Nat.pow_succ] at h; omega) (by omega)
      omega

/-- How far a number is shifted till its highest bit stands at place 63. -/
def lz (x : Nat) : Nat := 64 - Lib.bitLen x
theorem lz_le (x : Nat) : lz x ≤ 64 := by unfold lz; omega
theorem lz_norm (y : Nat) (h0 : 0 < y) (h : y < 18446744073709551616) : lz y ≤ 63 ∧ 9223372036854775808 ≤ y * 2 ^ lz y ∧ y * 2 ^ lz y < 18446744073709551616 := by
  have hb := bitLenAux_low 64 y h h0
  have hl := Lib.bitLen_le y 64 (by omega) h
  change 2 ^ (Lib.bitLen y) ≤ 2 * y ∧ y < 2 ^ (Lib.bitLen y) at hb
  unfold lz
  have h1 : Lib.bitLen y ≠ 0 := by intro e; rw [e] at hb; omega
  generalize Lib.bitLen y = n at *
  have hp : 2 ^ n * 2 ^ (64 - n) = 18446744073709551616 := by rw [← Nat.pow_add, show n + (64 - n) = 64 from by omega]
  have hpos := Nat.two_pow_pos (64 - n)
  generalize 2 ^ (64 - n) = p at *
  generalize 2 ^ n = m at *
  have e1 := Nat.mul_le_mul_right p hb.1
  have e2 := Nat.mul_lt_mul_of_pos_right hb.2 hpos
  rw [Nat.mul_assoc] at e1
  refine ⟨by omega, by omega, by omega⟩

/-- The dividend, shifted: its high half and its low half. -/
theorem shifted (h l s : Nat) (hs : s ≤ 63) (hl : l < 18446744073709551616) :
    (h * 18446744073709551616 + l) * 2 ^ s = (h * 2 ^ s + l / 2 ^ (64 - s)) * 18446744073709551616 + l * 2 ^ s % 18446744073709551616 ∧ l / 2 ^ (64 - s) < 2 ^ s := by
  have hp : 2 ^ s * 2 ^ (64 - s) = 18446744073709551616 := by rw [← Nat.pow_add, show s + (64 - s) = 64 from by omega]
  have hpos := Nat.two_pow_pos s
  have hpos' := Nat.two_pow_pos (64 - s)
  generalize 2 ^ (64 - s) = p' at *
  generalize 2 ^ s = p at *
  have e : l * p / 18446744073709551616 = l / p' := by rw [← hp, Nat.mul_comm p p', Nat.mul_div_mul_right _ _ hpos]
  have e2 := Nat.div_add_mod' (l * p) 18446744073709551616
  rw [e] at e2
  refine ⟨?_, by rw [Nat.div_lt_iff_lt_mul hpos', hp]; exact hl⟩
  rw [Nat.add_mul, Nat.add_mul]
  have : h * 18446744073709551616 * p = h * p * 18446744073709551616 := by rw [Nat.mul_right_comm]
  omega
theorem or_add (h b s : Nat) (hb : b < 2 ^ s) : h * 2 ^ s ||| b = h * 2 ^ s + b := by
  rw [Nat.mul_comm, Nat.two_pow_add_eq_or_of_lt hb]
end Go.Proofs.YtbnihoimhfcjiaaDoor.Fx

/-
  Layer 1 (exact amounts): what MulDiv and Mul return, of all arguments.
-/
import Derived.Test.YtbnihoimhfcjiaaDoorFx4
namespace Go.Proofs.YtbnihoimhfcjiaaDoor.Fx
open Go.RowKit
set_option linter.unusedVariables false

theorem hi_lt (x y : Nat) (hx : x ≤ 4611686018427387904) (hy : y ≤ 4611686018427387904) : hiN x y < 18446744073709551616 ∧ loN x y < 18446744073709551616 := by
  unfold hiN loN
  have := Nat.mul_le_mul hx hy
  refine ⟨?_, Nat.mod_lt _ (by decide)⟩
  rw [Nat.div_lt_iff_lt_mul (by decide)]
  exact Nat.lt_of_le_of_lt this (by decide)
theorem div_over {a b c m : Int} (ha : fitB a = true) (hb : fitB b = true) (hc : fitB c = true) (h : ¬ (c = 0 ∨ m < 0 ∨ 3 < m)) (ho : 4611686018427387904 < absN a * absN b / absN c) : divS a b c m = (0, 4) := by
  rw [divS_go ha hb hc h]
  exact signed_over (Nat.lt_of_lt_of_le ho (round_ge a b c m))
theorem div_chk {a b c m : Int} {q : Nat} {n : Bool} (ha : fitB a = true) (hb : fitB b = true) (hc : fitB c = true) (h : ¬ (c = 0 ∨ m < 0 ∨ 3 < m)) (hn : negB a b c = n) (hr : roundN a b c m = q) :
    divS a b c m = chkS (if n then -(q : Int) else q) := by
  rw [divS_go ha hb hc h, signed_chk, hn, hr]

set_option maxRecDepth 100000 in
set_option maxHeartbeats 1000000 in
theorem muldiv_no (a b c m : Int) (w : World) (h : fitB a = false ∨ fitB b = false ∨ fitB c = false) :
    Calls Tryd.prog 47 #[.int .i64 a, .int .i64 b, .int .i64 c, .int .i64 m] w fun e w' => e = .returned (.tuple #[.int .i64 (divS a b c m).1, .int .i64 (divS a b c m).2]) ∧ ∃ n, w' = w.drewN n := by
  cases ha : fitB a
  · go_enter Tryd.func47, Tryd.ntmps47
    go_wp2_with (go_at_call 45; refine (fits_any _ _).mono ?_; rintro e w' ⟨rfl, rfl⟩)
    go_ret2
    exact ⟨by rw [divS_no1 ha] <;> rfl, 0, rfl⟩
  · cases hb : fitB b
    · go_enter Tryd.func47, Tryd.ntmps47
      go_wp2_with (go_at_call 45; refine (fits_any _ _).mono ?_; rintro e w' ⟨rfl, rfl⟩)
      go_ret2
      exact ⟨by rw [divS_no2 hb] <;> rfl, 0, rfl⟩
    · have hc : fitB c = false := by simpa [ha, hb] using h
      clear h
      go_enter Tryd.func47, Tryd.ntmps47
      go_wp2_with (go_at_call 45; refine (fits_any _ _).mono ?_; rintro e w' ⟨rfl, rfl⟩)
      go_ret2
      exact ⟨by rw [divS_no3 hc] <;> rfl, 0, rfl⟩

set_option maxRecDepth 100000 in
set_option maxHeartbeats 1000000 in
theorem muldiv_arg (a b c m : Int) (w : World) (ha : fitB a = true) (hb : fitB b = true) (hc : fitB c = true) (h : c = 0 ∨ m < 0 ∨ 3 < m) :
    Calls Tryd.prog 47 #[.int .i64 a, .int .i64 b, .int .i64 c, .int .i64 m] w fun e w' => e = .returned (.tuple #[.int .i64 (divS a b c m).1, .int .i64 (divS a b c m).2]) ∧ ∃ n, w' = w.drewN n := by
  have hs := divS_arg ha hb hc h
  have HS := Lib.hid hs; clear hs
  by_cases h0 : c = 0
  · clear h
    have d0 : (c == 0) = true := by rw [h0]; rfl
    clear h0
    go_enter Tryd.func47, Tryd.ntmps47
    go_wp2_with (go_at_call 45; refine (fits_any _ _).mono ?_; rintro e w' ⟨rfl, rfl⟩)
    go_ret2
    exact ⟨by rw [HS.out] <;> rfl, 0, rfl⟩
  · have d0 : (c == 0) = false := beq_eq_false_iff_ne.2 h0
    by_cases h1 : m < 0
    · clear h
      have d1 : decide (m < 0) = true := decide_eq_true h1
      go_enter Tryd.func47, Tryd.ntmps47
      go_wp2_with (go_at_call 45; refine (fits_any _ _).mono ?_; rintro e w' ⟨rfl, rfl⟩)
      go_ret2
      exact ⟨by rw [HS.out] <;> rfl, 0, rfl⟩
    · have d1 : decide (m < 0) = false := decide_eq_false h1
      have d2 : decide (3 < m) = true := decide_eq_true (by omega)
      clear h
      go_enter Tryd.func47, Tryd.ntmps47
      go_wp2_with (go_at_call 45; refine (fits_any _ _).mono ?_; rintro e w' ⟨rfl, rfl⟩)
      go_ret2
      exact ⟨by rw [HS.out] <;> rfl, 0, rfl⟩

set_option maxRecDepth 100000 in
set_option maxHeartbeats 2000000 in
theorem muldiv_go (a b c m : Int) (w : World) (ha : fitB a = true) (hb : fitB b = true) (hc : fitB c = true) (h : ¬ (c = 0 ∨ m < 0 ∨ 3 < m)) :
    Calls Tryd.prog 47 #[.int .i64 a, .int .i64 b, .int .i64 c, .int .i64 m] w fun e w' => e = .returned (.tuple #[.int .i64 (divS a b c m).1, .int .i64 (divS a b c m).2]) ∧ ∃ n, w' = w.drewN n := by
  have ba := fitB_true ha
  have bb := fitB_true hb
  have bc := fitB_true hc
  have na := absN_le ha
  have nb := absN_le hb
  have nc := absN_le hc
  have c0 : 0 < absN c := by unfold absN; omega
  have bh := hi_lt _ _ na nb
  have d0 : (c == 0) = false := beq_eq_false_iff_ne.2 (by omega)
  have d1 : decide (m < 0) = false := decide_eq_false (by omega)
  have d2 : decide (3 < m) = false := decide_eq_false (by omega)
  by_cases hh : absN c ≤ hiN (absN a) (absN b)
  · have hs := div_over ha hb hc h (Nat.lt_of_lt_of_le (by decide) (over_high c0 hh))
    have HS := Lib.hid hs; clear hs h
    go_enter Tryd.func47, Tryd.ntmps47
    go_wp2_with (first | (go_at_call 45; refine (fits_any _ _).mono ?_; rintro e w' ⟨rfl, rfl⟩) | (go_at_call 50; refine (size_any _ _ (by omega)).mono ?_; rintro e w' ⟨rfl, rfl⟩) | (go_at_call 49; refine (mul64_any _ _ (by omega) (by omega) _).mono ?_; rintro e w' ⟨rfl, rfl⟩) | (go_at_call 51; refine (div64_any _ _ _ _ (by omega) (by omega) (by omega)).mono ?_; rintro e w' ⟨rfl, n, rfl⟩) | (go_at_call 52; refine (outward_any _ _ _).mono ?_; rintro e w' ⟨rfl, rfl⟩) | (go_at_call 46; refine (checked_any _ _).mono ?_; rintro e w' ⟨rfl, rfl⟩))
    go_ret2
    exact ⟨by rw [HS.out] <;> rfl, 0, rfl⟩
  · have hh' : hiN (absN a) (absN b) < absN c := by omega
    have eq := quo_split (absN a) (absN b) (absN c)
    have er := rem_split (absN a) (absN b) (absN c)
    by_cases hq : 4611686018427387904 < quoN (hiN (absN a) (absN b)) (loN (absN a) (absN b)) (absN c)
    · have hs := div_over ha hb hc h (by rw [← eq]; exact hq)
      have HS := Lib.hid hs; clear hs h eq er
      go_enter Tryd.func47, Tryd.ntmps47
      go_wp2_with (first | (go_at_call 45; refine (fits_any _ _).mono ?_; rintro e w' ⟨rfl, rfl⟩) | (go_at_call 50; refine (size_any _ _ (by omega)).mono ?_; rintro e w' ⟨rfl, rfl⟩) | (go_at_call 49; refine (mul64_any _ _ (by omega) (by omega) _).mono ?_; rintro e w' ⟨rfl, rfl⟩) | (go_at_call 51; refine (div64_any _ _ _ _ (by omega) (by omega) (by omega)).mono ?_; rintro e w' ⟨rfl, n, rfl⟩) | (go_at_call 52; refine (outward_any _ _ _).mono ?_; rintro e w' ⟨rfl, rfl⟩) | (go_at_call 46; refine (checked_any _ _).mono ?_; rintro e w' ⟨rfl, rfl⟩))
      go_ret2
      exact ⟨by rw [HS.out] <;> rfl, _, rfl⟩
    · have hq' : quoN (hiN (absN a) (absN b)) (loN (absN a) (absN b)) (absN c) ≤ 4611686018427387904 := by omega
      obtain ⟨n, hn⟩ : ∃ n, negB a b c = n := ⟨_, rfl⟩
      have rn : (!((!(decide (a < 0) == decide (b < 0))) == decide (c < 0))) = n := hn
      clear hq
      obtain ⟨q, hqq⟩ : ∃ q, quoN (hiN (absN a) (absN b)) (loN (absN a) (absN b)) (absN c) = q := ⟨_, rfl⟩
      obtain ⟨r, hrr⟩ : ∃ r, remN (hiN (absN a) (absN b)) (loN (absN a) (absN b)) (absN c) = r := ⟨_, rfl⟩
      rw [hqq] at eq hq'
      rw [hrr] at er
      by_cases hr : r = 0
      · have hs := div_chk ha hb hc h hn ((round_same0 (by rw [← er]; exact hr)).trans eq.symm)
        have d3 : ((r : Int) != 0) = false := by rw [hr]; rfl
        have HS := Lib.hid hs; clear hs h eq er hr hn
        cases n
        · go_enter Tryd.func47, Tryd.ntmps47
          go_wp2_with (first | (go_at_call 45; refine (fits_any _ _).mono ?_; rintro e w' ⟨rfl, rfl⟩) | (go_at_call 50; refine (size_any _ _ (by omega)).mono ?_; rintro e w' ⟨rfl, rfl⟩) | (go_at_call 49; refine (mul64_any _ _ (by omega) (by omega) _).mono ?_; rintro e w' ⟨rfl, rfl⟩) | (go_at_call 51; refine (div64_any _ _ _ _ (by omega) (by omega) (by omega)).mono ?_; rintro e w' ⟨rfl, n, rfl⟩) | (go_at_call 52; refine (outward_any _ _ _).mono ?_; rintro e w' ⟨rfl, rfl⟩) | (go_at_call 46; refine (checked_any _ _).mono ?_; rintro e w' ⟨rfl, rfl⟩))
          go_ret2
          exact ⟨by rw [HS.out] <;> rfl, _, rfl⟩
        · go_enter Tryd.func47, Tryd.ntmps47
          go_wp2_with (first | (go_at_call 45; refine (fits_any _ _).mono ?_; rintro e w' ⟨rfl, rfl⟩) | (go_at_call 50; refine (size_any _ _ (by omega)).mono ?_; rintro e w' ⟨rfl, rfl⟩) | (go_at_call 49; refine (mul64_any _ _ (by omega) (by omega) _).mono ?_; rintro e w' ⟨rfl, rfl⟩) | (go_at_call 51; refine (div64_any _ _ _ _ (by omega) (by omega) (by omega)).mono ?_; rintro e w' ⟨rfl, n, rfl⟩) | (go_at_call 52; refine (outward_any _ _ _).mono ?_; rintro e w' ⟨rfl, rfl⟩) | (go_at_call 46; refine (checked_any _ _).mono ?_; rintro e w' ⟨rfl, rfl⟩))
          go_ret2
          exact ⟨by rw [HS.out] <;> rfl, _, rfl⟩
      · have d3 : ((r : Int) != 0) = true := by rw [bne_iff_ne]; omega
        cases ho : outB m n
        · have hs := div_chk ha hb hc h hn ((round_same (by rw [hn]; exact ho)).trans eq.symm)
          have HS := Lib.hid hs; clear hs h eq er hr hn
          cases n
          · go_enter Tryd.func47, Tryd.ntmps47
            go_wp2_with (first | (go_at_call 45; refine (fits_any _ _).mono ?_; rintro e w' ⟨rfl, rfl⟩) | (go_at_call 50; refine (size_any _ _ (by omega)).mono ?_; rintro e w' ⟨rfl, rfl⟩) | (go_at_call 49; refine (mul64_any _ _ (by omega) (by omega) _).mono ?_; rintro e w' ⟨rfl, rfl⟩) | (go_at_call 51; refine (div64_any _ _ _ _ (by omega) (by omega) (by omega)).mono ?_; rintro e w' ⟨rfl, n, rfl⟩) | (go_at_call 52; refine (outward_any _ _ _).mono ?_; rintro e w' ⟨rfl, rfl⟩) | (go_at_call 46; refine (checked_any _ _).mono ?_; rintro e w' ⟨rfl, rfl⟩))
            go_ret2
            exact ⟨by rw [HS.out] <;> rfl, _, rfl⟩
          · go_enter Tryd.func47, Tryd.ntmps47
            go_wp2_with (first | (go_at_call 45; refine (fits_any _ _).mono ?_; rintro e w' ⟨rfl, rfl⟩) | (go_at_call 50; refine (size_any _ _ (by omega)).mono ?_; rintro e w' ⟨rfl, rfl⟩) | (go_at_call 49; refine (mul64_any _ _ (by omega) (by omega) _).mono ?_; rintro e w' ⟨rfl, rfl⟩) | (go_at_call 51; refine (div64_any _ _ _ _ (by omega) (by omega) (by omega)).mono ?_; rintro e w' ⟨rfl, n, rfl⟩) | (go_at_call 52; refine (outward_any _ _ _).mono ?_; rintro e w' ⟨rfl, rfl⟩) | (go_at_call 46; refine (checked_any _ _).mono ?_; rintro e w' ⟨rfl, rfl⟩))
            go_ret2
            exact ⟨by rw [HS.out] <;> rfl, _, rfl⟩
        · have hs := div_chk ha hb hc h hn ((round_up (by rw [← er]; exact hr) (by rw [hn]; exact ho)).trans (congrArg (· + 1) eq.symm))
          have HS := Lib.hid hs; clear hs h eq er hr hn
          cases n
          · go_enter Tryd.func47, Tryd.ntmps47
            go_wp2_with (first | (go_at_call 45; refine (fits_any _ _).mono ?_; rintro e w' ⟨rfl, rfl⟩) | (go_at_call 50; refine (size_any _ _ (by omega)).mono ?_; rintro e w' ⟨rfl, rfl⟩) | (go_at_call 49; refine (mul64_any _ _ (by omega) (by omega) _).mono ?_; rintro e w' ⟨rfl, rfl⟩) | (go_at_call 51; refine (div64_any _ _ _ _ (by omega) (by omega) (by omega)).mono ?_; rintro e w' ⟨rfl, n, rfl⟩) | (go_at_call 52; refine (outward_any _ _ _).mono ?_; rintro e w' ⟨rfl, rfl⟩) | (go_at_call 46; refine (checked_any _ _).mono ?_; rintro e w' ⟨rfl, rfl⟩))
            go_ret2
            exact ⟨by rw [HS.out] <;> rfl, _, rfl⟩
          · go_enter Tryd.func47, Tryd.ntmps47
            go_wp2_with (first | (go_at_call 45; refine (fits_any _ _).mono ?_; rintro e w' ⟨rfl, rfl⟩) | (go_at_call 50; refine (size_any _ _ (by omega)).mono ?_; rintro e w' ⟨rfl, rfl⟩) | (go_at_call 49; refine (mul64_any _ _ (by omega) (by omega) _).mono ?_; rintro e w' ⟨rfl, rfl⟩) | (go_at_call 51; refine (div64_any _ _ _ _ (by omega) (by omega) (by omega)).mono ?_; rintro e w' ⟨rfl, n, rfl⟩) | (go_at_call 52; refine (outward_any _ _ _).mono ?_; rintro e w' ⟨rfl, rfl⟩) | (go_at_call 46; refine (checked_any _ _).mono ?_; rintro e w' ⟨rfl, rfl⟩))
            go_ret2
            exact ⟨by rw [HS.out] <;> rfl, _, rfl⟩

theorem muldiv_any (a b c m : Int) (w : World) :
    Calls Tryd.prog 47 #[.int .i64 a, .int .i64 b, .int .i64 c, .int .i64 m] w fun e w' => e = .returned (.tuple #[.int .i64 (divS a b c m).1, .int .i64 (divS a b c m).2]) ∧ ∃ n, w' = w.drewN n := by
  cases ha : fitB a
  · exact muldiv_no a b c m w (Or.inl ha)
  · cases hb : fitB b
    · exact muldiv_no a b c m w (Or.inr (Or.inl hb))
    · cases hc : fitB c
      · exact muldiv_no a b c m w (Or.inr (Or.inr hc))
      · by_cases h : c = 0 ∨ m < 0 ∨ 3 < m
        · exact muldiv_arg a b c m w ha hb hc h
        · exact muldiv_go a b c m w ha hb hc h

theorem mul_any (a b : Int) (w : World) :
    Calls Tryd.prog 48 #[.int .i64 a, .int .i64 b] w fun e w' => e = .returned (.tuple #[.int .i64 (mulS a b).1, .int .i64 (mulS a b).2]) ∧ ∃ n, w' = w.drewN n := by
  go_enter Tryd.func48, Tryd.ntmps48
  go_wp2_with (go_at_call 47; refine (muldiv_any _ _ _ _ _).mono ?_; rintro e w' ⟨rfl, n, rfl⟩)
  go_ret2
  exact ⟨rfl, n, rfl⟩
end Go.Proofs.YtbnihoimhfcjiaaDoor.Fx

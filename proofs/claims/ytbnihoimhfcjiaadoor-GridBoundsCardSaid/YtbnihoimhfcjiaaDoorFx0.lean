/-
  The plain mathematics of layer 1 (exact amounts): no program is imported.
-/
namespace Go.Proofs.YtbnihoimhfcjiaaDoor.Fx

/-- Is x an amount? -/
def fitB (x : Int) : Bool := decide (-4611686018427387904 ≤ x) && decide (x ≤ 4611686018427387904)
def chkS (x : Int) : Int × Int := if fitB x then (x, 0) else (0, 4)
def addS (a b : Int) : Int × Int := if fitB a && fitB b then chkS (a + b) else (0, 4)
def absN (x : Int) : Nat := x.natAbs
def hiN (x y : Nat) : Nat := x * y / 18446744073709551616
def loN (x y : Nat) : Nat := x * y % 18446744073709551616
def quoN (h l y : Nat) : Nat := (h * 18446744073709551616 + l) / y
def remN (h l y : Nat) : Nat := (h * 18446744073709551616 + l) % y
def outB (mode : Int) (neg : Bool) : Bool := if mode = 0 then neg else if mode = 1 then !neg else mode == 3
def negB (a b c : Int) : Bool := ((decide (a < 0)) != (decide (b < 0))) != decide (c < 0)
/-- The quotient, rounded as the mode says, without its sign. -/
def roundN (a b c mode : Int) : Nat := absN a * absN b / absN c + if absN a * absN b % absN c ≠ 0 ∧ outB mode (negB a b c) = true then 1 else 0
def signed (neg : Bool) (n : Nat) : Int × Int := if n ≤ 4611686018427387904 then (if neg then -(n : Int) else n, 0) else (0, 4)
def divS (a b c mode : Int) : Int × Int :=
  if fitB a && fitB b && fitB c then
    if c = 0 ∨ mode < 0 ∨ 3 < mode then (0, 1) else signed (negB a b c) (roundN a b c mode)
  else (0, 4)
def mulS (a b : Int) : Int × Int := divS a b 1 2

theorem fitB_true {x : Int} (h : fitB x = true) : -4611686018427387904 ≤ x ∧ x ≤ 4611686018427387904 := by
  simpa [fitB] using h
theorem fitB_false {x : Int} (h : fitB x = false) : x < -4611686018427387904 ∨ 4611686018427387904 < x := by
  simp [fitB] at h; omega
theorem fitB_mk {x : Int} (h1 : -4611686018427387904 ≤ x) (h2 : x ≤ 4611686018427387904) : fitB x = true := by
  simp [fitB, h1, h2]
theorem fitB_not {x : Int} (h : x < -4611686018427387904 ∨ 4611686018427387904 < x) : fitB x = false := by
  simp [fitB]; omega
theorem fitB_neg (x : Int) : fitB (-x) = fitB x := by
  rw [Bool.eq_iff_iff]; simp only [fitB, Bool.and_eq_true, decide_eq_true_eq]; omega
theorem absN_le {x : Int} (h : fitB x = true) : absN x ≤ 4611686018427387904 := by
  have := fitB_true h; unfold absN; omega
theorem addS_fit {a b : Int} (ha : fitB a = true) (hb : fitB b = true) : addS a b = chkS (a + b) := by
  unfold addS; rw [ha, hb]; rfl
theorem addS_no1 {a b : Int} (ha : fitB a = false) : addS a b = (0, 4) := by
  unfold addS; rw [ha]; rfl
theorem addS_no2 {a b : Int} (hb : fitB b = false) : addS a b = (0, 4) := by
  unfold addS; rw [hb, Bool.and_false]; rfl
theorem chkS_fit {x : Int} (h : fitB x = true) : chkS x = (x, 0) := by unfold chkS; rw [h]; rfl
theorem chkS_no {x : Int} (h : fitB x = false) : chkS x = (0, 4) := by unfold chkS; rw [h]; rfl
theorem divS_no1 {a b c m : Int} (h : fitB a = false) : divS a b c m = (0, 4) := by unfold divS; rw [h]; rfl
theorem divS_no2 {a b c m : Int} (h : fitB b = false) : divS a b c m = (0, 4) := by unfold divS; rw [h, Bool.and_false]; rfl
theorem divS_no3 {a b c m : Int} (h : fitB c = false) : divS a b c m = (0, 4) := by unfold divS; rw [h, Bool.and_false]; rfl
theorem divS_arg {a b c m : Int} (ha : fitB a = true) (hb : fitB b = true) (hc : fitB c = true) (h : c = 0 ∨ m < 0 ∨ 3 < m) : divS a b c m = (0, 1) := by
  unfold divS; rw [ha, hb, hc, if_pos h]; rfl
theorem divS_go {a b c m : Int} (ha : fitB a = true) (hb : fitB b = true) (hc : fitB c = true) (h : ¬ (c = 0 ∨ m < 0 ∨ 3 < m)) :
    divS a b c m = signed (negB a b c) (roundN a b c m) := by
  unfold divS; rw [ha, hb, hc, if_neg h]; rfl
theorem quo_split (x y d : Nat) : quoN (hiN x y) (loN x y) d = x * y / d := by
  unfold quoN hiN loN; rw [Nat.div_add_mod']
theorem rem_split (x y d : Nat) : remN (hiN x y) (loN x y) d = x * y % d := by
  unfold remN hiN loN; rw [Nat.div_add_mod']
/-- The high half is at least the divisor: the quotient is beyond 2^64. -/
theorem over_high {x y d : Nat} (hd : 0 < d) (h : d ≤ hiN x y) : 18446744073709551616 ≤ x * y / d := by
  unfold hiN at h
  rw [Nat.le_div_iff_mul_le hd]
  have : x * y / 18446744073709551616 * 18446744073709551616 ≤ x * y := Nat.div_mul_le_self _ _
  have := Nat.mul_le_mul_right 18446744073709551616 h
  omega
theorem round_ge (a b c m : Int) : absN a * absN b / absN c ≤ roundN a b c m := by unfold roundN; omega
theorem signed_over {neg : Bool} {n : Nat} (h : 4611686018427387904 < n) : signed neg n = (0, 4) := by
  unfold signed; rw [if_neg (by omega)]
theorem signed_chk (neg : Bool) (n : Nat) : signed neg n = chkS (if neg then -(n : Int) else n) := by
  by_cases h : n ≤ 4611686018427387904
  · rw [chkS_fit (fitB_mk (by split <;> omega) (by split <;> omega))]; unfold signed; rw [if_pos h]
  · rw [chkS_no (fitB_not (by split <;> omega))]; unfold signed; rw [if_neg h]
theorem round_up {a b c m : Int} (h : absN a * absN b % absN c ≠ 0) (ho : outB m (negB a b c) = true) :
    roundN a b c m = absN a * absN b / absN c + 1 := by unfold roundN; rw [if_pos ⟨h, ho⟩]
theorem round_same0 {a b c m : Int} (h : absN a * absN b % absN c = 0) : roundN a b c m = absN a * absN b / absN c := by
  unfold roundN; rw [if_neg (fun ⟨x, _⟩ => x h)]; rfl
theorem round_same {a b c m : Int} (ho : outB m (negB a b c) = false) : roundN a b c m = absN a * absN b / absN c := by
  unfold roundN; rw [if_neg (fun ⟨_, x⟩ => by rw [ho] at x; cases x)]; rfl
end Go.Proofs.YtbnihoimhfcjiaaDoor.Fx

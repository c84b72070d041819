/-
  Layer 11 (values of options): what its functions answer, as plain mathematics. No program is imported.
-/
import Derived.Test.YtbnihoimhfcjiaaDoorFx6
namespace Go.Proofs.YtbnihoimhfcjiaaDoor.Ot

open Go.Proofs.YtbnihoimhfcjiaaDoor.Fx
set_option linter.unusedVariables false

def mkB (x : Int) : Bool := decide (0 ≤ x ∧ x ≤ 100000000000000)
def dayB (x : Int) : Bool := decide (0 ≤ x ∧ x ≤ 100000)
theorem mkB_iff {x : Int} : mkB x = true ↔ 0 ≤ x ∧ x ≤ 100000000000000 := by unfold mkB; exact decide_eq_true_iff
theorem mkB_no {x : Int} : mkB x = false ↔ ¬ (0 ≤ x ∧ x ≤ 100000000000000) := by unfold mkB; exact decide_eq_false_iff_not
theorem dayB_iff {x : Int} : dayB x = true ↔ 0 ≤ x ∧ x ≤ 100000 := by unfold dayB; exact decide_eq_true_iff
theorem dayB_no {x : Int} : dayB x = false ↔ ¬ (0 ≤ x ∧ x ≤ 100000) := by unfold dayB; exact decide_eq_false_iff_not

/-- What is gained by using the option now. -/
def gapS (call : Bool) (k p : Int) : Int := if call then p - k else k - p
/-- What the days add at the most; what they add; the value with days to go. -/
def topS (k v n : Int) : Int × Int := if (mulS v n).2 = 0 then divS k (mulS v n).1 3650000 0 else (0, (mulS v n).2)
def moreS (top g : Int) : Int := max (top - max g (-g) / 2) 0
def goS (k g v n : Int) : Int × Int := if (topS k v n).2 = 0 then addS (max g 0) (moreS (topS k v n).1 g) else (0, (topS k v n).2)
def optS (call : Bool) (k p v n : Int) : Int × Int :=
  if mkB k && mkB p && mkB v then
    if n ≤ 0 then (max (gapS call k p) 0, 0) else if 100000 < n then (0, 1) else goS k (gapS call k p) v n
  else (0, 1)

theorem optS_no1 {call : Bool} {k p v n : Int} (h : mkB k = false) : optS call k p v n = (0, 1) := by unfold optS; rw [h]; rfl
theorem optS_no2 {call : Bool} {k p v n : Int} (h : mkB p = false) : optS call k p v n = (0, 1) := by unfold optS; rw [h, Bool.and_false]; rfl
theorem optS_no3 {call : Bool} {k p v n : Int} (h : mkB v = false) : optS call k p v n = (0, 1) := by unfold optS; rw [h, Bool.and_false]; rfl
theorem optS_far {call : Bool} {k p v n : Int} (h : 100000 < n) : optS call k p v n = (0, 1) := by
  unfold optS
  split
  · rw [if_neg (show ¬ n ≤ 0 by omega)] <;> first | rfl | exact if_pos h
  · rfl
theorem optS_now {call : Bool} {k p v n : Int} (h1 : mkB k = true) (h2 : mkB p = true) (h3 : mkB v = true) (h : n ≤ 0) : optS call k p v n = (max (gapS call k p) 0, 0) := by
  unfold optS; rw [h1, h2, h3, if_pos h]; rfl
theorem optS_go {call : Bool} {k p v n : Int} (h1 : mkB k = true) (h2 : mkB p = true) (h3 : mkB v = true) (h : 0 < n) (h' : n ≤ 100000) : optS call k p v n = goS k (gapS call k p) v n := by
  unfold optS; rw [h1, h2, h3]
  show (if n ≤ 0 then _ else _) = _
  rw [if_neg (show ¬ n ≤ 0 by omega), if_neg (show ¬ 100000 < n by omega)]
theorem topS_no {k v n t c : Int} (h : mulS v n = (t, c)) (hc : c ≠ 0) : topS k v n = (0, c) := by unfold topS; rw [h]; exact if_neg hc
theorem topS_ok {k v n t : Int} (h : mulS v n = (t, 0)) : topS k v n = divS k t 3650000 0 := by unfold topS; rw [h]; rfl
theorem goS_no {k g v n m c : Int} (h : topS k v n = (m, c)) (hc : c ≠ 0) : goS k g v n = (0, c) := by unfold goS; rw [h]; exact if_neg hc
theorem goS_ok {k g v n m : Int} (h : topS k v n = (m, 0)) : goS k g v n = addS (max g 0) (moreS m g) := by unfold goS; rw [h]; rfl
theorem gap_bound (call : Bool) {k p : Int} (h1 : mkB k = true) (h2 : mkB p = true) : -100000000000000 ≤ gapS call k p ∧ gapS call k p ≤ 100000000000000 := by
  have := mkB_iff.1 h1; have := mkB_iff.1 h2
  unfold gapS; split <;> omega
/-- Rounded down, of two from nought on. -/
theorem floor_top {k t m : Int} (h : divS k t 3650000 0 = (m, 0)) (hk : 0 ≤ k) (ht : 0 ≤ t) : m = k * t / 3650000 := by
  obtain ⟨_, _, _, _, _, e⟩ := divS_ok h
  have hn : negB k t 3650000 = false := by
    unfold negB
    rw [decide_eq_false (show ¬ k < 0 by omega), decide_eq_false (show ¬ t < 0 by omega), decide_eq_false (show ¬ (3650000 : Int) < 0 by omega)]
    rfl
  have hm := round_at k t 3650000 0
  rw [out0, hn, show absN 3650000 = 3650000 from rfl] at hm
  rw [hn] at e
  have hp : (absN k * absN t : Nat) = (k * t).natAbs := by unfold absN; exact (Int.natAbs_mul k t).symm
  have hq : 0 ≤ k * t := Int.mul_nonneg hk ht
  rw [hp] at hm
  simp only [Bool.false_eq_true, if_false, and_false] at e hm
  generalize k * t = p at *
  rw [e, hm]
  omega
/-- What the days add at the most, where it can be told. -/
def topN (k v n : Int) : Int := k * (v * max n 0) / 3650000
theorem top_ok {k v n m : Int} (h : topS k v n = (m, 0)) (hk : 0 ≤ k) (hv : 0 ≤ v) (hn : 0 < n) : m = topN k v n := by
  unfold topS at h
  by_cases h0 : (mulS v n).2 = 0
  · rw [if_pos h0] at h
    obtain ⟨t, c, e⟩ : ∃ t c, mulS v n = (t, c) := ⟨_, _, rfl⟩
    rw [e] at h0 h
    simp only at h0 h
    subst h0
    obtain ⟨_, _, ht, _⟩ := mulS_ok e
    have h1 := floor_top h hk (by rw [ht]; exact Int.mul_nonneg hv (by omega))
    unfold topN
    rw [h1, ht, show max n 0 = n by omega]
  · rw [if_neg h0] at h
    exact absurd (congrArg Prod.snd h) h0
theorem topN_now {k v n : Int} (h : n ≤ 0) : topN k v n = 0 := by
  unfold topN; rw [show max n 0 = 0 by omega, Int.mul_zero, Int.mul_zero]; rfl
theorem topN_nonneg {k v n : Int} (hk : 0 ≤ k) (hv : 0 ≤ v) : 0 ≤ topN k v n := by
  have h1 : 0 ≤ k * (v * max n 0) := Int.mul_nonneg hk (Int.mul_nonneg hv (by omega))
  unfold topN
  generalize k * (v * max n 0) = x at *
  omega
theorem topN_mono {k v v' n n' : Int} (hk : 0 ≤ k) (hv : 0 ≤ v) (h1 : v ≤ v') (h2 : n ≤ n') : topN k v n ≤ topN k v' n' := by
  have a1 : v * max n 0 ≤ v' * max n' 0 := Int.mul_le_mul h1 (by omega) (by omega) (by omega)
  have a2 : k * (v * max n 0) ≤ k * (v' * max n' 0) := Int.mul_le_mul_of_nonneg_left a1 hk
  unfold topN
  generalize k * (v * max n 0) = x at *
  generalize k * (v' * max n' 0) = y at *
  omega

/-- A value, where it can be told. -/
theorem opt_ok {call : Bool} {k p v n a : Int} (h : optS call k p v n = (a, 0)) :
    mkB k = true ∧ mkB p = true ∧ mkB v = true ∧ n ≤ 100000 ∧ a = max (gapS call k p) 0 + moreS (topN k v n) (gapS call k p) := by
  cases h1 : mkB k
  · rw [optS_no1 h1] at h; cases h
  cases h2 : mkB p
  · rw [optS_no2 h2] at h; cases h
  cases h3 : mkB v
  · rw [optS_no3 h3] at h; cases h
  by_cases h4 : n ≤ 0
  · rw [optS_now h1 h2 h3 h4] at h
    refine ⟨rfl, rfl, rfl, by omega, ?_⟩
    have := congrArg Prod.fst h
    rw [topN_now h4]
    unfold moreS
    simp only at this
    omega
  · by_cases h5 : n ≤ 100000
    · rw [optS_go h1 h2 h3 (by omega) h5] at h
      refine ⟨rfl, rfl, rfl, h5, ?_⟩
      obtain ⟨m, c, e⟩ : ∃ m c, topS k v n = (m, c) := ⟨_, _, rfl⟩
      by_cases hc : c = 0
      · subst hc
        rw [goS_ok e] at h
        obtain ⟨_, _, _, ha⟩ := addS_ok h
        rw [ha, top_ok e (mkB_iff.1 h1).1 (mkB_iff.1 h3).1 (by omega)]
      · rw [goS_no e hc] at h; exact absurd (congrArg Prod.snd h) hc
    · rw [optS_far (by omega)] at h; cases h

/-! The laws -/
theorem opt_inner {call : Bool} {k p v n a : Int} (h : optS call k p v n = (a, 0)) : optS call k p v 0 = (max (gapS call k p) 0, 0) ∧ max (gapS call k p) 0 ≤ a ∧ (n ≤ 0 → a = max (gapS call k p) 0) := by
  obtain ⟨h1, h2, h3, h4, e⟩ := opt_ok h
  refine ⟨optS_now h1 h2 h3 (by omega), ?_, fun hn => ?_⟩
  · rw [e]; unfold moreS; omega
  · rw [e, topN_now hn]; unfold moreS; omega
theorem opt_price {call : Bool} {k p v n d a b : Int} (h : optS call k p v n = (a, 0)) (h' : optS call k (p + d) v n = (b, 0)) (hd : 0 ≤ d) : (call = true → a ≤ b) ∧ (call = false → b ≤ a) := by
  obtain ⟨_, _, _, _, e⟩ := opt_ok h
  obtain ⟨_, _, _, _, e'⟩ := opt_ok h'
  rw [e, e']
  unfold moreS gapS
  generalize topN k v n = t
  refine ⟨fun hc => ?_, fun hc => ?_⟩ <;> subst hc <;> simp only [if_true, Bool.false_eq_true, if_false] <;> omega
theorem opt_more {call : Bool} {k p v v' n n' a b : Int} (h : optS call k p v n = (a, 0)) (h' : optS call k p v' n' = (b, 0)) (hv : v ≤ v') (hn : n ≤ n') : a ≤ b := by
  obtain ⟨h1, _, h3, _, e⟩ := opt_ok h
  obtain ⟨_, _, _, _, e'⟩ := opt_ok h'
  have := topN_mono (mkB_iff.1 h1).1 (mkB_iff.1 h3).1 hv hn
  rw [e, e']
  unfold moreS
  generalize topN k v n = t at *
  generalize topN k v' n' = t' at *
  omega
theorem opt_pair {k p v n a b : Int} (h : optS true k p v n = (a, 0)) (h' : optS false k p v n = (b, 0)) : a - b = p - k := by
  obtain ⟨_, _, _, _, e⟩ := opt_ok h
  obtain ⟨_, _, _, _, e'⟩ := opt_ok h'
  rw [e, e']
  unfold moreS gapS
  generalize topN k v n = t
  simp only [if_true, Bool.false_eq_true, if_false]
  omega
theorem opt_step {k p v n a b c d : Int} (ha : optS true k p v n = (a, 0)) (hb : optS false k p v n = (b, 0)) (hc : optS true k (p + 1) v n = (c, 0)) (hd : optS false k (p + 1) v n = (d, 0)) :
    0 ≤ c - a ∧ c - a ≤ 1 ∧ 0 ≤ b - d ∧ b - d ≤ 1 := by
  obtain ⟨_, _, _, _, e1⟩ := opt_ok ha
  obtain ⟨_, _, _, _, e2⟩ := opt_ok hb
  obtain ⟨_, _, _, _, e3⟩ := opt_ok hc
  obtain ⟨_, _, _, _, e4⟩ := opt_ok hd
  rw [e1, e2, e3, e4]
  unfold moreS gapS
  generalize topN k v n = t
  simp only [if_true, Bool.false_eq_true, if_false]
  omega
theorem opt_range {call : Bool} {k p v n a : Int} (h : optS call k p v n = (a, 0)) : 0 ≤ a ∧ a ≤ 4611686018427387904 := by
  have hf := (show 0 ≤ max (gapS call k p) 0 by omega)
  obtain ⟨_, h2, _⟩ := opt_inner h
  refine ⟨by omega, ?_⟩
  obtain ⟨h1, h2, h3, h4, e⟩ := opt_ok h
  by_cases hn : n ≤ 0
  · rw [optS_now h1 h2 h3 hn] at h
    have := congrArg Prod.fst h
    have := gap_bound call h1 h2
    simp only at *
    omega
  · rw [optS_go h1 h2 h3 (by omega) h4] at h
    obtain ⟨m, c, et⟩ : ∃ m c, topS k v n = (m, c) := ⟨_, _, rfl⟩
    by_cases hc : c = 0
    · subst hc
      rw [goS_ok et] at h
      obtain ⟨_, _, hb, hx⟩ := addS_ok h
      rw [hx]
      exact (fitB_true hb).2
    · rw [goS_no et hc] at h; exact absurd (congrArg Prod.snd h) hc
end Go.Proofs.YtbnihoimhfcjiaaDoor.Ot

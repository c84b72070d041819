/-
  Layer 12 (scenarios): what its functions answer, as plain mathematics. No function of the program is named.
-/
import Derived.Test.YtbnihoimhfcjiaaDoorGd
import Derived.Test.YtbnihoimhfcjiaaDoorGo
namespace Go.Proofs.YtbnihoimhfcjiaaDoor.Gr
open Go.Proofs.YtbnihoimhfcjiaaDoor.Ot Ao
set_option linter.unusedVariables false

/-- By how much scenario s shifts a price, a volatility. -/
def tabP : List Int := [-2000, -1000, -500, 0, 500, 1000, 2000]
def tabV : List Int := [-2500, 0, 2500]
def shP (s : Nat) : Int := tabP.getD (s / 3) 0
def shV (s : Nat) : Int := tabV.getD (s % 3) 0
theorem shP_range (s : Nat) : -2000 ≤ shP s ∧ shP s ≤ 2000 := by
  unfold shP tabP
  match h : s / 3 with
  | 0 | 1 | 2 | 3 | 4 | 5 | 6 => simp
  | n + 7 => simp
theorem shV_range (s : Nat) : -2500 ≤ shV s ∧ shV s ≤ 2500 := by
  unfold shV tabV
  match h : s % 3 with
  | 0 | 1 | 2 => simp
  | n + 3 => simp
theorem shP_rise (s : Nat) (h : s + 3 < 21) : shP s ≤ shP (s + 3) := by
  unfold shP tabP
  rw [show (s + 3) / 3 = s / 3 + 1 by omega]
  have : s / 3 < 6 := by omega
  match h : s / 3 with
  | 0 | 1 | 2 | 3 | 4 | 5 => simp
  | n + 6 => omega
theorem shV_three (s : Nat) : shV (s + 3) = shV s := by unfold shV; rw [Nat.add_mod_right]
theorem shP_ten : shP 10 = 0 := rfl
theorem shV_ten : shV 10 = 0 := rfl

/-- A price or a volatility, shifted. -/
def shS (x d : Int) : Int := x * (10000 + d) / 10000
theorem shS_zero (x : Int) : shS x 0 = x := by unfold shS; omega
theorem shS_rise {x d d' : Int} (hx : 0 ≤ x) (h : d ≤ d') : shS x d ≤ shS x d' := by
  have := Int.mul_le_mul_of_nonneg_left (show 10000 + d ≤ 10000 + d' by omega) hx
  unfold shS
  generalize x * (10000 + d) = a at *
  generalize x * (10000 + d') = b at *
  omega
theorem shS_more {x y d : Int} (hd : -10000 ≤ d) (h : x ≤ y) : shS x d ≤ shS y d := by
  have := Int.mul_le_mul_of_nonneg_right h (show 0 ≤ 10000 + d by omega)
  unfold shS
  generalize x * (10000 + d) = a at *
  generalize y * (10000 + d) = b at *
  omega
theorem shS_low {x d : Int} (hx : 0 ≤ x) (hd : -10000 ≤ d) : 0 ≤ shS x d := by
  have := Int.mul_nonneg hx (show 0 ≤ 10000 + d by omega)
  unfold shS
  generalize x * (10000 + d) = a at *
  omega
theorem mul_range {x d m : Int} (hx : 0 ≤ x) (hm : x ≤ m) (hd : 0 ≤ d) (hd' : d ≤ 12500) : 0 ≤ x * d ∧ x * d ≤ m * 12500 := by
  refine ⟨Int.mul_nonneg hx hd, ?_⟩
  exact Int.mul_le_mul hm hd' hd (by omega)
/-- A price is moved by a fifth at the most, a volatility by a quarter. -/
theorem shS_price {x : Int} (hx : 0 ≤ x) (s : Nat) : 4 * x - 4 ≤ 5 * shS x (shP s) ∧ 5 * shS x (shP s) ≤ 6 * x := by
  have h := shP_range s
  generalize shP s = d at *
  have h1 := Int.mul_le_mul_of_nonneg_left (show 8000 ≤ 10000 + d by omega) hx
  have h2 := Int.mul_le_mul_of_nonneg_left (show 10000 + d ≤ 12000 by omega) hx
  unfold shS
  generalize x * (10000 + d) = a at *
  omega
theorem shS_vol {x : Int} (hx : 0 ≤ x) (s : Nat) : 3 * x - 3 ≤ 4 * shS x (shV s) ∧ 4 * shS x (shV s) ≤ 5 * x := by
  have h := shV_range s
  generalize shV s = d at *
  have h1 := Int.mul_le_mul_of_nonneg_left (show 7500 ≤ 10000 + d by omega) hx
  have h2 := Int.mul_le_mul_of_nonneg_left (show 10000 + d ≤ 12500 by omega) hx
  unfold shS
  generalize x * (10000 + d) = a at *
  omega

/-- Can price and volatility be? -/
def quB (p v : Int) : Bool := decide (0 ≤ p ∧ p ≤ 1000000000000 ∧ 0 ≤ v ∧ v ≤ 50000)
theorem quB_iff {p v : Int} : quB p v = true ↔ 0 ≤ p ∧ p ≤ 1000000000000 ∧ 0 ≤ v ∧ v ≤ 50000 := by unfold quB; exact decide_eq_true_iff
theorem quB_no {p v : Int} : quB p v = false ↔ ¬ (0 ≤ p ∧ p ≤ 1000000000000 ∧ 0 ≤ v ∧ v ≤ 50000) := by unfold quB; exact decide_eq_false_iff_not

/-- A scenario's point. -/
def pntS (p v s : Int) : Int × Int × Int := if 0 ≤ s ∧ s < 21 ∧ quB p v = true then (shS p (shP s.toNat), shS v (shV s.toNat), 0) else (0, 0, 1)
theorem pnt_no {p v s : Int} (h : ¬ (0 ≤ s ∧ s < 21 ∧ quB p v = true)) : pntS p v s = (0, 0, 1) := if_neg h
theorem pnt_ok {p v : Int} {s : Nat} (hs : s < 21) (h : quB p v = true) : pntS p v (s : Int) = (shS p (shP s), shS v (shV s), 0) := by
  unfold pntS
  rw [if_pos ⟨by omega, by omega, h⟩, Int.toNat_natCast]

/-- The unit in scenario s; whether there is one in each of the first k; the first error from s on. -/
def atS (i : Ins) (p v d : Int) (s : Nat) : Int × Int := unitS i (shS p (shP s)) (shS v (shV s)) d
def errS (i : Ins) (p v d : Int) : Nat → Nat → Int
  | _, 0 => 0
  | s, n + 1 => if (atS i p v d s).2 = 0 then errS i p v d (s + 1) n else (atS i p v d s).2
def allS (i : Ins) (p v d : Int) : Int := if quB p v then errS i p v d 0 21 else 1
def nowS (i : Ins) (p v d : Int) : Int × Int := if quB p v then unitS i p v d else (0, 1)

theorem err_step {i : Ins} {p v d : Int} {s n : Nat} (h : (atS i p v d s).2 = 0) : errS i p v d s (n + 1) = errS i p v d (s + 1) n := if_pos h
theorem err_stop {i : Ins} {p v d : Int} {s n : Nat} (h : (atS i p v d s).2 ≠ 0) : errS i p v d s (n + 1) = (atS i p v d s).2 := if_neg h
theorem err_all {i : Ins} {p v d : Int} : ∀ {n s : Nat}, errS i p v d s n = 0 → ∀ t, s ≤ t → t < s + n → (atS i p v d t).2 = 0
  | 0, s, _, t, h1, h2 => by omega
  | n + 1, s, h, t, h1, h2 => by
    by_cases h0 : (atS i p v d s).2 = 0
    · rw [err_step h0] at h
      by_cases e : t = s
      · rw [e]; exact h0
      · exact err_all h t (by omega) (by omega)
    · rw [err_stop h0] at h
      exact absurd h h0
theorem all_ok {i : Ins} {p v d : Int} (h : allS i p v d = 0) : quB p v = true ∧ ∀ t, t < 21 → (atS i p v d t).2 = 0 := by
  unfold allS at h
  split at h
  · rename_i hq
    exact ⟨hq, fun t ht => err_all h t (Nat.zero_le _) (by omega)⟩
  · exact absurd h (by decide)

/-! The laws -/
theorem now_ok {i : Ins} {p v d : Int} (h : allS i p v d = 0) : nowS i p v d = ((atS i p v d 10).1, 0) := by
  obtain ⟨hq, ha⟩ := all_ok h
  have := ha 10 (by omega)
  unfold nowS
  rw [if_pos hq]
  unfold atS at *
  rw [shP_ten, shV_ten, shS_zero, shS_zero] at *
  rw [← this]
theorem unit_ok {i : Ins} {p v d a : Int} (h : unitS i p v d = (a, 0)) : (i.kind = 3 → optS i.call i.strike p v (i.expiry - d) = (a, 0)) ∧ (i.kind ≠ 3 → a = p) := by
  unfold unitS at h
  split at h
  · split at h
    · by_cases h3 : i.kind = 3
      · rw [if_pos h3] at h
        split at h
        · exact ⟨fun _ => h, fun h4 => absurd h3 h4⟩
        · exact absurd (congrArg Prod.snd h) (by simp)
      · rw [if_neg h3] at h
        exact ⟨fun h4 => absurd h4 h3, fun _ => (congrArg Prod.fst h).symm⟩
    · exact absurd (congrArg Prod.snd h) (by simp)
  · exact absurd (congrArg Prod.snd h) (by simp)
theorem units_rise {i : Ins} {p v d : Int} (h : allS i p v d = 0) {s : Nat} (hs : s + 3 < 21) :
    (i.kind = 3 ∧ i.call = false → (atS i p v d (s + 3)).1 ≤ (atS i p v d s).1) ∧ (¬ (i.kind = 3 ∧ i.call = false) → (atS i p v d s).1 ≤ (atS i p v d (s + 3)).1) := by
  obtain ⟨hq, ha⟩ := all_ok h
  have hp := (quB_iff.1 hq).1
  have h1 := ha s (by omega)
  have h2 := ha (s + 3) (by omega)
  have hr := shS_rise hp (shP_rise s hs)
  unfold atS at *
  rw [shV_three] at *
  generalize shS p (shP s) = x at *
  generalize shS p (shP (s + 3)) = y at *
  generalize shS v (shV s) = u at *
  obtain ⟨a, e1⟩ : ∃ a, unitS i x u d = (a, 0) := ⟨(unitS i x u d).1, by rw [← h1]⟩
  obtain ⟨b, e2⟩ : ∃ b, unitS i y u d = (b, 0) := ⟨(unitS i y u d).1, by rw [← h2]⟩
  rw [e1, e2]
  show (_ → b ≤ a) ∧ (_ → a ≤ b)
  obtain ⟨f1, f2⟩ := unit_ok e1
  obtain ⟨g1, g2⟩ := unit_ok e2
  by_cases h3 : i.kind = 3
  · have o := opt_price (f1 h3) (by rw [show x + (y - x) = y by omega]; exact g1 h3) (by omega)
    refine ⟨fun h => o.2 h.2, fun h => o.1 ?_⟩
    cases hc : i.call
    · exact absurd ⟨h3, hc⟩ h
    · rfl
  · rw [f2 h3, g2 h3]
    exact ⟨fun h => absurd h.1 h3, fun _ => hr⟩

/-- The first place of the greatest of the first k. -/
def top1 (l : Nat → Int) : Nat → Nat
  | 0 => 0
  | k + 1 => if l (top1 l k) < l k then k else top1 l k
theorem top1_lt (l : Nat → Int) : ∀ k, 0 < k → top1 l k < k
  | 0, h => absurd h (Nat.lt_irrefl _)
  | 1, _ => by unfold top1; split <;> (try unfold top1) <;> omega
  | k + 2, _ => by
    have := top1_lt l (k + 1) (by omega)
    unfold top1
    split <;> omega
theorem top1_best (l : Nat → Int) : ∀ k j, j < k → l j ≤ l (top1 l k) ∧ (l j = l (top1 l k) → top1 l k ≤ j)
  | 0, j, h => absurd h (Nat.not_lt_zero _)
  | k + 1, j, h => by
    show l j ≤ l (if l (top1 l k) < l k then k else top1 l k) ∧ (l j = l (if l (top1 l k) < l k then k else top1 l k) → (if l (top1 l k) < l k then k else top1 l k) ≤ j)
    by_cases e : j = k
    · subst e
      by_cases h1 : l (top1 l j) < l j
      · rw [if_pos h1]; omega
      · rw [if_neg h1]
        rcases Nat.eq_zero_or_pos j with e | e
        · subst e
          exact ⟨Int.le_refl _, fun _ => Nat.le_refl _⟩
        · have := top1_lt l j e
          omega
    · have ⟨g1, g2⟩ := top1_best l k j (by omega)
      by_cases h1 : l (top1 l k) < l k
      · rw [if_pos h1]; omega
      · rw [if_neg h1]; exact ⟨g1, g2⟩
end Go.Proofs.YtbnihoimhfcjiaaDoor.Gr

/-
  Layer 9 (reference data): what its functions answer, as plain mathematics. No program is imported.
-/
import Derived.Test.YtklmknbbdhngbaaFx6
import Derived.Laws.RangeAny
namespace Go.Proofs.Ytklmknbbdhngbaa.Rd

open Go.Proofs.Ytklmknbbdhngbaa.Fx
set_option linter.unusedVariables false

/-- An underlying, an instrument. -/
structure Un where
  name : ByteArray
  cur : Int
  price : Int
  vol : Int
structure Ins where
  kind : Int
  under : Int
  mult : Int
  strike : Int
  expiry : Int
  call : Bool
  mark : Int

/-- Letters alone, up to the place n. -/
def Lets (s : ByteArray) (n : Nat) : Prop := ∀ i, i < n → ∀ h : i < s.size, 65 ≤ (s[i]'h).toNat ∧ (s[i]'h).toNat ≤ 90
instance (s : ByteArray) (n : Nat) : Decidable (Lets s n) := by unfold Lets; infer_instance
def nameB (s : ByteArray) : Bool := decide (1 ≤ s.size ∧ s.size ≤ 8 ∧ Lets s s.size)
def withB (x l m : Int) : Bool := decide (l ≤ x ∧ x ≤ m)
def curB (r h n : Int) : Bool := decide ((n = 0 → r = 1000000) ∧ (1 ≤ r ∧ r ≤ 1000000000000) ∧ (0 ≤ h ∧ h ≤ 10000))
def underB (u : Un) (n : Int) : Bool := decide (nameB u.name = true ∧ (0 ≤ u.cur ∧ u.cur < n) ∧ (1 ≤ u.price ∧ u.price ≤ 1000000000000) ∧ (0 ≤ u.vol ∧ u.vol ≤ 50000))
def kindB (i : Ins) : Bool := decide ((i.kind = 1 ∧ i.strike = 0 ∧ i.expiry = 0 ∧ i.call = false) ∨ (i.kind = 2 ∧ i.strike = 0 ∧ (1 ≤ i.expiry ∧ i.expiry ≤ 100000) ∧ i.call = false) ∨
  (i.kind = 3 ∧ (1 ≤ i.strike ∧ i.strike ≤ 1000000000000) ∧ (1 ≤ i.expiry ∧ i.expiry ≤ 100000)))
def instrB (i : Ins) (n : Int) : Bool := decide ((0 ≤ i.under ∧ i.under < n) ∧ (1 ≤ i.mult ∧ i.mult ≤ 1000000) ∧ (0 ≤ i.mark ∧ i.mark ≤ 100000000000000) ∧ kindB i = true)
def baseS (r h a m : Int) : Int × Int := if curB r h 1 = true then divS a r 1000000 m else (0, 30)
def partS (x h : Int) : Int := if x < 0 then 10000 + h else 10000 - h
def worthS (r h a : Int) : Int × Int := if (baseS r h a 0).2 = 0 then divS (baseS r h a 0).1 (partS (baseS r h a 0).1 h) 10000 0 else (0, (baseS r h a 0).2)

theorem withB_iff {x l m : Int} : withB x l m = true ↔ l ≤ x ∧ x ≤ m := by unfold withB; exact decide_eq_true_iff
theorem withB_no {x l m : Int} : withB x l m = false ↔ ¬ (l ≤ x ∧ x ≤ m) := by unfold withB; exact decide_eq_false_iff_not
theorem curB_iff {r h n : Int} : curB r h n = true ↔ (n = 0 → r = 1000000) ∧ (1 ≤ r ∧ r ≤ 1000000000000) ∧ (0 ≤ h ∧ h ≤ 10000) := by unfold curB; exact decide_eq_true_iff
theorem curB_no {r h n : Int} : curB r h n = false ↔ ¬ ((n = 0 → r = 1000000) ∧ (1 ≤ r ∧ r ≤ 1000000000000) ∧ (0 ≤ h ∧ h ≤ 10000)) := by unfold curB; exact decide_eq_false_iff_not
theorem underB_iff {u : Un} {n : Int} : underB u n = true ↔ nameB u.name = true ∧ (0 ≤ u.cur ∧ u.cur < n) ∧ (1 ≤ u.price ∧ u.price ≤ 1000000000000) ∧ (0 ≤ u.vol ∧ u.vol ≤ 50000) := by unfold underB; exact decide_eq_true_iff
theorem underB_no {u : Un} {n : Int} : underB u n = false ↔ ¬ (nameB u.name = true ∧ (0 ≤ u.cur ∧ u.cur < n) ∧ (1 ≤ u.price ∧ u.price ≤ 1000000000000) ∧ (0 ≤ u.vol ∧ u.vol ≤ 50000)) := by unfold underB; exact decide_eq_false_iff_not
theorem kindB_iff {i : Ins} : kindB i = true ↔ (i.kind = 1 ∧ i.strike = 0 ∧ i.expiry = 0 ∧ i.call = false) ∨ (i.kind = 2 ∧ i.strike = 0 ∧ (1 ≤ i.expiry ∧ i.expiry ≤ 100000) ∧ i.call = false) ∨
  (i.kind = 3 ∧ (1 ≤ i.strike ∧ i.strike ≤ 1000000000000) ∧ (1 ≤ i.expiry ∧ i.expiry ≤ 100000)) := by unfold kindB; exact decide_eq_true_iff
theorem kindB_no {i : Ins} : kindB i = false ↔ ¬ ((i.kind = 1 ∧ i.strike = 0 ∧ i.expiry = 0 ∧ i.call = false) ∨ (i.kind = 2 ∧ i.strike = 0 ∧ (1 ≤ i.expiry ∧ i.expiry ≤ 100000) ∧ i.call = false) ∨
  (i.kind = 3 ∧ (1 ≤ i.strike ∧ i.strike ≤ 1000000000000) ∧ (1 ≤ i.expiry ∧ i.expiry ≤ 100000))) := by unfold kindB; exact decide_eq_false_iff_not
theorem instrB_iff {i : Ins} {n : Int} : instrB i n = true ↔ (0 ≤ i.under ∧ i.under < n) ∧ (1 ≤ i.mult ∧ i.mult ≤ 1000000) ∧ (0 ≤ i.mark ∧ i.mark ≤ 100000000000000) ∧ kindB i = true := by unfold instrB; exact decide_eq_true_iff
theorem instrB_no {i : Ins} {n : Int} : instrB i n = false ↔ ¬ ((0 ≤ i.under ∧ i.under < n) ∧ (1 ≤ i.mult ∧ i.mult ≤ 1000000) ∧ (0 ≤ i.mark ∧ i.mark ≤ 100000000000000) ∧ kindB i = true) := by unfold instrB; exact decide_eq_false_iff_not

theorem nameB_iff {s : ByteArray} : nameB s = true ↔ 1 ≤ s.size ∧ s.size ≤ 8 ∧ Lets s s.size := by unfold nameB; exact decide_eq_true_iff
theorem nameB_no {s : ByteArray} : nameB s = false ↔ ¬ (1 ≤ s.size ∧ s.size ≤ 8 ∧ Lets s s.size) := by unfold nameB; exact decide_eq_false_iff_not
theorem lets_zero (s : ByteArray) : Lets s 0 := fun i h => absurd h (by omega)
theorem lets_succ {s : ByteArray} {n : Nat} (h : Lets s n) (hn : n < s.size) (h1 : 65 ≤ (s[n]'hn).toNat) (h2 : (s[n]'hn).toNat ≤ 90) : Lets s (n + 1) := by
  intro i hi hs
  by_cases e : i = n
  · subst e; exact ⟨h1, h2⟩
  · exact h i (by omega) hs
theorem lets_not {s : ByteArray} {n : Nat} (hn : n < s.size) (h1 : (s[n]'hn).toNat < 65 ∨ 90 < (s[n]'hn).toNat) : nameB s = false := by
  rw [nameB_no]
  rintro ⟨_, _, h⟩
  have := h n hn hn
  omega

/-! Amounts -/
theorem baseS_no {r h a m : Int} (hc : curB r h 1 = false) : baseS r h a m = (0, 30) := by unfold baseS; rw [hc]; rfl
theorem baseS_yes {r h a m : Int} (hc : curB r h 1 = true) : baseS r h a m = divS a r 1000000 m := by unfold baseS; rw [hc]; rfl
theorem natAbs_mul' (a b : Int) : absN a * absN b = (a * b).natAbs := by unfold absN; exact (Int.natAbs_mul a b).symm

theorem floor6 {a r x : Int} (h : divS a r 1000000 0 = (x, 0)) (hr : 0 ≤ r) : x = a * r / 1000000 := by
  obtain ⟨_, _, _, _, _, e⟩ := divS_ok h
  have hn : negB a r 1000000 = decide (a < 0) := by
    unfold negB
    rw [decide_eq_false (show ¬ r < 0 by omega), decide_eq_false (show ¬ (1000000 : Int) < 0 by omega)]
    cases decide (a < 0) <;> rfl
  have hm := round_at a r 1000000 0
  rw [out0, hn, natAbs_mul', show absN 1000000 = 1000000 from rfl] at hm
  rw [hn] at e
  by_cases ha : a < 0
  · have hp : a * r ≤ 0 := Int.mul_nonpos_of_nonpos_of_nonneg (by omega) hr
    simp only [ha, decide_true, if_true, and_true] at e hm
    generalize a * r = p at *
    rw [e, hm]
    split <;> omega
  · have hp : 0 ≤ a * r := Int.mul_nonneg (by omega) hr
    simp only [ha, decide_false, Bool.false_eq_true, if_false, and_false] at e hm
    generalize a * r = p at *
    rw [e, hm]
    omega
theorem floor4 {a r x : Int} (h : divS a r 10000 0 = (x, 0)) (hr : 0 ≤ r) : x = a * r / 10000 := by
  obtain ⟨_, _, _, _, _, e⟩ := divS_ok h
  have hn : negB a r 10000 = decide (a < 0) := by
    unfold negB
    rw [decide_eq_false (show ¬ r < 0 by omega), decide_eq_false (show ¬ (10000 : Int) < 0 by omega)]
    cases decide (a < 0) <;> rfl
  have hm := round_at a r 10000 0
  rw [out0, hn, natAbs_mul', show absN 10000 = 10000 from rfl] at hm
  rw [hn] at e
  by_cases ha : a < 0
  · have hp : a * r ≤ 0 := Int.mul_nonpos_of_nonpos_of_nonneg (by omega) hr
    simp only [ha, decide_true, if_true, and_true] at e hm
    generalize a * r = p at *
    rw [e, hm]
    split <;> omega
  · have hp : 0 ≤ a * r := Int.mul_nonneg (by omega) hr
    simp only [ha, decide_false, Bool.false_eq_true, if_false, and_false] at e hm
    generalize a * r = p at *
    rw [e, hm]
    omega

/-- What an amount is worth, where it can be told. -/
theorem worth_ok {r h a x : Int} (e : worthS r h a = (x, 0)) :
    curB r h 1 = true ∧ fitB a = true ∧ ∃ p, baseS r h a 0 = (p, 0) ∧ p = a * r / 1000000 ∧ x = p * partS p h / 10000 := by
  unfold worthS at e
  by_cases h0 : (baseS r h a 0).2 = 0
  · rw [if_pos h0] at e
    cases hc : curB r h 1
    · rw [baseS_no hc] at h0; exact absurd h0 (by decide)
    · obtain ⟨g1, g2, g3⟩ := curB_iff.1 hc
      obtain ⟨p, f, hb⟩ : ∃ p f, baseS r h a 0 = (p, f) := ⟨_, _, rfl⟩
      rw [hb] at h0 e
      simp only at h0 e
      subst h0
      have hd := hb
      rw [baseS_yes hc] at hd
      refine ⟨rfl, (divS_ok hd).1, p, hb, floor6 hd (by omega), floor4 e ?_⟩
      unfold partS; split <;> omega
  · rw [if_neg h0] at e
    exact absurd (congrArg Prod.snd e) h0

theorem div6_mono {a b : Int} (h : a ≤ b) : a / 1000000 ≤ b / 1000000 := by omega
theorem div4_mono {a b : Int} (h : a ≤ b) : a / 10000 ≤ b / 10000 := by omega
theorem part_mono {p q h : Int} (h0 : 0 ≤ h) (h1 : h ≤ 10000) (hpq : p ≤ q) : p * partS p h ≤ q * partS q h := by
  unfold partS
  by_cases hp : p < 0
  · by_cases hq : q < 0
    · rw [if_pos hp, if_pos hq]
      exact Int.mul_le_mul_of_nonneg_right hpq (by omega)
    · rw [if_pos hp, if_neg hq]
      have a1 : p * (10000 + h) ≤ 0 := Int.mul_nonpos_of_nonpos_of_nonneg (by omega) (by omega)
      have a2 : 0 ≤ q * (10000 - h) := Int.mul_nonneg (by omega) (by omega)
      exact Int.le_trans a1 a2
  · rw [if_neg hp, if_neg (by omega)]
    exact Int.mul_le_mul_of_nonneg_right hpq (by omega)
theorem part_less {p h : Int} (h0 : 0 ≤ h) (h1 : h ≤ 10000) : p * partS p h ≤ p * 10000 := by
  unfold partS
  by_cases hp : p < 0
  · rw [if_pos hp]
    exact Int.mul_le_mul_of_nonpos_left (by omega) (by omega)
  · rw [if_neg hp]
    exact Int.mul_le_mul_of_nonneg_left (by omega) (by omega)

theorem rises_le {r h a b x y : Int} (ea : worthS r h a = (x, 0)) (eb : worthS r h b = (y, 0)) (hab : a ≤ b) : x ≤ y := by
  obtain ⟨hc, _, p, _, hp, hx⟩ := worth_ok ea
  obtain ⟨_, _, q, _, hq, hy⟩ := worth_ok eb
  obtain ⟨_, g2, g3⟩ := curB_iff.1 hc
  have h1 : p ≤ q := by rw [hp, hq]; exact div6_mono (Int.mul_le_mul_of_nonneg_right hab (by omega))
  rw [hx, hy]
  exact div4_mono (part_mono (by omega) (by omega) h1)
theorem rises_base {r h a x : Int} (ea : worthS r h a = (x, 0)) : ∃ p, baseS r h a 0 = (p, 0) ∧ x ≤ p := by
  obtain ⟨hc, _, p, hb, hp, hx⟩ := worth_ok ea
  obtain ⟨_, g2, g3⟩ := curB_iff.1 hc
  refine ⟨p, hb, ?_⟩
  have := part_less (p := p) (h := h) (by omega) (by omega)
  rw [hx]
  generalize p * partS p h = m at *
  omega
theorem rises_sum {r h a b x y z : Int} (ea : worthS r h a = (x, 0)) (eb : worthS r h b = (y, 0)) (ez : worthS r h (a + b) = (z, 0)) (ha : 0 ≤ a) (hb : 0 ≤ b) : x + y ≤ z := by
  obtain ⟨hc, _, p, _, hp, hx⟩ := worth_ok ea
  obtain ⟨_, _, q, _, hq, hy⟩ := worth_ok eb
  obtain ⟨_, _, s, _, hs, hz⟩ := worth_ok ez
  obtain ⟨_, g2, g3⟩ := curB_iff.1 hc
  have n1 : 0 ≤ a * r := Int.mul_nonneg ha (by omega)
  have n2 : 0 ≤ b * r := Int.mul_nonneg hb (by omega)
  rw [Int.add_mul] at hs
  have h1 : 0 ≤ p ∧ 0 ≤ q ∧ p + q ≤ s := by
    generalize a * r = m at *
    generalize b * r = n at *
    omega
  unfold partS at hx hy hz
  rw [if_neg (by omega)] at hx hy hz
  have h2 : (p + q) * (10000 - h) ≤ s * (10000 - h) := Int.mul_le_mul_of_nonneg_right h1.2.2 (by omega)
  rw [Int.add_mul] at h2
  generalize p * (10000 - h) = m at *
  generalize q * (10000 - h) = n at *
  generalize s * (10000 - h) = k at *
  omega
theorem shifts_rate {r h a x y m : Int} (ea : worthS r h a = (x, 0)) (eb : worthS (r + m) h a = (y, 0)) (hm : 0 ≤ m) : (0 ≤ a → x ≤ y) ∧ (a < 0 → y ≤ x) := by
  obtain ⟨hc, _, p, _, hp, hx⟩ := worth_ok ea
  obtain ⟨_, _, q, _, hq, hy⟩ := worth_ok eb
  obtain ⟨_, g2, g3⟩ := curB_iff.1 hc
  refine ⟨fun h0 => ?_, fun h0 => ?_⟩
  · have h1 : p ≤ q := by rw [hp, hq]; exact div6_mono (Int.mul_le_mul_of_nonneg_left (by omega) h0)
    rw [hx, hy]
    exact div4_mono (part_mono (by omega) (by omega) h1)
  · have h1 : q ≤ p := by rw [hp, hq]; exact div6_mono (Int.mul_le_mul_of_nonpos_left (by omega) (by omega))
    rw [hx, hy]
    exact div4_mono (part_mono (by omega) (by omega) h1)
theorem shifts_hair {r h a x z m : Int} (ea : worthS r h a = (x, 0)) (eb : worthS r (h + m) a = (z, 0)) (hm : 0 ≤ m) : z ≤ x := by
  obtain ⟨hc, _, p, _, hp, hx⟩ := worth_ok ea
  obtain ⟨hc2, _, q, _, hq, hy⟩ := worth_ok eb
  obtain ⟨_, g2, g3⟩ := curB_iff.1 hc
  obtain rfl : p = q := hp.trans hq.symm
  rw [hx, hy]
  refine div4_mono ?_
  unfold partS
  by_cases h0 : p < 0
  · rw [if_pos h0, if_pos h0]
    exact Int.mul_le_mul_of_nonpos_left (by omega) (by omega)
  · rw [if_neg h0, if_neg h0]
    exact Int.mul_le_mul_of_nonneg_left (by omega) (by omega)
end Go.Proofs.Ytklmknbbdhngbaa.Rd

/-
  The plain mathematics of layer 1's laws: no program is imported.
-/
import Derived.Test.YtbnihoimhfcjiaaDoorFx0
namespace Go.Proofs.YtbnihoimhfcjiaaDoor.Fx
set_option linter.unusedVariables false

theorem divS_ok {a b c m x : Int} (h : divS a b c m = (x, 0)) :
    fitB a = true ∧ fitB b = true ∧ fitB c = true ∧ ¬ (c = 0 ∨ m < 0 ∨ 3 < m) ∧ roundN a b c m ≤ 4611686018427387904 ∧
      x = if negB a b c then -(roundN a b c m : Int) else roundN a b c m := by
  cases ha : fitB a
  · rw [divS_no1 ha] at h; cases h
  · cases hb : fitB b
    · rw [divS_no2 hb] at h; cases h
    · cases hc : fitB c
      · rw [divS_no3 hc] at h; cases h
      · by_cases hh : c = 0 ∨ m < 0 ∨ 3 < m
        · rw [divS_arg ha hb hc hh] at h; cases h
        · rw [divS_go ha hb hc hh] at h
          by_cases hl : roundN a b c m ≤ 4611686018427387904
          · refine ⟨rfl, rfl, rfl, hh, hl, ?_⟩
            unfold signed at h
            rw [if_pos hl] at h
            exact (congrArg Prod.fst h).symm
          · rw [signed_over (by omega)] at h; cases h
theorem divS_yes {a b c m : Int} (ha : fitB a = true) (hb : fitB b = true) (hc : fitB c = true) (h : ¬ (c = 0 ∨ m < 0 ∨ 3 < m)) (hl : roundN a b c m ≤ 4611686018427387904) :
    divS a b c m = (if negB a b c then -(roundN a b c m : Int) else roundN a b c m, 0) := by
  rw [divS_go ha hb hc h]; unfold signed; rw [if_pos hl]
theorem round_at (a b c m : Int) : roundN a b c m = absN a * absN b / absN c + if absN a * absN b % absN c ≠ 0 ∧ outB m (negB a b c) = true then 1 else 0 := rfl
theorem out0 (n : Bool) : outB 0 n = n := rfl
theorem out1 (n : Bool) : outB 1 n = !n := rfl
theorem out2 (n : Bool) : outB 2 n = false := rfl
theorem out3 (n : Bool) : outB 3 n = true := rfl

theorem rounds_law {a b c d u z g y : Int} (hd : divS a b c 0 = (d, 0)) (hu : divS a b c 1 = (u, 0)) (hz : divS a b c 2 = (z, g)) (hy : divS a b c 3 = (y, 0)) :
    g = 0 ∧ d ≤ u ∧ u ≤ d + 1 ∧ -4611686018427387904 ≤ d ∧ u ≤ 4611686018427387904 ∧ (0 < u → z = d ∧ y = u) ∧ (¬ 0 < u → z = u ∧ y = d) := by
  obtain ⟨ha, hb, hc, hh, ld, ed⟩ := divS_ok hd
  obtain ⟨_, _, _, _, lu, eu⟩ := divS_ok hu
  obtain ⟨_, _, _, _, ly, ey⟩ := divS_ok hy
  have r0 := round_at a b c 0
  have r1 := round_at a b c 1
  have r2 := round_at a b c 2
  have r3 := round_at a b c 3
  rw [out0] at r0; rw [out1] at r1; rw [out2] at r2; rw [out3] at r3
  have lz : roundN a b c 2 ≤ 4611686018427387904 := by
    rw [r2, if_neg (by rintro ⟨_, h⟩; cases h)]
    have := round_ge a b c 0
    omega
  have ez := divS_yes (m := 2) ha hb hc (by omega) lz
  rw [hz] at ez
  have e1 := congrArg Prod.fst ez
  have e2 := congrArg Prod.snd ez
  simp only at e1 e2
  clear hd hu hz hy ez
  generalize roundN a b c 0 = n0 at *
  generalize roundN a b c 1 = n1 at *
  generalize roundN a b c 2 = n2 at *
  generalize roundN a b c 3 = n3 at *
  generalize absN a * absN b / absN c = q at *
  generalize absN a * absN b % absN c = r at *
  cases hn : negB a b c <;> rw [hn] at ed eu ey e1 r0 r1 <;> simp at ed eu ey e1 r0 r1 r2 r3 <;> by_cases hr : r = 0 <;> simp [hr] at r0 r1 r2 r3 <;>
    refine ⟨e2, ?_, ?_, ?_, ?_, fun h => ⟨?_, ?_⟩, fun h => ⟨?_, ?_⟩⟩ <;> omega

theorem addS_comm (a b : Int) : addS a b = addS b a := by
  unfold addS; rw [Bool.and_comm, Int.add_comm]
theorem mulS_comm (a b : Int) : mulS a b = mulS b a := by
  unfold mulS
  cases ha : fitB a
  · rw [divS_no1 ha, divS_no2 ha]
  · cases hb : fitB b
    · rw [divS_no1 hb, divS_no2 hb]
    · rw [divS_go ha hb rfl (by decide), divS_go hb ha rfl (by decide)]
      have en : negB a b 1 = negB b a 1 := by unfold negB; cases decide (a < 0) <;> cases decide (b < 0) <;> rfl
      have er : roundN a b 1 2 = roundN b a 1 2 := by unfold roundN; rw [en, Nat.mul_comm]
      rw [en, er]
theorem chkS_ok {x y : Int} (h : chkS x = (y, 0)) : fitB x = true ∧ y = x := by
  cases hx : fitB x
  · rw [chkS_no hx] at h; cases h
  · rw [chkS_fit hx] at h; exact ⟨rfl, (congrArg Prod.fst h).symm⟩
theorem addS_ok {a b x : Int} (h : addS a b = (x, 0)) : fitB a = true ∧ fitB b = true ∧ fitB (a + b) = true ∧ x = a + b := by
  cases ha : fitB a
  · rw [addS_no1 ha] at h; cases h
  · cases hb : fitB b
    · rw [addS_no2 hb] at h; cases h
    · rw [addS_fit ha hb] at h
      obtain ⟨h1, h2⟩ := chkS_ok h
      exact ⟨rfl, rfl, h1, h2⟩
theorem sub_back {a b x : Int} (h : addS a b = (x, 0)) : addS x (-b) = (a, 0) := by
  obtain ⟨ha, hb, hab, rfl⟩ := addS_ok h
  rw [addS_fit hab ((fitB_neg b).trans hb), Int.add_neg_cancel_right, chkS_fit ha]

/-- The product, with its sign. -/
theorem signed_prod (a b : Int) : a * b = if negB a b 1 then -((absN a * absN b : Nat) : Int) else ((absN a * absN b : Nat) : Int) := by
  have ea : (absN a : Int) = if a < 0 then -a else a := by unfold absN; split <;> omega
  have eb : (absN b : Int) = if b < 0 then -b else b := by unfold absN; split <;> omega
  rw [Int.natCast_mul, ea, eb]
  unfold negB
  by_cases h1 : a < 0 <;> by_cases h2 : b < 0 <;> simp [h1, h2, Int.neg_mul, Int.mul_neg]
theorem mulS_ok {a b x : Int} (h : mulS a b = (x, 0)) : fitB a = true ∧ fitB b = true ∧ x = a * b ∧ fitB x = true := by
  obtain ⟨ha, hb, _, _, hl, hx⟩ := divS_ok h
  have e : roundN a b 1 2 = absN a * absN b := by
    rw [round_at, out2, if_neg (by rintro ⟨_, h⟩; cases h)]
    show absN a * absN b / 1 + 0 = _
    rw [Nat.div_one]
    rfl
  rw [e] at hl hx
  refine ⟨ha, hb, hx.trans (signed_prod a b).symm, ?_⟩
  rw [hx]
  apply fitB_mk <;> split <;> omega
theorem mulS_yes {a b : Int} (ha : fitB a = true) (hb : fitB b = true) (h : fitB (a * b) = true) : mulS a b = (a * b, 0) := by
  have e : roundN a b 1 2 = absN a * absN b := by
    rw [round_at, out2, if_neg (by rintro ⟨_, h⟩; cases h)]
    show absN a * absN b / 1 + 0 = _
    rw [Nat.div_one]
    rfl
  have hp := signed_prod a b
  have hf := fitB_true h
  unfold mulS
  rw [divS_yes ha hb rfl (by decide) (by rw [e]; rw [hp] at hf; split at hf <;> omega), e, ← hp]
theorem mulS_not {a b : Int} (ha : fitB a = true) (hb : fitB b = true) (h : fitB (a * b) = false) : mulS a b = (0, 4) := by
  have e : roundN a b 1 2 = absN a * absN b := by
    rw [round_at, out2, if_neg (by rintro ⟨_, h⟩; cases h)]
    show absN a * absN b / 1 + 0 = _
    rw [Nat.div_one]
    rfl
  have hp := signed_prod a b
  have hf := fitB_false h
  unfold mulS
  rw [divS_go ha hb rfl (by decide)]
  refine signed_over ?_
  rw [e]; rw [hp] at hf; split at hf <;> omega
/-- Rounded down: times the divisor it lies below the product, by less than the divisor. -/
theorem down_at {a b c : Int} (hc : 1 ≤ c) : ∃ D : Int, (if negB a b c then -(roundN a b c 0 : Int) else roundN a b c 0) = D ∧ D * c ≤ a * b ∧ a * b < D * c + c := by
  refine ⟨_, rfl, ?_⟩
  have hn : negB a b c = negB a b 1 := by unfold negB; rw [decide_eq_false (by omega : ¬ c < 0)]; rfl
  have hp := signed_prod a b
  have ec : (absN c : Int) = c := by unfold absN; omega
  have r0 := round_at a b c 0
  rw [out0] at r0
  have hd := Nat.div_add_mod' (absN a * absN b) (absN c)
  have hm := Nat.mod_lt (absN a * absN b) (show 0 < absN c by unfold absN; omega)
  rw [hn] at r0 ⊢
  rw [hp]
  generalize absN a * absN b = N at *
  generalize hq : N / absN c = q at *
  generalize N % absN c = r at *
  generalize roundN a b c 0 = n0 at *
  have hd' : (q : Int) * c + r = N := by rw [← ec]; exact_mod_cast hd
  have hm' : (r : Int) < c := by rw [← ec]; exact_mod_cast hm
  cases hb : negB a b 1 <;> rw [hb] at r0 <;> simp at r0 ⊢
  · rw [r0]; omega
  · by_cases hr : r = 0
    · simp [hr] at r0; rw [r0, Int.neg_mul]; subst hr; omega
    · simp [hr] at r0
      rw [r0]
      push_cast
      rw [Int.neg_mul, Int.add_mul]
      omega
theorem back_law {a b c p : Int} (h : mulS a b = (p, 0)) (hc : 1 ≤ c) (hf : fitB c = true) :
    ∃ D : Int, divS a b c 0 = (D, 0) ∧ ((∃ m : Int, mulS D c = (m, 0) ∧ m ≤ p ∧ p < m + c ∧ -4611686018427387904 ≤ m ∧ p ≤ 4611686018427387904) ∨ (∃ m : Int, mulS D c = (m, 4) ∧ p < -4611686018427387904 + c)) := by
  obtain ⟨ha, hb, hp, hpf⟩ := mulS_ok h
  have hpb := fitB_true hpf
  have hfb := fitB_true hf
  obtain ⟨D, hD, h1, h2⟩ := down_at (a := a) (b := b) hc
  rw [← hp] at h1 h2
  have hDb : fitB D = true := by
    refine fitB_mk ?_ ?_
    · refine Int.not_lt.1 fun hlt => ?_
      have : (D + 1) * c ≤ (D + 1) * 1 := Int.mul_le_mul_of_nonpos_left (by omega) hc
      rw [Int.add_mul] at this
      omega
    · refine Int.not_lt.1 fun hlt => ?_
      have : D * 1 ≤ D * c := Int.mul_le_mul_of_nonneg_left hc (by omega)
      omega
  have hDf := fitB_true hDb
  refine ⟨D, ?_, ?_⟩
  · rw [divS_yes ha hb hf (by omega) ?_, hD]
    cases hn : negB a b c <;> rw [hn] at hD <;> simp at hD <;> omega
  · cases hm : fitB (D * c)
    · have := fitB_false hm
      exact Or.inr ⟨0, mulS_not hDb hf hm, by omega⟩
    · have := fitB_true hm
      exact Or.inl ⟨D * c, mulS_yes hDb hf hm, h1, h2, this.1, hpb.2⟩
end Go.Proofs.YtbnihoimhfcjiaaDoor.Fx

/-
  Layer 2: the order of texts; the law DecOrders.
-/
import Derived.Test.YtdapcmokibkokaaDoorDj
namespace Go.Proofs.YtdapcmokibkokaaDoor.Dx
open Go.RowKit Go.Sort
set_option linter.unusedVariables false
set_option linter.unusedSimpArgs false

theorem less_app : ∀ (a b c d : List UInt8), a.length = b.length → Op.bytesLess (a ++ c) (b ++ d) = (Op.bytesLess a b || (a == b && Op.bytesLess c d))
  | [], [], c, d, _ => by simp [Op.bytesLess]
  | [], _ :: _, _, _, h => by simp at h
  | _ :: _, [], _, _, h => by simp at h
  | x :: a, y :: b, c, d, h => by
    have ih := less_app a b c d (by simpa using h)
    simp only [List.cons_append, Op.bytesLess, ih]
    by_cases hxy : x = y
    · subst hxy
      have : (x :: a == x :: b) = (a == b) := by simp
      rw [this]
      have h1 : (x == x) = true := by simp
      rw [h1]
      cases decide (x < x) <;> cases Op.bytesLess a b <;> cases (a == b) <;> cases Op.bytesLess c d <;> rfl
    · have h1 : (x == y) = false := by simpa using hxy
      have h2 : (x :: a == y :: b) = false := by simp [hxy]
      rw [h1, h2]
      cases decide (x < y) <;> rfl
theorem low_inj (n a b : Nat) : (low n a == low n b) = decide (a % 10 ^ n = b % 10 ^ n) := by
  rw [Bool.eq_iff_iff, beq_iff_eq, decide_eq_true_iff]
  constructor
  · intro h
    have := congrArg val h
    rwa [val_low, val_low] at this
  · intro h
    have h1 := low_val (low n a) (low_all n a)
    have h2 := low_val (low n b) (low_all n b)
    rw [low_length, val_low] at h1 h2
    rw [← h1, ← h2, h]
theorem dgt_less (i j : Nat) (hi : i < 10) (hj : j < 10) : Op.bytesLess [dgt i] [dgt j] = decide (i < j) := by
  have h : ∀ (a b : Fin 10), Op.bytesLess [dgt a.val] [dgt b.val] = decide (a.val < b.val) := by decide
  exact h ⟨i, hi⟩ ⟨j, hj⟩
theorem less_low : ∀ (n a b : Nat), Op.bytesLess (low n a) (low n b) = decide (a % 10 ^ n < b % 10 ^ n)
  | 0, a, b => by simp [low, Op.bytesLess, Nat.mod_one]
  | n + 1, a, b => by
    rw [low, low, less_app _ _ _ _ (by rw [low_length, low_length]), less_low n, low_inj, dgt_less _ _ (Nat.mod_lt _ (by omega)) (Nat.mod_lt _ (by omega))]
    rw [Nat.pow_succ', Nat.mod_mul, Nat.mod_mul]
    rw [Bool.eq_iff_iff]
    simp only [Bool.or_eq_true, Bool.and_eq_true, decide_eq_true_eq]
    omega

theorem quo_rem (a b P : Nat) (hP : 0 < P) : a < b ↔ (a / P < b / P ∨ (a / P = b / P ∧ a % P < b % P)) := by
  have ha := Nat.div_add_mod a P
  have hb := Nat.div_add_mod b P
  have ra := Nat.mod_lt a hP
  have rb := Nat.mod_lt b hP
  constructor
  · intro h
    rcases Nat.lt_trichotomy (a / P) (b / P) with h1 | h1 | h1
    · exact Or.inl h1
    · right
      refine ⟨h1, ?_⟩
      rw [h1] at ha
      omega
    · exfalso
      have := Nat.mul_le_mul_left P (show b / P + 1 ≤ a / P from h1)
      rw [Nat.mul_add, Nat.mul_one] at this
      omega
  · rintro (h | ⟨h, h2⟩)
    · have := Nat.mul_le_mul_left P (show a / P + 1 ≤ b / P from h)
      rw [Nat.mul_add, Nat.mul_one] at this
      omega
    · rw [h] at ha
      omega
theorem quo_rem_eq (a b P : Nat) (hP : 0 < P) : a = b ↔ (a / P = b / P ∧ a % P = b % P) := by
  constructor
  · rintro rfl; exact ⟨rfl, rfl⟩
  · rintro ⟨h1, h2⟩
    have ha := Nat.div_add_mod a P
    have hb := Nat.div_add_mod b P
    rw [h1, h2] at ha
    omega

theorem dec_inj (a b : Nat) (h : nd a = nd b) : (dec a == dec b) = decide (a = b) := by
  rw [dec_low, dec_low, ← h, low_inj]
  have h1 := lt_nd a
  have h2 := lt_nd b
  rw [← h] at h2
  rw [Nat.mod_eq_of_lt h1, Nat.mod_eq_of_lt h2]
theorem dec_less (a b : Nat) (h : nd a = nd b) : Op.bytesLess (dec a) (dec b) = decide (a < b) := by
  rw [dec_low, dec_low, ← h, less_low]
  have h1 := lt_nd a
  have h2 := lt_nd b
  rw [← h] at h2
  rw [Nat.mod_eq_of_lt h1, Nat.mod_eq_of_lt h2]

theorem txt_less (a b p : Nat) (h : nd (a / 10 ^ p) = nd (b / 10 ^ p)) : Op.bytesLess (txtN a p) (txtN b p) = decide (a < b) ∧ (txtN a p == txtN b p) = decide (a = b) := by
  have hP : 0 < 10 ^ p := Nat.pow_pos (by omega)
  have hl : (dec (a / 10 ^ p)).length = (dec (b / 10 ^ p)).length := by rw [dec_length, dec_length, h]
  unfold txtN
  by_cases h0 : p = 0
  · subst h0
    simp only [Nat.pow_zero, Nat.div_one, if_pos, List.append_nil] at h ⊢
    exact ⟨dec_less _ _ h, dec_inj _ _ h⟩
  · rw [if_neg h0, if_neg h0]
    constructor
    · rw [less_app _ _ _ _ hl, dec_less _ _ h, dec_inj _ _ h]
      have : Op.bytesLess (46 :: low p a) (46 :: low p b) = decide (a % 10 ^ p < b % 10 ^ p) := by
        rw [show (46 :: low p a) = [46] ++ low p a from rfl, show (46 :: low p b) = [46] ++ low p b from rfl, less_app _ _ _ _ rfl, less_low]
        simp [Op.bytesLess]
      rw [this, Bool.eq_iff_iff]
      simp only [Bool.or_eq_true, Bool.and_eq_true, decide_eq_true_eq]
      exact (quo_rem a b _ hP).symm
    · rw [Bool.eq_iff_iff, beq_iff_eq, decide_eq_true_iff]
      constructor
      · intro he
        have h1 := List.append_inj he hl
        have h2 := dec_inj _ _ h
        rw [h1.1, beq_self_eq_true] at h2
        have h3 := of_decide_eq_true h2.symm
        have h4 := (List.cons.inj h1.2).2
        have h5 := low_inj p a b
        rw [h4, beq_self_eq_true] at h5
        exact (quo_rem_eq a b _ hP).2 ⟨h3, of_decide_eq_true h5.symm⟩
      · rintro rfl; rfl

theorem nd_lt {a b : Nat} (h : nd a < nd b) : a < b := by
  have h1 := lt_nd a
  have hp := nd_pos a
  rcases Nat.lt_or_ge a b with h2 | h2
  · exact h2
  · exfalso
    have := nd_le (nd a) b (by omega) hp
    omega
theorem txt_longer (a b p : Nat) (h : nd (a / 10 ^ p) < nd (b / 10 ^ p)) : a < b := by
  have h1 := nd_lt h
  rcases Nat.lt_or_ge a b with h2 | h2
  · exact h2
  · exfalso
    have := Nat.div_le_div_right (c := 10 ^ p) h2
    omega

theorem fmtR_pos {a p : Int} {l : List UInt8} (h : fmtR a p = (l, 0)) (ha : 0 ≤ a) : l = txtN a.toNat p.toNat := by
  unfold fmtR at h
  by_cases hp : 0 ≤ p ∧ p ≤ 9
  · rw [if_pos hp] at h
    cases hf : Fx.fitB a
    · rw [hf] at h; have := (Prod.mk.inj h).2; exact absurd this (by decide)
    · rw [hf, if_pos rfl] at h
      have h1 := (Prod.mk.inj h).1
      rw [← h1]
      unfold fmtT
      rw [if_neg (by omega), show a.natAbs = a.toNat by omega]
  · rw [if_neg hp] at h; have := (Prod.mk.inj h).2; exact absurd this (by decide)

theorem orders {a b p : Int} {x y : List UInt8} (hx : fmtR a p = (x, 0)) (hy : fmtR b p = (y, 0)) (ha : 0 ≤ a) (hb : 0 ≤ b) :
    (x.length < y.length → a < b) ∧ (x.length = y.length → Op.bytesLess x y = decide (a < b) ∧ (x == y) = decide (a = b)) := by
  have e1 := fmtR_pos hx ha
  have e2 := fmtR_pos hy hb
  subst e1
  subst e2
  rw [txtN_length, txtN_length]
  constructor
  · intro h
    have := txt_longer a.toNat b.toNat p.toNat (by omega)
    omega
  · intro h
    obtain ⟨h1, h2⟩ := txt_less a.toNat b.toNat p.toNat (by omega)
    rw [h1, h2]
    constructor
    · rw [Bool.eq_iff_iff, decide_eq_true_iff, decide_eq_true_iff]; omega
    · rw [Bool.eq_iff_iff, decide_eq_true_iff, decide_eq_true_iff]; omega

set_option maxHeartbeats 2000000 in
theorem orders_walk (a b p : Int) (w : World) (htab : Tab w) :
    Calls Tryd.prog 6 #[.int .i64 a, .int .i64 b, .int .i64 p] w fun e w' => e = .returned (.bool true) ∧ Below w.heap.size w w' := by
  have hw := wakes_any w htab
  have hF := fun w (ht : Tab w) => format_any a p w ht
  have hG := fun w (ht : Tab w) => format_any b p w ht
  obtain ⟨x, e, hx⟩ : ∃ x e, fmtR a p = (x, e) := ⟨_, _, rfl⟩
  obtain ⟨y, f, hy⟩ : ∃ y f, fmtR b p = (y, f) := ⟨_, _, rfl⟩
  have lx := fmtR_len a p
  have ly := fmtR_len b p
  rw [hx] at hF lx
  rw [hy] at hG ly
  simp only at hF hG lx ly
  have tx := bs_toList x
  have ty := bs_toList y
  have sx := bs_size x
  have sy := bs_size y
  have hord := fun (he : e = 0) (hf : f = 0) => orders (a := a) (b := b) (p := p) (x := x) (y := y) (by rw [hx, he]) (by rw [hy, hf])
  have hswap := fun (he : e = 0) (hf : f = 0) ha hb => (orders (a := b) (b := a) (p := p) (x := y) (y := x) (by rw [hy, hf]) (by rw [hx, he]) ha hb).1
  clear hx hy
  generalize bs x = X at hF tx sx
  generalize bs y = Y at hG ty sy
  by_cases he : e = 0
  · subst he
    by_cases hf : f = 0
    · subst hf
      have hord := hord rfl rfl
      by_cases ha : 0 ≤ a
      · by_cases hb : 0 ≤ b
        · have o1 := (hord ha hb).1
          have o2 := (hord ha hb).2
          have o4 := hswap rfl rfl hb ha
          clear hord hswap
          generalize hm : x.length = m at sx o1 o2 o4 lx
          generalize hn : y.length = n at sy o1 o2 o4 ly
          rcases Nat.lt_trichotomy m n with h1 | h1 | h1
          · have hab := o1 h1
            have f1 : (m == n) = false := beq_eq_false_iff_ne.2 (by omega)
            have f2 : decide (m < n) = true := decide_eq_true h1
            have f3 : decide (a < b) = true := decide_eq_true hab
            clear o1 o2 o4 hm hn
            go_enter Tryd.func6, Tryd.ntmps6
            go_upto_region 4 with (first | (go_at_call 7; refine hw.mono ?_; rintro e w1 ⟨rfl, hb1⟩) | (go_at_call 8; refine (hF _ (htab.below hb1)).mono ?_; rintro e w2 ⟨rfl, hb2⟩))
            go_wp2_with (go_at_call 8; refine (hG _ (htab.below (below_next hb1 hb2))).mono ?_; rintro e w3 ⟨rfl, hb3⟩)
            go_ret
            exact ⟨by first | rfl | simp, below_next (below_next hb1 hb2) hb3⟩
          · obtain ⟨q1, q2⟩ := o2 h1
            have hmn := h1
            clear o1 o2 o4 hm hn h1
            subst hmn
            rcases Int.lt_trichotomy a b with h2 | h2 | h2
            · rw [decide_eq_true h2] at q1
              rw [decide_eq_false (by omega)] at q2
              have f3 : decide (a < b) = true := decide_eq_true h2
              have f4 : (a == b) = false := beq_eq_false_iff_ne.2 (by omega)
              go_enter Tryd.func6, Tryd.ntmps6
              go_upto_region 4 with (first | (go_at_call 7; refine hw.mono ?_; rintro e w1 ⟨rfl, hb1⟩) | (go_at_call 8; refine (hF _ (htab.below hb1)).mono ?_; rintro e w2 ⟨rfl, hb2⟩))
              go_wp2_with (go_at_call 8; refine (hG _ (htab.below (below_next hb1 hb2))).mono ?_; rintro e w3 ⟨rfl, hb3⟩)
              go_ret
              exact ⟨by first | rfl | simp, below_next (below_next hb1 hb2) hb3⟩
            · rw [decide_eq_false (by omega)] at q1
              rw [decide_eq_true h2] at q2
              subst h2
              go_enter Tryd.func6, Tryd.ntmps6
              go_upto_region 4 with (first | (go_at_call 7; refine hw.mono ?_; rintro e w1 ⟨rfl, hb1⟩) | (go_at_call 8; refine (hF _ (htab.below hb1)).mono ?_; rintro e w2 ⟨rfl, hb2⟩))
              go_wp2_with (go_at_call 8; refine (hG _ (htab.below (below_next hb1 hb2))).mono ?_; rintro e w3 ⟨rfl, hb3⟩)
              go_ret
              exact ⟨by first | rfl | simp, below_next (below_next hb1 hb2) hb3⟩
            · rw [decide_eq_false (by omega)] at q1
              rw [decide_eq_false (by omega)] at q2
              have f3 : decide (a < b) = false := decide_eq_false (by omega)
              have f4 : (a == b) = false := beq_eq_false_iff_ne.2 (by omega)
              go_enter Tryd.func6, Tryd.ntmps6
              go_upto_region 4 with (first | (go_at_call 7; refine hw.mono ?_; rintro e w1 ⟨rfl, hb1⟩) | (go_at_call 8; refine (hF _ (htab.below hb1)).mono ?_; rintro e w2 ⟨rfl, hb2⟩))
              go_wp2_with (go_at_call 8; refine (hG _ (htab.below (below_next hb1 hb2))).mono ?_; rintro e w3 ⟨rfl, hb3⟩)
              go_ret
              exact ⟨by first | rfl | simp, below_next (below_next hb1 hb2) hb3⟩
          · have hab := o4 h1
            have f1 : (m == n) = false := beq_eq_false_iff_ne.2 (by omega)
            have f2 : decide (m < n) = false := decide_eq_false (by omega)
            have f3 : decide (a < b) = false := decide_eq_false (by omega)
            clear o1 o2 o4 hm hn
            go_enter Tryd.func6, Tryd.ntmps6
            go_upto_region 4 with (first | (go_at_call 7; refine hw.mono ?_; rintro e w1 ⟨rfl, hb1⟩) | (go_at_call 8; refine (hF _ (htab.below hb1)).mono ?_; rintro e w2 ⟨rfl, hb2⟩))
            go_wp2_with (go_at_call 8; refine (hG _ (htab.below (below_next hb1 hb2))).mono ?_; rintro e w3 ⟨rfl, hb3⟩)
            go_ret
            exact ⟨by first | rfl | simp, below_next (below_next hb1 hb2) hb3⟩
        · clear hord hswap
          go_enter Tryd.func6, Tryd.ntmps6
          go_upto_region 4 with (first | (go_at_call 7; refine hw.mono ?_; rintro e w1 ⟨rfl, hb1⟩) | (go_at_call 8; refine (hF _ (htab.below hb1)).mono ?_; rintro e w2 ⟨rfl, hb2⟩))
          go_wp2_with (go_at_call 8; refine (hG _ (htab.below (below_next hb1 hb2))).mono ?_; rintro e w3 ⟨rfl, hb3⟩)
          go_ret
          exact ⟨by first | rfl | simp, below_next (below_next hb1 hb2) hb3⟩
      · clear hord hswap
        go_enter Tryd.func6, Tryd.ntmps6
        go_upto_region 4 with (first | (go_at_call 7; refine hw.mono ?_; rintro e w1 ⟨rfl, hb1⟩) | (go_at_call 8; refine (hF _ (htab.below hb1)).mono ?_; rintro e w2 ⟨rfl, hb2⟩))
        go_wp2_with (go_at_call 8; refine (hG _ (htab.below (below_next hb1 hb2))).mono ?_; rintro e w3 ⟨rfl, hb3⟩)
        go_ret
        exact ⟨by first | rfl | simp, below_next (below_next hb1 hb2) hb3⟩
    · clear hord hswap
      have f2 : (f == 0) = false := beq_eq_false_iff_ne.2 hf
      go_enter Tryd.func6, Tryd.ntmps6
      go_upto_region 4 with (first | (go_at_call 7; refine hw.mono ?_; rintro e w1 ⟨rfl, hb1⟩) | (go_at_call 8; refine (hF _ (htab.below hb1)).mono ?_; rintro e w2 ⟨rfl, hb2⟩))
      go_wp2_with (go_at_call 8; refine (hG _ (htab.below (below_next hb1 hb2))).mono ?_; rintro e w3 ⟨rfl, hb3⟩)
      go_ret
      exact ⟨by first | rfl | simp, below_next (below_next hb1 hb2) hb3⟩
  · clear hord hswap
    have f1 : (e == 0) = false := beq_eq_false_iff_ne.2 he
    go_enter Tryd.func6, Tryd.ntmps6
    go_upto_region 4 with (first | (go_at_call 7; refine hw.mono ?_; rintro e w1 ⟨rfl, hb1⟩) | (go_at_call 8; refine (hF _ (htab.below hb1)).mono ?_; rintro e w2 ⟨rfl, hb2⟩))
    go_wp2_with (go_at_call 8; refine (hG _ (htab.below (below_next hb1 hb2))).mono ?_; rintro e w3 ⟨rfl, hb3⟩)
    go_ret
    exact ⟨by first | rfl | simp, below_next (below_next hb1 hb2) hb3⟩
end Go.Proofs.YtdapcmokibkokaaDoor.Dx

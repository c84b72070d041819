/-
  Layer 1's reference: what its products and quotients are.
-/
import Derived.Test.YtbnihoimhfcjiaaDoorFx8
import Derived.Test.YtbnihoimhfcjiaaDoorFx5
namespace Go.Proofs.YtbnihoimhfcjiaaDoor.Fx
open Go.RowKit
set_option linter.unusedVariables false

theorem signed_big {neg : Bool} {h l : Nat} (hh : 0 < h ∨ 4611686018427387904 < l) : signed neg (h * 18446744073709551616 + l) = (0, 4) := signed_over (by omega)
theorem signed_neg {l : Nat} (hl : l ≤ 4611686018427387904) : signed true (0 * 18446744073709551616 + l) = (-(l : Int), 0) := by
  rw [Nat.zero_mul, Nat.zero_add]; unfold signed; rw [if_pos hl]; rfl
theorem signed_pos {l : Nat} (hl : l ≤ 4611686018427387904) : signed false (0 * 18446744073709551616 + l) = ((l : Int), 0) := by
  rw [Nat.zero_mul, Nat.zero_add]; unfold signed; rw [if_pos hl]; rfl

set_option maxRecDepth 100000 in
theorem of_any (h l : Nat) (neg : Bool) (w : World) (hh : h < 18446744073709551616) (hl : l < 18446744073709551616) :
    Calls Tryd.prog 32 #[.agg #[.int .u64 h, .int .u64 l], .bool neg] w fun e w' =>
      e = .returned (.tuple #[.int .i64 (signed neg (h * 18446744073709551616 + l)).1, .int .i64 (signed neg (h * 18446744073709551616 + l)).2]) ∧ Below w.heap.size w w' := by
  by_cases h0 : 0 < h
  · have hs := signed_big (neg := neg) (h := h) (l := l) (Or.inl h0)
    have HS := Lib.hid hs; clear hs
    go_enter Tryd.func32, Tryd.ntmps32
    go_wp2
    go_ret2
    exact ⟨by rw [HS.out] <;> rfl, (Below.refl _ _).alloc (Nat.le_refl _) _⟩
  · by_cases h1 : 4611686018427387904 < l
    · have hs := signed_big (neg := neg) (h := h) (l := l) (Or.inr h1)
      have HS := Lib.hid hs; clear hs
      go_enter Tryd.func32, Tryd.ntmps32
      go_wp2
      go_ret2
      exact ⟨by rw [HS.out] <;> rfl, (Below.refl _ _).alloc (Nat.le_refl _) _⟩
    · obtain rfl : h = 0 := by omega
      cases neg
      · have HS := Lib.hid (signed_pos (l := l) (by omega))
        go_enter Tryd.func32, Tryd.ntmps32
        go_wp2
        go_ret2
        exact ⟨by rw [HS.out] <;> rfl, (Below.refl _ _).alloc (Nat.le_refl _) _⟩
      · have HS := Lib.hid (signed_neg (l := l) (by omega))
        go_enter Tryd.func32, Tryd.ntmps32
        go_wp2
        go_ret2
        exact ⟨by rw [HS.out] <;> rfl, (Below.refl _ _).alloc (Nat.le_refl _) _⟩

theorem prod_whole (x y : Nat) : hiN x y * 18446744073709551616 + loN x y = x * y := by
  unfold hiN loN; exact Nat.div_add_mod' _ _
theorem mul_signed {a b : Int} (ha : fitB a = true) (hb : fitB b = true) : mulS a b = signed (!(decide (a < 0) == decide (b < 0))) (hiN (absN a) (absN b) * 18446744073709551616 + loN (absN a) (absN b)) := by
  rw [prod_whole]
  unfold mulS
  rw [divS_go ha hb rfl (by decide)]
  have e : roundN a b 1 2 = absN a * absN b := by
    rw [round_at, out2, if_neg (by rintro ⟨_, h⟩; cases h)]
    show absN a * absN b / 1 + 0 = _
    rw [Nat.div_one]
    rfl
  rw [e]
  unfold negB
  cases decide (a < 0) <;> cases decide (b < 0) <;> rfl

set_option maxRecDepth 100000 in
theorem rmul_any (a b : Int) (w : World) :
    Calls Tryd.prog 39 #[.int .i64 a, .int .i64 b] w fun e w' => e = .returned (.tuple #[.int .i64 (mulS a b).1, .int .i64 (mulS a b).2]) ∧ Below w.heap.size w w' := by
  cases ha : fitB a
  · have HS := Lib.hid (show mulS a b = (0, 4) from divS_no1 ha)
    go_enter Tryd.func39, Tryd.ntmps39
    go_wp2_with (go_at_call 28; refine (rfits_any _ _).mono ?_; rintro e w' ⟨rfl, rfl⟩)
    go_ret2
    exact ⟨by rw [HS.out] <;> rfl, Below.refl _ _⟩
  · cases hb : fitB b
    · have HS := Lib.hid (show mulS a b = (0, 4) from divS_no2 hb)
      go_enter Tryd.func39, Tryd.ntmps39
      go_wp2_with (go_at_call 28; refine (rfits_any _ _).mono ?_; rintro e w' ⟨rfl, rfl⟩)
      go_ret2
      exact ⟨by rw [HS.out] <;> rfl, Below.refl _ _⟩
    · have ba := fitB_true ha
      have bb := fitB_true hb
      have la := absN_le ha
      have lb := absN_le hb
      have bh := hi_lt _ _ la lb
      have HS := Lib.hid (mul_signed ha hb)
      go_enter Tryd.func39, Tryd.ntmps39
      go_wp2_with (first | (go_at_call 28; refine (rfits_any _ _).mono ?_; rintro e w' ⟨rfl, rfl⟩) | (go_at_call 31; refine (abs_any _ _ (by omega)).mono ?_; rintro e w' ⟨rfl, rfl⟩) | (go_at_call 30; refine (times_any _ _ _ (by omega) (by omega)).mono ?_; rintro e w1 ⟨rfl, hb1⟩) | (go_at_call 29; refine (over_any _ _ _ _ (by omega) (by omega) (by omega) (by omega)).mono ?_; rintro e w2 ⟨rfl, hb2⟩) | (go_at_call 32; refine (of_any _ _ _ _ (by omega) (by omega)).mono ?_; rintro e w3 ⟨rfl, hb3⟩))
      go_ret2
      exact ⟨by rw [HS.out] <;> rfl, hb1.trans (hb3.mono hb1.size)⟩

theorem round_no {a b c m : Int} (h : (decide (0 < absN a * absN b % absN c) && outB m (negB a b c)) = false) : roundN a b c m = absN a * absN b / absN c := by
  unfold roundN; rw [if_neg]; rfl
  rintro ⟨h1, h2⟩
  rw [h2, Bool.and_true, decide_eq_false_iff_not] at h
  omega
theorem round_yes {a b c m : Int} (h : (decide (0 < absN a * absN b % absN c) && outB m (negB a b c)) = true) : roundN a b c m = absN a * absN b / absN c + 1 := by
  rw [Bool.and_eq_true, decide_eq_true_eq] at h
  exact round_up (by omega) h.2
theorem hi_small {x y d : Nat} (hx : x ≤ 4611686018427387904) (hy : y ≤ 4611686018427387904) : hiW (x * y / d) < 18446744073709551615 := by
  unfold hiW
  have h1 := Nat.mul_le_mul hx hy
  have h2 := Nat.div_le_self (x * y) d
  rw [Nat.div_lt_iff_lt_mul (by decide)]
  exact Nat.lt_of_le_of_lt (Nat.le_trans h2 h1) (by decide)

theorem far3 {w w1 w2 w3 : World} {o : Obj} (hb1 : Below w.heap.size w w1) (hb2 : Below w1.heap.size w1 w2) (hb3 : Below (w2.alloc o).heap.size (w2.alloc o) w3) : Below w.heap.size w w3 := by
  have s1 := hb1.size
  have s2 := hb2.size
  refine ((hb1.trans (hb2.mono s1)).alloc (by omega) o).trans (hb3.mono ?_)
  rw [World.size_alloc]; omega

set_option maxRecDepth 100000 in
theorem rmuldiv_no (a b c m : Int) (w : World) (h : fitB a = false ∨ fitB b = false ∨ fitB c = false) :
    Calls Tryd.prog 21 #[.int .i64 a, .int .i64 b, .int .i64 c, .int .i64 m] w fun e w' => e = .returned (.tuple #[.int .i64 (divS a b c m).1, .int .i64 (divS a b c m).2]) ∧ Below w.heap.size w w' := by
  cases ha : fitB a
  · go_enter Tryd.func21, Tryd.ntmps21
    go_wp2_with (go_at_call 28; refine (rfits_any _ _).mono ?_; rintro e w' ⟨rfl, rfl⟩)
    go_ret2
    exact ⟨by rw [divS_no1 ha] <;> rfl, Below.refl _ _⟩
  · cases hb : fitB b
    · go_enter Tryd.func21, Tryd.ntmps21
      go_wp2_with (go_at_call 28; refine (rfits_any _ _).mono ?_; rintro e w' ⟨rfl, rfl⟩)
      go_ret2
      exact ⟨by rw [divS_no2 hb] <;> rfl, Below.refl _ _⟩
    · have hc : fitB c = false := by simpa [ha, hb] using h
      clear h
      go_enter Tryd.func21, Tryd.ntmps21
      go_wp2_with (go_at_call 28; refine (rfits_any _ _).mono ?_; rintro e w' ⟨rfl, rfl⟩)
      go_ret2
      exact ⟨by rw [divS_no3 hc] <;> rfl, Below.refl _ _⟩

set_option maxRecDepth 100000 in
theorem rmuldiv_arg (a b c m : Int) (w : World) (ha : fitB a = true) (hb : fitB b = true) (hc : fitB c = true) (h : c = 0 ∨ m < 0 ∨ 3 < m) :
    Calls Tryd.prog 21 #[.int .i64 a, .int .i64 b, .int .i64 c, .int .i64 m] w fun e w' => e = .returned (.tuple #[.int .i64 (divS a b c m).1, .int .i64 (divS a b c m).2]) ∧ Below w.heap.size w w' := by
  have hs := divS_arg ha hb hc h
  have HS := Lib.hid hs; clear hs
  by_cases h0 : c = 0
  · clear h
    have d0 : (c == 0) = true := by rw [h0]; rfl
    clear h0
    go_enter Tryd.func21, Tryd.ntmps21
    go_wp2_with (go_at_call 28; refine (rfits_any _ _).mono ?_; rintro e w' ⟨rfl, rfl⟩)
    go_ret2
    exact ⟨by rw [HS.out] <;> rfl, Below.refl _ _⟩
  · have d0 : (c == 0) = false := beq_eq_false_iff_ne.2 h0
    by_cases h1 : m < 0
    · clear h
      have d1 : decide (m < 0) = true := decide_eq_true h1
      go_enter Tryd.func21, Tryd.ntmps21
      go_wp2_with (go_at_call 28; refine (rfits_any _ _).mono ?_; rintro e w' ⟨rfl, rfl⟩)
      go_ret2
      exact ⟨by rw [HS.out] <;> rfl, Below.refl _ _⟩
    · have d1 : decide (m < 0) = false := decide_eq_false h1
      have d2 : decide (3 < m) = true := decide_eq_true (by omega)
      clear h
      go_enter Tryd.func21, Tryd.ntmps21
      go_wp2_with (go_at_call 28; refine (rfits_any _ _).mono ?_; rintro e w' ⟨rfl, rfl⟩)
      go_ret2
      exact ⟨by rw [HS.out] <;> rfl, Below.refl _ _⟩

set_option maxRecDepth 100000 in
set_option maxHeartbeats 2000000 in
theorem rmuldiv_go (a b c m : Int) (w : World) (ha : fitB a = true) (hb : fitB b = true) (hc : fitB c = true) (h : ¬ (c = 0 ∨ m < 0 ∨ 3 < m)) :
    Calls Tryd.prog 21 #[.int .i64 a, .int .i64 b, .int .i64 c, .int .i64 m] w fun e w' => e = .returned (.tuple #[.int .i64 (divS a b c m).1, .int .i64 (divS a b c m).2]) ∧ Below w.heap.size w w' := by
  have ba := fitB_true ha
  have bb := fitB_true hb
  have bc := fitB_true hc
  have na := absN_le ha
  have nb := absN_le hb
  have nc := absN_le hc
  have c0 : 0 < absN c := by unfold absN; omega
  have bh := hi_lt _ _ na nb
  have d0 : (c == 0) = false := beq_eq_false_iff_ne.2 (by omega)
  have d1 : decide (m < 0) = false := decide_eq_false (by omega)
  have d2 : decide (3 < m) = false := decide_eq_false (by omega)
  have eq := quo_split (absN a) (absN b) (absN c)
  have er := rem_split (absN a) (absN b) (absN c)
  have hsm := hi_small (d := absN c) na nb
  obtain ⟨q, hqq⟩ : ∃ q, quoN (hiN (absN a) (absN b)) (loN (absN a) (absN b)) (absN c) = q := ⟨_, rfl⟩
  obtain ⟨r, hrr⟩ : ∃ r, remN (hiN (absN a) (absN b)) (loN (absN a) (absN b)) (absN c) = r := ⟨_, rfl⟩
  rw [hqq] at eq
  rw [hrr] at er
  rw [← eq] at hsm
  have Hq := Lib.hid eq; have Hr := Lib.hid er
  have HD := Lib.hid (divS_go ha hb hc h)
  have hw0 : hiW q * 18446744073709551616 + loW q = q := Nat.div_add_mod' _ _
  have lw : loW q < 18446744073709551616 := Nat.mod_lt _ (by decide)
  have HW := Lib.hid hw0
  clear eq er h hw0
  obtain ⟨n0, hn0⟩ : ∃ n0, (!(decide (a < 0) == decide (b < 0))) = n0 := ⟨_, rfl⟩
  by_cases hcn : c < 0
  · have hnn : negB a b c = !n0 := by
      unfold negB; rw [← hn0, decide_eq_true hcn]
      cases decide (a < 0) <;> cases decide (b < 0) <;> rfl
    have HNN := Lib.hid hnn; clear hnn
    go_enter Tryd.func21, Tryd.ntmps21
    go_upto_region 9 with (first | (go_at_call 28; refine (rfits_any _ _).mono ?_; rintro e w' ⟨rfl, rfl⟩) | (go_at_call 31; refine (abs_any _ _ (by omega)).mono ?_; rintro e w' ⟨rfl, rfl⟩) | (go_at_call 30; refine (times_any _ _ _ (by omega) (by omega)).mono ?_; rintro e w1 ⟨rfl, hb1⟩) | (go_at_call 29; refine (over_any _ _ _ _ (by omega) (by omega) (by omega) (by omega)).mono ?_; rintro e w2 ⟨rfl, hb2⟩) | (go_at_call 32; refine (of_any _ _ _ _ (by omega) (by omega)).mono ?_; rintro e w3 ⟨rfl, hb3⟩))
    go_cut [76] (fun s wc => s = .bool (decide (0 < r) && outB m (!n0)) ∧ wc = w2.alloc (.cells #[.int .u64 (hiW q : Int), .int .u64 (loW q : Int)] 55))
    case first =>
      by_cases hr0 : 0 < r
      · have d3 : decide (0 < r) = true := decide_eq_true hr0
        by_cases m3 : m = 3
        · subst m3
          go_wp2_with fail
          go_meet
          exact ⟨by rw [d3] <;> rfl, rfl⟩
        · have d4 : (m == 3) = false := beq_eq_false_iff_ne.2 m3
          by_cases m1 : m = 1
          · subst m1
            cases n0
            · go_wp2_with fail
              go_meet
              exact ⟨by rw [d3] <;> rfl, rfl⟩
            · go_wp2_with fail
              go_meet
              exact ⟨by rw [d3] <;> rfl, rfl⟩
          · have d5 : (m == 1) = false := beq_eq_false_iff_ne.2 m1
            by_cases m0 : m = 0
            · subst m0
              cases n0
              · go_wp2_with fail
                go_meet
                exact ⟨by rw [d3] <;> rfl, rfl⟩
              · go_wp2_with fail
                go_meet
                exact ⟨by rw [d3] <;> rfl, rfl⟩
            · have d6 : (m == 0) = false := beq_eq_false_iff_ne.2 m0
              have o : outB m (!n0) = false := by unfold outB; rw [if_neg m0, if_neg m1]; exact d4
              have O := Lib.hid o; clear o
              go_wp2_with fail
              go_meet
              exact ⟨by rw [d3, O.out] <;> rfl, rfl⟩
      · have d3 : decide (0 < r) = false := decide_eq_false hr0
        go_wp2_with fail
        go_meet
        exact ⟨by rw [d3] <;> rfl, rfl⟩
    case rest =>
      obtain ⟨rfl, rfl⟩ := hcut
      cases hB : (decide (0 < r) && outB m (!n0))
      · have hs := HD.out
        rw [round_no (by rw [← Hr.out, HNN.out]; exact hB), ← Hq.out, HNN.out, ← HW.out] at hs
        have HS := Lib.hid hs; clear hs
        go_wp2_with (first | (go_at_call 28; refine (rfits_any _ _).mono ?_; rintro e w' ⟨rfl, rfl⟩) | (go_at_call 31; refine (abs_any _ _ (by omega)).mono ?_; rintro e w' ⟨rfl, rfl⟩) | (go_at_call 30; refine (times_any _ _ _ (by omega) (by omega)).mono ?_; rintro e w1 ⟨rfl, hb1⟩) | (go_at_call 29; refine (over_any _ _ _ _ (by omega) (by omega) (by omega) (by omega)).mono ?_; rintro e w2 ⟨rfl, hb2⟩) | (go_at_call 32; refine (of_any _ _ _ _ (by omega) (by omega)).mono ?_; rintro e w3 ⟨rfl, hb3⟩))
        go_ret2
        exact ⟨by rw [HS.out] <;> rfl, far3 hb1 hb2 hb3⟩
      · have hs := HD.out
        rw [round_yes (by rw [← Hr.out, HNN.out]; exact hB), ← Hq.out, HNN.out] at hs
        by_cases hl1 : loW q + 1 < 18446744073709551616
        · obtain ⟨l1, el1⟩ : ∃ z, z = loW q + 1 := ⟨_, rfl⟩
          have g1 : (loW q : Int) + 1 = (l1 : Int) := by rw [el1]; rfl
          have g2 : ((l1 : Int) == 0) = false := beq_eq_false_iff_ne.2 (by omega)
          have g3 : l1 < 18446744073709551616 := by omega
          rw [show q + 1 = hiW q * 18446744073709551616 + l1 from by rw [el1, ← Nat.add_assoc, HW.out]] at hs
          have HS := Lib.hid hs; clear hs el1 hl1
          go_wp2_with (first | (go_at_call 28; refine (rfits_any _ _).mono ?_; rintro e w' ⟨rfl, rfl⟩) | (go_at_call 31; refine (abs_any _ _ (by omega)).mono ?_; rintro e w' ⟨rfl, rfl⟩) | (go_at_call 30; refine (times_any _ _ _ (by omega) (by omega)).mono ?_; rintro e w1 ⟨rfl, hb1⟩) | (go_at_call 29; refine (over_any _ _ _ _ (by omega) (by omega) (by omega) (by omega)).mono ?_; rintro e w2 ⟨rfl, hb2⟩) | (go_at_call 32; refine (of_any _ _ _ _ (by omega) (by omega)).mono ?_; rintro e w3 ⟨rfl, hb3⟩))
          go_ret2
          exact ⟨by rw [HS.out] <;> rfl, far3 hb1 hb2 hb3⟩
        · obtain ⟨z0, ez0⟩ : ∃ z : Nat, z = 0 := ⟨_, rfl⟩
          obtain ⟨h1, eh1⟩ : ∃ z, z = hiW q + 1 := ⟨_, rfl⟩
          have g1 : IntKind.u64.wrap ((loW q : Int) + 1) = (z0 : Int) := by rw [ez0, IntKind.wrap_u64]; omega
          have g2 : ((z0 : Int) == 0) = true := by rw [ez0]; rfl
          have g4 : (hiW q : Int) + 1 = (h1 : Int) := by rw [eh1]; rfl
          have g3 : h1 < 18446744073709551616 := by omega
          have g5 : z0 < 18446744073709551616 := by omega
          rw [show q + 1 = h1 * 18446744073709551616 + z0 from by have := HW.out; rw [eh1, ez0, Nat.add_mul]; omega] at hs
          have HS := Lib.hid hs; clear hs ez0 eh1 hl1
          go_wp2_with (first | (go_at_call 28; refine (rfits_any _ _).mono ?_; rintro e w' ⟨rfl, rfl⟩) | (go_at_call 31; refine (abs_any _ _ (by omega)).mono ?_; rintro e w' ⟨rfl, rfl⟩) | (go_at_call 30; refine (times_any _ _ _ (by omega) (by omega)).mono ?_; rintro e w1 ⟨rfl, hb1⟩) | (go_at_call 29; refine (over_any _ _ _ _ (by omega) (by omega) (by omega) (by omega)).mono ?_; rintro e w2 ⟨rfl, hb2⟩) | (go_at_call 32; refine (of_any _ _ _ _ (by omega) (by omega)).mono ?_; rintro e w3 ⟨rfl, hb3⟩))
          go_ret2
          exact ⟨by rw [HS.out] <;> rfl, far3 hb1 hb2 hb3⟩
  · have hnn : negB a b c = n0 := by
      unfold negB; rw [← hn0, decide_eq_false hcn]
      cases decide (a < 0) <;> cases decide (b < 0) <;> rfl
    have HNN := Lib.hid hnn; clear hnn
    go_enter Tryd.func21, Tryd.ntmps21
    go_upto_region 9 with (first | (go_at_call 28; refine (rfits_any _ _).mono ?_; rintro e w' ⟨rfl, rfl⟩) | (go_at_call 31; refine (abs_any _ _ (by omega)).mono ?_; rintro e w' ⟨rfl, rfl⟩) | (go_at_call 30; refine (times_any _ _ _ (by omega) (by omega)).mono ?_; rintro e w1 ⟨rfl, hb1⟩) | (go_at_call 29; refine (over_any _ _ _ _ (by omega) (by omega) (by omega) (by omega)).mono ?_; rintro e w2 ⟨rfl, hb2⟩) | (go_at_call 32; refine (of_any _ _ _ _ (by omega) (by omega)).mono ?_; rintro e w3 ⟨rfl, hb3⟩))
    go_cut [76] (fun s wc => s = .bool (decide (0 < r) && outB m (n0)) ∧ wc = w2.alloc (.cells #[.int .u64 (hiW q : Int), .int .u64 (loW q : Int)] 55))
    case first =>
      by_cases hr0 : 0 < r
      · have d3 : decide (0 < r) = true := decide_eq_true hr0
        by_cases m3 : m = 3
        · subst m3
          go_wp2_with fail
          go_meet
          exact ⟨by rw [d3] <;> rfl, rfl⟩
        · have d4 : (m == 3) = false := beq_eq_false_iff_ne.2 m3
          by_cases m1 : m = 1
          · subst m1
            cases n0
            · go_wp2_with fail
              go_meet
              exact ⟨by rw [d3] <;> rfl, rfl⟩
            · go_wp2_with fail
              go_meet
              exact ⟨by rw [d3] <;> rfl, rfl⟩
          · have d5 : (m == 1) = false := beq_eq_false_iff_ne.2 m1
            by_cases m0 : m = 0
            · subst m0
              cases n0
              · go_wp2_with fail
                go_meet
                exact ⟨by rw [d3] <;> rfl, rfl⟩
              · go_wp2_with fail
                go_meet
                exact ⟨by rw [d3] <;> rfl, rfl⟩
            · have d6 : (m == 0) = false := beq_eq_false_iff_ne.2 m0
              have o : outB m (n0) = false := by unfold outB; rw [if_neg m0, if_neg m1]; exact d4
              have O := Lib.hid o; clear o
              go_wp2_with fail
              go_meet
              exact ⟨by rw [d3, O.out] <;> rfl, rfl⟩
      · have d3 : decide (0 < r) = false := decide_eq_false hr0
        go_wp2_with fail
        go_meet
        exact ⟨by rw [d3] <;> rfl, rfl⟩
    case rest =>
      obtain ⟨rfl, rfl⟩ := hcut
      cases hB : (decide (0 < r) && outB m (n0))
      · have hs := HD.out
        rw [round_no (by rw [← Hr.out, HNN.out]; exact hB), ← Hq.out, HNN.out, ← HW.out] at hs
        have HS := Lib.hid hs; clear hs
        go_wp2_with (first | (go_at_call 28; refine (rfits_any _ _).mono ?_; rintro e w' ⟨rfl, rfl⟩) | (go_at_call 31; refine (abs_any _ _ (by omega)).mono ?_; rintro e w' ⟨rfl, rfl⟩) | (go_at_call 30; refine (times_any _ _ _ (by omega) (by omega)).mono ?_; rintro e w1 ⟨rfl, hb1⟩) | (go_at_call 29; refine (over_any _ _ _ _ (by omega) (by omega) (by omega) (by omega)).mono ?_; rintro e w2 ⟨rfl, hb2⟩) | (go_at_call 32; refine (of_any _ _ _ _ (by omega) (by omega)).mono ?_; rintro e w3 ⟨rfl, hb3⟩))
        go_ret2
        exact ⟨by rw [HS.out] <;> rfl, far3 hb1 hb2 hb3⟩
      · have hs := HD.out
        rw [round_yes (by rw [← Hr.out, HNN.out]; exact hB), ← Hq.out, HNN.out] at hs
        by_cases hl1 : loW q + 1 < 18446744073709551616
        · obtain ⟨l1, el1⟩ : ∃ z, z = loW q + 1 := ⟨_, rfl⟩
          have g1 : (loW q : Int) + 1 = (l1 : Int) := by rw [el1]; rfl
          have g2 : ((l1 : Int) == 0) = false := beq_eq_false_iff_ne.2 (by omega)
          have g3 : l1 < 18446744073709551616 := by omega
          rw [show q + 1 = hiW q * 18446744073709551616 + l1 from by rw [el1, ← Nat.add_assoc, HW.out]] at hs
          have HS := Lib.hid hs; clear hs el1 hl1
          go_wp2_with (first | (go_at_call 28; refine (rfits_any _ _).mono ?_; rintro e w' ⟨rfl, rfl⟩) | (go_at_call 31; refine (abs_any _ _ (by omega)).mono ?_; rintro e w' ⟨rfl, rfl⟩) | (go_at_call 30; refine (times_any _ _ _ (by omega) (by omega)).mono ?_; rintro e w1 ⟨rfl, hb1⟩) | (go_at_call 29; refine (over_any _ _ _ _ (by omega) (by omega) (by omega) (by omega)).mono ?_; rintro e w2 ⟨rfl, hb2⟩) | (go_at_call 32; refine (of_any _ _ _ _ (by omega) (by omega)).mono ?_; rintro e w3 ⟨rfl, hb3⟩))
          go_ret2
          exact ⟨by rw [HS.out] <;> rfl, far3 hb1 hb2 hb3⟩
        · obtain ⟨z0, ez0⟩ : ∃ z : Nat, z = 0 := ⟨_, rfl⟩
          obtain ⟨h1, eh1⟩ : ∃ z, z = hiW q + 1 := ⟨_, rfl⟩
          have g1 : IntKind.u64.wrap ((loW q : Int) + 1) = (z0 : Int) := by rw [ez0, IntKind.wrap_u64]; omega
          have g2 : ((z0 : Int) == 0) = true := by rw [ez0]; rfl
          have g4 : (hiW q : Int) + 1 = (h1 : Int) := by rw [eh1]; rfl
          have g3 : h1 < 18446744073709551616 := by omega
          have g5 : z0 < 18446744073709551616 := by omega
          rw [show q + 1 = h1 * 18446744073709551616 + z0 from by have := HW.out; rw [eh1, ez0, Nat.add_mul]; omega] at hs
          have HS := Lib.hid hs; clear hs ez0 eh1 hl1
          go_wp2_with (first | (go_at_call 28; refine (rfits_any _ _).mono ?_; rintro e w' ⟨rfl, rfl⟩) | (go_at_call 31; refine (abs_any _ _ (by omega)).mono ?_; rintro e w' ⟨rfl, rfl⟩) | (go_at_call 30; refine (times_any _ _ _ (by omega) (by omega)).mono ?_; rintro e w1 ⟨rfl, hb1⟩) | (go_at_call 29; refine (over_any _ _ _ _ (by omega) (by omega) (by omega) (by omega)).mono ?_; rintro e w2 ⟨rfl, hb2⟩) | (go_at_call 32; refine (of_any _ _ _ _ (by omega) (by omega)).mono ?_; rintro e w3 ⟨rfl, hb3⟩))
          go_ret2
          exact ⟨by rw [HS.out] <;> rfl, far3 hb1 hb2 hb3⟩

theorem rmuldiv_any (a b c m : Int) (w : World) :
    Calls Tryd.prog 21 #[.int .i64 a, .int .i64 b, .int .i64 c, .int .i64 m] w fun e w' => e = .returned (.tuple #[.int .i64 (divS a b c m).1, .int .i64 (divS a b c m).2]) ∧ Below w.heap.size w w' := by
  cases ha : fitB a
  · exact rmuldiv_no a b c m w (Or.inl ha)
  · cases hb : fitB b
    · exact rmuldiv_no a b c m w (Or.inr (Or.inl hb))
    · cases hc : fitB c
      · exact rmuldiv_no a b c m w (Or.inr (Or.inr hc))
      · by_cases h : c = 0 ∨ m < 0 ∨ 3 < m
        · exact rmuldiv_arg a b c m w ha hb hc h
        · exact rmuldiv_go a b c m w ha hb hc h
end Go.Proofs.YtbnihoimhfcjiaaDoor.Fx

/-
  Layer 9's laws RefWorths, RefRises, RefShifts and RefThings: each returns true, for all arguments.
-/
import Derived.Test.YtklmknbbdhngbaaCe
namespace Go.Proofs.Ytklmknbbdhngbaa.Rd
open Go.RowKit
open Go.Proofs.Ytklmknbbdhngbaa.Fx
set_option linter.unusedVariables false
set_option linter.unusedSimpArgs false

set_option maxRecDepth 100000 in
theorem wakes_any (w : World) :
    Calls Try.prog 7 #[] w fun e w' => e = .returned (.bool true) ∧ Below w.heap.size w w' := by
  have e1 : worthS 1500000 1000 7 = (9, 0) := by decide +kernel
  have e2 : worthS 1500000 1000 (-7) = (-13, 0) := by decide +kernel
  have e3 : nameB { data := #[73, 66, 77] } = true := by decide +kernel
  have e4 : nameB { data := #[105, 98, 109] } = false := by decide +kernel
  have HB := Lib.hid (one_alloc w (.cells #[.int .i64 1500000, .int .i64 1000] 23))
  have HX := Lib.hid (Bk.new w #[.int .i64 1500000, .int .i64 1000] 23)
  go_enter Try.func7, Try.ntmps7
  go_wp2_with (first | (go_at_call 18; refine (worth_any _ _ _ _).mono ?_; rintro e w1 ⟨rfl, hb1⟩; have HB := Lib.hid (below_next HB.out hb1); have HX := Lib.hid (Bk.keep HX.out hb1); obtain ⟨c0, c1⟩ := Bk.two HX.out; clear hb1) | (go_at_call 14; refine (name_any _ _ (by decide)).mono ?_; rintro e w1 ⟨rfl, hb1⟩; have HB := Lib.hid (below_next HB.out hb1);  clear hb1))
  go_ret
  exact ⟨rfl, HB.out⟩

set_option maxRecDepth 100000 in
theorem worths_walk (r h a m : Int) (w : World) :
    Calls Try.prog 4 #[.agg #[.int .i64 r, .int .i64 h], .int .i64 a, .int .i64 m] w fun e w' => e = .returned (.bool true) ∧ Below w.heap.size w w' := by
  have HB := Lib.hid (one_alloc w (.cells #[.int .i64 r, .int .i64 h] 23))
  have HX := Lib.hid (Bk.new w #[.int .i64 r, .int .i64 h] 23)
  go_enter Try.func4, Try.ntmps4
  go_wp2_with (first | (go_at_call 7; refine (wakes_any _).mono ?_; rintro e w1 ⟨rfl, hb1⟩; have HB := Lib.hid (below_next HB.out hb1); have HX := Lib.hid (Bk.keep HX.out hb1); obtain ⟨c0, c1⟩ := Bk.two HX.out; clear hb1) | (go_at_call 16; refine (base_any _ _ _ _ _).mono ?_; rintro e w1 ⟨rfl, hb1⟩; have HB := Lib.hid (below_next HB.out hb1); have HX := Lib.hid (Bk.keep HX.out hb1); obtain ⟨c0, c1⟩ := Bk.two HX.out; clear hb1) | (go_at_call 17; refine (rbase_any _ _ _ _ _).mono ?_; rintro e w1 ⟨rfl, hb1⟩; have HB := Lib.hid (below_next HB.out hb1); have HX := Lib.hid (Bk.keep HX.out hb1); obtain ⟨c0, c1⟩ := Bk.two HX.out; clear hb1) | (go_at_call 18; refine (worth_any _ _ _ _).mono ?_; rintro e w1 ⟨rfl, hb1⟩; have HB := Lib.hid (below_next HB.out hb1); have HX := Lib.hid (Bk.keep HX.out hb1); obtain ⟨c0, c1⟩ := Bk.two HX.out; clear hb1) | (go_at_call 19; refine (rworth_any _ _ _ _).mono ?_; rintro e w1 ⟨rfl, hb1⟩; have HB := Lib.hid (below_next HB.out hb1); have HX := Lib.hid (Bk.keep HX.out hb1); obtain ⟨c0, c1⟩ := Bk.two HX.out; clear hb1))
  go_ret
  exact ⟨rfl, HB.out⟩

set_option maxRecDepth 100000 in
set_option maxHeartbeats 2000000 in
theorem rises_walk (r h a b : Int) (w : World) :
    Calls Try.prog 5 #[.agg #[.int .i64 r, .int .i64 h], .int .i64 a, .int .i64 b] w fun e w' => e = .returned (.bool true) ∧ Below w.heap.size w w' := by
  have HB := Lib.hid (one_alloc w (.cells #[.int .i64 r, .int .i64 h] 23))
  have HX := Lib.hid (Bk.new w #[.int .i64 r, .int .i64 h] 23)
  obtain ⟨x, e, ea⟩ : ∃ x e, worthS r h a = (x, e) := ⟨_, _, rfl⟩
  obtain ⟨y, f, eb⟩ : ∃ x e, worthS r h b = (x, e) := ⟨_, _, rfl⟩
  have wa := fun w => worth_any r h a w
  rw [ea] at wa; simp only at wa
  have wb := fun w => worth_any r h b w
  rw [eb] at wb; simp only at wb
  by_cases he : e = 0
  · by_cases hf : f = 0
    · subst he hf
      have k1 : a ≤ b → x ≤ y := rises_le ea eb
      have k2 : b ≤ a → y ≤ x := rises_le eb ea
      obtain ⟨p, ep, hxp⟩ := rises_base ea
      have bp := fun w => base_any r h a 0 w
      rw [ep] at bp; simp only at bp
      obtain ⟨z, g, ez⟩ : ∃ x e, worthS r h (a + b) = (x, e) := ⟨_, _, rfl⟩
      have ws := fun w => worth_any r h (a + b) w
      rw [ez] at ws; simp only at ws
      have t3 : decide (p < x) = false := decide_eq_false (by omega)
      have ORD : ((decide (a ≤ b) && decide (y < x)) = false) ∧ ((decide (b ≤ a) && decide (x < y)) = false) := by
        constructor
        · by_cases h1 : a ≤ b
          · rw [decide_eq_false (show ¬ y < x by have := k1 h1; omega), Bool.and_false]
          · rw [decide_eq_false h1, Bool.false_and]
        · by_cases h1 : b ≤ a
          · rw [decide_eq_false (show ¬ x < y by have := k2 h1; omega), Bool.and_false]
          · rw [decide_eq_false h1, Bool.false_and]
      rcases Int.lt_trichotomy a b with hlt | heq | hgt
      · have o1 : decide (a ≤ b) = true := decide_eq_true (by omega)
        have o2 : decide (b ≤ a) = false := decide_eq_false (by omega)
        have o3 : decide (y < x) = false := decide_eq_false (by have := k1 (by omega); omega)
        clear k1 k2 ORD hlt
        by_cases ha : a < 0
        · have q1 : decide (a < 0) = true := decide_eq_true ha
          clear ha
          go_enter Try.func5, Try.ntmps5
          go_wp2_with (first | (go_at_call 7; refine (wakes_any _).mono ?_; rintro e w1 ⟨rfl, hb1⟩; have HB := Lib.hid (below_next HB.out hb1); have HX := Lib.hid (Bk.keep HX.out hb1); obtain ⟨c0, c1⟩ := Bk.two HX.out; clear hb1) | (go_at_call 18; (with_reducible refine (wa _).mono ?_); rintro e w1 ⟨rfl, hb1⟩; have HB := Lib.hid (below_next HB.out hb1); have HX := Lib.hid (Bk.keep HX.out hb1); obtain ⟨c0, c1⟩ := Bk.two HX.out; clear hb1) | (go_at_call 18; (with_reducible refine (wb _).mono ?_); rintro e w1 ⟨rfl, hb1⟩; have HB := Lib.hid (below_next HB.out hb1); have HX := Lib.hid (Bk.keep HX.out hb1); obtain ⟨c0, c1⟩ := Bk.two HX.out; clear hb1) | (go_at_call 16; (with_reducible refine (bp _).mono ?_); rintro e w1 ⟨rfl, hb1⟩; have HB := Lib.hid (below_next HB.out hb1); have HX := Lib.hid (Bk.keep HX.out hb1); obtain ⟨c0, c1⟩ := Bk.two HX.out; clear hb1) | (go_at_call 18; (with_reducible refine (ws _).mono ?_); rintro e w1 ⟨rfl, hb1⟩; have HB := Lib.hid (below_next HB.out hb1); have HX := Lib.hid (Bk.keep HX.out hb1); obtain ⟨c0, c1⟩ := Bk.two HX.out; clear hb1))
          go_ret
          exact ⟨rfl, HB.out⟩
        · have q1 : decide (a < 0) = false := decide_eq_false ha
          by_cases hb : b < 0
          · have q2 : decide (b < 0) = true := decide_eq_true hb
            clear ha hb
            go_enter Try.func5, Try.ntmps5
            go_wp2_with (first | (go_at_call 7; refine (wakes_any _).mono ?_; rintro e w1 ⟨rfl, hb1⟩; have HB := Lib.hid (below_next HB.out hb1); have HX := Lib.hid (Bk.keep HX.out hb1); obtain ⟨c0, c1⟩ := Bk.two HX.out; clear hb1) | (go_at_call 18; (with_reducible refine (wa _).mono ?_); rintro e w1 ⟨rfl, hb1⟩; have HB := Lib.hid (below_next HB.out hb1); have HX := Lib.hid (Bk.keep HX.out hb1); obtain ⟨c0, c1⟩ := Bk.two HX.out; clear hb1) | (go_at_call 18; (with_reducible refine (wb _).mono ?_); rintro e w1 ⟨rfl, hb1⟩; have HB := Lib.hid (below_next HB.out hb1); have HX := Lib.hid (Bk.keep HX.out hb1); obtain ⟨c0, c1⟩ := Bk.two HX.out; clear hb1) | (go_at_call 16; (with_reducible refine (bp _).mono ?_); rintro e w1 ⟨rfl, hb1⟩; have HB := Lib.hid (below_next HB.out hb1); have HX := Lib.hid (Bk.keep HX.out hb1); obtain ⟨c0, c1⟩ := Bk.two HX.out; clear hb1) | (go_at_call 18; (with_reducible refine (ws _).mono ?_); rintro e w1 ⟨rfl, hb1⟩; have HB := Lib.hid (below_next HB.out hb1); have HX := Lib.hid (Bk.keep HX.out hb1); obtain ⟨c0, c1⟩ := Bk.two HX.out; clear hb1))
            go_ret
            exact ⟨rfl, HB.out⟩
          · have q2 : decide (b < 0) = false := decide_eq_false hb
            have fb := fitB_true (worth_ok eb).2.1
            have fa := fitB_true (worth_ok ea).2.1
            by_cases hs : 4611686018427387904 - b < a
            · have q3 : decide (4611686018427387904 - b < a) = true := decide_eq_true hs
              clear hs
              go_enter Try.func5, Try.ntmps5
              go_wp2_with (first | (go_at_call 7; refine (wakes_any _).mono ?_; rintro e w1 ⟨rfl, hb1⟩; have HB := Lib.hid (below_next HB.out hb1); have HX := Lib.hid (Bk.keep HX.out hb1); obtain ⟨c0, c1⟩ := Bk.two HX.out; clear hb1) | (go_at_call 18; (with_reducible refine (wa _).mono ?_); rintro e w1 ⟨rfl, hb1⟩; have HB := Lib.hid (below_next HB.out hb1); have HX := Lib.hid (Bk.keep HX.out hb1); obtain ⟨c0, c1⟩ := Bk.two HX.out; clear hb1) | (go_at_call 18; (with_reducible refine (wb _).mono ?_); rintro e w1 ⟨rfl, hb1⟩; have HB := Lib.hid (below_next HB.out hb1); have HX := Lib.hid (Bk.keep HX.out hb1); obtain ⟨c0, c1⟩ := Bk.two HX.out; clear hb1) | (go_at_call 16; (with_reducible refine (bp _).mono ?_); rintro e w1 ⟨rfl, hb1⟩; have HB := Lib.hid (below_next HB.out hb1); have HX := Lib.hid (Bk.keep HX.out hb1); obtain ⟨c0, c1⟩ := Bk.two HX.out; clear hb1) | (go_at_call 18; (with_reducible refine (ws _).mono ?_); rintro e w1 ⟨rfl, hb1⟩; have HB := Lib.hid (below_next HB.out hb1); have HX := Lib.hid (Bk.keep HX.out hb1); obtain ⟨c0, c1⟩ := Bk.two HX.out; clear hb1))
              go_ret
              exact ⟨rfl, HB.out⟩
            · have q3 : decide (4611686018427387904 - b < a) = false := decide_eq_false hs
              by_cases hg : g = 0
              · subst hg
                have sx := worth_sign ea (by omega)
                have sy := worth_sign eb (by omega)
                have bz := worth_bounds ez
                have sz := rises_sum ea eb ez (by omega) (by omega)
                have q4 : decide (x + y ≤ z) = true := decide_eq_true sz
                go_enter Try.func5, Try.ntmps5
                go_wp2_with (first | (go_at_call 7; refine (wakes_any _).mono ?_; rintro e w1 ⟨rfl, hb1⟩; have HB := Lib.hid (below_next HB.out hb1); have HX := Lib.hid (Bk.keep HX.out hb1); obtain ⟨c0, c1⟩ := Bk.two HX.out; clear hb1) | (go_at_call 18; (with_reducible refine (wa _).mono ?_); rintro e w1 ⟨rfl, hb1⟩; have HB := Lib.hid (below_next HB.out hb1); have HX := Lib.hid (Bk.keep HX.out hb1); obtain ⟨c0, c1⟩ := Bk.two HX.out; clear hb1) | (go_at_call 18; (with_reducible refine (wb _).mono ?_); rintro e w1 ⟨rfl, hb1⟩; have HB := Lib.hid (below_next HB.out hb1); have HX := Lib.hid (Bk.keep HX.out hb1); obtain ⟨c0, c1⟩ := Bk.two HX.out; clear hb1) | (go_at_call 16; (with_reducible refine (bp _).mono ?_); rintro e w1 ⟨rfl, hb1⟩; have HB := Lib.hid (below_next HB.out hb1); have HX := Lib.hid (Bk.keep HX.out hb1); obtain ⟨c0, c1⟩ := Bk.two HX.out; clear hb1) | (go_at_call 18; (with_reducible refine (ws _).mono ?_); rintro e w1 ⟨rfl, hb1⟩; have HB := Lib.hid (below_next HB.out hb1); have HX := Lib.hid (Bk.keep HX.out hb1); obtain ⟨c0, c1⟩ := Bk.two HX.out; clear hb1))
                go_ret
                exact ⟨rfl, HB.out⟩
              · have q4 : (g != 0) = true := by rw [bne_iff_ne]; exact hg
                clear hg
                go_enter Try.func5, Try.ntmps5
                go_wp2_with (first | (go_at_call 7; refine (wakes_any _).mono ?_; rintro e w1 ⟨rfl, hb1⟩; have HB := Lib.hid (below_next HB.out hb1); have HX := Lib.hid (Bk.keep HX.out hb1); obtain ⟨c0, c1⟩ := Bk.two HX.out; clear hb1) | (go_at_call 18; (with_reducible refine (wa _).mono ?_); rintro e w1 ⟨rfl, hb1⟩; have HB := Lib.hid (below_next HB.out hb1); have HX := Lib.hid (Bk.keep HX.out hb1); obtain ⟨c0, c1⟩ := Bk.two HX.out; clear hb1) | (go_at_call 18; (with_reducible refine (wb _).mono ?_); rintro e w1 ⟨rfl, hb1⟩; have HB := Lib.hid (below_next HB.out hb1); have HX := Lib.hid (Bk.keep HX.out hb1); obtain ⟨c0, c1⟩ := Bk.two HX.out; clear hb1) | (go_at_call 16; (with_reducible refine (bp _).mono ?_); rintro e w1 ⟨rfl, hb1⟩; have HB := Lib.hid (below_next HB.out hb1); have HX := Lib.hid (Bk.keep HX.out hb1); obtain ⟨c0, c1⟩ := Bk.two HX.out; clear hb1) | (go_at_call 18; (with_reducible refine (ws _).mono ?_); rintro e w1 ⟨rfl, hb1⟩; have HB := Lib.hid (below_next HB.out hb1); have HX := Lib.hid (Bk.keep HX.out hb1); obtain ⟨c0, c1⟩ := Bk.two HX.out; clear hb1))
                go_ret
                exact ⟨rfl, HB.out⟩
      · have o1 : decide (a ≤ b) = true := decide_eq_true (by omega)
        have o2 : decide (b ≤ a) = true := decide_eq_true (by omega)
        have o3 : decide (y < x) = false := decide_eq_false (by have := k1 (by omega); omega)
        have o4 : decide (x < y) = false := decide_eq_false (by have := k2 (by omega); omega)
        clear k1 k2 ORD heq
        by_cases ha : a < 0
        · have q1 : decide (a < 0) = true := decide_eq_true ha
          clear ha
          go_enter Try.func5, Try.ntmps5
          go_wp2_with (first | (go_at_call 7; refine (wakes_any _).mono ?_; rintro e w1 ⟨rfl, hb1⟩; have HB := Lib.hid (below_next HB.out hb1); have HX := Lib.hid (Bk.keep HX.out hb1); obtain ⟨c0, c1⟩ := Bk.two HX.out; clear hb1) | (go_at_call 18; (with_reducible refine (wa _).mono ?_); rintro e w1 ⟨rfl, hb1⟩; have HB := Lib.hid (below_next HB.out hb1); have HX := Lib.hid (Bk.keep HX.out hb1); obtain ⟨c0, c1⟩ := Bk.two HX.out; clear hb1) | (go_at_call 18; (with_reducible refine (wb _).mono ?_); rintro e w1 ⟨rfl, hb1⟩; have HB := Lib.hid (below_next HB.out hb1); have HX := Lib.hid (Bk.keep HX.out hb1); obtain ⟨c0, c1⟩ := Bk.two HX.out; clear hb1) | (go_at_call 16; (with_reducible refine (bp _).mono ?_); rintro e w1 ⟨rfl, hb1⟩; have HB := Lib.hid (below_next HB.out hb1); have HX := Lib.hid (Bk.keep HX.out hb1); obtain ⟨c0, c1⟩ := Bk.two HX.out; clear hb1) | (go_at_call 18; (with_reducible refine (ws _).mono ?_); rintro e w1 ⟨rfl, hb1⟩; have HB := Lib.hid (below_next HB.out hb1); have HX := Lib.hid (Bk.keep HX.out hb1); obtain ⟨c0, c1⟩ := Bk.two HX.out; clear hb1))
          go_ret
          exact ⟨rfl, HB.out⟩
        · have q1 : decide (a < 0) = false := decide_eq_false ha
          by_cases hb : b < 0
          · have q2 : decide (b < 0) = true := decide_eq_true hb
            clear ha hb
            go_enter Try.func5, Try.ntmps5
            go_wp2_with (first | (go_at_call 7; refine (wakes_any _).mono ?_; rintro e w1 ⟨rfl, hb1⟩; have HB := Lib.hid (below_next HB.out hb1); have HX := Lib.hid (Bk.keep HX.out hb1); obtain ⟨c0, c1⟩ := Bk.two HX.out; clear hb1) | (go_at_call 18; (with_reducible refine (wa _).mono ?_); rintro e w1 ⟨rfl, hb1⟩; have HB := Lib.hid (below_next HB.out hb1); have HX := Lib.hid (Bk.keep HX.out hb1); obtain ⟨c0, c1⟩ := Bk.two HX.out; clear hb1) | (go_at_call 18; (with_reducible refine (wb _).mono ?_); rintro e w1 ⟨rfl, hb1⟩; have HB := Lib.hid (below_next HB.out hb1); have HX := Lib.hid (Bk.keep HX.out hb1); obtain ⟨c0, c1⟩ := Bk.two HX.out; clear hb1) | (go_at_call 16; (with_reducible refine (bp _).mono ?_); rintro e w1 ⟨rfl, hb1⟩; have HB := Lib.hid (below_next HB.out hb1); have HX := Lib.hid (Bk.keep HX.out hb1); obtain ⟨c0, c1⟩ := Bk.two HX.out; clear hb1) | (go_at_call 18; (with_reducible refine (ws _).mono ?_); rintro e w1 ⟨rfl, hb1⟩; have HB := Lib.hid (below_next HB.out hb1); have HX := Lib.hid (Bk.keep HX.out hb1); obtain ⟨c0, c1⟩ := Bk.two HX.out; clear hb1))
            go_ret
            exact ⟨rfl, HB.out⟩
          · have q2 : decide (b < 0) = false := decide_eq_false hb
            have fb := fitB_true (worth_ok eb).2.1
            have fa := fitB_true (worth_ok ea).2.1
            by_cases hs : 4611686018427387904 - b < a
            · have q3 : decide (4611686018427387904 - b < a) = true := decide_eq_true hs
              clear hs
              go_enter Try.func5, Try.ntmps5
              go_wp2_with (first | (go_at_call 7; refine (wakes_any _).mono ?_; rintro e w1 ⟨rfl, hb1⟩; have HB := Lib.hid (below_next HB.out hb1); have HX := Lib.hid (Bk.keep HX.out hb1); obtain ⟨c0, c1⟩ := Bk.two HX.out; clear hb1) | (go_at_call 18; (with_reducible refine (wa _).mono ?_); rintro e w1 ⟨rfl, hb1⟩; have HB := Lib.hid (below_next HB.out hb1); have HX := Lib.hid (Bk.keep HX.out hb1); obtain ⟨c0, c1⟩ := Bk.two HX.out; clear hb1) | (go_at_call 18; (with_reducible refine (wb _).mono ?_); rintro e w1 ⟨rfl, hb1⟩; have HB := Lib.hid (below_next HB.out hb1); have HX := Lib.hid (Bk.keep HX.out hb1); obtain ⟨c0, c1⟩ := Bk.two HX.out; clear hb1) | (go_at_call 16; (with_reducible refine (bp _).mono ?_); rintro e w1 ⟨rfl, hb1⟩; have HB := Lib.hid (below_next HB.out hb1); have HX := Lib.hid (Bk.keep HX.out hb1); obtain ⟨c0, c1⟩ := Bk.two HX.out; clear hb1) | (go_at_call 18; (with_reducible refine (ws _).mono ?_); rintro e w1 ⟨rfl, hb1⟩; have HB := Lib.hid (below_next HB.out hb1); have HX := Lib.hid (Bk.keep HX.out hb1); obtain ⟨c0, c1⟩ := Bk.two HX.out; clear hb1))
              go_ret
              exact ⟨rfl, HB.out⟩
            · have q3 : decide (4611686018427387904 - b < a) = false := decide_eq_false hs
              by_cases hg : g = 0
              · subst hg
                have sx := worth_sign ea (by omega)
                have sy := worth_sign eb (by omega)
                have bz := worth_bounds ez
                have sz := rises_sum ea eb ez (by omega) (by omega)
                have q4 : decide (x + y ≤ z) = true := decide_eq_true sz
                go_enter Try.func5, Try.ntmps5
                go_wp2_with (first | (go_at_call 7; refine (wakes_any _).mono ?_; rintro e w1 ⟨rfl, hb1⟩; have HB := Lib.hid (below_next HB.out hb1); have HX := Lib.hid (Bk.keep HX.out hb1); obtain ⟨c0, c1⟩ := Bk.two HX.out; clear hb1) | (go_at_call 18; (with_reducible refine (wa _).mono ?_); rintro e w1 ⟨rfl, hb1⟩; have HB := Lib.hid (below_next HB.out hb1); have HX := Lib.hid (Bk.keep HX.out hb1); obtain ⟨c0, c1⟩ := Bk.two HX.out; clear hb1) | (go_at_call 18; (with_reducible refine (wb _).mono ?_); rintro e w1 ⟨rfl, hb1⟩; have HB := Lib.hid (below_next HB.out hb1); have HX := Lib.hid (Bk.keep HX.out hb1); obtain ⟨c0, c1⟩ := Bk.two HX.out; clear hb1) | (go_at_call 16; (with_reducible refine (bp _).mono ?_); rintro e w1 ⟨rfl, hb1⟩; have HB := Lib.hid (below_next HB.out hb1); have HX := Lib.hid (Bk.keep HX.out hb1); obtain ⟨c0, c1⟩ := Bk.two HX.out; clear hb1) | (go_at_call 18; (with_reducible refine (ws _).mono ?_); rintro e w1 ⟨rfl, hb1⟩; have HB := Lib.hid (below_next HB.out hb1); have HX := Lib.hid (Bk.keep HX.out hb1); obtain ⟨c0, c1⟩ := Bk.two HX.out; clear hb1))
                go_ret
                exact ⟨rfl, HB.out⟩
              · have q4 : (g != 0) = true := by rw [bne_iff_ne]; exact hg
                clear hg
                go_enter Try.func5, Try.ntmps5
                go_wp2_with (first | (go_at_call 7; refine (wakes_any _).mono ?_; rintro e w1 ⟨rfl, hb1⟩; have HB := Lib.hid (below_next HB.out hb1); have HX := Lib.hid (Bk.keep HX.out hb1); obtain ⟨c0, c1⟩ := Bk.two HX.out; clear hb1) | (go_at_call 18; (with_reducible refine (wa _).mono ?_); rintro e w1 ⟨rfl, hb1⟩; have HB := Lib.hid (below_next HB.out hb1); have HX := Lib.hid (Bk.keep HX.out hb1); obtain ⟨c0, c1⟩ := Bk.two HX.out; clear hb1) | (go_at_call 18; (with_reducible refine (wb _).mono ?_); rintro e w1 ⟨rfl, hb1⟩; have HB := Lib.hid (below_next HB.out hb1); have HX := Lib.hid (Bk.keep HX.out hb1); obtain ⟨c0, c1⟩ := Bk.two HX.out; clear hb1) | (go_at_call 16; (with_reducible refine (bp _).mono ?_); rintro e w1 ⟨rfl, hb1⟩; have HB := Lib.hid (below_next HB.out hb1); have HX := Lib.hid (Bk.keep HX.out hb1); obtain ⟨c0, c1⟩ := Bk.two HX.out; clear hb1) | (go_at_call 18; (with_reducible refine (ws _).mono ?_); rintro e w1 ⟨rfl, hb1⟩; have HB := Lib.hid (below_next HB.out hb1); have HX := Lib.hid (Bk.keep HX.out hb1); obtain ⟨c0, c1⟩ := Bk.two HX.out; clear hb1))
                go_ret
                exact ⟨rfl, HB.out⟩
      · have o1 : decide (a ≤ b) = false := decide_eq_false (by omega)
        have o2 : decide (b ≤ a) = true := decide_eq_true (by omega)
        have o4 : decide (x < y) = false := decide_eq_false (by have := k2 (by omega); omega)
        clear k1 k2 ORD hgt
        by_cases ha : a < 0
        · have q1 : decide (a < 0) = true := decide_eq_true ha
          clear ha
          go_enter Try.func5, Try.ntmps5
          go_wp2_with (first | (go_at_call 7; refine (wakes_any _).mono ?_; rintro e w1 ⟨rfl, hb1⟩; have HB := Lib.hid (below_next HB.out hb1); have HX := Lib.hid (Bk.keep HX.out hb1); obtain ⟨c0, c1⟩ := Bk.two HX.out; clear hb1) | (go_at_call 18; (with_reducible refine (wa _).mono ?_); rintro e w1 ⟨rfl, hb1⟩; have HB := Lib.hid (below_next HB.out hb1); have HX := Lib.hid (Bk.keep HX.out hb1); obtain ⟨c0, c1⟩ := Bk.two HX.out; clear hb1) | (go_at_call 18; (with_reducible refine (wb _).mono ?_); rintro e w1 ⟨rfl, hb1⟩; have HB := Lib.hid (below_next HB.out hb1); have HX := Lib.hid (Bk.keep HX.out hb1); obtain ⟨c0, c1⟩ := Bk.two HX.out; clear hb1) | (go_at_call 16; (with_reducible refine (bp _).mono ?_); rintro e w1 ⟨rfl, hb1⟩; have HB := Lib.hid (below_next HB.out hb1); have HX := Lib.hid (Bk.keep HX.out hb1); obtain ⟨c0, c1⟩ := Bk.two HX.out; clear hb1) | (go_at_call 18; (with_reducible refine (ws _).mono ?_); rintro e w1 ⟨rfl, hb1⟩; have HB := Lib.hid (below_next HB.out hb1); have HX := Lib.hid (Bk.keep HX.out hb1); obtain ⟨c0, c1⟩ := Bk.two HX.out; clear hb1))
          go_ret
          exact ⟨rfl, HB.out⟩
        · have q1 : decide (a < 0) = false := decide_eq_false ha
          by_cases hb : b < 0
          · have q2 : decide (b < 0) = true := decide_eq_true hb
            clear ha hb
            go_enter Try.func5, Try.ntmps5
            go_wp2_with (first | (go_at_call 7; refine (wakes_any _).mono ?_; rintro e w1 ⟨rfl, hb1⟩; have HB := Lib.hid (below_next HB.out hb1); have HX := Lib.hid (Bk.keep HX.out hb1); obtain ⟨c0, c1⟩ := Bk.two HX.out; clear hb1) | (go_at_call 18; (with_reducible refine (wa _).mono ?_); rintro e w1 ⟨rfl, hb1⟩; have HB := Lib.hid (below_next HB.out hb1); have HX := Lib.hid (Bk.keep HX.out hb1); obtain ⟨c0, c1⟩ := Bk.two HX.out; clear hb1) | (go_at_call 18; (with_reducible refine (wb _).mono ?_); rintro e w1 ⟨rfl, hb1⟩; have HB := Lib.hid (below_next HB.out hb1); have HX := Lib.hid (Bk.keep HX.out hb1); obtain ⟨c0, c1⟩ := Bk.two HX.out; clear hb1) | (go_at_call 16; (with_reducible refine (bp _).mono ?_); rintro e w1 ⟨rfl, hb1⟩; have HB := Lib.hid (below_next HB.out hb1); have HX := Lib.hid (Bk.keep HX.out hb1); obtain ⟨c0, c1⟩ := Bk.two HX.out; clear hb1) | (go_at_call 18; (with_reducible refine (ws _).mono ?_); rintro e w1 ⟨rfl, hb1⟩; have HB := Lib.hid (below_next HB.out hb1); have HX := Lib.hid (Bk.keep HX.out hb1); obtain ⟨c0, c1⟩ := Bk.two HX.out; clear hb1))
            go_ret
            exact ⟨rfl, HB.out⟩
          · have q2 : decide (b < 0) = false := decide_eq_false hb
            have fb := fitB_true (worth_ok eb).2.1
            have fa := fitB_true (worth_ok ea).2.1
            by_cases hs : 4611686018427387904 - b < a
            · have q3 : decide (4611686018427387904 - b < a) = true := decide_eq_true hs
              clear hs
              go_enter Try.func5, Try.ntmps5
              go_wp2_with (first | (go_at_call 7; refine (wakes_any _).mono ?_; rintro e w1 ⟨rfl, hb1⟩; have HB := Lib.hid (below_next HB.out hb1); have HX := Lib.hid (Bk.keep HX.out hb1); obtain ⟨c0, c1⟩ := Bk.two HX.out; clear hb1) | (go_at_call 18; (with_reducible refine (wa _).mono ?_); rintro e w1 ⟨rfl, hb1⟩; have HB := Lib.hid (below_next HB.out hb1); have HX := Lib.hid (Bk.keep HX.out hb1); obtain ⟨c0, c1⟩ := Bk.two HX.out; clear hb1) | (go_at_call 18; (with_reducible refine (wb _).mono ?_); rintro e w1 ⟨rfl, hb1⟩; have HB := Lib.hid (below_next HB.out hb1); have HX := Lib.hid (Bk.keep HX.out hb1); obtain ⟨c0, c1⟩ := Bk.two HX.out; clear hb1) | (go_at_call 16; (with_reducible refine (bp _).mono ?_); rintro e w1 ⟨rfl, hb1⟩; have HB := Lib.hid (below_next HB.out hb1); have HX := Lib.hid (Bk.keep HX.out hb1); obtain ⟨c0, c1⟩ := Bk.two HX.out; clear hb1) | (go_at_call 18; (with_reducible refine (ws _).mono ?_); rintro e w1 ⟨rfl, hb1⟩; have HB := Lib.hid (below_next HB.out hb1); have HX := Lib.hid (Bk.keep HX.out hb1); obtain ⟨c0, c1⟩ := Bk.two HX.out; clear hb1))
              go_ret
              exact ⟨rfl, HB.out⟩
            · have q3 : decide (4611686018427387904 - b < a) = false := decide_eq_false hs
              by_cases hg : g = 0
              · subst hg
                have sx := worth_sign ea (by omega)
                have sy := worth_sign eb (by omega)
                have bz := worth_bounds ez
                have sz := rises_sum ea eb ez (by omega) (by omega)
                have q4 : decide (x + y ≤ z) = true := decide_eq_true sz
                go_enter Try.func5, Try.ntmps5
                go_wp2_with (first | (go_at_call 7; refine (wakes_any _).mono ?_; rintro e w1 ⟨rfl, hb1⟩; have HB := Lib.hid (below_next HB.out hb1); have HX := Lib.hid (Bk.keep HX.out hb1); obtain ⟨c0, c1⟩ := Bk.two HX.out; clear hb1) | (go_at_call 18; (with_reducible refine (wa _).mono ?_); rintro e w1 ⟨rfl, hb1⟩; have HB := Lib.hid (below_next HB.out hb1); have HX := Lib.hid (Bk.keep HX.out hb1); obtain ⟨c0, c1⟩ := Bk.two HX.out; clear hb1) | (go_at_call 18; (with_reducible refine (wb _).mono ?_); rintro e w1 ⟨rfl, hb1⟩; have HB := Lib.hid (below_next HB.out hb1); have HX := Lib.hid (Bk.keep HX.out hb1); obtain ⟨c0, c1⟩ := Bk.two HX.out; clear hb1) | (go_at_call 16; (with_reducible refine (bp _).mono ?_); rintro e w1 ⟨rfl, hb1⟩; have HB := Lib.hid (below_next HB.out hb1); have HX := Lib.hid (Bk.keep HX.out hb1); obtain ⟨c0, c1⟩ := Bk.two HX.out; clear hb1) | (go_at_call 18; (with_reducible refine (ws _).mono ?_); rintro e w1 ⟨rfl, hb1⟩; have HB := Lib.hid (below_next HB.out hb1); have HX := Lib.hid (Bk.keep HX.out hb1); obtain ⟨c0, c1⟩ := Bk.two HX.out; clear hb1))
                go_ret
                exact ⟨rfl, HB.out⟩
              · have q4 : (g != 0) = true := by rw [bne_iff_ne]; exact hg
                clear hg
                go_enter Try.func5, Try.ntmps5
                go_wp2_with (first | (go_at_call 7; refine (wakes_any _).mono ?_; rintro e w1 ⟨rfl, hb1⟩; have HB := Lib.hid (below_next HB.out hb1); have HX := Lib.hid (Bk.keep HX.out hb1); obtain ⟨c0, c1⟩ := Bk.two HX.out; clear hb1) | (go_at_call 18; (with_reducible refine (wa _).mono ?_); rintro e w1 ⟨rfl, hb1⟩; have HB := Lib.hid (below_next HB.out hb1); have HX := Lib.hid (Bk.keep HX.out hb1); obtain ⟨c0, c1⟩ := Bk.two HX.out; clear hb1) | (go_at_call 18; (with_reducible refine (wb _).mono ?_); rintro e w1 ⟨rfl, hb1⟩; have HB := Lib.hid (below_next HB.out hb1); have HX := Lib.hid (Bk.keep HX.out hb1); obtain ⟨c0, c1⟩ := Bk.two HX.out; clear hb1) | (go_at_call 16; (with_reducible refine (bp _).mono ?_); rintro e w1 ⟨rfl, hb1⟩; have HB := Lib.hid (below_next HB.out hb1); have HX := Lib.hid (Bk.keep HX.out hb1); obtain ⟨c0, c1⟩ := Bk.two HX.out; clear hb1) | (go_at_call 18; (with_reducible refine (ws _).mono ?_); rintro e w1 ⟨rfl, hb1⟩; have HB := Lib.hid (below_next HB.out hb1); have HX := Lib.hid (Bk.keep HX.out hb1); obtain ⟨c0, c1⟩ := Bk.two HX.out; clear hb1))
                go_ret
                exact ⟨rfl, HB.out⟩
    · have t2 : (f != 0) = true := by rw [bne_iff_ne]; exact hf
      subst he
      clear hf
      go_enter Try.func5, Try.ntmps5
      go_wp2_with (first | (go_at_call 7; refine (wakes_any _).mono ?_; rintro e w1 ⟨rfl, hb1⟩; have HB := Lib.hid (below_next HB.out hb1); have HX := Lib.hid (Bk.keep HX.out hb1); obtain ⟨c0, c1⟩ := Bk.two HX.out; clear hb1) | (go_at_call 18; (with_reducible refine (wa _).mono ?_); rintro e w1 ⟨rfl, hb1⟩; have HB := Lib.hid (below_next HB.out hb1); have HX := Lib.hid (Bk.keep HX.out hb1); obtain ⟨c0, c1⟩ := Bk.two HX.out; clear hb1) | (go_at_call 18; (with_reducible refine (wb _).mono ?_); rintro e w1 ⟨rfl, hb1⟩; have HB := Lib.hid (below_next HB.out hb1); have HX := Lib.hid (Bk.keep HX.out hb1); obtain ⟨c0, c1⟩ := Bk.two HX.out; clear hb1))
      go_ret
      exact ⟨rfl, HB.out⟩
  · have t1 : (e != 0) = true := by rw [bne_iff_ne]; exact he
    clear he
    go_enter Try.func5, Try.ntmps5
    go_wp2_with (first | (go_at_call 7; refine (wakes_any _).mono ?_; rintro e w1 ⟨rfl, hb1⟩; have HB := Lib.hid (below_next HB.out hb1); have HX := Lib.hid (Bk.keep HX.out hb1); obtain ⟨c0, c1⟩ := Bk.two HX.out; clear hb1) | (go_at_call 18; (with_reducible refine (wa _).mono ?_); rintro e w1 ⟨rfl, hb1⟩; have HB := Lib.hid (below_next HB.out hb1); have HX := Lib.hid (Bk.keep HX.out hb1); obtain ⟨c0, c1⟩ := Bk.two HX.out; clear hb1) | (go_at_call 18; (with_reducible refine (wb _).mono ?_); rintro e w1 ⟨rfl, hb1⟩; have HB := Lib.hid (below_next HB.out hb1); have HX := Lib.hid (Bk.keep HX.out hb1); obtain ⟨c0, c1⟩ := Bk.two HX.out; clear hb1))
    go_ret
    exact ⟨rfl, HB.out⟩

end Go.Proofs.Ytklmknbbdhngbaa.Rd

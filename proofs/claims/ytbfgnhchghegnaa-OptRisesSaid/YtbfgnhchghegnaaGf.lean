/-
  Layer 11's law OptRises: it returns true, for all arguments.
-/
import Derived.Test.YtbfgnhchghegnaaGe
import Derived.Deep.LoopGhost
namespace Go.Proofs.Ytbfgnhchghegnaa.Ot
open Go.RowKit Go.Joins
open Go.Proofs.Ytbfgnhchghegnaa.Fx Ao
set_option linter.unusedVariables false
set_option linter.unusedSimpArgs false

theorem rises_facts {call : Bool} {k p v n a : Int} (ea : optS call k p v n = (a, 0)) {mp mv mn : Int} (hp : 0 ≤ mp) (hv : 0 ≤ mv) (hn : 0 ≤ mn) :
    ∃ I b1 f1 b2 f2 b3 f3, optS call k p v 0 = (I, 0) ∧ optS call k (p + mp) v n = (b1, f1) ∧ optS call k p (v + mv) n = (b2, f2) ∧ optS call k p v (max n 0 + mn) = (b3, f3) ∧ I ≤ a ∧ (n ≤ 0 → a = I) ∧
      (f1 = 0 → if call then a ≤ b1 else b1 ≤ a) ∧ (f2 = 0 → a ≤ b2) ∧ (f3 = 0 → a ≤ b3) := by
  obtain ⟨h1, h2, h3⟩ := opt_inner ea
  obtain ⟨b1, f1, e1⟩ : ∃ x e, optS call k (p + mp) v n = (x, e) := ⟨_, _, rfl⟩
  obtain ⟨b2, f2, e2⟩ : ∃ x e, optS call k p (v + mv) n = (x, e) := ⟨_, _, rfl⟩
  obtain ⟨b3, f3, e3⟩ : ∃ x e, optS call k p v (max n 0 + mn) = (x, e) := ⟨_, _, rfl⟩
  refine ⟨_, b1, f1, b2, f2, b3, f3, h1, e1, e2, e3, h2, h3, fun h => ?_, fun h => ?_, fun h => ?_⟩ <;> subst h
  · obtain ⟨q1, q2⟩ := opt_price ea e1 hp
    cases call
    · exact q2 rfl
    · exact q1 rfl
  · exact opt_more ea e2 (by omega) (Int.le_refl _)
  · exact opt_more ea e3 (Int.le_refl _) (by omega)
set_option maxRecDepth 100000 in
set_option maxHeartbeats 8000000 in
theorem rises_early (k p v n mk mp mv mn : Int) (w : World) (hh : mp < 0 ∨ mv < 0 ∨ mn < 0 ∨ 100000000000000 < mp ∨ 100000000000000 < mv ∨ 100000 < mn ∨ 100000 < n) :
    Calls Try.prog 5 #[.agg #[.int .i64 k, .int .i64 p, .int .i64 v, .int .i64 n], .agg #[.int .i64 mk, .int .i64 mp, .int .i64 mv, .int .i64 mn]] w fun e w' => e = .returned (.bool true) ∧ Below w.heap.size w w' := by
  obtain ⟨w0, hw0⟩ : ∃ w0, w0 = (w.alloc (.cells (ofC k p v n) 23)).alloc (.cells (ofC mk mp mv mn) 23) := ⟨_, rfl⟩
  have HB := Lib.hid (below_two w (.cells (ofC k p v n) 23) (.cells (ofC mk mp mv mn) 23))
  have HX := Lib.hid ((Bk.new w (ofC k p v n) 23).more (.cells (ofC mk mp mv mn) 23))
  have HY := Lib.hid (show Bk ((w.alloc (.cells (ofC k p v n) 23)).alloc (.cells (ofC mk mp mv mn) 23)) (w.heap.size + 1) (ofC mk mp mv mn) 23 by
    have := Bk.new (w.alloc (.cells (ofC k p v n) 23)) (ofC mk mp mv mn) 23
    rwa [show (w.alloc (.cells (ofC k p v n) 23)).heap.size = w.heap.size + 1 by simp] at this)
  clear hw0 w0
  by_cases g1 : mp < 0
  · clear hh
    have d0 : decide (mp < 0) = true := decide_eq_true g1
    go_enter Try.func5, Try.ntmps5
    go_wp2_with (first | (go_at_call 7; refine (wakes_any _).mono ?_; rintro e w1 ⟨rfl, hb1⟩; have HB := Lib.hid (below_next HB.out hb1); have HX := Lib.hid (Bk.keep HX.out hb1); have HY := Lib.hid (Bk.keep HY.out hb1); obtain ⟨c0, c1, c2, c3⟩ := Bk.four HX.out; obtain ⟨y0, y1, y2, y3⟩ := Bk.four HY.out; clear hb1))
    go_ret
    exact ⟨rfl, HB.out⟩
  have d0 : decide (mp < 0) = false := decide_eq_false g1
  by_cases g2 : mv < 0
  · clear hh
    have d1 : decide (mv < 0) = true := decide_eq_true g2
    go_enter Try.func5, Try.ntmps5
    go_wp2_with (first | (go_at_call 7; refine (wakes_any _).mono ?_; rintro e w1 ⟨rfl, hb1⟩; have HB := Lib.hid (below_next HB.out hb1); have HX := Lib.hid (Bk.keep HX.out hb1); have HY := Lib.hid (Bk.keep HY.out hb1); obtain ⟨c0, c1, c2, c3⟩ := Bk.four HX.out; obtain ⟨y0, y1, y2, y3⟩ := Bk.four HY.out; clear hb1))
    go_ret
    exact ⟨rfl, HB.out⟩
  have d1 : decide (mv < 0) = false := decide_eq_false g2
  by_cases g3 : mn < 0
  · clear hh
    have d2 : decide (mn < 0) = true := decide_eq_true g3
    go_enter Try.func5, Try.ntmps5
    go_wp2_with (first | (go_at_call 7; refine (wakes_any _).mono ?_; rintro e w1 ⟨rfl, hb1⟩; have HB := Lib.hid (below_next HB.out hb1); have HX := Lib.hid (Bk.keep HX.out hb1); have HY := Lib.hid (Bk.keep HY.out hb1); obtain ⟨c0, c1, c2, c3⟩ := Bk.four HX.out; obtain ⟨y0, y1, y2, y3⟩ := Bk.four HY.out; clear hb1))
    go_ret
    exact ⟨rfl, HB.out⟩
  have d2 : decide (mn < 0) = false := decide_eq_false g3
  by_cases g4 : 100000000000000 < mp
  · clear hh
    have d3 : decide (100000000000000 < mp) = true := decide_eq_true g4
    go_enter Try.func5, Try.ntmps5
    go_wp2_with (first | (go_at_call 7; refine (wakes_any _).mono ?_; rintro e w1 ⟨rfl, hb1⟩; have HB := Lib.hid (below_next HB.out hb1); have HX := Lib.hid (Bk.keep HX.out hb1); have HY := Lib.hid (Bk.keep HY.out hb1); obtain ⟨c0, c1, c2, c3⟩ := Bk.four HX.out; obtain ⟨y0, y1, y2, y3⟩ := Bk.four HY.out; clear hb1))
    go_ret
    exact ⟨rfl, HB.out⟩
  have d3 : decide (100000000000000 < mp) = false := decide_eq_false g4
  by_cases g5 : 100000000000000 < mv
  · clear hh
    have d4 : decide (100000000000000 < mv) = true := decide_eq_true g5
    go_enter Try.func5, Try.ntmps5
    go_wp2_with (first | (go_at_call 7; refine (wakes_any _).mono ?_; rintro e w1 ⟨rfl, hb1⟩; have HB := Lib.hid (below_next HB.out hb1); have HX := Lib.hid (Bk.keep HX.out hb1); have HY := Lib.hid (Bk.keep HY.out hb1); obtain ⟨c0, c1, c2, c3⟩ := Bk.four HX.out; obtain ⟨y0, y1, y2, y3⟩ := Bk.four HY.out; clear hb1))
    go_ret
    exact ⟨rfl, HB.out⟩
  have d4 : decide (100000000000000 < mv) = false := decide_eq_false g5
  by_cases g6 : 100000 < mn
  · clear hh
    have d5 : decide (100000 < mn) = true := decide_eq_true g6
    go_enter Try.func5, Try.ntmps5
    go_wp2_with (first | (go_at_call 7; refine (wakes_any _).mono ?_; rintro e w1 ⟨rfl, hb1⟩; have HB := Lib.hid (below_next HB.out hb1); have HX := Lib.hid (Bk.keep HX.out hb1); have HY := Lib.hid (Bk.keep HY.out hb1); obtain ⟨c0, c1, c2, c3⟩ := Bk.four HX.out; obtain ⟨y0, y1, y2, y3⟩ := Bk.four HY.out; clear hb1))
    go_ret
    exact ⟨rfl, HB.out⟩
  have d5 : decide (100000 < mn) = false := decide_eq_false g6
  have g7 : 100000 < n := by omega
  have d6 : decide (100000 < n) = true := decide_eq_true g7
  clear hh
  go_enter Try.func5, Try.ntmps5
  go_wp2_with (first | (go_at_call 7; refine (wakes_any _).mono ?_; rintro e w1 ⟨rfl, hb1⟩; have HB := Lib.hid (below_next HB.out hb1); have HX := Lib.hid (Bk.keep HX.out hb1); have HY := Lib.hid (Bk.keep HY.out hb1); obtain ⟨c0, c1, c2, c3⟩ := Bk.four HX.out; obtain ⟨y0, y1, y2, y3⟩ := Bk.four HY.out; clear hb1))
  go_ret
  exact ⟨rfl, HB.out⟩
set_option maxRecDepth 100000 in
set_option maxHeartbeats 8000000 in
theorem rises_walk (k p v n mk mp mv mn : Int) (w : World)  :
    Calls Try.prog 5 #[.agg #[.int .i64 k, .int .i64 p, .int .i64 v, .int .i64 n], .agg #[.int .i64 mk, .int .i64 mp, .int .i64 mv, .int .i64 mn]] w fun e w' => e = .returned (.bool true) ∧ Below w.heap.size w w' := by
  obtain ⟨w0, hw0⟩ : ∃ w0, w0 = (w.alloc (.cells (ofC k p v n) 23)).alloc (.cells (ofC mk mp mv mn) 23) := ⟨_, rfl⟩
  have HB := Lib.hid (below_two w (.cells (ofC k p v n) 23) (.cells (ofC mk mp mv mn) 23))
  have HX := Lib.hid ((Bk.new w (ofC k p v n) 23).more (.cells (ofC mk mp mv mn) 23))
  have HY := Lib.hid (show Bk ((w.alloc (.cells (ofC k p v n) 23)).alloc (.cells (ofC mk mp mv mn) 23)) (w.heap.size + 1) (ofC mk mp mv mn) 23 by
    have := Bk.new (w.alloc (.cells (ofC k p v n) 23)) (ofC mk mp mv mn) 23
    rwa [show (w.alloc (.cells (ofC k p v n) 23)).heap.size = w.heap.size + 1 by simp] at this)
  clear hw0 w0
  by_cases hh : mp < 0 ∨ mv < 0 ∨ mn < 0 ∨ 100000000000000 < mp ∨ 100000000000000 < mv ∨ 100000 < mn ∨ 100000 < n
  · exact rises_early k p v n mk mp mv mn w hh
  have d0 : decide (mp < 0) = false := decide_eq_false (by omega)
  have d1 : decide (mv < 0) = false := decide_eq_false (by omega)
  have d2 : decide (mn < 0) = false := decide_eq_false (by omega)
  have d3 : decide (100000000000000 < mp) = false := decide_eq_false (by omega)
  have d4 : decide (100000000000000 < mv) = false := decide_eq_false (by omega)
  have d5 : decide (100000 < mn) = false := decide_eq_false (by omega)
  have d6 : decide (100000 < n) = false := decide_eq_false (by omega)
  have bmp : 0 ≤ mp ∧ mp ≤ 100000000000000 := by omega
  have bmv : 0 ≤ mv ∧ mv ≤ 100000000000000 := by omega
  have bmn : 0 ≤ mn ∧ mn ≤ 100000 := by omega
  have bn : n ≤ 100000 := by omega
  clear hh
  go_enter Try.func5, Try.ntmps5
  go_wp2_with (first | (go_at_call 7; refine (wakes_any _).mono ?_; rintro e w1 ⟨rfl, hb1⟩; have HB := Lib.hid (below_next HB.out hb1); have HX := Lib.hid (Bk.keep HX.out hb1); have HY := Lib.hid (Bk.keep HY.out hb1); obtain ⟨c0, c1, c2, c3⟩ := Bk.four HX.out; obtain ⟨y0, y1, y2, y3⟩ := Bk.four HY.out; clear hb1))
  go_loopg [5] 2 (fun m i wr => ∃ q : Nat, q + m = 2 ∧ i = .int .i64 (q : Int) ∧ Hid (Below w.heap.size w wr) ∧ Hid (Bk wr w.heap.size (ofC k p v n) 23) ∧ Hid (Bk wr (w.heap.size + 1) (ofC mk mp mv mn) 23))
  case atStart => exact ⟨0, by omega, rfl, HB, HX, HY⟩
  case round =>
    clear c0 c1 c2 c3 y0 y1 y2 y3 HB HX HY
    obtain ⟨q, hq, rfl, HB, HX, HY⟩ := hrel
    obtain ⟨c0, c1, c2, c3⟩ := Bk.four HX.out; obtain ⟨y0, y1, y2, y3⟩ := Bk.four HY.out
    by_cases hlt : q < 2
    · have i0 : (q : Int) < 2 := by omega
      obtain ⟨call, hcall⟩ : ∃ call, ((q : Int) == 0) = call := ⟨_, rfl⟩
      obtain ⟨a, e, ea⟩ : ∃ x e, optS call k p v n = (x, e) := ⟨_, _, rfl⟩
      have va := fun w => value_any call k p v n w
      rw [ea] at va; simp only at va
      by_cases he : e = 0
      · subst he
        obtain ⟨hk, hp, hv, -, -⟩ := opt_ok ea
        have bk := mkB_iff.1 hk; have bp := mkB_iff.1 hp; have bv := mkB_iff.1 hv
        clear hk hp hv
        have ra := opt_range ea
        obtain ⟨I, b1, f1, b2, f2, b3, f3, ei, e1, e2, e3, l1, l2, l3, l4, l5⟩ := rises_facts ea bmp.1 bmv.1 bmn.1
        have vi := fun w => value_any call k p v 0 w
        have v1 := fun w => value_any call k (p + mp) v n w
        have v2 := fun w => value_any call k p (v + mv) n w
        have v3 := fun w => value_any call k p v (max n 0 + mn) w
        rw [ei] at vi; rw [e1] at v1; rw [e2] at v2; rw [e3] at v3
        simp only at vi v1 v2 v3
        clear ea ei e1 e2 e3
        have t1 : decide (a < I) = false := decide_eq_false (by omega)
        have k2 : f2 = 0 → decide (b2 < a) = false := fun h => decide_eq_false (by have := l4 h; omega)
        have k3 : f3 = 0 → decide (b3 < a) = false := fun h => decide_eq_false (by have := l5 h; omega)
        clear l1 l4 l5
        cases call
        · have k1 : f1 = 0 → decide (a < b1) = false := fun h => decide_eq_false (by have := l3 h; simp at this; omega)
          clear l3
          rcases Int.lt_trichotomy n 0 with hn | hn | hn
          · have t2 : decide (n ≤ 0) = true := decide_eq_true (by omega)
            have t3 : (a != I) = false := bne_eq_false_iff_eq.2 (l2 (by omega))
            rw [show max n 0 = 0 by omega, Int.zero_add] at v3
            clear l2
            as_aux_lemma =>
              go_wp2_with (first | (go_at_call 8; with_reducible refine (va _).mono ?_; rintro e w1 ⟨rfl, hb1⟩; have HB := Lib.hid (below_next HB.out hb1); have HX := Lib.hid (Bk.keep HX.out hb1); have HY := Lib.hid (Bk.keep HY.out hb1); obtain ⟨c0, c1, c2, c3⟩ := Bk.four HX.out; obtain ⟨y0, y1, y2, y3⟩ := Bk.four HY.out; clear hb1) | (go_at_call 8; with_reducible refine (vi _).mono ?_; rintro e w1 ⟨rfl, hb1⟩; have HB := Lib.hid (below_next HB.out hb1); have HX := Lib.hid (Bk.keep HX.out hb1); have HY := Lib.hid (Bk.keep HY.out hb1); obtain ⟨c0, c1, c2, c3⟩ := Bk.four HX.out; obtain ⟨y0, y1, y2, y3⟩ := Bk.four HY.out; clear hb1) | (go_at_call 8; with_reducible refine (v1 _).mono ?_; rintro e w1 ⟨rfl, hb1⟩; have HB := Lib.hid (below_next HB.out hb1); have HX := Lib.hid (Bk.keep HX.out hb1); have HY := Lib.hid (Bk.keep HY.out hb1); obtain ⟨c0, c1, c2, c3⟩ := Bk.four HX.out; obtain ⟨y0, y1, y2, y3⟩ := Bk.four HY.out; clear hb1) | (go_at_call 8; with_reducible refine (v2 _).mono ?_; rintro e w1 ⟨rfl, hb1⟩; have HB := Lib.hid (below_next HB.out hb1); have HX := Lib.hid (Bk.keep HX.out hb1); have HY := Lib.hid (Bk.keep HY.out hb1); obtain ⟨c0, c1, c2, c3⟩ := Bk.four HX.out; obtain ⟨y0, y1, y2, y3⟩ := Bk.four HY.out; clear hb1) | (go_at_call 8; with_reducible refine (v3 _).mono ?_; rintro e w1 ⟨rfl, hb1⟩; have HB := Lib.hid (below_next HB.out hb1); have HX := Lib.hid (Bk.keep HX.out hb1); have HY := Lib.hid (Bk.keep HY.out hb1); obtain ⟨c0, c1, c2, c3⟩ := Bk.four HX.out; obtain ⟨y0, y1, y2, y3⟩ := Bk.four HY.out; clear hb1))
              all_goals
                go_roundg (2 - (q + 1))
                case measure => omega
                case rel => exact ⟨q + 1, by omega, by go_num, HB, HX, HY⟩
          · have t2 : decide (n ≤ 0) = true := decide_eq_true (by omega)
            have t3 : (a != I) = false := bne_eq_false_iff_eq.2 (l2 (by omega))
            rw [show max n 0 = n by omega] at v3
            have hn0 : 0 ≤ n := by omega
            clear hn
            clear l2
            as_aux_lemma =>
              go_wp2_with (first | (go_at_call 8; with_reducible refine (va _).mono ?_; rintro e w1 ⟨rfl, hb1⟩; have HB := Lib.hid (below_next HB.out hb1); have HX := Lib.hid (Bk.keep HX.out hb1); have HY := Lib.hid (Bk.keep HY.out hb1); obtain ⟨c0, c1, c2, c3⟩ := Bk.four HX.out; obtain ⟨y0, y1, y2, y3⟩ := Bk.four HY.out; clear hb1) | (go_at_call 8; with_reducible refine (vi _).mono ?_; rintro e w1 ⟨rfl, hb1⟩; have HB := Lib.hid (below_next HB.out hb1); have HX := Lib.hid (Bk.keep HX.out hb1); have HY := Lib.hid (Bk.keep HY.out hb1); obtain ⟨c0, c1, c2, c3⟩ := Bk.four HX.out; obtain ⟨y0, y1, y2, y3⟩ := Bk.four HY.out; clear hb1) | (go_at_call 8; with_reducible refine (v1 _).mono ?_; rintro e w1 ⟨rfl, hb1⟩; have HB := Lib.hid (below_next HB.out hb1); have HX := Lib.hid (Bk.keep HX.out hb1); have HY := Lib.hid (Bk.keep HY.out hb1); obtain ⟨c0, c1, c2, c3⟩ := Bk.four HX.out; obtain ⟨y0, y1, y2, y3⟩ := Bk.four HY.out; clear hb1) | (go_at_call 8; with_reducible refine (v2 _).mono ?_; rintro e w1 ⟨rfl, hb1⟩; have HB := Lib.hid (below_next HB.out hb1); have HX := Lib.hid (Bk.keep HX.out hb1); have HY := Lib.hid (Bk.keep HY.out hb1); obtain ⟨c0, c1, c2, c3⟩ := Bk.four HX.out; obtain ⟨y0, y1, y2, y3⟩ := Bk.four HY.out; clear hb1) | (go_at_call 8; with_reducible refine (v3 _).mono ?_; rintro e w1 ⟨rfl, hb1⟩; have HB := Lib.hid (below_next HB.out hb1); have HX := Lib.hid (Bk.keep HX.out hb1); have HY := Lib.hid (Bk.keep HY.out hb1); obtain ⟨c0, c1, c2, c3⟩ := Bk.four HX.out; obtain ⟨y0, y1, y2, y3⟩ := Bk.four HY.out; clear hb1))
              all_goals
                go_roundg (2 - (q + 1))
                case measure => omega
                case rel => exact ⟨q + 1, by omega, by go_num, HB, HX, HY⟩
          · have t2 : decide (n ≤ 0) = false := decide_eq_false (by omega)
            rw [show max n 0 = n by omega] at v3
            clear l2
            as_aux_lemma =>
              go_wp2_with (first | (go_at_call 8; with_reducible refine (va _).mono ?_; rintro e w1 ⟨rfl, hb1⟩; have HB := Lib.hid (below_next HB.out hb1); have HX := Lib.hid (Bk.keep HX.out hb1); have HY := Lib.hid (Bk.keep HY.out hb1); obtain ⟨c0, c1, c2, c3⟩ := Bk.four HX.out; obtain ⟨y0, y1, y2, y3⟩ := Bk.four HY.out; clear hb1) | (go_at_call 8; with_reducible refine (vi _).mono ?_; rintro e w1 ⟨rfl, hb1⟩; have HB := Lib.hid (below_next HB.out hb1); have HX := Lib.hid (Bk.keep HX.out hb1); have HY := Lib.hid (Bk.keep HY.out hb1); obtain ⟨c0, c1, c2, c3⟩ := Bk.four HX.out; obtain ⟨y0, y1, y2, y3⟩ := Bk.four HY.out; clear hb1) | (go_at_call 8; with_reducible refine (v1 _).mono ?_; rintro e w1 ⟨rfl, hb1⟩; have HB := Lib.hid (below_next HB.out hb1); have HX := Lib.hid (Bk.keep HX.out hb1); have HY := Lib.hid (Bk.keep HY.out hb1); obtain ⟨c0, c1, c2, c3⟩ := Bk.four HX.out; obtain ⟨y0, y1, y2, y3⟩ := Bk.four HY.out; clear hb1) | (go_at_call 8; with_reducible refine (v2 _).mono ?_; rintro e w1 ⟨rfl, hb1⟩; have HB := Lib.hid (below_next HB.out hb1); have HX := Lib.hid (Bk.keep HX.out hb1); have HY := Lib.hid (Bk.keep HY.out hb1); obtain ⟨c0, c1, c2, c3⟩ := Bk.four HX.out; obtain ⟨y0, y1, y2, y3⟩ := Bk.four HY.out; clear hb1) | (go_at_call 8; with_reducible refine (v3 _).mono ?_; rintro e w1 ⟨rfl, hb1⟩; have HB := Lib.hid (below_next HB.out hb1); have HX := Lib.hid (Bk.keep HX.out hb1); have HY := Lib.hid (Bk.keep HY.out hb1); obtain ⟨c0, c1, c2, c3⟩ := Bk.four HX.out; obtain ⟨y0, y1, y2, y3⟩ := Bk.four HY.out; clear hb1))
              all_goals
                go_roundg (2 - (q + 1))
                case measure => omega
                case rel => exact ⟨q + 1, by omega, by go_num, HB, HX, HY⟩
        · have k1 : f1 = 0 → decide (b1 < a) = false := fun h => decide_eq_false (by have := l3 h; simp at this; omega)
          clear l3
          rcases Int.lt_trichotomy n 0 with hn | hn | hn
          · have t2 : decide (n ≤ 0) = true := decide_eq_true (by omega)
            have t3 : (a != I) = false := bne_eq_false_iff_eq.2 (l2 (by omega))
            rw [show max n 0 = 0 by omega, Int.zero_add] at v3
            clear l2
            as_aux_lemma =>
              go_wp2_with (first | (go_at_call 8; with_reducible refine (va _).mono ?_; rintro e w1 ⟨rfl, hb1⟩; have HB := Lib.hid (below_next HB.out hb1); have HX := Lib.hid (Bk.keep HX.out hb1); have HY := Lib.hid (Bk.keep HY.out hb1); obtain ⟨c0, c1, c2, c3⟩ := Bk.four HX.out; obtain ⟨y0, y1, y2, y3⟩ := Bk.four HY.out; clear hb1) | (go_at_call 8; with_reducible refine (vi _).mono ?_; rintro e w1 ⟨rfl, hb1⟩; have HB := Lib.hid (below_next HB.out hb1); have HX := Lib.hid (Bk.keep HX.out hb1); have HY := Lib.hid (Bk.keep HY.out hb1); obtain ⟨c0, c1, c2, c3⟩ := Bk.four HX.out; obtain ⟨y0, y1, y2, y3⟩ := Bk.four HY.out; clear hb1) | (go_at_call 8; with_reducible refine (v1 _).mono ?_; rintro e w1 ⟨rfl, hb1⟩; have HB := Lib.hid (below_next HB.out hb1); have HX := Lib.hid (Bk.keep HX.out hb1); have HY := Lib.hid (Bk.keep HY.out hb1); obtain ⟨c0, c1, c2, c3⟩ := Bk.four HX.out; obtain ⟨y0, y1, y2, y3⟩ := Bk.four HY.out; clear hb1) | (go_at_call 8; with_reducible refine (v2 _).mono ?_; rintro e w1 ⟨rfl, hb1⟩; have HB := Lib.hid (below_next HB.out hb1); have HX := Lib.hid (Bk.keep HX.out hb1); have HY := Lib.hid (Bk.keep HY.out hb1); obtain ⟨c0, c1, c2, c3⟩ := Bk.four HX.out; obtain ⟨y0, y1, y2, y3⟩ := Bk.four HY.out; clear hb1) | (go_at_call 8; with_reducible refine (v3 _).mono ?_; rintro e w1 ⟨rfl, hb1⟩; have HB := Lib.hid (below_next HB.out hb1); have HX := Lib.hid (Bk.keep HX.out hb1); have HY := Lib.hid (Bk.keep HY.out hb1); obtain ⟨c0, c1, c2, c3⟩ := Bk.four HX.out; obtain ⟨y0, y1, y2, y3⟩ := Bk.four HY.out; clear hb1))
              all_goals
                go_roundg (2 - (q + 1))
                case measure => omega
                case rel => exact ⟨q + 1, by omega, by go_num, HB, HX, HY⟩
          · have t2 : decide (n ≤ 0) = true := decide_eq_true (by omega)
            have t3 : (a != I) = false := bne_eq_false_iff_eq.2 (l2 (by omega))
            rw [show max n 0 = n by omega] at v3
            have hn0 : 0 ≤ n := by omega
            clear hn
            clear l2
            as_aux_lemma =>
              go_wp2_with (first | (go_at_call 8; with_reducible refine (va _).mono ?_; rintro e w1 ⟨rfl, hb1⟩; have HB := Lib.hid (below_next HB.out hb1); have HX := Lib.hid (Bk.keep HX.out hb1); have HY := Lib.hid (Bk.keep HY.out hb1); obtain ⟨c0, c1, c2, c3⟩ := Bk.four HX.out; obtain ⟨y0, y1, y2, y3⟩ := Bk.four HY.out; clear hb1) | (go_at_call 8; with_reducible refine (vi _).mono ?_; rintro e w1 ⟨rfl, hb1⟩; have HB := Lib.hid (below_next HB.out hb1); have HX := Lib.hid (Bk.keep HX.out hb1); have HY := Lib.hid (Bk.keep HY.out hb1); obtain ⟨c0, c1, c2, c3⟩ := Bk.four HX.out; obtain ⟨y0, y1, y2, y3⟩ := Bk.four HY.out; clear hb1) | (go_at_call 8; with_reducible refine (v1 _).mono ?_; rintro e w1 ⟨rfl, hb1⟩; have HB := Lib.hid (below_next HB.out hb1); have HX := Lib.hid (Bk.keep HX.out hb1); have HY := Lib.hid (Bk.keep HY.out hb1); obtain ⟨c0, c1, c2, c3⟩ := Bk.four HX.out; obtain ⟨y0, y1, y2, y3⟩ := Bk.four HY.out; clear hb1) | (go_at_call 8; with_reducible refine (v2 _).mono ?_; rintro e w1 ⟨rfl, hb1⟩; have HB := Lib.hid (below_next HB.out hb1); have HX := Lib.hid (Bk.keep HX.out hb1); have HY := Lib.hid (Bk.keep HY.out hb1); obtain ⟨c0, c1, c2, c3⟩ := Bk.four HX.out; obtain ⟨y0, y1, y2, y3⟩ := Bk.four HY.out; clear hb1) | (go_at_call 8; with_reducible refine (v3 _).mono ?_; rintro e w1 ⟨rfl, hb1⟩; have HB := Lib.hid (below_next HB.out hb1); have HX := Lib.hid (Bk.keep HX.out hb1); have HY := Lib.hid (Bk.keep HY.out hb1); obtain ⟨c0, c1, c2, c3⟩ := Bk.four HX.out; obtain ⟨y0, y1, y2, y3⟩ := Bk.four HY.out; clear hb1))
              all_goals
                go_roundg (2 - (q + 1))
                case measure => omega
                case rel => exact ⟨q + 1, by omega, by go_num, HB, HX, HY⟩
          · have t2 : decide (n ≤ 0) = false := decide_eq_false (by omega)
            rw [show max n 0 = n by omega] at v3
            clear l2
            as_aux_lemma =>
              go_wp2_with (first | (go_at_call 8; with_reducible refine (va _).mono ?_; rintro e w1 ⟨rfl, hb1⟩; have HB := Lib.hid (below_next HB.out hb1); have HX := Lib.hid (Bk.keep HX.out hb1); have HY := Lib.hid (Bk.keep HY.out hb1); obtain ⟨c0, c1, c2, c3⟩ := Bk.four HX.out; obtain ⟨y0, y1, y2, y3⟩ := Bk.four HY.out; clear hb1) | (go_at_call 8; with_reducible refine (vi _).mono ?_; rintro e w1 ⟨rfl, hb1⟩; have HB := Lib.hid (below_next HB.out hb1); have HX := Lib.hid (Bk.keep HX.out hb1); have HY := Lib.hid (Bk.keep HY.out hb1); obtain ⟨c0, c1, c2, c3⟩ := Bk.four HX.out; obtain ⟨y0, y1, y2, y3⟩ := Bk.four HY.out; clear hb1) | (go_at_call 8; with_reducible refine (v1 _).mono ?_; rintro e w1 ⟨rfl, hb1⟩; have HB := Lib.hid (below_next HB.out hb1); have HX := Lib.hid (Bk.keep HX.out hb1); have HY := Lib.hid (Bk.keep HY.out hb1); obtain ⟨c0, c1, c2, c3⟩ := Bk.four HX.out; obtain ⟨y0, y1, y2, y3⟩ := Bk.four HY.out; clear hb1) | (go_at_call 8; with_reducible refine (v2 _).mono ?_; rintro e w1 ⟨rfl, hb1⟩; have HB := Lib.hid (below_next HB.out hb1); have HX := Lib.hid (Bk.keep HX.out hb1); have HY := Lib.hid (Bk.keep HY.out hb1); obtain ⟨c0, c1, c2, c3⟩ := Bk.four HX.out; obtain ⟨y0, y1, y2, y3⟩ := Bk.four HY.out; clear hb1) | (go_at_call 8; with_reducible refine (v3 _).mono ?_; rintro e w1 ⟨rfl, hb1⟩; have HB := Lib.hid (below_next HB.out hb1); have HX := Lib.hid (Bk.keep HX.out hb1); have HY := Lib.hid (Bk.keep HY.out hb1); obtain ⟨c0, c1, c2, c3⟩ := Bk.four HX.out; obtain ⟨y0, y1, y2, y3⟩ := Bk.four HY.out; clear hb1))
              all_goals
                go_roundg (2 - (q + 1))
                case measure => omega
                case rel => exact ⟨q + 1, by omega, by go_num, HB, HX, HY⟩
      · have t1 : (e != 0) = true := bne_iff_ne.2 he
        clear ea he
        go_wp2_with (first | (go_at_call 8; with_reducible refine (va _).mono ?_; rintro e w1 ⟨rfl, hb1⟩; have HB := Lib.hid (below_next HB.out hb1); have HX := Lib.hid (Bk.keep HX.out hb1); have HY := Lib.hid (Bk.keep HY.out hb1); obtain ⟨c0, c1, c2, c3⟩ := Bk.four HX.out; obtain ⟨y0, y1, y2, y3⟩ := Bk.four HY.out; clear hb1))
        go_roundg (2 - (q + 1))
        case measure => omega
        case rel => exact ⟨q + 1, by omega, by go_num, HB, HX, HY⟩
    · have hpl : q = 2 := by omega
      go_wp2
      go_ret
      exact ⟨rfl, HB.out⟩
end Go.Proofs.Ytbfgnhchghegnaa.Ot

/-
  Layer 11's laws: each returns true, for all arguments.
-/
import Derived.Test.YtbfgnhchghegnaaGd
namespace Go.Proofs.Ytbfgnhchghegnaa.Ot
open Go.RowKit Go.Joins
open Go.Proofs.Ytbfgnhchghegnaa.Fx Ao
set_option linter.unusedVariables false
set_option linter.unusedSimpArgs false

abbrev ofC (a b c n : Int) : Array Value := #[.int .i64 a, .int .i64 b, .int .i64 c, .int .i64 n]

set_option maxRecDepth 100000 in
theorem values_walk (k p v n : Int) (call : Bool) (w : World) :
    Calls Try.prog 3 #[.agg #[.int .i64 k, .int .i64 p, .int .i64 v, .int .i64 n], .bool call] w fun e w' => e = .returned (.bool true) ∧ Below w.heap.size w w' := by
  have HB := Lib.hid (one_alloc w (.cells (ofC k p v n) 23))
  have HX := Lib.hid (Bk.new w (ofC k p v n) 23)
  go_enter Try.func3, Try.ntmps3
  go_wp2_with (first | (go_at_call 7; refine (wakes_any _).mono ?_; rintro e w1 ⟨rfl, hb1⟩; have HB := Lib.hid (below_next HB.out hb1); have HX := Lib.hid (Bk.keep HX.out hb1); obtain ⟨c0, c1, c2, c3⟩ := Bk.four HX.out; clear hb1) | (go_at_call 8; refine (value_any _ _ _ _ _ _).mono ?_; rintro e w1 ⟨rfl, hb1⟩; have HB := Lib.hid (below_next HB.out hb1); have HX := Lib.hid (Bk.keep HX.out hb1); obtain ⟨c0, c1, c2, c3⟩ := Bk.four HX.out; clear hb1) | (go_at_call 9; refine (rvalue_any _ _ _ _ _ _).mono ?_; rintro e w1 ⟨rfl, hb1⟩; have HB := Lib.hid (below_next HB.out hb1); clear hb1))
  go_ret
  exact ⟨rfl, HB.out⟩
set_option maxRecDepth 100000 in
theorem units_walk (i : Ins) (p v d : Int) (w : World) :
    Calls Try.prog 4 #[.agg #[.int .i64 i.kind, .int .i64 i.under, .int .i64 i.mult, .int .i64 i.strike, .int .i64 i.expiry, .bool i.call, .int .i64 i.mark], .agg #[.int .i64 p, .int .i64 v], .int .i64 d] w fun e w' => e = .returned (.bool true) ∧ Below w.heap.size w w' := by
  have HB := Lib.hid (below_two w (.cells #[.int .i64 i.kind, .int .i64 i.under, .int .i64 i.mult, .int .i64 i.strike, .int .i64 i.expiry, .bool i.call, .int .i64 i.mark] 30) (.cells #[.int .i64 p, .int .i64 v] 31))
  have HI := Lib.hid ((Bk.new w #[.int .i64 i.kind, .int .i64 i.under, .int .i64 i.mult, .int .i64 i.strike, .int .i64 i.expiry, .bool i.call, .int .i64 i.mark] 30).more (.cells #[.int .i64 p, .int .i64 v] 31))
  have HX := Lib.hid (show Bk ((w.alloc (.cells #[.int .i64 i.kind, .int .i64 i.under, .int .i64 i.mult, .int .i64 i.strike, .int .i64 i.expiry, .bool i.call, .int .i64 i.mark] 30)).alloc (.cells #[.int .i64 p, .int .i64 v] 31)) (w.heap.size + 1) #[.int .i64 p, .int .i64 v] 31 by
    have := Bk.new (w.alloc (.cells #[.int .i64 i.kind, .int .i64 i.under, .int .i64 i.mult, .int .i64 i.strike, .int .i64 i.expiry, .bool i.call, .int .i64 i.mark] 30)) #[.int .i64 p, .int .i64 v] 31
    rwa [show (w.alloc (.cells #[.int .i64 i.kind, .int .i64 i.under, .int .i64 i.mult, .int .i64 i.strike, .int .i64 i.expiry, .bool i.call, .int .i64 i.mark] 30)).heap.size = w.heap.size + 1 by simp] at this)
  go_enter Try.func4, Try.ntmps4
  go_wp2_with (first | (go_at_call 7; refine (wakes_any _).mono ?_; rintro e w1 ⟨rfl, hb1⟩; have HB := Lib.hid (below_next HB.out hb1); have HX := Lib.hid (Bk.keep HX.out hb1); obtain ⟨c0, c1⟩ := Bk.two HX.out; have HI := Lib.hid (Bk.keep HI.out hb1); obtain ⟨i0, i1, i2, i3, i4, i5, i6⟩ := Bk.seven HI.out; clear hb1) | (go_at_call 10; refine (unit_any i _ _ _ _).mono ?_; rintro e w1 ⟨rfl, hb1⟩; have HB := Lib.hid (below_next HB.out hb1); have HX := Lib.hid (Bk.keep HX.out hb1); obtain ⟨c0, c1⟩ := Bk.two HX.out; have HI := Lib.hid (Bk.keep HI.out hb1); obtain ⟨i0, i1, i2, i3, i4, i5, i6⟩ := Bk.seven HI.out; clear hb1) | (go_at_call 11; refine (runit_any i _ _ _ _).mono ?_; rintro e w1 ⟨rfl, hb1⟩; have HB := Lib.hid (below_next HB.out hb1); have HX := Lib.hid (Bk.keep HX.out hb1); obtain ⟨c0, c1⟩ := Bk.two HX.out; have HI := Lib.hid (Bk.keep HI.out hb1); obtain ⟨i0, i1, i2, i3, i4, i5, i6⟩ := Bk.seven HI.out; clear hb1))
  go_ret
  exact ⟨rfl, HB.out⟩
set_option maxRecDepth 100000 in
set_option maxHeartbeats 2000000 in
theorem pairs_walk (k p v n : Int) (w : World) :
    Calls Try.prog 6 #[.agg #[.int .i64 k, .int .i64 p, .int .i64 v, .int .i64 n]] w fun e w' => e = .returned (.bool true) ∧ Below w.heap.size w w' := by
  have HB := Lib.hid (one_alloc w (.cells (ofC k p v n) 23))
  have HX := Lib.hid (Bk.new w (ofC k p v n) 23)
  obtain ⟨a, e, ea⟩ : ∃ x e, optS true k p v n = (x, e) := ⟨_, _, rfl⟩
  obtain ⟨b, f, eb⟩ : ∃ x e, optS false k p v n = (x, e) := ⟨_, _, rfl⟩
  obtain ⟨c, g, ec⟩ : ∃ x e, optS true k (p + 1) v n = (x, e) := ⟨_, _, rfl⟩
  obtain ⟨d, h, ed⟩ : ∃ x e, optS false k (p + 1) v n = (x, e) := ⟨_, _, rfl⟩
  have va := fun w => value_any true k p v n w
  have vb := fun w => value_any false k p v n w
  have vc := fun w => value_any true k (p + 1) v n w
  have vd := fun w => value_any false k (p + 1) v n w
  rw [ea] at va; rw [eb] at vb; rw [ec] at vc; rw [ed] at vd
  simp only at va vb vc vd
  by_cases he : e = 0
  · subst he
    by_cases hf : f = 0
    · subst hf
      have ra := opt_range ea
      have rb := opt_range eb
      obtain ⟨hk, hp, -⟩ := opt_ok ea
      have bk := mkB_iff.1 hk; have bp := mkB_iff.1 hp
      clear hk hp
      have hpair := opt_pair ea eb
      have t1 : (a - b != p - k) = false := bne_eq_false_iff_eq.2 hpair
      by_cases hg : g = 0
      · subst hg
        by_cases hh : h = 0
        · subst hh
          have rc := opt_range ec
          have rd := opt_range ed
          obtain ⟨s1, s2, s3, s4⟩ := opt_step ea eb ec ed
          have t2 : decide (a ≤ c) = true := decide_eq_true (by omega)
          have t3 : decide (c - a ≤ 1) = true := decide_eq_true s2
          have t4 : decide (d ≤ b) = true := decide_eq_true (by omega)
          have t5 : decide (b - d ≤ 1) = true := decide_eq_true s4
          clear ea eb ec ed hpair s1 s2 s3 s4
          go_enter Try.func6, Try.ntmps6
          go_wp2_with (first | (go_at_call 7; refine (wakes_any _).mono ?_; rintro e w1 ⟨rfl, hb1⟩; have HB := Lib.hid (below_next HB.out hb1); have HX := Lib.hid (Bk.keep HX.out hb1); obtain ⟨c0, c1, c2, c3⟩ := Bk.four HX.out; clear hb1) | (go_at_call 8; with_reducible refine (va _).mono ?_; rintro e w1 ⟨rfl, hb1⟩; have HB := Lib.hid (below_next HB.out hb1); have HX := Lib.hid (Bk.keep HX.out hb1); obtain ⟨c0, c1, c2, c3⟩ := Bk.four HX.out; clear hb1) | (go_at_call 8; with_reducible refine (vb _).mono ?_; rintro e w1 ⟨rfl, hb1⟩; have HB := Lib.hid (below_next HB.out hb1); have HX := Lib.hid (Bk.keep HX.out hb1); obtain ⟨c0, c1, c2, c3⟩ := Bk.four HX.out; clear hb1) | (go_at_call 8; with_reducible refine (vc _).mono ?_; rintro e w1 ⟨rfl, hb1⟩; have HB := Lib.hid (below_next HB.out hb1); have HX := Lib.hid (Bk.keep HX.out hb1); obtain ⟨c0, c1, c2, c3⟩ := Bk.four HX.out; clear hb1) | (go_at_call 8; with_reducible refine (vd _).mono ?_; rintro e w1 ⟨rfl, hb1⟩; have HB := Lib.hid (below_next HB.out hb1); have HX := Lib.hid (Bk.keep HX.out hb1); obtain ⟨c0, c1, c2, c3⟩ := Bk.four HX.out; clear hb1))
          go_ret
          exact ⟨rfl, HB.out⟩
        · have t6 : (h != 0) = true := bne_iff_ne.2 hh
          clear ea eb ec ed hpair hh
          go_enter Try.func6, Try.ntmps6
          go_wp2_with (first | (go_at_call 7; refine (wakes_any _).mono ?_; rintro e w1 ⟨rfl, hb1⟩; have HB := Lib.hid (below_next HB.out hb1); have HX := Lib.hid (Bk.keep HX.out hb1); obtain ⟨c0, c1, c2, c3⟩ := Bk.four HX.out; clear hb1) | (go_at_call 8; with_reducible refine (va _).mono ?_; rintro e w1 ⟨rfl, hb1⟩; have HB := Lib.hid (below_next HB.out hb1); have HX := Lib.hid (Bk.keep HX.out hb1); obtain ⟨c0, c1, c2, c3⟩ := Bk.four HX.out; clear hb1) | (go_at_call 8; with_reducible refine (vb _).mono ?_; rintro e w1 ⟨rfl, hb1⟩; have HB := Lib.hid (below_next HB.out hb1); have HX := Lib.hid (Bk.keep HX.out hb1); obtain ⟨c0, c1, c2, c3⟩ := Bk.four HX.out; clear hb1) | (go_at_call 8; with_reducible refine (vc _).mono ?_; rintro e w1 ⟨rfl, hb1⟩; have HB := Lib.hid (below_next HB.out hb1); have HX := Lib.hid (Bk.keep HX.out hb1); obtain ⟨c0, c1, c2, c3⟩ := Bk.four HX.out; clear hb1) | (go_at_call 8; with_reducible refine (vd _).mono ?_; rintro e w1 ⟨rfl, hb1⟩; have HB := Lib.hid (below_next HB.out hb1); have HX := Lib.hid (Bk.keep HX.out hb1); obtain ⟨c0, c1, c2, c3⟩ := Bk.four HX.out; clear hb1))
          go_ret
          exact ⟨rfl, HB.out⟩
      · have t6 : (g != 0) = true := bne_iff_ne.2 hg
        clear ea eb ec ed hpair hg
        go_enter Try.func6, Try.ntmps6
        go_wp2_with (first | (go_at_call 7; refine (wakes_any _).mono ?_; rintro e w1 ⟨rfl, hb1⟩; have HB := Lib.hid (below_next HB.out hb1); have HX := Lib.hid (Bk.keep HX.out hb1); obtain ⟨c0, c1, c2, c3⟩ := Bk.four HX.out; clear hb1) | (go_at_call 8; with_reducible refine (va _).mono ?_; rintro e w1 ⟨rfl, hb1⟩; have HB := Lib.hid (below_next HB.out hb1); have HX := Lib.hid (Bk.keep HX.out hb1); obtain ⟨c0, c1, c2, c3⟩ := Bk.four HX.out; clear hb1) | (go_at_call 8; with_reducible refine (vb _).mono ?_; rintro e w1 ⟨rfl, hb1⟩; have HB := Lib.hid (below_next HB.out hb1); have HX := Lib.hid (Bk.keep HX.out hb1); obtain ⟨c0, c1, c2, c3⟩ := Bk.four HX.out; clear hb1) | (go_at_call 8; with_reducible refine (vc _).mono ?_; rintro e w1 ⟨rfl, hb1⟩; have HB := Lib.hid (below_next HB.out hb1); have HX := Lib.hid (Bk.keep HX.out hb1); obtain ⟨c0, c1, c2, c3⟩ := Bk.four HX.out; clear hb1) | (go_at_call 8; with_reducible refine (vd _).mono ?_; rintro e w1 ⟨rfl, hb1⟩; have HB := Lib.hid (below_next HB.out hb1); have HX := Lib.hid (Bk.keep HX.out hb1); obtain ⟨c0, c1, c2, c3⟩ := Bk.four HX.out; clear hb1))
        go_ret
        exact ⟨rfl, HB.out⟩
    · have t6 : (f != 0) = true := bne_iff_ne.2 hf
      clear ea eb ec ed hf
      go_enter Try.func6, Try.ntmps6
      go_wp2_with (first | (go_at_call 7; refine (wakes_any _).mono ?_; rintro e w1 ⟨rfl, hb1⟩; have HB := Lib.hid (below_next HB.out hb1); have HX := Lib.hid (Bk.keep HX.out hb1); obtain ⟨c0, c1, c2, c3⟩ := Bk.four HX.out; clear hb1) | (go_at_call 8; with_reducible refine (va _).mono ?_; rintro e w1 ⟨rfl, hb1⟩; have HB := Lib.hid (below_next HB.out hb1); have HX := Lib.hid (Bk.keep HX.out hb1); obtain ⟨c0, c1, c2, c3⟩ := Bk.four HX.out; clear hb1) | (go_at_call 8; with_reducible refine (vb _).mono ?_; rintro e w1 ⟨rfl, hb1⟩; have HB := Lib.hid (below_next HB.out hb1); have HX := Lib.hid (Bk.keep HX.out hb1); obtain ⟨c0, c1, c2, c3⟩ := Bk.four HX.out; clear hb1))
      go_ret
      exact ⟨rfl, HB.out⟩
  · have t6 : (e != 0) = true := bne_iff_ne.2 he
    clear ea eb ec ed he
    go_enter Try.func6, Try.ntmps6
    go_wp2_with (first | (go_at_call 7; refine (wakes_any _).mono ?_; rintro e w1 ⟨rfl, hb1⟩; have HB := Lib.hid (below_next HB.out hb1); have HX := Lib.hid (Bk.keep HX.out hb1); obtain ⟨c0, c1, c2, c3⟩ := Bk.four HX.out; clear hb1) | (go_at_call 8; with_reducible refine (va _).mono ?_; rintro e w1 ⟨rfl, hb1⟩; have HB := Lib.hid (below_next HB.out hb1); have HX := Lib.hid (Bk.keep HX.out hb1); obtain ⟨c0, c1, c2, c3⟩ := Bk.four HX.out; clear hb1) | (go_at_call 8; with_reducible refine (vb _).mono ?_; rintro e w1 ⟨rfl, hb1⟩; have HB := Lib.hid (below_next HB.out hb1); have HX := Lib.hid (Bk.keep HX.out hb1); obtain ⟨c0, c1, c2, c3⟩ := Bk.four HX.out; clear hb1))
    go_ret
    exact ⟨rfl, HB.out⟩
end Go.Proofs.Ytbfgnhchghegnaa.Ot

/-
  Layer 14: wakes, and the laws LocateGoods and LocateShorts.
-/
import Derived.Test.YtnaelmddafhjlaaJe
import Derived.Test.YtnaelmddafhjlaaJg
import Derived.Test.YtnaelmddafhjlaaJs
namespace Go.Proofs.Ytnaelmddafhjlaa.Bo
open Go.RowKit Rw
set_option linter.unusedVariables false
set_option linter.unusedSimpArgs false

theorem ten_z (w : World) : Has encz (w.alloc (.cells #[.int .i64 10] 3)) (some ⟨w.heap.size, 0, none⟩) [10] := Has.lit (E := encz) w [10] _ _ _ rfl rfl (by simp)
set_option maxRecDepth 100000 in
set_option maxHeartbeats 4000000 in
theorem wakes_any (w : World) : Calls Try.prog 8 #[] w fun e w' => e = .returned (.bool true) ∧ Below w.heap.size w w' := by
  obtain ⟨W1, hW1⟩ : ∃ W1, W1 = w.alloc (.cells #[.int .i64 10] 3) := ⟨_, rfl⟩
  have hb1 : Below w.heap.size w W1 := by rw [hW1]; exact one_alloc _ _
  have h1 : Has encz W1 (some ⟨w.heap.size, 0, none⟩) [10] := by rw [hW1]; exact ten_z w
  have d1 : Dec keyl [] (2, 0) [] none [] := ⟨rfl, (by simp), (fun y e => by cases e), (by simp)⟩
  have HA : Hid (Calls Try.prog 17 #[.slice (some ⟨w.heap.size, 0, none⟩) 1 1, .slice none 0 0, .int .i64 2, .int .i64 0, .int .i64 4] W1 fun e w' => ∃ v u s, e = .returned (.tuple #[v, u, .int .i64 0]) ∧ Own encz w' W1.heap.size v [6] ∧ Own encl w' s u [⟨2, 0, 4⟩] ∧ Below W1.heap.size W1 w') := Lib.hid (by
    have ha := res_any (some ⟨w.heap.size, 0, none⟩) 1 1 [10] none 0 0 [] [] [] none 2 0 4 W1 h1 rfl (fun h => by cases h) (by decide) (Has.nil _ _) rfl (Nat.le_refl _) (fun _ => rfl) (by decide) (by decide) d1 (fun j hj => by have hj0 : j = 0 := (by omega); subst hj0; decide) (fun y e => by cases e)
    unfold ResIt at ha
    rw [show resE [10] ([] : List Lo).length none 0 4 = 0 by decide, show resZ [10] ([] : List Lo).length none 0 4 = [6] by decide, show resX [10] ([] : List Lo).length [] none [] 2 0 4 = [⟨2, 0, 4⟩] by decide] at ha
    exact ha.mono fun e w' ⟨v, u, s, e1, h1, _, h3, _, h5⟩ => ⟨v, u, s, e1, h1, h3, h5⟩)
  have HC : Hid (∀ w2 a2 c2 b2 d2, Has encz w2 a2 [6] → (a2 = none → c2 = 0) → Has encl w2 b2 [⟨2, 0, 4⟩] → 1 ≤ d2 → (b2 = none → d2 = 0) → d2 ≤ maxLen → Calls Try.prog 17 #[.slice a2 1 c2, .slice b2 1 d2, .int .i64 2, .int .i64 0, .int .i64 7] w2 fun e w' => ∃ v u, e = .returned (.tuple #[v, u, .int .i64 39]) ∧ Below w2.heap.size w2 w') := Lib.hid fun w2 a2 c2 b2 d2 h1 h2 h3 h4 h5 h6 => by
    have d2' : Dec keyl [⟨2, 0, 4⟩] (2, 0) [] (some ⟨2, 0, 4⟩) [] := ⟨rfl, (by simp), (fun y e => by cases e; rfl), (by simp)⟩
    have ha := res_any a2 1 c2 [6] b2 1 d2 [⟨2, 0, 4⟩] [] [] (some ⟨2, 0, 4⟩) 2 0 7 w2 h1 rfl h2 (by decide) h3 rfl h4 h5 (by decide) (by unfold maxLen at h6; omega) d2' (fun j hj => by have hj0 : j = 0 := (by omega); subst hj0; decide) (fun y e => by cases e; decide)
    unfold ResIt at ha
    rw [show resE [6] ([⟨2, 0, 4⟩] : List Lo).length (some ⟨2, 0, 4⟩) 0 7 = 39 by decide] at ha
    exact ha.mono fun e w' ⟨v, u, s, e1, _, _, _, _, h5⟩ => ⟨v, u, e1, h5⟩
  have HS := Lib.hid fun wx => short_any 3 2 (-4) wx (by decide) (by decide) (by decide) (by decide) (by decide)
  rw [show shortS 3 2 (-4) = 3 by decide] at HS
  have HB1 := Lib.hid hb1; have HW1 := Lib.hid hW1
  clear hb1 hW1 h1 d1
  go_enter Try.func8, Try.ntmps8
  go_wp2_with fail
  rw [← HW1.out]
  refine HA.out.mono ?_
  rintro e w2 ⟨v2, u2, s2, rfl, hz2, hx2, hb2⟩
  have HB2 := Lib.hid (below_next HB1.out hb2)
  obtain ⟨g2, c2, e2, _, _, _⟩ := hz2.block (by decide)
  have e2' : v2 = .slice (some ⟨g2, 0, none⟩) 1 c2 := e2
  subst e2'
  obtain ⟨f2, k2, e3, _, _, _⟩ := hx2.block (by decide)
  have e3' : u2 = .slice (some ⟨f2, 0, none⟩) 1 k2 := e3
  subst e3'
  obtain ⟨a2', c2', q2, hhz, hnz, hlz, hmz⟩ := hz2.has okz
  injection q2 with q21 q22 q23
  subst q21 q23
  obtain ⟨b2', d2', r2, hhx, hnx, hlx, hmx⟩ := hx2.has okl
  injection r2 with r21 r22 r23
  subst r21 r23
  have HC2 := Lib.hid (HC.out w2 (some ⟨g2, 0, none⟩) c2 (some ⟨f2, 0, none⟩) k2 hhz hnz hhx hlx hnx hmx)
  have HZ2 := Lib.hid (show Own encz w2 W1.heap.size (.slice (some ⟨g2, 0, none⟩) ([6] : List Int).length c2) [6] from hz2); have HX2 := Lib.hid (show Own encl w2 s2 (.slice (some ⟨f2, 0, none⟩) ([⟨2, 0, 4⟩] : List Lo).length k2) [⟨2, 0, 4⟩] from hx2)
  clear e2 e3 hz2 hx2 hb2 q22 r22 hhz hnz hlz hmz hhx hnx hlx hmx HW1 HA
  go_wp2_with fail
  refine HC2.out.mono ?_
  rintro e w3 ⟨v3, u3, rfl, hb3⟩
  have HB3 := Lib.hid (below_next HB2.out hb3)
  have m0 := own_atz (HZ2.out.keep hb3) (j := 0) (by decide)
  have m1 := (own_atl (HX2.out.keep hb3) (j := 0) (by decide)).2.2
  simp [List.getD] at m0 m1
  clear hb3
  go_wp2_with (go_at_call 20; (with_reducible refine (HS.out _).mono ?_); rintro e w4 ⟨rfl, rfl⟩)
  go_ret
  exact ⟨by simp, HB3.out⟩
theorem wakes_lift (w : World) : ∀ wx, Below w.heap.size w wx → Calls Try.prog 8 #[] wx fun e w' => e = .returned (.bool true) ∧ Below w.heap.size w w' := fun wx hb => (wakes_any wx).mono fun e w' ⟨h1, h2⟩ => ⟨h1, hb.trans (h2.mono hb.size)⟩

/-! ### LocateGoods -/
set_option maxRecDepth 100000 in
set_option maxHeartbeats 8000000 in
theorem goods_walk (a0 : Option Addr) (len0 cap0 : Nat) (Z : List Int) (a1 : Option Addr) (len1 cap1 : Nat) (X : List Lo) (a2 b2 : Int) (w : World) (w0 : Inz w a0 len0 cap0 Z) (w1 : Inl w a1 len1 cap1 X) :
    Calls Try.prog 3 #[.slice a0 len0 cap0, .slice a1 len1 cap1, .agg #[.int .i64 a2, .int .i64 b2]] w fun e w' => e = .returned (.bool true) ∧ Below w.heap.size w w' := by
  obtain ⟨hx0, hl0, _⟩ := w0
  obtain ⟨hx1, hl1, _⟩ := w1
  obtain ⟨N, hN⟩ : ∃ N, N = w.heap.size := ⟨_, rfl⟩
  obtain ⟨W0, hW0⟩ : ∃ W0, W0 = w.alloc (.cells #[.int .i64 a2, .int .i64 b2] 24) := ⟨_, rfl⟩
  have x0 : Blk W0 N #[.int .i64 a2, .int .i64 b2] 24 := by rw [hW0, hN]; exact Blk.new w _ _
  have hb : Below w.heap.size w W0 := by rw [hW0]; exact one_alloc _ _
  have KS : Hid (∀ wx, Below W0.heap.size W0 wx → wx.cell? ⟨N, 0, none⟩ = some (.int .i64 a2) ∧ wx.cell? ⟨N, 1, none⟩ = some (.int .i64 b2)) := Lib.hid fun wx hb => ⟨(x0.keep hb).cell 0, (x0.keep hb).cell 1⟩
  have G1 : Hid (∀ wx, Below W0.heap.size W0 wx → Calls Try.prog 9 #[.slice a0 len0 cap0, .slice a1 len1 cap1, .int .i64 a2, .int .i64 b2] wx fun e w' => e = .returned (.bool (goodS Z X a2 b2)) ∧ Below W0.heap.size W0 w') := Lib.hid fun wx h => (good_any a0 len0 cap0 Z a1 len1 cap1 X a2 b2 wx ((hx0.keep hb).keep h) hl0 ((hx1.keep hb).keep h) hl1).mono fun e w' ⟨h1, h2⟩ => ⟨h1, h.trans (h2.mono h.size)⟩
  have G2 : Hid (∀ wx, Below W0.heap.size W0 wx → Calls Try.prog 10 #[.slice a0 len0 cap0, .slice a1 len1 cap1, .int .i64 a2, .int .i64 b2] wx fun e w' => e = .returned (.bool (goodS Z X a2 b2)) ∧ Below W0.heap.size W0 w') := Lib.hid fun wx h => (rgood_any a0 len0 cap0 Z a1 len1 cap1 X a2 b2 wx ((hx0.keep hb).keep h) hl0 ((hx1.keep hb).keep h) hl1).mono fun e w' ⟨h1, h2⟩ => ⟨h1, h.trans (h2.mono h.size)⟩
  have WK := Lib.hid (wakes_lift W0)
  have HB := Lib.hid hb; have HN := Lib.hid hN; have HW := Lib.hid hW0
  obtain ⟨c0, c1⟩ := KS.out W0 (Below.refl _ _)
  generalize goodS Z X a2 b2 = B1 at *
  have q1 : (B1 == B1) = true := beq_self_eq_true _
  clear hx0 hx1 hl0 hl1 hN hW0 x0 hb
  go_enter Try.func3, Try.ntmps3
  go_upto_region 1 with (fail)
  rw [← HN.out, ← HW.out]
  clear HN HW
  go_region_held3 (fun wx => wx.cell? ⟨N, 0, none⟩ = some (.int .i64 a2) ∧ wx.cell? ⟨N, 1, none⟩ = some (.int .i64 b2))
    (first | exact KS.out _ (Below.refl _ _).drew | exact KS.out _ (Below.refl _ _) | exact KS.out _ (by assumption))
    (first
      | (go_split_ands; go_at_call 8; (with_reducible refine (WK.out _ (by first | assumption | exact (Below.refl _ _).drew)).mono ?_); rintro e w5 ⟨rfl, hb5⟩)
      | (go_split_ands; go_at_call 9; (with_reducible refine (G1.out _ (by first | assumption | exact (Below.refl _ _).drew)).mono ?_); rintro e w6 ⟨rfl, hb6⟩)
      | (go_split_ands; go_at_call 10; (with_reducible refine (G2.out _ (by first | assumption | exact (Below.refl _ _).drew)).mono ?_); rintro e w7 ⟨rfl, hb7⟩)
      | fail)
  all_goals
    go_wp2
    go_ret
    exact ⟨rfl, below_next HB.out (by assumption)⟩

/-! ### LocateShorts -/
set_option maxRecDepth 100000 in
set_option maxHeartbeats 4000000 in
theorem shorts_walk (a0 a1 a2 : Int) (w : World) :
    Calls Try.prog 5 #[.int .i64 a0, .int .i64 a1, .int .i64 a2] w fun e w' => e = .returned (.bool true) ∧ Below w.heap.size w w' := by
  go_enter Try.func5, Try.ntmps5
  go_wp2_with fail
  refine (wakes_any w).mono ?_
  rintro e w1 ⟨rfl, hb1⟩
  have B1 := Lib.hid hb1
  clear hb1
  by_cases h1 : a0 < -1000000000
  · go_wp2
    go_ret
    exact ⟨rfl, B1.out⟩
  by_cases h2 : 1000000000 < a0
  · go_wp2
    go_ret
    exact ⟨rfl, B1.out⟩
  by_cases h3 : a1 < 0
  · go_wp2
    go_ret
    exact ⟨rfl, B1.out⟩
  by_cases h4 : 1099511627776 < a1
  · go_wp2
    go_ret
    exact ⟨rfl, B1.out⟩
  by_cases h5 : a2 < -1000000000
  · go_wp2
    go_ret
    exact ⟨rfl, B1.out⟩
  have S1 := Lib.hid (short_any a0 a1 a2 w1 (by omega) (by omega) (by omega) (by omega) (by omega))
  have S2 := Lib.hid (rshort_any a0 a1 a2 w1 (by omega) (by omega) (by omega) (by omega) (by omega))
  generalize shortS a0 a1 a2 = T at *
  have q1 : (T == T) = true := beq_self_eq_true _
  go_wp2_with (first | (go_at_call 20; (with_reducible refine S1.out.mono ?_); rintro e w4 ⟨rfl, rfl⟩) | (go_at_call 21; (with_reducible refine S2.out.mono ?_); rintro e w4 ⟨rfl, rfl⟩))
  go_ret
  exact ⟨rfl, B1.out⟩
end Go.Proofs.Ytnaelmddafhjlaa.Bo

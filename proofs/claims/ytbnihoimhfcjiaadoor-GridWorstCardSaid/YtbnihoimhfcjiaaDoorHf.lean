/-
  Layer 12: what the laws wake with; the laws over units and over Worst.
-/
import Derived.Test.YtbnihoimhfcjiaaDoorHe
import Derived.BigQuiet
import Derived.IntWalk
import Derived.Deep.QuietTactic
namespace Go.Proofs.YtbnihoimhfcjiaaDoor.Gr
open Go.RowKit
open Go.Proofs.YtbnihoimhfcjiaaDoor.Fx Ot Ao
set_option linter.unusedVariables false
set_option linter.unusedSimpArgs false

abbrev wkI : Ins := ⟨1, 0, 0, 0, 0, false, 0⟩
theorem wk_point : pntS 105 3650 0 = (84, 2737, 0) := by decide
theorem wk_all : allS wkI 100 0 0 = 0 := by decide +kernel
theorem wk_0 : unF wkI 100 0 0 0 = 80 := by decide +kernel
theorem wk_10 : unF wkI 100 0 0 10 = 100 := by decide +kernel
theorem wk_20 : unF wkI 100 0 0 20 = 120 := by decide +kernel
set_option maxRecDepth 100000 in
set_option maxHeartbeats 1000000 in
theorem wakes_any (w : World) (h : Tabs w) : Calls Tryd.prog 8 #[] w fun e w' => e = .returned (.bool true) ∧ Below w.heap.size w w' := by
  have P1 := Lib.hid (gpoint_any 105 3650 0 w h)
  rw [wk_point] at P1
  have U1 : Hid (∀ w, Tabs w → Calls Tryd.prog 13 #[.agg (insC wkI), .agg (undC ⟨ByteArray.empty, 0, 100, 0⟩), .int .i64 0] w fun e w' => e = .returned (.tuple #[.agg (row21 (unF wkI 100 0 0)), .int .i64 0]) ∧ Below w.heap.size w w') := Lib.hid fun w h => by
    have := units_any wkI ⟨ByteArray.empty, 0, 100, 0⟩ 0 w h
    rw [wk_all] at this
    exact this
  have HT := Lib.hid h
  clear h
  go_enter Tryd.func8, Tryd.ntmps8
  go_wp2_with fail
  refine P1.out.mono ?_
  rintro e w1 ⟨rfl, hb⟩
  go_wp2_with fail
  refine (U1.out w1 (HT.out.keep hb)).mono ?_
  rintro e w2 ⟨rfl, hb2⟩
  have B2 := Lib.hid (below_next hb hb2)
  clear hb hb2 P1 U1 HT
  have X0 := Lib.hid (Bk.new w2 nil21 36)
  obtain ⟨g, hg⟩ : ∃ g, g = w2.heap.size := ⟨_, rfl⟩
  obtain ⟨W3, hW3⟩ : ∃ W3, W3 = (w2.alloc (.cells nil21 36)).setRow g (row21 (unF wkI 100 0 0)) := ⟨_, rfl⟩
  have X3 := Bk.row X0.out (row21 (unF wkI 100 0 0))
  rw [← hg, ← hW3] at X3
  have B3 := Lib.hid (show Below w.heap.size w W3 by rw [hW3]; exact below_row (below_next B2.out (one_alloc w2 _)) (by rw [hg]; exact B2.out.size) _)
  have HG := Lib.hid hg; have HW3 := Lib.hid hW3
  clear hg hW3
  have c0 := (Bk.cell X3 0).trans (row21_at _ (show 0 < 21 by decide)); have c1 := (Bk.cell X3 10).trans (row21_at _ (show 10 < 21 by decide)); have c2 := (Bk.cell X3 20).trans (row21_at _ (show 20 < 21 by decide))
  rw [wk_0] at c0; rw [wk_10] at c1; rw [wk_20] at c2
  clear X3
  go_upto_region 3 with (with_reducible refine wp_store21 rfl (.tmp 4) (.tmp 15) rfl rfl rfl X0.out rfl rfl (row21_one _) ?_)
  rw [← HG.out, ← HW3.out]
  clear X0 HG HW3
  go_wp2
  go_ret
  exact ⟨rfl, B3.out⟩
set_option maxRecDepth 100000 in
set_option maxHeartbeats 1000000 in
theorem units_walk (i : Ins) (u : Un) (d : Int) (w : World) (h : Tabs w) :
    Calls Tryd.prog 4 #[.agg (insC i), .agg (undC u), .int .i64 d] w fun e w' => e = .returned (.bool true) ∧ Below w.heap.size w w' := by
  obtain ⟨N, hN⟩ : ∃ N, N = w.heap.size := ⟨_, rfl⟩
  obtain ⟨x0, x1, b0⟩ := two_boxes w (insC i) (undC u) 33 35
  obtain ⟨W0, hW0⟩ : ∃ W0, W0 = (w.alloc (.cells (insC i) 33)).alloc (.cells (undC u) 35) := ⟨_, rfl⟩
  rw [← hW0, ← hN] at x0 x1
  rw [← hW0] at b0
  have X0 := Lib.hid x0; have X1 := Lib.hid x1; have B := Lib.hid b0; have HN := Lib.hid hN; have HW := Lib.hid hW0
  have HT : Hid (∀ W, Below w.heap.size w W → Tabs W) := Lib.hid fun W hb => h.keep hb
  clear h x0 x1 b0 hN hW0
  go_enter Tryd.func4, Tryd.ntmps4
  go_wp2_with fail
  rw [← HN.out, ← HW.out]
  clear HW
  refine (wakes_any W0 (HT.out _ B.out)).mono ?_
  rintro e w1 ⟨rfl, hb⟩
  have B := Lib.hid (below_next B.out hb); have X0 := Lib.hid (Bk.keep X0.out hb); have X1 := Lib.hid (Bk.keep X1.out hb)
  clear hb
  obtain ⟨c0, c1, c2, c3, c4, c5, c6⟩ := Bk.seven X0.out
  obtain ⟨d0, d1, d2, d3⟩ := Bk.four X1.out
  go_wp2_with fail
  refine (units_any i u d w1 (HT.out _ B.out)).mono ?_
  rintro e w2 ⟨rfl, hb⟩
  obtain ⟨g2, V2, hg2, hV2, Y2, RB2, hb2⟩ := new_row hb (row21 (unF i u.price u.vol d)) rfl
  have Y := Lib.hid Y2; have RB := Lib.hid RB2; have HG2 := Lib.hid hg2; have HV2 := Lib.hid hV2
  have B := Lib.hid (below_next B.out hb2); have X0 := Lib.hid (Bk.keep X0.out hb2); have X1 := Lib.hid (Bk.keep X1.out hb2)
  clear hb hb2 c0 c1 c2 c3 c4 c5 c6 d0 d1 d2 d3 Y2 RB2 hg2 hV2
  go_upto_region 4 with (with_reducible refine wp_store21 rfl (.tmp 7) (.tmp 22) rfl rfl rfl Y.out rfl rfl (row21_one _) ?_)
  rw [← HG2.out, ← HV2.out]
  clear Y HV2 HG2
  obtain ⟨c0, c1, c2, c3, c4, c5, c6⟩ := Bk.seven X0.out
  obtain ⟨d0, d1, d2, d3⟩ := Bk.four X1.out
  go_wp2_with fail
  refine (runits_any i u d V2).mono ?_
  rintro e w3 ⟨rfl, hb⟩
  obtain ⟨g3, V3, hg3, hV3, Y2, RC2, hb2⟩ := new_row hb (row21 (unF i u.price u.vol d)) rfl
  have Y := Lib.hid Y2; have RC := Lib.hid RC2; have HG2 := Lib.hid hg3; have HV2 := Lib.hid hV3
  have B := Lib.hid (below_next B.out hb2); have X0 := Lib.hid (Bk.keep X0.out hb2); have X1 := Lib.hid (Bk.keep X1.out hb2); have RB := Lib.hid (Bk.keep RB.out hb2)
  clear hb hb2 c0 c1 c2 c3 c4 c5 c6 d0 d1 d2 d3 Y2 RC2 hg3 hV3
  go_upto_region 5 with (with_reducible refine wp_store21 rfl (.tmp 9) (.tmp 29) rfl rfl rfl Y.out rfl rfl (row21_one _) ?_)
  rw [← HG2.out, ← HV2.out]
  clear Y HV2 HG2
  obtain ⟨c0, c1, c2, c3, c4, c5, c6⟩ := Bk.seven X0.out
  obtain ⟨d0, d1, d2, d3⟩ := Bk.four X1.out
  go_wp2_with fail
  refine (now_any i u d V3).mono ?_
  rintro e w4 ⟨rfl, hb⟩
  have B := Lib.hid (below_next B.out hb); have X0 := Lib.hid (Bk.keep X0.out hb); have X1 := Lib.hid (Bk.keep X1.out hb); have RB := Lib.hid (Bk.keep RB.out hb); have RC := Lib.hid (Bk.keep RC.out hb)
  clear hb c0 c1 c2 c3 c4 c5 c6 d0 d1 d2 d3
  obtain ⟨c0, c1, c2, c3, c4, c5, c6⟩ := Bk.seven X0.out
  obtain ⟨d0, d1, d2, d3⟩ := Bk.four X1.out
  go_wp2_with fail
  refine (rnow_any i u d w4).mono ?_
  rintro e w5 ⟨rfl, hb⟩
  have B := Lib.hid (below_next B.out hb); have RB := Lib.hid (Bk.keep RB.out hb); have RC := Lib.hid (Bk.keep RC.out hb)
  clear hb c0 c1 c2 c3 c4 c5 c6 d0 d1 d2 d3 X0 X1
  have HQ : ∀ w, (Op.equalIn 10000 36 (.agg (row21 (unF i u.price u.vol d))) (.agg (row21 (unF i u.price u.vol d)))).run Tryd.prog w = .ok true w := fun w => by
    rw [eql_rows Tryd.underlying36 _ _ _ _ (fun j hj => row21_at _ hj) (fun j hj => row21_at _ hj) w]
    simp
  go_wp2_with (first | (with_reducible refine wp_load21 rfl (.tmp 7) rfl rfl RB.out rfl ?_) | (with_reducible refine wp_load21 rfl (.tmp 9) rfl rfl RC.out rfl ?_))
  go_ret
  exact ⟨rfl, B.out⟩
set_option maxRecDepth 100000 in
set_option maxHeartbeats 1000000 in
theorem worst_walk (f : Nat → Int) (R : Array Value) (hR : Row21 f 21 R) (w : World) (h : Tabs w) :
    Calls Tryd.prog 6 #[.agg R] w fun e w' => e = .returned (.bool true) ∧ Below w.heap.size w w' := by
  obtain ⟨N, hN⟩ : ∃ N, N = w.heap.size := ⟨_, rfl⟩
  have x0 := Bk.new w R 36
  have b0 := one_alloc w (.cells R 36)
  obtain ⟨W0, hW0⟩ : ∃ W0, W0 = w.alloc (.cells R 36) := ⟨_, rfl⟩
  rw [← hW0, ← hN] at x0
  rw [← hW0] at b0
  have X0 := Lib.hid x0; have B := Lib.hid b0; have HN := Lib.hid hN; have HW := Lib.hid hW0
  have HS := Lib.hid hR.1; have HR := Lib.hid hR.2; have HRow := Lib.hid hR
  have HT : Hid (∀ W, Below w.heap.size w W → Tabs W) := Lib.hid fun W hb => h.keep hb
  clear h x0 b0 hN hW0 hR
  go_enter Tryd.func6, Tryd.ntmps6
  go_wp2_with fail
  rw [← HN.out, ← HW.out]
  clear HW
  refine (wakes_any W0 (HT.out _ B.out)).mono ?_
  rintro e w1 ⟨rfl, hb⟩
  have B := Lib.hid (below_next B.out hb); have X0 := Lib.hid (Bk.keep X0.out hb)
  clear hb
  go_upto_region 4 with (first | (with_reducible refine wp_load21 rfl (.tmp 1) rfl rfl X0.out HS.out ?_) | (go_at_call 17; (with_reducible refine (worst_any f R HRow.out _).mono ?_); rintro e w2 ⟨rfl, hb⟩; have B := Lib.hid (below_next B.out hb); have X0 := Lib.hid (Bk.keep X0.out hb); clear hb))
  have HM : Hid (∀ j, j < 21 → f j ≤ f (top1 f 21) ∧ (f j = f (top1 f 21) → top1 f 21 ≤ j)) := Lib.hid fun j hj => top1_best f 21 j hj
  have ht : top1 f 21 < 21 := top1_lt f 21 (by decide)
  have c0 := (Bk.cell X0.out _).trans (HR.out _ ht)
  obtain ⟨t, htt⟩ : ∃ t, top1 f 21 = t := ⟨_, rfl⟩
  rw [htt] at HM ht c0 ⊢
  have t1 : (f t != f t) = false := bne_self_eq_false _
  clear htt
  go_wp2_with (with_reducible refine wp_load21 rfl (.tmp 1) rfl rfl X0.out HS.out ?_)
  clear c0 t1
  go_loopg [28] 21 (fun m j wr => ∃ (k : Nat), k + m = 21 ∧ j = .int .i64 (k : Int) ∧ wr = w2)
  case atStart => exact ⟨0, by omega, rfl, rfl⟩
  case round =>
    obtain ⟨k, hk, rfl, rfl⟩ := hrel
    by_cases hlt : k < 21
    · have r0 := index21 hlt (HR.out k hlt)
      obtain ⟨m1, m2⟩ := HM.out k hlt
      have q1 : decide (f t < f k) = false := decide_eq_false (by omega)
      by_cases he : f k = f t
      · have q2 : (f k == f t) = true := beq_iff_eq.2 he
        have q3 : decide (k < t) = false := decide_eq_false (by have := m2 he; omega)
        clear m1 m2 he
        go_wp2
        go_roundg (20 - k)
        case measure => omega
        case rel => exact ⟨k + 1, by omega, by go_num, rfl⟩
      · have q2 : (f k == f t) = false := beq_eq_false_iff_ne.2 he
        clear m1 m2 he
        go_wp2
        go_roundg (20 - k)
        case measure => omega
        case rel => exact ⟨k + 1, by omega, by go_num, rfl⟩
    · go_wp2
      go_ret
      exact ⟨rfl, B.out⟩
set_option maxRecDepth 100000 in
set_option maxHeartbeats 2000000 in
theorem rises_walk (i : Ins) (u : Un) (d : Int) (w : World) (h : Tabs w) :
    Calls Tryd.prog 5 #[.agg (insC i), .agg (undC u), .int .i64 d] w fun e w' => e = .returned (.bool true) ∧ Below w.heap.size w w' := by
  obtain ⟨N, hN⟩ : ∃ N, N = w.heap.size := ⟨_, rfl⟩
  obtain ⟨x0, x1, b0⟩ := two_boxes w (insC i) (undC u) 33 35
  obtain ⟨W0, hW0⟩ : ∃ W0, W0 = (w.alloc (.cells (insC i) 33)).alloc (.cells (undC u) 35) := ⟨_, rfl⟩
  rw [← hW0, ← hN] at x0 x1
  rw [← hW0] at b0
  have X0 := Lib.hid x0; have X1 := Lib.hid x1; have B := Lib.hid b0; have HN := Lib.hid hN; have HW := Lib.hid hW0
  have HT : Hid (∀ W, Below w.heap.size w W → Tabs W) := Lib.hid fun W hb => h.keep hb
  clear h x0 x1 b0 hN hW0
  have HU := Lib.hid fun w (h : Tabs w) => units_any i u d w h
  have HW2 := Lib.hid HW.out
  by_cases h0 : allS i u.price u.vol d = 0
  rotate_left
  · rw [unF_no h0] at HU
    obtain ⟨E, hE⟩ : ∃ E, allS i u.price u.vol d = E := ⟨_, rfl⟩
    rw [hE] at HU h0
    have q0 : (E != 0) = true := bne_iff_ne.2 h0
    have HQ : ∀ w, (Op.equalIn 10000 36 (.agg nil21) (.agg nil21)).run Tryd.prog w = .ok true w := fun w => by
      rw [eql_rows Tryd.underlying36 _ _ _ _ (fun j hj => row21_at (fun _ => 0) hj) (fun j hj => row21_at (fun _ => 0) hj) w]
      simp
    have HNow := Lib.hid fun w => now_any i u d w
    generalize (nowS i u.price u.vol d).1 = n1 at *
    generalize (nowS i u.price u.vol d).2 = n2 at *
    clear hE h0
    go_enter Tryd.func5, Tryd.ntmps5
    go_wp2_with fail
    rw [← HN.out, ← HW.out]
    clear HW HW2
    refine (wakes_any W0 (HT.out _ B.out)).mono ?_
    rintro e w1 ⟨rfl, hb⟩
    have B := Lib.hid (below_next B.out hb); have X0 := Lib.hid (Bk.keep X0.out hb); have X1 := Lib.hid (Bk.keep X1.out hb)
    clear hb
    obtain ⟨c0, c1, c2, c3, c4, c5, c6⟩ := Bk.seven X0.out
    obtain ⟨d0, d1, d2, d3⟩ := Bk.four X1.out
    go_wp2_with fail
    refine (HU.out w1 (HT.out _ B.out)).mono ?_
    rintro e w2 ⟨rfl, hb⟩
    obtain ⟨g2, V2, hg2, hV2, Y2, RB2, hb2⟩ := new_row hb nil21 rfl
    have Y := Lib.hid Y2; have RB := Lib.hid RB2; have HG2 := Lib.hid hg2; have HV2 := Lib.hid hV2
    have B := Lib.hid (below_next B.out hb2); have X0 := Lib.hid (Bk.keep X0.out hb2); have X1 := Lib.hid (Bk.keep X1.out hb2)
    clear hb hb2 c0 c1 c2 c3 c4 c5 c6 d0 d1 d2 d3 Y2 RB2 hg2 hV2
    go_upto_region 4 with (with_reducible refine wp_store21 rfl (.tmp 7) (.tmp 20) rfl rfl rfl Y.out rfl rfl (row21_one fun _ => 0) ?_)
    rw [← HG2.out, ← HV2.out]
    clear Y HV2 HG2
    obtain ⟨c0, c1, c2, c3, c4, c5, c6⟩ := Bk.seven X0.out
    obtain ⟨d0, d1, d2, d3⟩ := Bk.four X1.out
    go_wp2_with fail
    refine (HNow.out V2).mono ?_
    rintro e w4 ⟨rfl, hb⟩
    have B := Lib.hid (below_next B.out hb); have RB := Lib.hid (Bk.keep RB.out hb)
    clear hb c0 c1 c2 c3 c4 c5 c6 d0 d1 d2 d3 X0 X1
    go_wp2_with (with_reducible refine wp_load21 rfl (.tmp 7) rfl rfl RB.out rfl ?_)
    go_ret
    exact ⟨rfl, B.out⟩
  · rw [unF_ok h0, h0] at HU
    have HNow := Lib.hid fun w => now_any i u d w
    rw [now_ok h0] at HNow
    have HR0 := Lib.hid fun (k : Nat) (hk : k + 3 < 21) => units_rise h0 hk
    obtain ⟨g, hg⟩ : ∃ g : Nat → Int, (fun s => (atS i u.price u.vol d s).1) = g := ⟨_, rfl⟩
    have hg2 : ∀ s, (atS i u.price u.vol d s).1 = g s := fun s => congrFun hg s
    simp only [hg2] at HU HR0 HNow
    clear hg hg2 h0
    go_enter Tryd.func5, Tryd.ntmps5
    go_wp2_with fail
    rw [← HN.out, ← HW.out]
    clear HW HW2
    refine (wakes_any W0 (HT.out _ B.out)).mono ?_
    rintro e w1 ⟨rfl, hb⟩
    have B := Lib.hid (below_next B.out hb); have X0 := Lib.hid (Bk.keep X0.out hb); have X1 := Lib.hid (Bk.keep X1.out hb)
    clear hb
    obtain ⟨c0, c1, c2, c3, c4, c5, c6⟩ := Bk.seven X0.out
    obtain ⟨d0, d1, d2, d3⟩ := Bk.four X1.out
    go_wp2_with fail
    refine (HU.out w1 (HT.out _ B.out)).mono ?_
    rintro e w2 ⟨rfl, hb⟩
    obtain ⟨g2, V2, hg2, hV2, Y2, RB2, hb2⟩ := new_row hb (row21 g) rfl
    have Y := Lib.hid Y2; have RB := Lib.hid RB2; have HG2 := Lib.hid hg2; have HV2 := Lib.hid hV2
    have B := Lib.hid (below_next B.out hb2); have X0 := Lib.hid (Bk.keep X0.out hb2); have X1 := Lib.hid (Bk.keep X1.out hb2)
    clear hb hb2 c0 c1 c2 c3 c4 c5 c6 d0 d1 d2 d3 Y2 RB2 hg2 hV2
    go_upto_region 4 with (with_reducible refine wp_store21 rfl (.tmp 7) (.tmp 20) rfl rfl rfl Y.out rfl rfl (row21_one g) ?_)
    rw [← HG2.out, ← HV2.out]
    clear Y HV2 HG2
    obtain ⟨c0, c1, c2, c3, c4, c5, c6⟩ := Bk.seven X0.out
    obtain ⟨d0, d1, d2, d3⟩ := Bk.four X1.out
    go_wp2_with fail
    refine (HNow.out V2).mono ?_
    rintro e w4 ⟨rfl, hb⟩
    have B := Lib.hid (below_next B.out hb); have RB := Lib.hid (Bk.keep RB.out hb); have X0 := Lib.hid (Bk.keep X0.out hb)
    clear hb c0 c1 c2 c3 c4 c5 c6 d0 d1 d2 d3
    obtain ⟨k0, k1, k2, k3, k4, k5, k6⟩ := Bk.seven X0.out
    have c10 := (Bk.cell RB.out _).trans (row21_at g (show 10 < 21 by decide))
    by_cases hk3 : i.kind = 3
    · have q1 : (i.kind == 3) = true := beq_iff_eq.2 hk3
      cases hc : i.call
      · have HR : Hid (∀ k, k + 3 < 21 → g (k + 3) ≤ g k) := Lib.hid fun k hk => (HR0.out k hk).1 ⟨hk3, hc⟩
        rw [hc] at k5
        clear hk3 HR0 hc
        go_wp2
        clear c10 k0 k1 k2 k3 k4 k5 k6 q1
        go_loopg [12] 18 (fun m j wr => ∃ (k n : Nat), k + m = 18 ∧ j = .int .i64 (k : Int) ∧ wr = w4.drewN n)
        case atStart => exact ⟨0, 0, by omega, rfl, rfl⟩
        case round =>
          obtain ⟨k, n, hk, rfl, rfl⟩ := hrel
          by_cases hlt : k < 18
          · have e0 := (Bk.cell RB.out _).trans (row21_at g (show k < 21 by omega))
            have e3 := (Bk.cell RB.out _).trans (row21_at g (show k + 3 < 21 by omega))
            have hr := HR.out k (by omega)
            have q2 : decide (g k < g (k + 3)) = false := decide_eq_false (by omega)
            have i1 : IntKind.i64.wrap ((k : Int) + 3) = (k : Int) + 3 := IntWalk.i64_in _ (by omega)
            have i2 : (0 : Int) ≤ (k : Int) + 3 := by omega
            have i3 : (k : Int) + 3 < 21 := by omega
            have i4 : ((k : Int) + 3).toNat = k + 3 := by omega
            have i5 : (k : Int) < 21 := by omega
            generalize g k = a at *
            generalize g (k + 3) = b at *
            clear hr
            go_wp2
            go_quiet (fail)
            go_wp2
            go_roundg (17 - k)
            case measure => omega
            case rel => exact ⟨k + 1, _, by omega, by go_num, by first | rfl | exact World.drewN_drewN ..⟩
          · go_wp2
            go_ret
            exact ⟨rfl, below_drewN B.out _⟩
      · have HR : Hid (∀ k, k + 3 < 21 → g k ≤ g (k + 3)) := Lib.hid fun k hk => (HR0.out k hk).2 (by rw [hc]; simp)
        rw [hc] at k5
        clear hk3 HR0 hc
        go_wp2
        clear c10 k0 k1 k2 k3 k4 k5 k6 q1
        go_loopg [12] 18 (fun m j wr => ∃ (k n : Nat), k + m = 18 ∧ j = .int .i64 (k : Int) ∧ wr = w4.drewN n)
        case atStart => exact ⟨0, 0, by omega, rfl, rfl⟩
        case round =>
          obtain ⟨k, n, hk, rfl, rfl⟩ := hrel
          by_cases hlt : k < 18
          · have e0 := (Bk.cell RB.out _).trans (row21_at g (show k < 21 by omega))
            have e3 := (Bk.cell RB.out _).trans (row21_at g (show k + 3 < 21 by omega))
            have hr := HR.out k (by omega)
            have q2 : decide (g (k + 3) < g k) = false := decide_eq_false (by omega)
            have i1 : IntKind.i64.wrap ((k : Int) + 3) = (k : Int) + 3 := IntWalk.i64_in _ (by omega)
            have i2 : (0 : Int) ≤ (k : Int) + 3 := by omega
            have i3 : (k : Int) + 3 < 21 := by omega
            have i4 : ((k : Int) + 3).toNat = k + 3 := by omega
            have i5 : (k : Int) < 21 := by omega
            generalize g k = a at *
            generalize g (k + 3) = b at *
            clear hr
            go_wp2
            go_quiet (fail)
            go_wp2
            go_roundg (17 - k)
            case measure => omega
            case rel => exact ⟨k + 1, _, by omega, by go_num, by first | rfl | exact World.drewN_drewN ..⟩
          · go_wp2
            go_ret
            exact ⟨rfl, below_drewN B.out _⟩
    · have q1 : (i.kind == 3) = false := beq_eq_false_iff_ne.2 hk3
      have HR : Hid (∀ k, k + 3 < 21 → g k ≤ g (k + 3)) := Lib.hid fun k hk => (HR0.out k hk).2 (fun h => hk3 h.1)
      clear hk3 HR0
      go_wp2
      clear c10 k0 k1 k2 k3 k4 k5 k6 q1
      go_loopg [12] 18 (fun m j wr => ∃ (k n : Nat), k + m = 18 ∧ j = .int .i64 (k : Int) ∧ wr = w4.drewN n)
      case atStart => exact ⟨0, 0, by omega, rfl, rfl⟩
      case round =>
        obtain ⟨k, n, hk, rfl, rfl⟩ := hrel
        by_cases hlt : k < 18
        · have e0 := (Bk.cell RB.out _).trans (row21_at g (show k < 21 by omega))
          have e3 := (Bk.cell RB.out _).trans (row21_at g (show k + 3 < 21 by omega))
          have hr := HR.out k (by omega)
          have q2 : decide (g (k + 3) < g k) = false := decide_eq_false (by omega)
          have i1 : IntKind.i64.wrap ((k : Int) + 3) = (k : Int) + 3 := IntWalk.i64_in _ (by omega)
          have i2 : (0 : Int) ≤ (k : Int) + 3 := by omega
          have i3 : (k : Int) + 3 < 21 := by omega
          have i4 : ((k : Int) + 3).toNat = k + 3 := by omega
          have i5 : (k : Int) < 21 := by omega
          generalize g k = a at *
          generalize g (k + 3) = b at *
          clear hr
          go_wp2
          go_quiet (fail)
          go_wp2
          go_roundg (17 - k)
          case measure => omega
          case rel => exact ⟨k + 1, _, by omega, by go_num, by first | rfl | exact World.drewN_drewN ..⟩
        · go_wp2
          go_ret
          exact ⟨rfl, below_drewN B.out _⟩
end Go.Proofs.YtbnihoimhfcjiaaDoor.Gr

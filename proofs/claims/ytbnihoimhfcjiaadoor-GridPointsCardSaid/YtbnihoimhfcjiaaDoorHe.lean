/-
  Layer 12: the reference's units in each scenario, and as things are; Worst.
-/
import Derived.Test.YtbnihoimhfcjiaaDoorHd
namespace Go.Proofs.YtbnihoimhfcjiaaDoor.Gr
open Go.RowKit
open Go.Proofs.YtbnihoimhfcjiaaDoor.Fx Ot Ao
set_option linter.unusedVariables false
set_option linter.unusedSimpArgs false

set_option maxRecDepth 100000 in
set_option maxHeartbeats 1000000 in
theorem worst_any (f : Nat → Int) (R : Array Value) (hR : Row21 f 21 R) (w : World) :
    Calls Tryd.prog 17 #[.agg R] w fun e w' => e = .returned (.tuple #[.int .i64 (f (top1 f 21)), .int .i64 ((top1 f 21 : Nat) : Int)]) ∧ Below w.heap.size w w' := by
  have X0 := Lib.hid (Bk.new w R 36)
  have B0 := Lib.hid (one_alloc w (.cells R 36))
  have HS := Lib.hid hR.1
  have HR := Lib.hid hR.2
  clear hR
  go_enter Tryd.func17, Tryd.ntmps17
  go_wp2_with (with_reducible refine wp_load21 rfl (.tmp 1) rfl rfl X0.out HS.out ?_)
  obtain ⟨g, hg⟩ : ∃ g, g = w.heap.size := ⟨_, rfl⟩
  obtain ⟨W0, hW0⟩ : ∃ W0, W0 = w.alloc (.cells R 36) := ⟨_, rfl⟩
  rw [← hg, ← hW0]
  rw [← hW0] at B0 X0
  have HC : Hid (∀ j, j < 21 → W0.cell? ⟨g, j, none⟩ = some (.int .i64 (f j))) := Lib.hid fun j hj => by
    have := (Bk.cell X0.out j).trans (HR.out j hj)
    rwa [← hg] at this
  clear hg hW0 X0
  go_loopg [4, 8] 21 (fun m a j wr => ∃ (k : Nat), k + m = 21 ∧ a = .int .i64 ((top1 f k : Nat) : Int) ∧ j = .int .i64 (k : Int) ∧ wr = W0)
  case atStart => exact ⟨0, by omega, rfl, rfl, rfl⟩
  case round =>
    obtain ⟨k, hk, rfl, rfl, rfl⟩ := hrel
    have ht : top1 f k < 21 := by
      rcases Nat.eq_zero_or_pos k with h | h
      · rw [h]; show 0 < 21; decide
      · have := top1_lt f k h; omega
    have c0 := HC.out _ ht
    by_cases hlt : k < 21
    · have r0 := index21 hlt (HR.out k hlt)
      obtain ⟨t, htt⟩ : ∃ t, top1 f k = t := ⟨_, rfl⟩
      rw [htt] at c0 ht
      have hd : ∀ T : Nat, top1 f (k + 1) = T → Hid (.int .i64 ((T : Nat) : Int) = (Value.int .i64 ((top1 f (k + 1) : Nat) : Int))) := fun T h => Lib.hid (by rw [h])
      by_cases hb : f t < f k
      · have HN := hd k (by show (if f (top1 f k) < f k then k else top1 f k) = k; rw [htt, if_pos hb])
        rw [htt]
        clear htt hd
        go_wp2
        go_roundg (20 - k)
        case measure => omega
        case rel => exact ⟨k + 1, by omega, HN.out, by go_num, rfl⟩
      · have HN := hd t (by show (if f (top1 f k) < f k then k else top1 f k) = t; rw [htt, if_neg hb])
        rw [htt]
        clear htt hd
        go_wp2
        go_roundg (20 - k)
        case measure => omega
        case rel => exact ⟨k + 1, by omega, HN.out, by go_num, rfl⟩
    · have h21 : k = 21 := by omega
      subst h21
      go_wp2
      go_ret2
      exact ⟨rfl, B0.out⟩
set_option maxRecDepth 100000 in
set_option maxHeartbeats 2000000 in
theorem runits_any (i : Ins) (u : Un) (d : Int) (w : World) :
    Calls Tryd.prog 14 #[.agg (insC i), .agg (undC u), .int .i64 d] w fun e w' => e = .returned (.tuple #[.agg (row21 (unF i u.price u.vol d)), .int .i64 (allS i u.price u.vol d)]) ∧ Below w.heap.size w w' := by
  obtain ⟨N, hN⟩ : ∃ N, N = w.heap.size := ⟨_, rfl⟩
  obtain ⟨x0, x1, x2, b0⟩ := three_boxes w (insC i) (undC u) nil21 33 35 36
  obtain ⟨W0, hW0⟩ : ∃ W0, W0 = (((w.alloc (.cells (insC i) 33)).alloc (.cells (undC u) 35)).alloc (.cells nil21 36)) := ⟨_, rfl⟩
  have hz : W0.heap.size = N + 1 + 1 + 1 := by rw [hW0, hN, World.size_alloc, World.size_alloc, World.size_alloc]
  rw [← hW0, ← hN] at x0 x1 x2
  rw [← hW0] at b0
  have x3 := Bk.new W0 nil21 36
  have hb3 := one_alloc W0 (.cells nil21 36)
  obtain ⟨W1, hW1⟩ : ∃ W1, W1 = W0.alloc (.cells nil21 36) := ⟨_, rfl⟩
  rw [← hW1] at x3 hb3
  have HZ := Lib.hid hz
  have X0 := Lib.hid (x0.keep hb3); have X1 := Lib.hid (x1.keep hb3); have X2 := Lib.hid (x2.keep hb3); have X3 := Lib.hid x3; have B0 := Lib.hid (below_next b0 hb3); have HN := Lib.hid hN; have HW := Lib.hid hW0; have HW1 := Lib.hid hW1
  clear x0 x1 x2 b0 hN hW0 x3 hb3 hW1 hz
  cases hq : quB u.price u.vol
  · go_enter Tryd.func14, Tryd.ntmps14
    go_upto_region 1 with (fail)
    rw [← HN.out, ← HW.out]
    go_wp2_with (with_reducible refine wp_store21 rfl (.tmp 8) (.tmp 14) rfl rfl rfl (HW1.out ▸ X3.out) rfl rfl (row21_one fun _ => 0) ?_)
    rw [← HW1.out]
    have X3 := Lib.hid (Bk.row X3.out (row21 fun _ => 0))
    obtain ⟨G, hG⟩ : ∃ G, G = W0.heap.size := ⟨_, rfl⟩
    rw [← hG] at X3 ⊢
    have hGN : G = N + 1 + 1 + 1 := by rw [hG, HZ.out]
    obtain ⟨W2, hW2⟩ : ∃ W2, W2 = W1.setRow G (row21 fun _ => 0) := ⟨_, rfl⟩
    rw [← hW2] at X3 ⊢
    have X0 := Lib.hid (show Bk W2 N (insC i) 33 by rw [hW2]; exact Bk.apart X0.out _ _ (by omega))
    have X1 := Lib.hid (show Bk W2 (N + 1) (undC u) 35 by rw [hW2]; exact Bk.apart X1.out _ _ (by omega))
    have X2 := Lib.hid (show Bk W2 (N + 1 + 1) nil21 36 by rw [hW2]; exact Bk.apart X2.out _ _ (by omega))
    have B0 := Lib.hid (show Below w.heap.size w W2 by rw [hW2]; exact below_row B0.out (by rw [← HN.out]; omega) _)
    have HG := Lib.hid hGN
    clear hG hGN hW2 HW1 HW HZ
    have HE := Lib.hid (allS_no (i := i) (d := d) hq)
    have HF : Hid (unF i u.price u.vol d = fun _ => 0) := Lib.hid (unF_no (by rw [HE.out]; decide))
    have P1 := Lib.hid (rpoint_any u.price u.vol 0 W2)
    rw [pnt_no (by rw [hq]; simp)] at P1
    clear hq
    go_loopg [9] 21 (fun m j wr => m = 21 ∧ j = .int .i64 0 ∧ wr = W2)
    case atStart => exact ⟨rfl, rfl, rfl⟩
    case round =>
      obtain ⟨rfl, rfl, rfl⟩ := hrel
      obtain ⟨d0, d1, d2, d3⟩ := Bk.four X1.out
      have HB := B0
      go_wp2_with (first | (go_at_call 10; (with_reducible refine P1.out.mono ?_); rintro e w1 ⟨rfl, hb⟩; have B1 := Lib.hid (below_next HB.out hb); have Y0 := Lib.hid (Bk.keep X0.out hb); have Y1 := Lib.hid (Bk.keep X1.out hb); have Y2 := Lib.hid (Bk.keep X2.out hb); have Y3 := Lib.hid (Bk.keep X3.out hb); obtain ⟨c0, c1, c2, c3, c4, c5, c6⟩ := Bk.seven Y0.out; clear hb) | (with_reducible refine wp_store21 rfl (.tmp 6) (.tmp 31) rfl rfl rfl Y2.out rfl rfl (row21_one fun _ => 0) ?_))
      refine bodyPost_ret (res_box rfl rfl (Bk.row Y2.out (row21 fun _ => 0)) rfl) rfl ⟨?_, below_row B1.out (by rw [HN.out]; omega) _⟩
      rw [HF.out, HE.out]
      rfl
  · go_enter Tryd.func14, Tryd.ntmps14
    go_upto_region 1 with (fail)
    rw [← HN.out, ← HW.out]
    go_wp2_with (with_reducible refine wp_store21 rfl (.tmp 8) (.tmp 14) rfl rfl rfl (HW1.out ▸ X3.out) rfl rfl (row21_one fun _ => 0) ?_)
    rw [← HW1.out]
    have X3 := Lib.hid (Bk.row X3.out (row21 fun _ => 0))
    obtain ⟨G, hG⟩ : ∃ G, G = W0.heap.size := ⟨_, rfl⟩
    rw [← hG] at X3 ⊢
    have hGN : G = N + 1 + 1 + 1 := by rw [hG, HZ.out]
    obtain ⟨W2, hW2⟩ : ∃ W2, W2 = W1.setRow G (row21 fun _ => 0) := ⟨_, rfl⟩
    rw [← hW2] at X3 ⊢
    have X0 := Lib.hid (show Bk W2 N (insC i) 33 by rw [hW2]; exact Bk.apart X0.out _ _ (by omega))
    have X1 := Lib.hid (show Bk W2 (N + 1) (undC u) 35 by rw [hW2]; exact Bk.apart X1.out _ _ (by omega))
    have X2 := Lib.hid (show Bk W2 (N + 1 + 1) nil21 36 by rw [hW2]; exact Bk.apart X2.out _ _ (by omega))
    have B0 := Lib.hid (show Below w.heap.size w W2 by rw [hW2]; exact below_row B0.out (by rw [← HN.out]; omega) _)
    have HG := Lib.hid hGN
    clear hG hGN hW2 HW1 HW HZ
    have HA : Hid (allS i u.price u.vol d = errS i u.price u.vol d 0 21) := Lib.hid (if_pos hq)
    have HQ := Lib.hid hq
    clear hq
    go_loopg [9] 21 (fun m j wr => ∃ (k : Nat) (cs : Array Value), k + m = 21 ∧ j = .int .i64 (k : Int) ∧ Hid (allS i u.price u.vol d = errS i u.price u.vol d k m) ∧ Hid (Bk wr N (insC i) 33) ∧ Hid (Bk wr (N + 1) (undC u) 35) ∧ Hid (Bk wr (N + 1 + 1) nil21 36) ∧ Hid (Bk wr G cs 36) ∧ Hid (Row21 (fun s => (atS i u.price u.vol d s).1) k cs) ∧ Hid (Below w.heap.size w wr))
    case atStart => exact ⟨0, _, by omega, rfl, Lib.hid HA.out, X0, X1, X2, X3, Lib.hid ⟨rfl, fun j hj => absurd hj (Nat.not_lt_zero _)⟩, B0⟩
    case round =>
      obtain ⟨k, cs, hk, rfl, HE, X0, X1, X2, X3, HR, HB⟩ := hrel
      obtain ⟨d0, d1, d2, d3⟩ := Bk.four X1.out
      by_cases hlt : k < 21
      · obtain ⟨m, rfl⟩ : ∃ m, gk = m + 1 := ⟨gk - 1, by omega⟩
        have P1 := Lib.hid (rpoint_any u.price u.vol k wr)
        rw [pnt_ok hlt HQ.out] at P1
        obtain ⟨x, c, hx⟩ : ∃ x c, atS i u.price u.vol d k = (x, c) := ⟨_, _, rfl⟩
        have U1 : Hid (∀ w, Calls Tryd.prog 25 #[.agg (insC i), .int .i64 (shS u.price (shP k)), .int .i64 (shS u.vol (shV k)), .int .i64 d] w fun e w' => e = .returned (.tuple #[.int .i64 x, .int .i64 c]) ∧ Below w.heap.size w w') := Lib.hid fun w => by
          have := runit_any i (shS u.price (shP k)) (shS u.vol (shV k)) d w
          rw [show unitS i (shS u.price (shP k)) (shS u.vol (shV k)) d = (x, c) from hx] at this
          exact this
        by_cases hc : c = 0
        · subst hc
          have HE2 : Hid (allS i u.price u.vol d = errS i u.price u.vol d (k + 1) m) := Lib.hid (HE.out.trans (err_step (by rw [hx])))
          have HR2 := Lib.hid (HR.out.next hlt)
          rw [hx] at HR2
          have hsz := HR.out.1
          clear hx
          go_wp2_with (first | (go_at_call 10; (with_reducible refine P1.out.mono ?_); rintro e w1 ⟨rfl, hb⟩; have B1 := Lib.hid (below_next HB.out hb); have Y0 := Lib.hid (Bk.keep X0.out hb); have Y1 := Lib.hid (Bk.keep X1.out hb); have Y2 := Lib.hid (Bk.keep X2.out hb); have Y3 := Lib.hid (Bk.keep X3.out hb); obtain ⟨c0, c1, c2, c3, c4, c5, c6⟩ := Bk.seven Y0.out; clear hb) | (go_at_call 25; (with_reducible refine (U1.out _).mono ?_); rintro e w2 ⟨rfl, hb⟩; have B2 := Lib.hid (below_next B1.out hb); have Z0 := Lib.hid (Bk.keep Y0.out hb); have Z1 := Lib.hid (Bk.keep Y1.out hb); have Z2 := Lib.hid (Bk.keep Y2.out hb); have Z3 := Lib.hid (Bk.keep Y3.out hb); have f2 := Bk.free Z3.out k; obtain ⟨o2, d2⟩ : ∃ o, w2.cell? ⟨G, k, none⟩ = some o := ⟨_, (Bk.cell Z3.out k).trans (Array.getElem?_eq_getElem (by rw [hsz]; exact hlt))⟩; clear hb))
          go_roundg m
          case measure => omega
          case rel => exact ⟨k + 1, _, by omega, by go_num, HE2, Lib.hid (Bk.other Z0.out _ _ (by show G ≠ N; rw [HG.out]; omega)), Lib.hid (Bk.other Z1.out _ _ (by show G ≠ N + 1; rw [HG.out]; omega)), Lib.hid (Bk.other Z2.out _ _ (by show G ≠ N + 1 + 1; rw [HG.out]; omega)), Lib.hid (Bk.set Z3.out k _), HR2, Lib.hid (B2.out.setCell (p := ⟨G, k, none⟩) (by show w.heap.size ≤ G; rw [HG.out, HN.out]; omega) _)⟩
        · have HE2 : Hid (allS i u.price u.vol d = c) := Lib.hid (HE.out.trans ((err_stop (by rw [hx]; exact hc)).trans (by rw [hx])))
          have HF : Hid (unF i u.price u.vol d = fun _ => 0) := Lib.hid (unF_no (by rw [HE2.out]; exact hc))
          clear hx
          go_wp2_with (first | (go_at_call 10; (with_reducible refine P1.out.mono ?_); rintro e w1 ⟨rfl, hb⟩; have B1 := Lib.hid (below_next HB.out hb); have Y0 := Lib.hid (Bk.keep X0.out hb); have Y1 := Lib.hid (Bk.keep X1.out hb); have Y2 := Lib.hid (Bk.keep X2.out hb); have Y3 := Lib.hid (Bk.keep X3.out hb); obtain ⟨c0, c1, c2, c3, c4, c5, c6⟩ := Bk.seven Y0.out; clear hb) | (go_at_call 25; (with_reducible refine (U1.out _).mono ?_); rintro e w2 ⟨rfl, hb⟩; have B2 := Lib.hid (below_next B1.out hb); have Z0 := Lib.hid (Bk.keep Y0.out hb); have Z1 := Lib.hid (Bk.keep Y1.out hb); have Z2 := Lib.hid (Bk.keep Y2.out hb); have Z3 := Lib.hid (Bk.keep Y3.out hb); clear hb) | (with_reducible refine wp_store21 rfl (.tmp 6) (.tmp 43) rfl rfl rfl Z2.out rfl rfl (row21_one fun _ => 0) ?_))
          refine bodyPost_ret (res_box rfl rfl (Bk.row Z2.out (row21 fun _ => 0)) rfl) rfl ⟨?_, below_row B2.out (by rw [HN.out]; omega) _⟩
          rw [HF.out, HE2.out]
          rfl
      · have h21 : k = 21 := by omega
        subst h21
        have h0 : allS i u.price u.vol d = 0 := by have := HE.out; rw [show gk = 0 by omega] at this; exact this
        have hcs := HR.out.whole
        rw [hcs] at X3
        have HF : Hid (row21 (unF i u.price u.vol d) = row21 fun s => (atS i u.price u.vol d s).1) := Lib.hid (by rw [unF_ok h0])
        have HB2 := Lib.hid (below_row HB.out (g := N + 1 + 1) (by rw [HN.out]; omega) (row21 fun s => (atS i u.price u.vol d s).1))
        have R1 := Lib.hid (Bk.row X2.out (row21 fun s => (atS i u.price u.vol d s).1))
        have H0 := Lib.hid h0
        obtain ⟨g, hg⟩ : ∃ g : Nat → Int, (fun s => (atS i u.price u.vol d s).1) = g := ⟨_, rfl⟩
        rw [hg] at X3 R1 HB2 HF
        clear hcs HR h0 hg
        go_wp2_with (first | (with_reducible refine wp_load21 rfl (.tmp 8) rfl rfl X3.out rfl ?_) | (with_reducible refine wp_store21 rfl (.tmp 6) (.tmp 48) rfl rfl rfl X2.out rfl rfl (row21_one g) ?_))
        refine bodyPost_ret (res_box rfl rfl R1.out rfl) rfl ⟨?_, HB2.out⟩
        rw [HF.out, H0.out]
        rfl
set_option maxRecDepth 100000 in
theorem rnow_any (i : Ins) (u : Un) (d : Int) (w : World) :
    Calls Tryd.prog 16 #[.agg (insC i), .agg (undC u), .int .i64 d] w fun e w' => e = .returned (.tuple #[.int .i64 (nowS i u.price u.vol d).1, .int .i64 (nowS i u.price u.vol d).2]) ∧ Below w.heap.size w w' := by
  have b0 := below_two w (.cells (insC i) 33) (.cells (undC u) 35)
  have x0 := (Bk.new w (insC i) 33).more (.cells (undC u) 35)
  have x1 := Bk.new (w.alloc (.cells (insC i) 33)) (undC u) 35
  rw [World.size_alloc] at x1
  obtain ⟨N, hN⟩ : ∃ N, N = w.heap.size := ⟨_, rfl⟩
  obtain ⟨W0, hW0⟩ : ∃ W0, W0 = ((w.alloc (.cells (insC i) 33)).alloc (.cells (undC u) 35)) := ⟨_, rfl⟩
  rw [← hW0, ← hN] at x0 x1
  rw [← hW0] at b0
  have X0 := Lib.hid x0; have X1 := Lib.hid x1; have B0 := Lib.hid b0; have HN := Lib.hid hN; have HW := Lib.hid hW0
  have HQ := Lib.hid (rfits_grid u.price u.vol)
  have HU := Lib.hid (runit_any i u.price u.vol d)
  clear x0 x1 b0 hN hW0
  cases hq : quB u.price u.vol
  · have HE := Lib.hid (nowS_no (i := i) (d := d) hq)
    rw [hq] at HQ
    clear hq
    go_enter Tryd.func16, Tryd.ntmps16
    go_wp2_with fail
    rw [← HN.out, ← HW.out]
    refine (HQ.out _).mono ?_
    rintro e w1 ⟨rfl, rfl⟩
    go_wp2
    go_ret2
    exact ⟨by rw [HE.out] <;> rfl, B0.out⟩
  · have HE := Lib.hid (nowS_yes (i := i) (d := d) hq)
    rw [hq] at HQ
    clear hq
    go_enter Tryd.func16, Tryd.ntmps16
    go_wp2_with fail
    rw [← HN.out, ← HW.out]
    refine (HQ.out _).mono ?_
    rintro e w1 ⟨rfl, rfl⟩
    obtain ⟨c0, c1, c2, c3, c4, c5, c6⟩ := Bk.seven X0.out
    obtain ⟨d0, d1, d2, d3⟩ := Bk.four X1.out
    go_wp2_with fail
    refine (HU.out _).mono ?_
    rintro e w1 ⟨rfl, hb⟩
    have B1 := Lib.hid (below_next B0.out hb)
    clear hb
    go_wp2
    go_ret2
    exact ⟨by rw [HE.out] <;> rfl, B1.out⟩
end Go.Proofs.YtbnihoimhfcjiaaDoor.Gr

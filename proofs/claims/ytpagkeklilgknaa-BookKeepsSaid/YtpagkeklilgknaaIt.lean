/-
  Layer 13: wakes, and the laws BookGoods and BookAdds.
-/
import Derived.Test.YtpagkeklilgknaaIl
import Derived.Test.YtpagkeklilgknaaIr
import Derived.Test.YtpagkeklilgknaaIs
namespace Go.Proofs.Ytpagkeklilgknaa.Bo
open Go.RowKit Rw
set_option linter.unusedVariables false
set_option linter.unusedSimpArgs false

set_option maxRecDepth 100000 in
set_option maxHeartbeats 4000000 in
theorem wakes_any (w : World) : Calls Try.prog 9 #[] w fun e w' => e = .returned (.bool true) ∧ Below w.heap.size w w' := by
  obtain ⟨W1, hW1⟩ : ∃ W1, W1 = w.alloc (.cells #[.int .i64 2, .int .i64 0, .int .i64 (-5)] 48) := ⟨_, rfl⟩
  have hb1 : Below w.heap.size w W1 := by rw [hW1]; exact one_alloc _ _
  have h1 : Has encp W1 (some ⟨w.heap.size, 0, none⟩) [⟨2, 0, -5⟩] := by rw [hW1]; exact onep w ⟨2, 0, -5⟩ _ _ rfl
  have d1 : Dec keyp [⟨2, 0, -5⟩] (2, 0) [] (some ⟨2, 0, -5⟩) [] := ⟨rfl, by simp, fun y e => by cases e; rfl, by simp⟩
  have ha := add_any (some ⟨w.heap.size, 0, none⟩) 1 1 _ _ _ _ 2 0 5 W1 h1 rfl (Nat.le_refl _) (fun h => by cases h) (by decide) (by decide) d1 (fun y e => by cases e; decide)
  unfold AddIt at ha
  rw [show addE [(⟨2, 0, -5⟩ : Ps)].length (some ⟨2, 0, -5⟩) 5 = 0 by decide, show addL [⟨2, 0, -5⟩] [] (some ⟨2, 0, -5⟩) [] 2 0 5 = [] by decide] at ha
  have HA := Lib.hid ha; have HB1 := Lib.hid hb1; have HW1 := Lib.hid hW1
  have HC : Hid (∀ w2, Calls Try.prog 28 #[.slice (some ⟨w2.heap.size, 0, none⟩) 1 1, .int .i64 2, .int .i64 1, .int .i64 3] (w2.alloc (.cells #[.int .i64 2, .int .i64 1, .int .i64 0, .int .i64 (-10), .int .i64 0] 37)) fun e w' => ∃ v, e = .returned (.tuple #[v, .int .i64 7, .int .i64 0]) ∧ Own enco w' w2.heap.size v [⟨2, 1, 0, -7, 0⟩] ∧ Below w2.heap.size w2 w') := Lib.hid fun w2 => by
    have h2 := oneo w2 ⟨2, 1, 0, -10, 0⟩ 37 _ rfl
    have d2 : Dec keyo [⟨2, 1, 0, -10, 0⟩] (2, 1) [] (some ⟨2, 1, 0, -10, 0⟩) [] := ⟨rfl, by simp, fun y e => by cases e; rfl, by simp⟩
    have hc := cut_any (some ⟨w2.heap.size, 0, none⟩) 1 1 _ _ _ _ 2 1 3 _ h2 rfl (Nat.le_refl _) (fun h => by cases h) (by decide) (by decide) d2 (fun y e => by cases e; decide)
    unfold CutIt at hc
    rw [show cutE (some (⟨2, 1, 0, -10, 0⟩ : Od)) 3 = 0 by decide, show cutN (some (⟨2, 1, 0, -10, 0⟩ : Od)) 3 = 7 by decide, show cutL [] (some ⟨2, 1, 0, -10, 0⟩) [] 3 = [⟨2, 1, 0, -7, 0⟩] by decide] at hc
    refine hc.mono ?_
    rintro e w' ⟨v, rfl, ho, hb⟩
    exact ⟨v, rfl, ho.low (by simp), below_next (one_alloc _ _) hb⟩
  clear ha hb1 hW1 h1 d1
  go_enter Try.func9, Try.ntmps9
  go_wp2_with fail
  rw [← HW1.out]
  refine HA.out.mono ?_
  rintro e w2 ⟨v2, rfl, ho2, hb2⟩
  obtain ⟨a2, c2, rfl, -⟩ := ho2.has okp
  have HB2 := Lib.hid (below_next HB1.out hb2)
  clear ho2 hb2 HW1
  go_wp2_with fail
  refine (HC.out _).mono ?_
  rintro e w3 ⟨v3, rfl, ho3, hb3⟩
  obtain ⟨g3, c3, rfl, _, _, _⟩ := ho3.block (by decide)
  have HB3 := Lib.hid (below_next HB2.out hb3)
  obtain ⟨e0, e1, e2, e3, e4⟩ := own_ato ho3 (j := 0) (by decide)
  simp [List.getD] at e3
  clear ho3 hb3 e0 e1 e2 e4
  go_wp2
  go_ret
  exact ⟨by simp, HB3.out⟩
theorem wakes_lift (w : World) : ∀ wx, Below w.heap.size w wx → Calls Try.prog 9 #[] wx fun e w' => e = .returned (.bool true) ∧ Below w.heap.size w w' := fun wx hb => (wakes_any wx).mono fun e w' ⟨h1, h2⟩ => ⟨h1, hb.trans (h2.mono hb.size)⟩

/-! ### BookGoods -/
set_option maxRecDepth 100000 in
set_option maxHeartbeats 8000000 in
theorem goods_walk (a0 : Option Addr) (len0 cap0 : Nat) (X0 : List Ps) (a1 : Option Addr) (len1 cap1 : Nat) (X1 : List Od) (a2 b2 : Int) (w : World) (w0 : Inp w a0 len0 cap0 X0) (w1 : Ino w a1 len1 cap1 X1) :
    Calls Try.prog 3 #[.slice a0 len0 cap0, .slice a1 len1 cap1, .agg #[.int .i64 a2, .int .i64 b2]] w fun e w' => e = .returned (.bool true) ∧ Below w.heap.size w w' := by
  obtain ⟨hx0, hl0, _⟩ := w0
  obtain ⟨hx1, hl1, _⟩ := w1
  obtain ⟨N, hN⟩ : ∃ N, N = w.heap.size := ⟨_, rfl⟩
  obtain ⟨W0, hW0⟩ : ∃ W0, W0 = w.alloc (.cells #[.int .i64 a2, .int .i64 b2] 24) := ⟨_, rfl⟩
  have x0 : Blk W0 N #[.int .i64 a2, .int .i64 b2] 24 := by rw [hW0, hN]; exact Blk.new w _ _
  have hb : Below w.heap.size w W0 := by rw [hW0]; exact one_alloc _ _
  have KS : Hid (∀ wx, Below W0.heap.size W0 wx → wx.cell? ⟨N, 0, none⟩ = some (.int .i64 a2) ∧ wx.cell? ⟨N, 1, none⟩ = some (.int .i64 b2)) := Lib.hid fun wx hb => ⟨(x0.keep hb).cell 0, (x0.keep hb).cell 1⟩
  have G1 : Hid (∀ wx, Below W0.heap.size W0 wx → Calls Try.prog 10 #[.slice a0 len0 cap0, .int .i64 a2, .int .i64 b2] wx fun e w' => e = .returned (.bool (goodSp X0 a2 b2)) ∧ Below W0.heap.size W0 w') := Lib.hid fun wx h => (good_p a0 len0 cap0 a2 b2 X0 wx ((hx0.keep hb).keep h) hl0).mono fun e w' ⟨h1, h2⟩ => ⟨h1, h.trans (h2.mono h.size)⟩
  have G2 : Hid (∀ wx, Below W0.heap.size W0 wx → Calls Try.prog 11 #[.slice a0 len0 cap0, .int .i64 a2, .int .i64 b2] wx fun e w' => e = .returned (.bool (goodSp X0 a2 b2)) ∧ Below W0.heap.size W0 w') := Lib.hid fun wx h => (rgood_p a0 len0 cap0 a2 b2 X0 wx ((hx0.keep hb).keep h) hl0).mono fun e w' ⟨h1, h2⟩ => ⟨h1, h.trans (h2.mono h.size)⟩
  have G3 : Hid (∀ wx, Below W0.heap.size W0 wx → Calls Try.prog 12 #[.slice a1 len1 cap1, .int .i64 a2, .int .i64 b2] wx fun e w' => e = .returned (.bool (goodSo X1 a2 b2)) ∧ Below W0.heap.size W0 w') := Lib.hid fun wx h => (good_o a1 len1 cap1 a2 b2 X1 wx ((hx1.keep hb).keep h) hl1).mono fun e w' ⟨h1, h2⟩ => ⟨h1, h.trans (h2.mono h.size)⟩
  have G4 : Hid (∀ wx, Below W0.heap.size W0 wx → Calls Try.prog 13 #[.slice a1 len1 cap1, .int .i64 a2, .int .i64 b2] wx fun e w' => e = .returned (.bool (goodSo X1 a2 b2)) ∧ Below W0.heap.size W0 w') := Lib.hid fun wx h => (rgood_o a1 len1 cap1 a2 b2 X1 wx ((hx1.keep hb).keep h) hl1).mono fun e w' ⟨h1, h2⟩ => ⟨h1, h.trans (h2.mono h.size)⟩
  have WK := Lib.hid (wakes_lift W0)
  have HB := Lib.hid hb; have HN := Lib.hid hN; have HW := Lib.hid hW0
  obtain ⟨c0, c1⟩ := KS.out W0 (Below.refl _ _)
  generalize goodSp X0 a2 b2 = B1 at *
  generalize goodSo X1 a2 b2 = B2 at *
  have q1 : (B1 == B1) = true := beq_self_eq_true _
  have q2 : (B2 == B2) = true := beq_self_eq_true _
  clear hx0 hx1 hl0 hl1 hN hW0 x0 hb
  go_enter Try.func3, Try.ntmps3
  go_upto_region 1 with (fail)
  rw [← HN.out, ← HW.out]
  clear HN HW
  go_region_held3 (fun wx => wx.cell? ⟨N, 0, none⟩ = some (.int .i64 a2) ∧ wx.cell? ⟨N, 1, none⟩ = some (.int .i64 b2))
    (first | exact KS.out _ (Below.refl _ _).drew | exact KS.out _ (Below.refl _ _) | exact KS.out _ (by assumption))
    (first
      | (go_split_ands; go_at_call 9; (with_reducible refine (WK.out _ (by first | assumption | exact (Below.refl _ _).drew)).mono ?_); rintro e w5 ⟨rfl, hb5⟩)
      | (go_split_ands; go_at_call 10; (with_reducible refine (G1.out _ (by first | assumption | exact (Below.refl _ _).drew)).mono ?_); rintro e w6 ⟨rfl, hb6⟩)
      | (go_split_ands; go_at_call 11; (with_reducible refine (G2.out _ (by first | assumption | exact (Below.refl _ _).drew)).mono ?_); rintro e w7 ⟨rfl, hb7⟩)
      | (go_split_ands; go_at_call 12; (with_reducible refine (G3.out _ (by first | assumption | exact (Below.refl _ _).drew)).mono ?_); rintro e w8 ⟨rfl, hb8⟩)
      | (go_split_ands; go_at_call 13; (with_reducible refine (G4.out _ (by first | assumption | exact (Below.refl _ _).drew)).mono ?_); rintro e w9 ⟨rfl, hb9⟩)
      | fail)
  all_goals
    go_wp2
    go_ret
    exact ⟨rfl, below_next HB.out (by assumption)⟩

/-! ### BookAdds -/
theorem riseS_of {X : List Ps} (h : riseSp X = true) : X.Pairwise (fun a b => ltK (keyp a) (keyp b) = true) ∧ ∀ x ∈ X, qtyB x.qty = true := by
  unfold riseSp at h
  rw [Bool.and_eq_true, List.all_eq_true] at h
  exact ⟨rise_pair h.1, h.2⟩
theorem riseS_ofo {X : List Od} (h : riseSo X = true) : X.Pairwise (fun a b => ltK (keyo a) (keyo b) = true) ∧ ∀ x ∈ X, qtyB x.qty = true := by
  unfold riseSo at h
  rw [Bool.and_eq_true, List.all_eq_true] at h
  exact ⟨rise_pair h.1, h.2⟩
theorem Dec.mem {α : Type} {key : α → K2} {X L R : List α} {p : K2} {o : Option α} (h : Dec key X p L o R) : ∀ y, o = some y → y ∈ X := fun y e => by subst e; rw [h.eq]; simp
set_option maxRecDepth 100000 in
set_option maxHeartbeats 8000000 in
theorem adds_walk (a0 : Option Addr) (len0 cap0 : Nat) (X0 : List Ps) (a1 b1 a2 : Int) (w : World) (w0 : Inp w a0 len0 cap0 X0) :
    Calls Try.prog 4 #[.slice a0 len0 cap0, .agg #[.int .i64 a1, .int .i64 b1], .int .i64 a2] w fun e w' => e = .returned (.bool true) ∧ Below w.heap.size w w' := by
  obtain ⟨hx0, hl0, hlc, hn, hcap⟩ := w0
  obtain ⟨N, hN⟩ : ∃ N, N = w.heap.size := ⟨_, rfl⟩
  obtain ⟨W0, hW0⟩ : ∃ W0, W0 = w.alloc (.cells #[.int .i64 a1, .int .i64 b1] 24) := ⟨_, rfl⟩
  have x0 : Blk W0 N #[.int .i64 a1, .int .i64 b1] 24 := by rw [hW0, hN]; exact Blk.new w _ _
  have hb : Below w.heap.size w W0 := by rw [hW0]; exact one_alloc _ _
  have KS : Hid (∀ wx, Below W0.heap.size W0 wx → wx.cell? ⟨N, 0, none⟩ = some (.int .i64 a1) ∧ wx.cell? ⟨N, 1, none⟩ = some (.int .i64 b1)) := Lib.hid fun wx hb => ⟨(x0.keep hb).cell 0, (x0.keep hb).cell 1⟩
  have HX : Hid (∀ wx, Below W0.heap.size W0 wx → Has encp wx a0 X0) := Lib.hid fun wx h => (hx0.keep hb).keep h
  have HB := Lib.hid hb; have HN := Lib.hid hN; have HW := Lib.hid hW0; have HL := Lib.hid hl0; have HNN := Lib.hid hn
  clear hx0 hN hW0 x0 hb hl0 hn
  go_enter Try.func4, Try.ntmps4
  go_wp2_with fail
  rw [← HN.out, ← HW.out]
  clear HN HW
  refine (wakes_any W0).mono ?_
  rintro e w1 ⟨rfl, hb1⟩
  have B1 := Lib.hid hb1
  clear hb1
  go_wp2_with fail
  refine (rrise_p a0 len0 cap0 X0 w1 (HX.out _ B1.out) HL.out).mono ?_
  rintro e w2 ⟨rfl, hb2⟩
  have B2 := Lib.hid (below_next B1.out hb2)
  clear hb2 B1
  cases hR : riseSp X0 with
  | false =>
    clear hR
    go_wp2
    go_ret
    exact ⟨rfl, below_next HB.out B2.out⟩
  | true =>
  by_cases h512 : 512 < len0
  · have i0 : (512 : Int) < (len0 : Int) := by omega
    clear hR
    go_wp2
    go_ret
    exact ⟨rfl, below_next HB.out B2.out⟩
  have i0 : ¬ (512 : Int) < (len0 : Int) := by omega
  obtain ⟨hP, hQ⟩ := riseS_of hR
  obtain ⟨L, o, R, hd⟩ := dec_of (key := keyp) (a1, b1) hP
  have hqo : ∀ y, o = some y → qtyB y.qty = true := fun y e => hQ y (hd.mem y e)
  obtain ⟨c0, c1⟩ := KS.out w2 B2.out
  have HA := Lib.hid (add_any a0 len0 cap0 X0 L R o a1 b1 a2 w2 (HX.out _ B2.out) HL.out hlc HNN.out (by omega) (by omega) hd hqo)
  have HRA := Lib.hid fun w3 (h : Below W0.heap.size W0 w3) => radd_any a0 len0 cap0 X0 L R o a1 b1 a2 w3 (HX.out _ h) HL.out (by omega) hd hqo
  have HQ1 := Lib.hid fun w3 (h : Below W0.heap.size W0 w3) => qty_any a0 len0 cap0 X0 L R o a1 b1 w3 (HX.out _ h) HL.out (by omega) hd
  have HQ2 := Lib.hid fun w3 (h : Below W0.heap.size W0 w3) => rqty_any a0 len0 cap0 X0 L R o a1 b1 w3 (HX.out _ h) HL.out hd
  unfold AddIt at HA HRA
  clear hR hP hQ hd hqo
  generalize addE X0.length o a2 = E at *
  generalize addL X0 L o R a1 b1 a2 = Y at *
  generalize qtyOf o = QQ at *
  go_wp2_with fail
  refine HA.out.mono ?_
  rintro e w3 ⟨v3, rfl, ho3, hb3⟩
  obtain ⟨a3, c3, rfl, hh3, -⟩ := ho3.has okp
  have B3 := Lib.hid (below_next B2.out hb3); have H3 := Lib.hid hh3
  clear ho3 hb3 hh3 B2 HA c0 c1
  obtain ⟨c0, c1⟩ := KS.out w3 B3.out
  go_wp2_with fail
  refine (HRA.out w3 B3.out).mono ?_
  rintro e w4 ⟨v4, rfl, ho4, hb4⟩
  obtain ⟨a4, c4, rfl, hh4, -⟩ := ho4.has okp
  have B4 := Lib.hid (below_next B3.out hb4); have H4 := Lib.hid hh4; have H34 := Lib.hid (H3.out.keep hb4)
  clear ho4 hb4 hh4 HRA H3 c0 c1
  obtain ⟨c0, c1⟩ := KS.out w4 B4.out
  have KS4 : Hid (∀ wx, Below w4.heap.size w4 wx → wx.cell? ⟨N, 0, none⟩ = some (.int .i64 a1) ∧ wx.cell? ⟨N, 1, none⟩ = some (.int .i64 b1)) := Lib.hid fun wx h => KS.out _ (below_next B4.out h)
  have S1 : Hid (∀ wx, Below w4.heap.size w4 wx → Calls Try.prog 17 #[.slice a3 Y.length c3, .slice a4 Y.length c4] wx fun e w' => e = .returned (.bool true) ∧ Below w4.heap.size w4 w') := Lib.hid fun wx h => by
    have := same_p a3 a4 Y.length c3 Y.length c4 Y Y wx (H34.out.keep h) (H4.out.keep h) rfl rfl
    rw [decide_eq_true (rfl : Y = Y)] at this
    exact this.mono fun e w' ⟨h1, h2⟩ => ⟨h1, h.trans (h2.mono h.size)⟩
  have S2 : Hid (∀ wx, Below w4.heap.size w4 wx → Calls Try.prog 18 #[.slice a0 len0 cap0, .int .i64 a1, .int .i64 b1] wx fun e w' => e = .returned (.int .i64 QQ) ∧ Below w4.heap.size w4 w') := Lib.hid fun wx h => (HQ1.out wx (below_next B4.out h)).mono fun e w' ⟨h1, h2⟩ => ⟨h1, h.trans (h2.mono h.size)⟩
  have S3 : Hid (∀ wx, Below w4.heap.size w4 wx → Calls Try.prog 19 #[.slice a0 len0 cap0, .int .i64 a1, .int .i64 b1] wx fun e w' => e = .returned (.int .i64 QQ) ∧ Below w4.heap.size w4 w') := Lib.hid fun wx h => (HQ2.out wx (below_next B4.out h)).mono fun e w' ⟨h1, h2⟩ => ⟨h1, h.trans (h2.mono h.size)⟩
  have q1 : (E == E) = true := beq_self_eq_true _
  have q2 : (QQ == QQ) = true := beq_self_eq_true _
  generalize Y.length = YL at *
  go_upto_region 7 with (fail)
  go_region_held3 (fun wx => wx.cell? ⟨N, 0, none⟩ = some (.int .i64 a1) ∧ wx.cell? ⟨N, 1, none⟩ = some (.int .i64 b1))
    (first | exact KS4.out _ (Below.refl _ _).drew | exact KS4.out _ (Below.refl _ _) | exact KS4.out _ (by assumption))
    (first
      | (go_split_ands; go_at_call 17; (with_reducible refine (S1.out _ (by first | assumption | exact (Below.refl _ _).drew)).mono ?_); rintro e w5 ⟨rfl, hb5⟩)
      | (go_split_ands; go_at_call 18; (with_reducible refine (S2.out _ (by first | assumption | exact (Below.refl _ _).drew)).mono ?_); rintro e w6 ⟨rfl, hb6⟩)
      | (go_split_ands; go_at_call 19; (with_reducible refine (S3.out _ (by first | assumption | exact (Below.refl _ _).drew)).mono ?_); rintro e w7 ⟨rfl, hb7⟩)
      | fail)
  all_goals
    go_wp2
    go_ret
    exact ⟨rfl, below_next HB.out (below_next B4.out (by assumption))⟩
end Go.Proofs.Ytpagkeklilgknaa.Bo

/-
  Layer 13: the law BookTurns.
-/
import Derived.Test.YtpagkeklilgknaaIt
namespace Go.Proofs.Ytpagkeklilgknaa.Bo
open Go.RowKit Rw
set_option linter.unusedVariables false
set_option linter.unusedSimpArgs false

/-- A call's result, seen from an older world. -/
theorem lift3 {w wx : World} {f : FuncId} {args : Array Value} {Y : List Od} {r : Value → Value} (h : Below w.heap.size w wx) (hc : Calls Try.prog f args wx fun e w' => ∃ v, e = .returned (r v) ∧ Own enco w' wx.heap.size v Y ∧ Below wx.heap.size wx w') :
    Calls Try.prog f args wx fun e w' => ∃ a c, e = .returned (r (.slice a Y.length c)) ∧ Has enco w' a Y ∧ Y.length ≤ c ∧ (a = none → c = 0) ∧ c ≤ 9223372036854775807 ∧ Below w.heap.size w w' :=
  hc.mono fun e w' ⟨v, h1, h2, h3⟩ => by
    obtain ⟨a, c, rfl, hh, h4, h5, h6⟩ := h2.has oko
    exact ⟨a, c, h1, hh, h5, h4, by unfold maxLen at h6; omega, h.trans (h3.mono h.size)⟩
theorem lift1 {w wx : World} {f : FuncId} {args : Array Value} {v : Value} (h : Below w.heap.size w wx) (hc : Calls Try.prog f args wx fun e w' => e = .returned v ∧ Below wx.heap.size wx w') :
    Calls Try.prog f args wx fun e w' => e = .returned v ∧ Below w.heap.size w w' := hc.mono fun e w' ⟨h1, h2⟩ => ⟨h1, h.trans (h2.mono h.size)⟩
theorem same_yes {w : World} {a1 a2 : Option Addr} {n c1 c2 : Nat} {Y : List Od} (h1 : Has enco w a1 Y) (h2 : Has enco w a2 Y) (hn : Y.length = n) (wx : World) (h : Below w.heap.size w wx) :
    Calls Try.prog 23 #[.slice a1 n c1, .slice a2 n c2] wx fun e w' => e = .returned (.bool true) ∧ Below w.heap.size w w' := by
  have := same_o a1 a2 n c1 n c2 Y Y wx (h1.keep h) (h2.keep h) hn hn
  rw [decide_eq_true (rfl : Y = Y)] at this
  exact lift1 h this
set_option maxRecDepth 100000 in
set_option maxHeartbeats 16000000 in
theorem turns_walk (a0 : Option Addr) (len0 cap0 : Nat) (X0 : List Od) (x1 : Od) (a2 : Int) (w : World) (w0 : Ino w a0 len0 cap0 X0) (hqb : -9223372036854775808 ≤ a2 ∧ a2 ≤ 9223372036854775807) :
    Calls Try.prog 5 #[.slice a0 len0 cap0, .agg #[.int .i64 x1.acct, .int .i64 x1.id, .int .i64 x1.instr, .int .i64 x1.qty, .int .i64 x1.price], .int .i64 a2] w fun e w' => e = .returned (.bool true) ∧ Below w.heap.size w w' := by
  obtain ⟨hx0, hl0, hlc, hn, hcap⟩ := w0
  obtain ⟨N, hN⟩ : ∃ N, N = w.heap.size := ⟨_, rfl⟩
  obtain ⟨W0, hW0⟩ : ∃ W0, W0 = w.alloc (.cells #[.int .i64 x1.acct, .int .i64 x1.id, .int .i64 x1.instr, .int .i64 x1.qty, .int .i64 x1.price] 37) := ⟨_, rfl⟩
  have x0 : Blk W0 N #[.int .i64 x1.acct, .int .i64 x1.id, .int .i64 x1.instr, .int .i64 x1.qty, .int .i64 x1.price] 37 := by rw [hW0, hN]; exact Blk.new w _ _
  have hb : Below w.heap.size w W0 := by rw [hW0]; exact one_alloc _ _
  have KS : Hid (∀ wx, Below W0.heap.size W0 wx → wx.cell? ⟨N, 0, none⟩ = some (.int .i64 x1.acct) ∧ wx.cell? ⟨N, 1, none⟩ = some (.int .i64 x1.id) ∧ wx.cell? ⟨N, 2, none⟩ = some (.int .i64 x1.instr) ∧ wx.cell? ⟨N, 3, none⟩ = some (.int .i64 x1.qty) ∧ wx.cell? ⟨N, 4, none⟩ = some (.int .i64 x1.price)) :=
    Lib.hid fun wx hb => ⟨(x0.keep hb).cell 0, (x0.keep hb).cell 1, (x0.keep hb).cell 2, (x0.keep hb).cell 3, (x0.keep hb).cell 4⟩
  have HX : Hid (∀ wx, Below W0.heap.size W0 wx → Has enco wx a0 X0) := Lib.hid fun wx h => (hx0.keep hb).keep h
  have HB := Lib.hid hb; have HN := Lib.hid hN; have HW := Lib.hid hW0; have HL := Lib.hid hl0; have HNN := Lib.hid hn
  clear hx0 hN hW0 x0 hb hl0 hn
  go_enter Try.func5, Try.ntmps5
  go_wp2_with fail
  rw [← HN.out, ← HW.out]
  clear HN HW
  refine (wakes_any W0).mono ?_
  rintro e w1 ⟨rfl, hb1⟩
  have B1 := Lib.hid hb1
  clear hb1
  go_wp2_with fail
  refine (rrise_o a0 len0 cap0 X0 w1 (HX.out _ B1.out) HL.out).mono ?_
  rintro e w2 ⟨rfl, hb2⟩
  have B2 := Lib.hid (below_next B1.out hb2)
  clear hb2 B1
  cases hR : riseSo X0 with
  | false =>
    clear hR
    go_wp2
    go_ret
    exact ⟨rfl, below_next HB.out B2.out⟩
  | true =>
  by_cases h512 : 512 < len0
  · have i0 : (512 : Int) < (len0 : Int) := by omega
    clear hR
    go_wp2
    go_ret
    exact ⟨rfl, below_next HB.out B2.out⟩
  have i0 : ¬ (512 : Int) < (len0 : Int) := by omega
  obtain ⟨hP, hQ⟩ := riseS_ofo hR
  obtain ⟨L, o, R, hd⟩ := dec_of (key := keyo) (x1.acct, x1.id) hP
  have hqo : ∀ y, o = some y → qtyB y.qty = true := fun y e => hQ y (hd.mem y e)
  obtain ⟨c0, c1, c2, c3, c4⟩ := KS.out w2 B2.out
  have HA := Lib.hid (lift3 (Below.refl _ _) (put_any a0 len0 cap0 x1 X0 L R o w2 (HX.out _ B2.out) HL.out hlc HNN.out (by omega) (by omega) hd))
  have HRA := Lib.hid fun w3 (h : Below W0.heap.size W0 w3) => lift3 (Below.refl _ _) (rput_any a0 len0 cap0 x1 X0 L R o w3 (HX.out _ h) HL.out (by omega) hd)
  have HF1 := Lib.hid fun w3 (h : Below W0.heap.size W0 w3) => find_any a0 len0 cap0 X0 L R o x1.acct x1.id w3 (HX.out _ h) HL.out (by omega) hd
  have HF2 := Lib.hid fun w3 (h : Below W0.heap.size W0 w3) => rfind_any a0 len0 cap0 X0 L R o x1.acct x1.id w3 (HX.out _ h) HL.out hd
  have HS1 := Lib.hid fun w3 (h : Below W0.heap.size W0 w3) => selling_any a0 len0 cap0 X0 x1.acct x1.instr w3 (HX.out _ h) HL.out (by omega) hQ
  have HS2 := Lib.hid fun w3 (h : Below W0.heap.size W0 w3) => rselling_any a0 len0 cap0 X0 x1.acct x1.instr w3 (HX.out _ h) HL.out (by omega) hQ
  have HC1 := Lib.hid fun w3 (h : Below W0.heap.size W0 w3) => cut_any a0 len0 cap0 X0 L R o x1.acct x1.id a2 w3 (HX.out _ h) HL.out hlc HNN.out (by omega) (by omega) hd hqo
  have HC2 := Lib.hid fun w3 (h : Below W0.heap.size W0 w3) => rcut_any a0 len0 cap0 X0 L R o x1.acct x1.id a2 w3 (HX.out _ h) HL.out hlc (by omega) (by omega) hd hqo hqb
  have HD1 := Lib.hid fun w3 (h : Below W0.heap.size W0 w3) => drop_any a0 len0 cap0 X0 L R o x1.acct x1.id w3 (HX.out _ h) HL.out hlc (by omega) (by omega) hd
  have HD2 := Lib.hid fun w3 (h : Below W0.heap.size W0 w3) => rdrop_any a0 len0 cap0 X0 L R o x1.acct x1.id w3 (HX.out _ h) HL.out hlc (by omega) (by omega) hd
  unfold CutIt at HC1 HC2
  unfold DropIt at HD1 HD2
  clear hR hP hQ hd hqo
  generalize putE len0 o = E1 at *
  generalize putL len0 L o R x1 = Y1 at *
  generalize findI L o = FI at *
  generalize sellS x1.acct x1.instr X0 = SE at *
  generalize cutE o a2 = E2 at *
  generalize cutN o a2 = N2 at *
  generalize cutL L o R a2 = Y2 at *
  generalize dropE o = E3 at *
  generalize dropL L o R = Y3 at *
  go_wp2_with fail
  refine HA.out.mono ?_
  rintro e w3 ⟨a3, c3', rfl, hh3, -, -, -, hb3⟩
  have B3 := Lib.hid (below_next B2.out hb3); have H3 := Lib.hid hh3
  clear hb3 hh3 B2 HA c0 c1 c2 c3 c4
  obtain ⟨c0, c1, c2, c3, c4⟩ := KS.out w3 B3.out
  go_wp2_with fail
  refine (HRA.out w3 B3.out).mono ?_
  rintro e w4 ⟨a4, c4', rfl, hh4, -, -, -, hb4⟩
  have B4 := Lib.hid (below_next B3.out hb4); have H4 := Lib.hid hh4; have H34 := Lib.hid (H3.out.keep hb4)
  clear hb4 hh4 HRA H3 c0 c1 c2 c3 c4
  obtain ⟨c0, c1, c2, c3, c4⟩ := KS.out w4 B4.out
  have KS4 : Hid (∀ wx, Below w4.heap.size w4 wx → wx.cell? ⟨N, 0, none⟩ = some (.int .i64 x1.acct) ∧ wx.cell? ⟨N, 1, none⟩ = some (.int .i64 x1.id) ∧ wx.cell? ⟨N, 2, none⟩ = some (.int .i64 x1.instr) ∧ wx.cell? ⟨N, 3, none⟩ = some (.int .i64 x1.qty) ∧ wx.cell? ⟨N, 4, none⟩ = some (.int .i64 x1.price)) := Lib.hid fun wx h => KS.out _ (below_next B4.out h)
  have S1 := Lib.hid fun wx (h : Below w4.heap.size w4 wx) => same_yes (c1 := c3') (c2 := c4') H34.out H4.out (rfl : Y1.length = Y1.length) wx h
  have S2 := Lib.hid fun wx (h : Below w4.heap.size w4 wx) => lift1 h (HF1.out wx (below_next B4.out h))
  have S3 := Lib.hid fun wx (h : Below w4.heap.size w4 wx) => lift1 h (HF2.out wx (below_next B4.out h))
  have S4 := Lib.hid fun wx (h : Below w4.heap.size w4 wx) => lift1 h (HS1.out wx (below_next B4.out h))
  have S5 := Lib.hid fun wx (h : Below w4.heap.size w4 wx) => lift1 h (HS2.out wx (below_next B4.out h))
  have T1 := Lib.hid fun wx (h : Below w4.heap.size w4 wx) => lift3 (r := fun v => .tuple #[v, .int .i64 N2, .int .i64 E2]) h (HC1.out wx (below_next B4.out h))
  have q1 : (E1 == E1) = true := beq_self_eq_true _
  have q2 : (FI == FI) = true := beq_self_eq_true _
  have q3 : (SE == SE) = true := beq_self_eq_true _
  have q4 : (N2 == N2) = true := beq_self_eq_true _
  have q5 : (E2 == E2) = true := beq_self_eq_true _
  have q6 : (E3 == E3) = true := beq_self_eq_true _
  obtain ⟨n1, hn1⟩ : ∃ n1, n1 = Y1.length := ⟨_, rfl⟩
  rw [← hn1] at S1 ⊢
  clear hn1 HF1 HF2 HS1 HS2 HC1
  go_upto_region 7 with (fail)
  go_region_held3 (fun wx => wx.cell? ⟨N, 0, none⟩ = some (.int .i64 x1.acct) ∧ wx.cell? ⟨N, 1, none⟩ = some (.int .i64 x1.id) ∧ wx.cell? ⟨N, 2, none⟩ = some (.int .i64 x1.instr) ∧ wx.cell? ⟨N, 3, none⟩ = some (.int .i64 x1.qty) ∧ wx.cell? ⟨N, 4, none⟩ = some (.int .i64 x1.price))
    (first | exact KS4.out _ (Below.refl _ _).drew | exact KS4.out _ (Below.refl _ _) | exact KS4.out _ (by assumption))
    (first
      | (go_split_ands; go_at_call 23; (with_reducible refine (S1.out _ (by first | assumption | exact (Below.refl _ _).drew)).mono ?_); rintro e w5 ⟨rfl, hb5⟩)
      | (go_split_ands; go_at_call 24; (with_reducible refine (S2.out _ (by first | assumption | exact (Below.refl _ _).drew)).mono ?_); rintro e w6 ⟨rfl, hb6⟩)
      | (go_split_ands; go_at_call 25; (with_reducible refine (S3.out _ (by first | assumption | exact (Below.refl _ _).drew)).mono ?_); rintro e w7 ⟨rfl, hb7⟩)
      | (go_split_ands; go_at_call 26; (with_reducible refine (S4.out _ (by first | assumption | exact (Below.refl _ _).drew)).mono ?_); rintro e w8 ⟨rfl, hb8⟩)
      | (go_split_ands; go_at_call 27; (with_reducible refine (S5.out _ (by first | assumption | exact (Below.refl _ _).drew)).mono ?_); rintro e w9 ⟨rfl, hb9⟩)
      | fail)
  all_goals
    go_wp2_with fail
    refine (T1.out _ (by assumption)).mono ?_
    rintro e w10 ⟨a10, c10, rfl, hh10, -, -, -, hb10⟩
    have H10 := Lib.hid hh10; have B10 := Lib.hid (below_next B4.out hb10)
    clear hh10 hb10
    obtain ⟨d0, d1, d2, d3, d4⟩ := KS.out w10 B10.out
    go_wp2_with fail
    refine (lift3 (r := fun v => .tuple #[v, .int .i64 N2, .int .i64 E2]) (Below.refl _ _) (HC2.out w10 B10.out)).mono ?_
    rintro e w11 ⟨a11, c11, rfl, hh11, -, -, -, hb11⟩
    have H11 := Lib.hid hh11; have B11 := Lib.hid (below_next B10.out hb11); have H10 := Lib.hid (H10.out.keep hb11)
    clear hh11 hb11 d0 d1 d2 d3 d4
    obtain ⟨n2, hn2⟩ : ∃ n2, n2 = Y2.length := ⟨_, rfl⟩
    have SM := same_yes (c1 := c10) (c2 := c11) H10.out H11.out hn2.symm w11 (Below.refl _ _)
    rw [← hn2]
    clear hn2
    go_wp2_with fail
    refine SM.mono ?_
    rintro e w12 ⟨rfl, hb12⟩
    have B12 := Lib.hid (below_next B11.out hb12)
    clear hb12 H10 H11 SM
    obtain ⟨d0, d1, d2, d3, d4⟩ := KS.out w12 B12.out
    go_wp2_with fail
    refine (lift3 (r := fun v => .tuple #[v, .int .i64 E3]) (Below.refl _ _) (HD1.out w12 B12.out)).mono ?_
    rintro e w13 ⟨a13, c13, rfl, hh13, -, -, -, hb13⟩
    have H13 := Lib.hid hh13; have B13 := Lib.hid (below_next B12.out hb13)
    clear hh13 hb13 d0 d1 d2 d3 d4
    obtain ⟨d0, d1, d2, d3, d4⟩ := KS.out w13 B13.out
    go_wp2_with fail
    refine (lift3 (r := fun v => .tuple #[v, .int .i64 E3]) (Below.refl _ _) (HD2.out w13 B13.out)).mono ?_
    rintro e w14 ⟨a14, c14, rfl, hh14, -, -, -, hb14⟩
    have H14 := Lib.hid hh14; have B14 := Lib.hid (below_next B13.out hb14); have H13 := Lib.hid (H13.out.keep hb14)
    clear hh14 hb14 d0 d1 d2 d3 d4
    obtain ⟨n3, hn3⟩ : ∃ n3, n3 = Y3.length := ⟨_, rfl⟩
    have SM := same_yes (c1 := c13) (c2 := c14) H13.out H14.out hn3.symm w14 (Below.refl _ _)
    rw [← hn3]
    clear hn3
    go_wp2_with fail
    refine SM.mono ?_
    rintro e w15 ⟨rfl, hb15⟩
    have B15 := Lib.hid (below_next B14.out hb15)
    clear hb15 H13 H14 SM
    go_wp2
    go_ret
    exact ⟨rfl, below_next HB.out B15.out⟩
end Go.Proofs.Ytpagkeklilgknaa.Bo

/-
  Layer 13: lists of api.Order: their order, the search, a place. (Written by gen_ic.py out of p_ic.txt.)
-/
import Derived.Test.YtpagkeklilgknaaIb
namespace Go.Proofs.Ytpagkeklilgknaa.Bo
open Go.RowKit Rw
set_option linter.unusedVariables false
set_option linter.unusedSimpArgs false

/-- The contracts at any world behind a given one. -/
theorem of_lift_o (w : World) : ∀ a0 a1 a2 a3 a4 wx, Below w.heap.size w wx → Calls Try.prog 36 #[.agg #[.int .i64 a0, .int .i64 a1, .int .i64 a2, .int .i64 a3, .int .i64 a4]] wx fun e w' => e = .returned (.agg #[.int .i64 a0, .int .i64 a1]) ∧ Below w.heap.size w w' :=
  fun a0 a1 a2 a3 a4 wx hb => (of_o a0 a1 a2 a3 a4 wx).mono fun e w' ⟨h1, h2⟩ => ⟨h1, hb.trans (h2.mono hb.size)⟩
theorem cmp_lift_o (w : World) : ∀ a b c d wx, Below w.heap.size w wx → Calls Try.prog 50 #[.agg #[.int .i64 a, .int .i64 b], .agg #[.int .i64 c, .int .i64 d]] wx fun e w' => e = .returned (.int .i64 (cmpK (a, b) (c, d))) ∧ Below w.heap.size w w' :=
  fun a b c d wx hb => (compare_any a b c d wx).mono fun e w' ⟨h1, h2⟩ => ⟨h1, hb.trans (h2.mono hb.size)⟩
set_option maxRecDepth 100000 in
set_option maxHeartbeats 4000000 in
theorem ordered_o (a : Option Addr) (len cap : Nat) (X : List Od) (w : World) (h : Has enco w a X) (hl : X.length = len) :
    Calls Try.prog 35 #[.slice a len cap, .func (.func 36) #[] #[]] w fun e w' => e = .returned (.bool (riseB keyo X)) ∧ Below w.heap.size w w' := by
  have hm := h.1
  rw [hl] at hm
  have H := Lib.hid h; have HL := Lib.hid hl
  clear h hl
  go_enter Try.func35, Try.ntmps35
  go_wp2
  go_loopg [5] (len - 1) (fun m i wr => ∃ k : Nat, k ≤ len ∧ len - (k + 1) = m ∧ i = .int .i64 ((k : Int) + 1) ∧ Hid (upto keyo zo X (k + 1)) ∧ Hid (Below w.heap.size w wr))
  case atStart => exact ⟨0, by omega, by omega, by go_num, Lib.hid (upto_one _ _), Lib.hid (Below.refl _ _)⟩
  case round =>
    obtain ⟨k, hk, hkm, rfl, HU, HB⟩ := hrel
    by_cases hlt : k + 1 < len
    · have HW := H.out.keep HB.out
      obtain ⟨b, off, rfl, c0, c1, c2, c3, c4⟩ := ato HW (show k < X.length by rw [HL.out]; omega)
      obtain ⟨b', off', e, d0, d1, d2, d3, d4⟩ := ato HW (show k + 1 < X.length by rw [HL.out]; exact hlt)
      cases e
      have HN : Hid (ltK (keyo (X.getD k zo)) (keyo (X.getD (k + 1) zo)) = false → riseB keyo X = false) := Lib.hid (rise_no (by rw [HL.out]; exact hlt))
      have HY : Hid (ltK (keyo (X.getD k zo)) (keyo (X.getD (k + 1) zo)) = true → upto keyo zo X (k + 1 + 1)) := Lib.hid fun h => upto_succ HU.out fun _ => by rw [Nat.add_sub_cancel]; exact h
      generalize X.getD k zo = x at *
      generalize X.getD (k + 1) zo = y at *
      have KS : Hid (∀ wx, Below wr.heap.size wr wx → (wx.cell? ⟨b, off + k * 5, none⟩ = some (.int .i64 x.acct) ∧ wx.cell? ⟨b, off + k * 5 + 1, none⟩ = some (.int .i64 x.id) ∧ wx.cell? ⟨b, off + k * 5 + 2, none⟩ = some (.int .i64 x.instr) ∧ wx.cell? ⟨b, off + k * 5 + 3, none⟩ = some (.int .i64 x.qty) ∧ wx.cell? ⟨b, off + k * 5 + 4, none⟩ = some (.int .i64 x.price)) ∧ (wx.cell? ⟨b, off + (k + 1) * 5, none⟩ = some (.int .i64 y.acct) ∧ wx.cell? ⟨b, off + (k + 1) * 5 + 1, none⟩ = some (.int .i64 y.id) ∧ wx.cell? ⟨b, off + (k + 1) * 5 + 2, none⟩ = some (.int .i64 y.instr) ∧ wx.cell? ⟨b, off + (k + 1) * 5 + 3, none⟩ = some (.int .i64 y.qty) ∧ wx.cell? ⟨b, off + (k + 1) * 5 + 4, none⟩ = some (.int .i64 y.price))) := Lib.hid fun wx hb => ⟨⟨(hb.cell (Fr.lt_of_cell c0)).trans c0, (hb.cell (Fr.lt_of_cell c1)).trans c1, (hb.cell (Fr.lt_of_cell c2)).trans c2, (hb.cell (Fr.lt_of_cell c3)).trans c3, (hb.cell (Fr.lt_of_cell c4)).trans c4⟩, ⟨(hb.cell (Fr.lt_of_cell d0)).trans d0, (hb.cell (Fr.lt_of_cell d1)).trans d1, (hb.cell (Fr.lt_of_cell d2)).trans d2, (hb.cell (Fr.lt_of_cell d3)).trans d3, (hb.cell (Fr.lt_of_cell d4)).trans d4⟩⟩
      have HOF := Lib.hid (of_lift_o wr)
      have HCM := Lib.hid (cmp_lift_o wr)
      have HLT : Hid (cmpK (x.acct, x.id) (y.acct, y.id) < 0 ↔ ltK (keyo x) (keyo y) = true) := Lib.hid cmpK_lt
      obtain ⟨C, hC⟩ : ∃ C, cmpK (x.acct, x.id) (y.acct, y.id) = C := ⟨_, rfl⟩
      have HC := Lib.hid hC
      clear hC HW
      have i1 : (0 : Int) ≤ (k : Int) := by omega
      have i2 : (k : Int) < (len : Int) := by omega
      have i3 : (0 : Int) ≤ (k : Int) + 1 := by omega
      have i4 : (k : Int) + 1 < (len : Int) := by omega
      have i5 : IntKind.i64.wrap ((k : Int) + 1 - 1) = (k : Int) := by rw [Int.add_sub_cancel]; exact IntWalk.i64_in _ (by omega)
      have i7 : IntKind.i64.wrap (k : Int) = (k : Int) := IntWalk.i64_in _ (by omega)
      have i6 : ((k : Int) + 1).toNat = k + 1 := by omega
      by_cases hc : C < 0
      · have HU2 := Lib.hid (HY.out (HLT.out.1 (by rw [HC.out]; exact hc)))
        clear HN HY HLT
        go_upto_region 4 with (fail)
        go_region_held3 (fun wx => (wx.cell? ⟨b, off + k * 5, none⟩ = some (.int .i64 x.acct) ∧ wx.cell? ⟨b, off + k * 5 + 1, none⟩ = some (.int .i64 x.id) ∧ wx.cell? ⟨b, off + k * 5 + 2, none⟩ = some (.int .i64 x.instr) ∧ wx.cell? ⟨b, off + k * 5 + 3, none⟩ = some (.int .i64 x.qty) ∧ wx.cell? ⟨b, off + k * 5 + 4, none⟩ = some (.int .i64 x.price)) ∧ (wx.cell? ⟨b, off + (k + 1) * 5, none⟩ = some (.int .i64 y.acct) ∧ wx.cell? ⟨b, off + (k + 1) * 5 + 1, none⟩ = some (.int .i64 y.id) ∧ wx.cell? ⟨b, off + (k + 1) * 5 + 2, none⟩ = some (.int .i64 y.instr) ∧ wx.cell? ⟨b, off + (k + 1) * 5 + 3, none⟩ = some (.int .i64 y.qty) ∧ wx.cell? ⟨b, off + (k + 1) * 5 + 4, none⟩ = some (.int .i64 y.price)))
          (first | exact KS.out _ (below_drew _ 1) | exact KS.out _ (Below.refl _ _) | exact KS.out _ (by assumption))
          (first | (go_split_ands; go_at_call 36; (with_reducible refine (HOF.out _ _ _ _ _ _ (by first | assumption | exact (Below.refl _ _).drew)).mono ?_); rintro e w5 ⟨rfl, hb5⟩) | (go_at_call 50; (with_reducible refine (HCM.out _ _ _ _ _ (by first | assumption | exact (Below.refl _ _).drew)).mono ?_); rintro e w6 ⟨rfl, hb6⟩; simp only [HC.out]) | fail)
        all_goals
          go_wp2
          go_roundg (len - (k + 1 + 1))
          case measure => omega
          case rel => exact ⟨k + 1, by omega, by omega, by go_num, HU2, Lib.hid (below_next HB.out hb6)⟩
      · have HE : Hid (riseB keyo X = false) := Lib.hid (HN.out (by
          cases h : ltK (keyo x) (keyo y) with
          | false => rfl
          | true => exact absurd (by rw [← HC.out]; exact HLT.out.2 h) hc))
        clear HN HY HLT
        go_upto_region 4 with (fail)
        go_region_held3 (fun wx => (wx.cell? ⟨b, off + k * 5, none⟩ = some (.int .i64 x.acct) ∧ wx.cell? ⟨b, off + k * 5 + 1, none⟩ = some (.int .i64 x.id) ∧ wx.cell? ⟨b, off + k * 5 + 2, none⟩ = some (.int .i64 x.instr) ∧ wx.cell? ⟨b, off + k * 5 + 3, none⟩ = some (.int .i64 x.qty) ∧ wx.cell? ⟨b, off + k * 5 + 4, none⟩ = some (.int .i64 x.price)) ∧ (wx.cell? ⟨b, off + (k + 1) * 5, none⟩ = some (.int .i64 y.acct) ∧ wx.cell? ⟨b, off + (k + 1) * 5 + 1, none⟩ = some (.int .i64 y.id) ∧ wx.cell? ⟨b, off + (k + 1) * 5 + 2, none⟩ = some (.int .i64 y.instr) ∧ wx.cell? ⟨b, off + (k + 1) * 5 + 3, none⟩ = some (.int .i64 y.qty) ∧ wx.cell? ⟨b, off + (k + 1) * 5 + 4, none⟩ = some (.int .i64 y.price)))
          (first | exact KS.out _ (below_drew _ 1) | exact KS.out _ (Below.refl _ _) | exact KS.out _ (by assumption))
          (first | (go_split_ands; go_at_call 36; (with_reducible refine (HOF.out _ _ _ _ _ _ (by first | assumption | exact (Below.refl _ _).drew)).mono ?_); rintro e w5 ⟨rfl, hb5⟩) | (go_at_call 50; (with_reducible refine (HCM.out _ _ _ _ _ (by first | assumption | exact (Below.refl _ _).drew)).mono ?_); rintro e w6 ⟨rfl, hb6⟩; simp only [HC.out]) | fail)
        all_goals
          go_wp2
          go_ret
          exact ⟨by rw [HE.out] <;> rfl, below_next HB.out hb6⟩
    · have HE : Hid (riseB keyo X = true) := Lib.hid (rise_upto.2 fun j hj => HU.out j (by rw [HL.out] at hj; omega))
      go_wp2
      go_ret
      exact ⟨by rw [HE.out] <;> rfl, HB.out⟩
end Go.Proofs.Ytpagkeklilgknaa.Bo

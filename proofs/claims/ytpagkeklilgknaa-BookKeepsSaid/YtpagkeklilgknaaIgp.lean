/-
  Layer 13: lists of api.Pos: whether they can be, of both. (Written by gen_ic.py out of p_ig.txt.)
-/
import Derived.Test.YtpagkeklilgknaaIfp
namespace Go.Proofs.Ytpagkeklilgknaa.Bo
open Go.RowKit Rw
set_option linter.unusedVariables false
set_option linter.unusedSimpArgs false

def riseSp (X : List Ps) : Bool := riseB keyp X && X.all fun x => qtyB x.qty
set_option maxRecDepth 100000 in
set_option maxHeartbeats 8000000 in
theorem rrise_p (a : Option Addr) (len cap : Nat) (X : List Ps) (w : World) (h : Has encp w a X) (hl : X.length = len) :
    Calls Try.prog 14 #[.slice a len cap] w fun e w' => e = .returned (.bool (riseSp X)) ∧ Below w.heap.size w w' := by
  have hm := h.1
  rw [hl] at hm
  have H := Lib.hid h; have HL := Lib.hid hl
  clear h hl
  go_enter Try.func14, Try.ntmps14
  go_wp2
  go_loopg [7] len (fun m i wr => ∃ k : Nat, k + m = len ∧ i = .int .i64 (k : Int) ∧ Hid (upto keyp zp X k) ∧ Hid (∀ j, j < k → qtyB (X.getD j zp).qty = true) ∧ Hid (Below w.heap.size w wr))
  case atStart => exact ⟨0, by omega, rfl, Lib.hid (upto_zero _ _), Lib.hid (fun j hj => by omega), Lib.hid (Below.refl _ _)⟩
  case round =>
    obtain ⟨k, hk, rfl, HU, HQ, HB⟩ := hrel
    by_cases hlt : k < len
    · have HW := H.out.keep HB.out
      obtain ⟨b, off, rfl, c0, c1, c2⟩ := atp HW (show k < X.length by rw [HL.out]; exact hlt)
      have HNX : Hid (X.getD k zp = X.getD k zp) := Lib.hid rfl
      have HFQ : Hid (qtyB (X.getD k zp).qty = false → riseSp X = false) := Lib.hid fun h1 => by
        unfold riseSp
        rw [all_no (f := fun x : Ps => qtyB x.qty) (d := zp) (j := k) (by rw [HL.out]; exact hlt) h1, Bool.and_false]
      have HQ1 : Hid (qtyB (X.getD k zp).qty = true → ∀ j, j < k + 1 → qtyB (X.getD j zp).qty = true) := Lib.hid fun h1 j hj => by
        rcases Nat.lt_or_ge j k with h2 | h2
        · exact HQ.out j h2
        · obtain rfl : j = k := by omega
          exact h1
      have HU1 : Hid ((1 ≤ k → ltK (keyp (X.getD (k - 1) zp)) (keyp (X.getD k zp)) = true) → upto keyp zp X (k + 1)) := Lib.hid fun h1 => upto_succ HU.out h1
      have HU0 : Hid (1 ≤ k → ltK (keyp (X.getD (k - 1) zp)) (keyp (X.getD k zp)) = false → riseSp X = false) := Lib.hid fun h1 h2 => by
        unfold riseSp
        rw [rise_no (d := zp) (k := k - 1) (by rw [HL.out]; omega) (by rw [show k - 1 + 1 = k by omega]; exact h2), Bool.false_and]
      have C1 : Hid (1 ≤ k → ∃ b' off', (some (⟨b, off, none⟩ : Addr)) = some ⟨b', off', none⟩ ∧ (wr.cell? ⟨b', off' + (k - 1) * 3, none⟩ = some (.int .i64 (X.getD (k - 1) zp).acct) ∧ wr.cell? ⟨b', off' + (k - 1) * 3 + 1, none⟩ = some (.int .i64 (X.getD (k - 1) zp).instr) ∧ wr.cell? ⟨b', off' + (k - 1) * 3 + 2, none⟩ = some (.int .i64 (X.getD (k - 1) zp).qty))) := Lib.hid fun h1 => atp HW (show k - 1 < X.length by rw [HL.out]; omega)
      generalize X.getD k zp = y at *
      generalize X.getD (k - 1) zp = x at *
      obtain ⟨kp, hkp⟩ : ∃ kp, kp = k - 1 := ⟨_, rfl⟩
      rw [← hkp] at C1
      have HKP := Lib.hid hkp
      clear hkp HW HNX
      obtain ⟨g, hg⟩ : ∃ g, g = wr.heap.size := ⟨_, rfl⟩
      obtain ⟨W1, hW1⟩ : ∃ W1, W1 = wr.alloc (.cells #[.int .i64 y.acct, .int .i64 y.instr, .int .i64 y.qty] 48) := ⟨_, rfl⟩
      have y0 : Blk W1 g #[.int .i64 y.acct, .int .i64 y.instr, .int .i64 y.qty] 48 := by rw [hW1, hg]; exact Blk.new wr _ _
      have hb1 : Below wr.heap.size wr W1 := by rw [hW1]; exact one_alloc _ _
      have HB1 := Lib.hid (below_next HB.out hb1); have HG := Lib.hid hg; have HW1 := Lib.hid hW1; have Hb1 := Lib.hid hb1; have HY0 := Lib.hid y0
      clear hg hW1 hb1 y0
      have hf := fits_any y.qty W1
      have i0 : (0 : Int) ≤ (k : Int) := by omega
      have i1 : (k : Int) < (len : Int) := by omega
      cases hQ : qtyB y.qty with
      | false =>
        have HE := Lib.hid (HFQ.out hQ)
        rw [hQ] at hf
        obtain ⟨d0, d1, d2⟩ := (⟨HY0.out.cell 0, HY0.out.cell 1, HY0.out.cell 2⟩ : W1.cell? ⟨g, 0, none⟩ = some (.int .i64 y.acct) ∧ W1.cell? ⟨g, 1, none⟩ = some (.int .i64 y.instr) ∧ W1.cell? ⟨g, 2, none⟩ = some (.int .i64 y.qty))
        clear hQ HFQ HQ1 HU1 HU0 C1
        go_upto_region 4 with (fail)
        rw [← HG.out, ← HW1.out]
        go_wp2_with (go_at_call 38; (with_reducible refine hf.mono ?_); rintro e w5 ⟨rfl, rfl⟩)
        go_ret
        exact ⟨by rw [HE.out] <;> rfl, HB1.out⟩
      | true =>
        have HQ2 := Lib.hid (HQ1.out hQ)
        rw [hQ] at hf
        clear hQ HFQ HQ1
        have KY : Hid (∀ wx, Below W1.heap.size W1 wx → (wx.cell? ⟨g, 0, none⟩ = some (.int .i64 y.acct) ∧ wx.cell? ⟨g, 1, none⟩ = some (.int .i64 y.instr) ∧ wx.cell? ⟨g, 2, none⟩ = some (.int .i64 y.qty))) := Lib.hid fun wx hb => ⟨(HY0.out.keep hb).cell 0, (HY0.out.keep hb).cell 1, (HY0.out.keep hb).cell 2⟩
        obtain ⟨d0, d1, d2⟩ := KY.out W1 (Below.refl _ _)
        go_upto_region 4 with (fail)
        rw [← HG.out, ← HW1.out]
        go_upto_region 6 with (go_at_call 38; (with_reducible refine hf.mono ?_); rintro e w5 ⟨rfl, rfl⟩)
        clear c0 c1 c2 i0 i1 hf
        rcases Nat.eq_zero_or_pos k with h0 | h0
        · have HU2 := Lib.hid (HU1.out (by omega))
          have i8 : ¬ ((0 : Int) < (k : Int)) := by omega
          have i9 : ¬ (0 < k) := by omega
          clear HU1 HU0 C1 h0
          go_quiet (fail)
          go_wp2
          go_roundg (len - (k + 1))
          case measure => omega
          case rel => exact ⟨k + 1, by omega, by go_num, HU2, HQ2, Lib.hid (below_next HB1.out (below_drew _ _))⟩
        · obtain ⟨b', off', e, e0, e1, e2⟩ := C1.out h0
          cases e
          have hkk : kp < len := by have := HKP.out; omega
          have i5 : IntKind.i64.wrap ((k : Int) - 1) = (kp : Int) := by have := HKP.out; rw [show (k : Int) - 1 = (kp : Int) by omega]; exact IntWalk.i64_in _ (by omega)
          have i6 : (0 : Int) ≤ (kp : Int) := by omega
          have i7 : (kp : Int) < (len : Int) := by omega
          have i8 : (0 : Int) < (k : Int) := by omega
          have KS : Hid (∀ wx, Below W1.heap.size W1 wx → (wx.cell? ⟨b, off + kp * 3, none⟩ = some (.int .i64 x.acct) ∧ wx.cell? ⟨b, off + kp * 3 + 1, none⟩ = some (.int .i64 x.instr) ∧ wx.cell? ⟨b, off + kp * 3 + 2, none⟩ = some (.int .i64 x.qty))) := Lib.hid fun wx hb => ⟨((Hb1.out.trans (hb.mono Hb1.out.size)).cell (Fr.lt_of_cell e0)).trans e0, ((Hb1.out.trans (hb.mono Hb1.out.size)).cell (Fr.lt_of_cell e1)).trans e1, ((Hb1.out.trans (hb.mono Hb1.out.size)).cell (Fr.lt_of_cell e2)).trans e2⟩
          obtain ⟨f0, f1, f2⟩ := KS.out W1 (Below.refl _ _)
          clear e0 e1 e2
          have HLT : Hid (ltK (keyp x) (keyp y) = (decide (x.acct < y.acct) || (decide (x.acct = y.acct) && decide (x.instr < y.instr)))) := Lib.hid rfl
          by_cases q1 : y.acct < x.acct
          · have HE := Lib.hid (HU0.out h0 (by rw [HLT.out]; simp; omega))
            clear HU1 HU0 C1 HLT
            go_quiet (fail)
            go_wp2
            go_ret
            exact ⟨by rw [HE.out] <;> rfl, below_next HB1.out (below_drew _ _)⟩
          by_cases q2 : x.acct = y.acct
          · have b2 : (x.acct == y.acct) = true := beq_iff_eq.2 q2
            by_cases q3 : y.instr ≤ x.instr
            · have HE := Lib.hid (HU0.out h0 (by rw [HLT.out]; simp; omega))
              clear HU1 HU0 C1 HLT q2
              go_quiet (fail)
              go_wp2
              go_ret
              exact ⟨by rw [HE.out] <;> rfl, below_next HB1.out (below_drew _ _)⟩
            · have HU2 := Lib.hid (HU1.out fun _ => by rw [HLT.out]; simp; omega)
              clear HU1 HU0 C1 HLT q2
              go_quiet (fail)
              go_wp2
              go_roundg (len - (k + 1))
              case measure => omega
              case rel => exact ⟨k + 1, by omega, by go_num, HU2, HQ2, Lib.hid (below_next HB1.out (below_drew _ _))⟩
          · have b2 : (x.acct == y.acct) = false := beq_eq_false_iff_ne.2 q2
            have HU2 := Lib.hid (HU1.out fun _ => by rw [HLT.out]; simp; omega)
            clear HU1 HU0 C1 HLT q2
            go_quiet (fail)
            go_wp2
            go_roundg (len - (k + 1))
            case measure => omega
            case rel => exact ⟨k + 1, by omega, by go_num, HU2, HQ2, Lib.hid (below_next HB1.out (below_drew _ _))⟩
    · have HE : Hid (riseSp X = true) := Lib.hid (by
        unfold riseSp
        rw [Bool.and_eq_true]
        exact ⟨rise_upto.2 fun j hj => HU.out j (by rw [HL.out] at hj; omega), all_yes (d := zp) fun j hj => HQ.out j (by rw [HL.out] at hj; omega)⟩)
      go_wp2
      go_ret
      exact ⟨by rw [HE.out] <;> rfl, HB.out⟩
end Go.Proofs.Ytpagkeklilgknaa.Bo

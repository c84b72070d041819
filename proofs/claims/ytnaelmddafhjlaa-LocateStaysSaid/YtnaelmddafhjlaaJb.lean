/-
  Layer 14: reservations: their order, the search, a place. (Written by gen_jb.py.)
-/
import Derived.Test.YtnaelmddafhjlaaJa
import Derived.Lib.BitFns
import Derived.Handy
namespace Go.Proofs.Ytnaelmddafhjlaa.Bo
open Go.RowKit Rw
set_option linter.unusedVariables false
set_option linter.unusedSimpArgs false

theorem cmp_lift_l (w : World) : ∀ a b f c d h wx, Below w.heap.size w wx → Calls Try.prog 33 #[.agg #[.int .i64 a, .int .i64 b, .int .i64 f], .agg #[.int .i64 c, .int .i64 d, .int .i64 h]] wx fun e w' => e = .returned (.int .i64 (cmpK (a, b) (c, d))) ∧ Below w.heap.size w w' :=
  fun a b f c d h wx hb => (compare_any a b f c d h wx).mono fun e w' ⟨h1, h2⟩ => ⟨h1, hb.trans (h2.mono hb.size)⟩
set_option maxRecDepth 100000 in
set_option maxHeartbeats 4000000 in
theorem ordered_l (a : Option Addr) (len cap : Nat) (X : List Lo) (w : World) (h : Has encl w a X) (hl : X.length = len) :
    Calls Try.prog 22 #[.slice a len cap] w fun e w' => e = .returned (.bool (riseB keyl X)) ∧ Below w.heap.size w w' := by
  have hm := h.1
  rw [hl] at hm
  have H := Lib.hid h; have HL := Lib.hid hl
  clear h hl
  go_enter Try.func22, Try.ntmps22
  go_wp2
  go_loopg [3] (len - 1) (fun m i wr => ∃ k : Nat, k ≤ len ∧ len - (k + 1) = m ∧ i = .int .i64 ((k : Int) + 1) ∧ Hid (upto keyl zl X (k + 1)) ∧ Hid (Below w.heap.size w wr))
  case atStart => exact ⟨0, by omega, by omega, by go_num, Lib.hid (upto_one _ _), Lib.hid (Below.refl _ _)⟩
  case round =>
    obtain ⟨k, hk, hkm, rfl, HU, HB⟩ := hrel
    by_cases hlt : k + 1 < len
    · have HW := H.out.keep HB.out
      obtain ⟨b, off, rfl, c0, c1, c2⟩ := atl HW (show k < X.length by rw [HL.out]; omega)
      obtain ⟨b', off', e, d0, d1, d2⟩ := atl HW (show k + 1 < X.length by rw [HL.out]; exact hlt)
      cases e
      have HN : Hid (ltK (keyl (X.getD k zl)) (keyl (X.getD (k + 1) zl)) = false → riseB keyl X = false) := Lib.hid (rise_no (by rw [HL.out]; exact hlt))
      have HY : Hid (ltK (keyl (X.getD k zl)) (keyl (X.getD (k + 1) zl)) = true → upto keyl zl X (k + 1 + 1)) := Lib.hid fun h => upto_succ HU.out fun _ => by rw [Nat.add_sub_cancel]; exact h
      generalize X.getD k zl = x at *
      generalize X.getD (k + 1) zl = y at *
      have KS : Hid (∀ wx, Below wr.heap.size wr wx → (wx.cell? ⟨b, off + k * 3, none⟩ = some (.int .i64 x.acct) ∧ wx.cell? ⟨b, off + k * 3 + 1, none⟩ = some (.int .i64 x.instr) ∧ wx.cell? ⟨b, off + k * 3 + 2, none⟩ = some (.int .i64 x.qty)) ∧ (wx.cell? ⟨b, off + (k + 1) * 3, none⟩ = some (.int .i64 y.acct) ∧ wx.cell? ⟨b, off + (k + 1) * 3 + 1, none⟩ = some (.int .i64 y.instr) ∧ wx.cell? ⟨b, off + (k + 1) * 3 + 2, none⟩ = some (.int .i64 y.qty))) := Lib.hid fun wx hb => ⟨⟨(hb.cell (Fr.lt_of_cell c0)).trans c0, (hb.cell (Fr.lt_of_cell c1)).trans c1, (hb.cell (Fr.lt_of_cell c2)).trans c2⟩, ⟨(hb.cell (Fr.lt_of_cell d0)).trans d0, (hb.cell (Fr.lt_of_cell d1)).trans d1, (hb.cell (Fr.lt_of_cell d2)).trans d2⟩⟩
      have HCM := Lib.hid (cmp_lift_l wr)
      have HLT : Hid (cmpK (x.acct, x.instr) (y.acct, y.instr) < 0 ↔ ltK (keyl x) (keyl y) = true) := Lib.hid cmpK_lt
      obtain ⟨C, hC⟩ : ∃ C, cmpK (x.acct, x.instr) (y.acct, y.instr) = C := ⟨_, rfl⟩
      have HC := Lib.hid hC
      clear hC HW
      have i1 : (0 : Int) ≤ (k : Int) := by omega
      have i2 : (k : Int) < (len : Int) := by omega
      have i3 : (0 : Int) ≤ (k : Int) + 1 := by omega
      have i4 : (k : Int) + 1 < (len : Int) := by omega
      have i5 : IntKind.i64.wrap ((k : Int) + 1 - 1) = (k : Int) := by rw [Int.add_sub_cancel]; exact IntWalk.i64_in _ (by omega)
      have i7 : IntKind.i64.wrap (k : Int) = (k : Int) := IntWalk.i64_in _ (by omega)
      have i6 : ((k : Int) + 1).toNat = k + 1 := by omega
      by_cases hc : C < 0
      · have HU2 := Lib.hid (HY.out (HLT.out.1 (by rw [HC.out]; exact hc)))
        clear HN HY HLT
        go_upto_region 4 with (fail)
        go_region_held3 (fun wx => (wx.cell? ⟨b, off + k * 3, none⟩ = some (.int .i64 x.acct) ∧ wx.cell? ⟨b, off + k * 3 + 1, none⟩ = some (.int .i64 x.instr) ∧ wx.cell? ⟨b, off + k * 3 + 2, none⟩ = some (.int .i64 x.qty)) ∧ (wx.cell? ⟨b, off + (k + 1) * 3, none⟩ = some (.int .i64 y.acct) ∧ wx.cell? ⟨b, off + (k + 1) * 3 + 1, none⟩ = some (.int .i64 y.instr) ∧ wx.cell? ⟨b, off + (k + 1) * 3 + 2, none⟩ = some (.int .i64 y.qty)))
          (first | exact KS.out _ (below_drew _ 1) | exact KS.out _ (Below.refl _ _) | exact KS.out _ (by assumption))
          (first | (go_split_ands; go_at_call 33; (with_reducible refine (HCM.out _ _ _ _ _ _ _ (by first | assumption | exact (Below.refl _ _).drew)).mono ?_); rintro e w6 ⟨rfl, hb6⟩; simp only [HC.out]) | fail)
        all_goals
          go_wp2
          go_roundg (len - (k + 1 + 1))
          case measure => omega
          case rel => exact ⟨k + 1, by omega, by omega, by go_num, HU2, Lib.hid (below_next HB.out hb6)⟩
      · have HE : Hid (riseB keyl X = false) := Lib.hid (HN.out (by
          cases h : ltK (keyl x) (keyl y) with
          | false => rfl
          | true => exact absurd (by rw [← HC.out]; exact HLT.out.2 h) hc))
        clear HN HY HLT
        go_upto_region 4 with (fail)
        go_region_held3 (fun wx => (wx.cell? ⟨b, off + k * 3, none⟩ = some (.int .i64 x.acct) ∧ wx.cell? ⟨b, off + k * 3 + 1, none⟩ = some (.int .i64 x.instr) ∧ wx.cell? ⟨b, off + k * 3 + 2, none⟩ = some (.int .i64 x.qty)) ∧ (wx.cell? ⟨b, off + (k + 1) * 3, none⟩ = some (.int .i64 y.acct) ∧ wx.cell? ⟨b, off + (k + 1) * 3 + 1, none⟩ = some (.int .i64 y.instr) ∧ wx.cell? ⟨b, off + (k + 1) * 3 + 2, none⟩ = some (.int .i64 y.qty)))
          (first | exact KS.out _ (below_drew _ 1) | exact KS.out _ (Below.refl _ _) | exact KS.out _ (by assumption))
          (first | (go_split_ands; go_at_call 33; (with_reducible refine (HCM.out _ _ _ _ _ _ _ (by first | assumption | exact (Below.refl _ _).drew)).mono ?_); rintro e w6 ⟨rfl, hb6⟩; simp only [HC.out]) | fail)
        all_goals
          go_wp2
          go_ret
          exact ⟨by rw [HE.out] <;> rfl, below_next HB.out hb6⟩
    · have HE : Hid (riseB keyl X = true) := Lib.hid (rise_upto.2 fun j hj => HU.out j (by rw [HL.out] at hj; omega))
      go_wp2
      go_ret
      exact ⟨by rw [HE.out] <;> rfl, HB.out⟩
theorem Dec.isSome_lt {α : Type} {key : α → K2} {X L R : List α} {p : K2} {o : Option α} (h : Dec key X p L o R) : o.isSome = true → L.length < X.length := by
  intro h1
  rw [h.len]
  cases o with
  | none => cases h1
  | some y => simp; omega
set_option maxRecDepth 100000 in
set_option maxHeartbeats 8000000 in
theorem search_l (a : Option Addr) (len cap : Nat) (X L R : List Lo) (o : Option Lo) (c d q : Int) (w : World) (h : Has encl w a X) (hl : X.length = len) (hm : len ≤ 4611686018427387903) (hd : Dec keyl X (c, d) L o R) :
    Calls Try.prog 35 #[.slice a len cap, .agg #[.int .i64 c, .int .i64 d, .int .i64 q], .func (.func 33) #[] #[]] w fun e w' => e = .returned (.tuple #[.int .i64 (L.length : Int), .bool o.isSome]) ∧ Below w.heap.size w w' := by
  obtain ⟨N, hN⟩ : ∃ N, N = w.heap.size := ⟨_, rfl⟩
  obtain ⟨W0, hW0⟩ : ∃ W0, W0 = w.alloc (.cells #[.int .i64 c, .int .i64 d, .int .i64 q] 42) := ⟨_, rfl⟩
  have y0 : Blk W0 N #[.int .i64 c, .int .i64 d, .int .i64 q] 42 := by rw [hW0, hN]; exact Blk.new w _ _
  have hb : Below w.heap.size w W0 := by rw [hW0]; exact one_alloc _ _
  have KB : Hid (∀ wx, Below W0.heap.size W0 wx → wx.cell? ⟨N, 0, none⟩ = some (.int .i64 c) ∧ wx.cell? ⟨N, 1, none⟩ = some (.int .i64 d) ∧ wx.cell? ⟨N, 2, none⟩ = some (.int .i64 q)) := Lib.hid fun wx hb => ⟨(y0.keep hb).cell 0, (y0.keep hb).cell 1, (y0.keep hb).cell 2⟩
  have HH : Hid (∀ wx, Below W0.heap.size W0 wx → Has encl wx a X) := Lib.hid fun wx hb2 => (h.keep hb).keep hb2
  have HCL := Lib.hid fun wx (hbx : Below W0.heap.size W0 wx) => cmp_lift_l wx
  have HLO : Hid (∀ j, j < L.length → ltK (keyl (X.getD j zl)) (c, d) = true) := Lib.hid fun j hj => hd.at_lo hj
  have HHI : Hid (∀ j, L.length ≤ j → j < len → ltK (keyl (X.getD j zl)) (c, d) = false) := Lib.hid fun j h1 h2 => hd.at_hi h1 (by rw [hl]; exact h2)
  have HEQ : Hid (L.length < len → decide (cmpK (keyl (X.getD L.length zl)) (c, d) = 0) = o.isSome) := Lib.hid fun h1 => hd.at_eq (by rw [hl]; exact h1)
  have HLE : L.length ≤ len := by rw [← hl, hd.len]; omega
  have HIS : Hid (o.isSome = true → L.length < len) := Lib.hid fun h1 => by rw [← hl]; exact hd.isSome_lt h1
  have HB := Lib.hid hb; have HN := Lib.hid hN; have HW := Lib.hid hW0; have HL := Lib.hid hl
  clear h hl hd hN hW0 y0 hb
  generalize L.length = P at *
  generalize o.isSome = B at *
  go_enter Try.func35, Try.ntmps35
  go_upto_region 1 with (fail)
  rw [← HN.out, ← HW.out]
  clear HN HW
  go_wp2
  go_loopg [9, 10] len (fun m i j wr => ∃ lo hi : Nat, hi - lo ≤ m ∧ lo ≤ P ∧ P ≤ hi ∧ hi ≤ len ∧ i = .int .i64 (lo : Int) ∧ j = .int .i64 (hi : Int) ∧ Hid (Below W0.heap.size W0 wr))
  case atStart => exact ⟨0, len, by omega, by omega, HLE, by omega, rfl, rfl, Lib.hid (Below.refl _ _)⟩
  case round =>
    obtain ⟨lo, hi, hm2, hlo, hhi, hle, rfl, rfl, HR⟩ := hrel
    obtain ⟨k0, k1, k2⟩ := KB.out wr HR.out
    by_cases hlt : lo < hi
    · obtain ⟨k, hk⟩ : ∃ k, k = (lo + hi) / 2 := ⟨_, rfl⟩
      obtain ⟨b, off, rfl, c0, c1, c2⟩ := atl (HH.out wr HR.out) (show k < X.length by rw [HL.out]; omega)
      have HC1 : Hid (cmpK (keyl (X.getD k zl)) (c, d) < 0 → k < P) := Lib.hid fun h1 => by
        rcases Nat.lt_or_ge k P with h2 | h2
        · exact h2
        · have := HHI.out k h2 (by omega)
          rw [cmpK_lt.1 h1] at this; cases this
      have HC2 : Hid (¬ cmpK (keyl (X.getD k zl)) (c, d) < 0 → P ≤ k) := Lib.hid fun h1 => by
        rcases Nat.lt_or_ge k P with h2 | h2
        · exact absurd (cmpK_lt.2 (HLO.out k h2)) h1
        · exact h2
      generalize X.getD k zl = x at *
      have HCC := Lib.hid (HCL.out wr HR.out x.acct x.instr x.qty c d q)
      have KS : Hid (∀ wx, Below wr.heap.size wr wx → (wx.cell? ⟨N, 0, none⟩ = some (.int .i64 c) ∧ wx.cell? ⟨N, 1, none⟩ = some (.int .i64 d) ∧ wx.cell? ⟨N, 2, none⟩ = some (.int .i64 q)) ∧ (wx.cell? ⟨b, off + k * 3, none⟩ = some (.int .i64 x.acct) ∧ wx.cell? ⟨b, off + k * 3 + 1, none⟩ = some (.int .i64 x.instr) ∧ wx.cell? ⟨b, off + k * 3 + 2, none⟩ = some (.int .i64 x.qty))) := Lib.hid fun wx hb => ⟨⟨(hb.cell (Fr.lt_of_cell k0)).trans k0, (hb.cell (Fr.lt_of_cell k1)).trans k1, (hb.cell (Fr.lt_of_cell k2)).trans k2⟩, (hb.cell (Fr.lt_of_cell c0)).trans c0, (hb.cell (Fr.lt_of_cell c1)).trans c1, (hb.cell (Fr.lt_of_cell c2)).trans c2⟩
      have e0 : Hid (keyl x = (x.acct, x.instr)) := Lib.hid rfl
      rw [e0.out] at HC1 HC2
      generalize cmpK (x.acct, x.instr) (c, d) = C at *
      have i0 : IntKind.i64.wrap ((lo : Int) + (hi : Int)) = (lo : Int) + (hi : Int) := IntWalk.i64_in _ (by omega)
      have i1 : IntKind.u64.wrap ((lo : Int) + (hi : Int)) = (lo : Int) + (hi : Int) := IntWalk.u64_in _ (by omega)
      have i2 : (((lo : Int) + (hi : Int)) / 2) = (k : Int) := by omega
      have hk1 : lo ≤ k := by omega
      have hk2 : k < hi := by omega
      have i3 : (0 : Int) ≤ (k : Int) := by omega
      have i4 : (k : Int) < (len : Int) := by omega
      have i5 : IntKind.i64.wrap (k : Int) = (k : Int) := IntWalk.i64_in _ (by omega)
      clear hk
      by_cases hc : C < 0
      · have hkP := HC1.out hc
        clear HC1 HC2
        go_upto_region 5 with (fail)
        go_region_held3 (fun wx => (wx.cell? ⟨N, 0, none⟩ = some (.int .i64 c) ∧ wx.cell? ⟨N, 1, none⟩ = some (.int .i64 d) ∧ wx.cell? ⟨N, 2, none⟩ = some (.int .i64 q)) ∧ (wx.cell? ⟨b, off + k * 3, none⟩ = some (.int .i64 x.acct) ∧ wx.cell? ⟨b, off + k * 3 + 1, none⟩ = some (.int .i64 x.instr) ∧ wx.cell? ⟨b, off + k * 3 + 2, none⟩ = some (.int .i64 x.qty)))
          (first | exact KS.out _ (Below.refl _ _).drew | exact KS.out _ (Below.refl _ _) | exact KS.out _ (by assumption))
          (first | (go_split_ands; go_at_call 33; (with_reducible refine (HCC.out _ (by first | assumption | exact (Below.refl _ _).drew)).mono ?_); rintro e w5 ⟨rfl, hb5⟩) | fail)
        go_wp2
        go_roundg (hi - (k + 1))
        case measure => omega
        case rel => exact ⟨k + 1, hi, by omega, by omega, hhi, hle, by go_num, rfl, Lib.hid (below_next HR.out hb5)⟩
      · have hkP := HC2.out hc
        clear HC1 HC2
        go_upto_region 5 with (fail)
        go_region_held3 (fun wx => (wx.cell? ⟨N, 0, none⟩ = some (.int .i64 c) ∧ wx.cell? ⟨N, 1, none⟩ = some (.int .i64 d) ∧ wx.cell? ⟨N, 2, none⟩ = some (.int .i64 q)) ∧ (wx.cell? ⟨b, off + k * 3, none⟩ = some (.int .i64 x.acct) ∧ wx.cell? ⟨b, off + k * 3 + 1, none⟩ = some (.int .i64 x.instr) ∧ wx.cell? ⟨b, off + k * 3 + 2, none⟩ = some (.int .i64 x.qty)))
          (first | exact KS.out _ (Below.refl _ _).drew | exact KS.out _ (Below.refl _ _) | exact KS.out _ (by assumption))
          (first | (go_split_ands; go_at_call 33; (with_reducible refine (HCC.out _ (by first | assumption | exact (Below.refl _ _).drew)).mono ?_); rintro e w5 ⟨rfl, hb5⟩) | fail)
        go_wp2
        go_roundg (k - lo)
        case measure => omega
        case rel => exact ⟨lo, k, by omega, hlo, hkP, by omega, rfl, by go_num, Lib.hid (below_next HR.out hb5)⟩
    · obtain rfl : lo = P := by omega
      by_cases hP : lo < len
      · obtain ⟨b, off, rfl, c0, c1, c2⟩ := atl (HH.out wr HR.out) (show lo < X.length by rw [HL.out]; exact hP)
        have hq := HEQ.out hP
        generalize X.getD lo zl = x at *
        have HCC := Lib.hid (HCL.out wr HR.out x.acct x.instr x.qty c d q)
        have KS : Hid (∀ wx, Below wr.heap.size wr wx → (wx.cell? ⟨N, 0, none⟩ = some (.int .i64 c) ∧ wx.cell? ⟨N, 1, none⟩ = some (.int .i64 d) ∧ wx.cell? ⟨N, 2, none⟩ = some (.int .i64 q)) ∧ (wx.cell? ⟨b, off + lo * 3, none⟩ = some (.int .i64 x.acct) ∧ wx.cell? ⟨b, off + lo * 3 + 1, none⟩ = some (.int .i64 x.instr) ∧ wx.cell? ⟨b, off + lo * 3 + 2, none⟩ = some (.int .i64 x.qty))) := Lib.hid fun wx hb => ⟨⟨(hb.cell (Fr.lt_of_cell k0)).trans k0, (hb.cell (Fr.lt_of_cell k1)).trans k1, (hb.cell (Fr.lt_of_cell k2)).trans k2⟩, (hb.cell (Fr.lt_of_cell c0)).trans c0, (hb.cell (Fr.lt_of_cell c1)).trans c1, (hb.cell (Fr.lt_of_cell c2)).trans c2⟩
        rw [show keyl x = (x.acct, x.instr) from rfl] at hq
        generalize cmpK (x.acct, x.instr) (c, d) = C at *
        have HQ : Hid (B = (C == 0)) := Lib.hid (by rw [← hq]; rfl)
        clear hq HIS HEQ
        go_upto_region 8 with (fail)
        go_region_held3 (fun wx => (wx.cell? ⟨N, 0, none⟩ = some (.int .i64 c) ∧ wx.cell? ⟨N, 1, none⟩ = some (.int .i64 d) ∧ wx.cell? ⟨N, 2, none⟩ = some (.int .i64 q)) ∧ (wx.cell? ⟨b, off + lo * 3, none⟩ = some (.int .i64 x.acct) ∧ wx.cell? ⟨b, off + lo * 3 + 1, none⟩ = some (.int .i64 x.instr) ∧ wx.cell? ⟨b, off + lo * 3 + 2, none⟩ = some (.int .i64 x.qty)))
          (first | exact KS.out _ (Below.refl _ _).drew | exact KS.out _ (Below.refl _ _) | exact KS.out _ (by assumption))
          (first | (go_split_ands; go_at_call 33; (with_reducible refine (HCC.out _ (by first | assumption | exact (Below.refl _ _).drew)).mono ?_); rintro e w5 ⟨rfl, hb5⟩) | fail)
        go_wp2
        go_ret2
        exact ⟨by rw [HQ.out] <;> rfl, below_next HB.out (below_next HR.out hb5)⟩
      · have HQ : Hid (B = false) := Lib.hid (by
          cases hB : B with
          | false => rfl
          | true => exact absurd (HIS.out hB) hP)
        clear HIS HEQ
        go_upto_region 8 with (fail)
        go_quiet (fail)
        go_wp2
        go_ret2
        exact ⟨by rw [HQ.out] <;> rfl, below_next HB.out (below_next HR.out (below_drew _ _))⟩
theorem place_l (a : Option Addr) (len cap : Nat) (X L R : List Lo) (o : Option Lo) (c d : Int) (w : World) (h : Has encl w a X) (hl : X.length = len) (hm : len ≤ 4611686018427387903) (hd : Dec keyl X (c, d) L o R) :
    Calls Try.prog 30 #[.slice a len cap, .int .i64 c, .int .i64 d] w fun e w' => e = .returned (.tuple #[.int .i64 (L.length : Int), .bool o.isSome]) ∧ Below w.heap.size w w' := by
  have HS := Lib.hid (search_l a len cap X L R o c d 0 w h hl hm hd)
  clear h hl hd
  go_enter Try.func30, Try.ntmps30
  go_wp2_with (go_at_call 35; (with_reducible refine HS.out.mono ?_); rintro e w5 ⟨rfl, hb5⟩)
  go_ret2
  exact ⟨rfl, hb5⟩
end Go.Proofs.Ytnaelmddafhjlaa.Bo

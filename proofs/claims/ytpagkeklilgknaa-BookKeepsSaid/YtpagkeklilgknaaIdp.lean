/-
  Layer 13: lists of api.Pos: the search, a place. (Written by gen_ic.py out of p_id.txt.)
-/
import Derived.Test.YtpagkeklilgknaaIcp
import Derived.Lib.BitFns
import Derived.Handy
namespace Go.Proofs.Ytpagkeklilgknaa.Bo
open Go.RowKit Rw
set_option linter.unusedVariables false
set_option linter.unusedSimpArgs false

/-- What an element is compared by: a function of the call's own that has another in a box. -/
def FunAt_p (w : World) (g : Nat) : Prop := w.cell? ⟨g, 0, none⟩ = some (.func (.func 33) #[] #[])
set_option maxRecDepth 100000 in
set_option maxHeartbeats 2000000 in
theorem clo_p (a0 a1 a2 c d : Int) (g : Nat) (w : World) (h : FunAt_p w g) :
    Calls Try.prog 52 #[.agg #[.int .i64 a0, .int .i64 a1, .int .i64 a2], .agg #[.int .i64 c, .int .i64 d], .pointer (some ⟨g, 0, none⟩)] w fun e w' => e = .returned (.int .i64 (cmpK (a0, a1) (c, d))) ∧ Below w.heap.size w w' := by
  unfold FunAt_p at h
  obtain ⟨N, hN⟩ : ∃ N, N = w.heap.size := ⟨_, rfl⟩
  obtain ⟨W0, hW0⟩ : ∃ W0, W0 = (w.alloc (.cells #[.int .i64 a0, .int .i64 a1, .int .i64 a2] 48)).alloc (.cells #[.int .i64 c, .int .i64 d] 63) := ⟨_, rfl⟩
  have x0 : Blk W0 N #[.int .i64 a0, .int .i64 a1, .int .i64 a2] 48 := by rw [hW0, hN]; exact (Blk.new w _ _).keep (one_alloc _ _)
  have y0 : Blk W0 (N + 1) #[.int .i64 c, .int .i64 d] 63 := by
    have := Blk.new (w.alloc (.cells #[.int .i64 a0, .int .i64 a1, .int .i64 a2] 48)) #[.int .i64 c, .int .i64 d] 63
    rw [World.size_alloc, ← hN, ← hW0] at this; exact this
  have hb : Below w.heap.size w W0 := by rw [hW0]; repeat' (first | exact Below.refl _ _ | refine Below.alloc ?_ (by simp) _)
  have z0 : W0.cell? ⟨g, 0, none⟩ = some (.func (.func 33) #[] #[]) := (hb.cell (Fr.lt_of_cell h)).trans h
  have KS : Hid (∀ wx, Below W0.heap.size W0 wx → wx.cell? ⟨g, 0, none⟩ = some (.func (.func 33) #[] #[]) ∧ (wx.cell? ⟨N, 0, none⟩ = some (.int .i64 a0) ∧ wx.cell? ⟨N, 1, none⟩ = some (.int .i64 a1) ∧ wx.cell? ⟨N, 2, none⟩ = some (.int .i64 a2)) ∧ (wx.cell? ⟨N + 1, 0, none⟩ = some (.int .i64 c) ∧ wx.cell? ⟨N + 1, 1, none⟩ = some (.int .i64 d))) :=
    Lib.hid fun wx hb => ⟨(hb.cell (Fr.lt_of_cell z0)).trans z0, ⟨(x0.keep hb).cell 0, (x0.keep hb).cell 1, (x0.keep hb).cell 2⟩, (y0.keep hb).cell 0, (y0.keep hb).cell 1⟩
  have HB := Lib.hid hb; have HN := Lib.hid hN; have HW := Lib.hid hW0
  obtain ⟨k0, ⟨c0, c1, c2⟩, k1, k2⟩ := KS.out W0 (Below.refl _ _)
  have HOF := Lib.hid (of_lift_p W0)
  have HCM := Lib.hid (cmp_lift_p W0)
  obtain ⟨C, hC⟩ : ∃ C, cmpK (a0, a1) (c, d) = C := ⟨_, rfl⟩
  have HC := Lib.hid hC
  rw [HC.out]
  clear hC h hN hW0 x0 y0 hb z0
  go_enter Try.func52, Try.ntmps52
  go_upto_region 1 with (fail)
  rw [← HN.out, ← HW.out]
  clear HN HW
  go_region_held3 (fun wx => wx.cell? ⟨g, 0, none⟩ = some (.func (.func 33) #[] #[]) ∧ (wx.cell? ⟨N, 0, none⟩ = some (.int .i64 a0) ∧ wx.cell? ⟨N, 1, none⟩ = some (.int .i64 a1) ∧ wx.cell? ⟨N, 2, none⟩ = some (.int .i64 a2)) ∧ (wx.cell? ⟨N + 1, 0, none⟩ = some (.int .i64 c) ∧ wx.cell? ⟨N + 1, 1, none⟩ = some (.int .i64 d)))
    (first | exact KS.out _ (Below.refl _ _).drew | exact KS.out _ (Below.refl _ _) | exact KS.out _ (by assumption))
    (first | (go_split_ands; go_at_call 33; (with_reducible refine (HOF.out _ _ _ _ (by first | assumption | exact (Below.refl _ _).drew)).mono ?_); rintro e w5 ⟨rfl, hb5⟩) | (go_at_call 50; (with_reducible refine (HCM.out _ _ _ _ _ (by first | assumption | exact (Below.refl _ _).drew)).mono ?_); rintro e w6 ⟨rfl, hb6⟩; simp only [HC.out]) | fail)
  go_wp2
  go_ret
  exact ⟨rfl, below_next HB.out hb6⟩
theorem clo_lift_p (w : World) (g : Nat) (c d : Int) (h : FunAt_p w g) : ∀ a0 a1 a2 wx, Below w.heap.size w wx → Calls Try.prog 52 #[.agg #[.int .i64 a0, .int .i64 a1, .int .i64 a2], .agg #[.int .i64 c, .int .i64 d], .pointer (some ⟨g, 0, none⟩)] wx fun e w' => e = .returned (.int .i64 (cmpK (a0, a1) (c, d))) ∧ Below w.heap.size w w' :=
  fun a0 a1 a2 wx hb => (clo_p a0 a1 a2 c d g wx ((hb.cell (Fr.lt_of_cell h)).trans h)).mono fun e w' ⟨h1, h2⟩ => ⟨h1, hb.trans (h2.mono hb.size)⟩
theorem Dec.isSome_lt {α : Type} {key : α → K2} {X L R : List α} {p : K2} {o : Option α} (h : Dec key X p L o R) : o.isSome = true → L.length < X.length := by
  intro h1
  rw [h.len]
  cases o with
  | none => cases h1
  | some y => simp; omega
set_option maxRecDepth 100000 in
set_option maxHeartbeats 8000000 in
theorem search_p (a : Option Addr) (len cap : Nat) (X L R : List Ps) (o : Option Ps) (c d : Int) (g : Nat) (w : World) (h : Has encp w a X) (hl : X.length = len) (hm : len ≤ 4611686018427387903) (hd : Dec keyp X (c, d) L o R) (hf : FunAt_p w g) :
    Calls Try.prog 51 #[.slice a len cap, .agg #[.int .i64 c, .int .i64 d], .func (.func 52) #[] #[.pointer (some ⟨g, 0, none⟩)]] w fun e w' => e = .returned (.tuple #[.int .i64 (L.length : Int), .bool o.isSome]) ∧ Below w.heap.size w w' := by
  obtain ⟨N, hN⟩ : ∃ N, N = w.heap.size := ⟨_, rfl⟩
  obtain ⟨W0, hW0⟩ : ∃ W0, W0 = w.alloc (.cells #[.int .i64 c, .int .i64 d] 63) := ⟨_, rfl⟩
  have y0 : Blk W0 N #[.int .i64 c, .int .i64 d] 63 := by rw [hW0, hN]; exact Blk.new w _ _
  have hb : Below w.heap.size w W0 := by rw [hW0]; exact one_alloc _ _
  have KB : Hid (∀ wx, Below W0.heap.size W0 wx → wx.cell? ⟨N, 0, none⟩ = some (.int .i64 c) ∧ wx.cell? ⟨N, 1, none⟩ = some (.int .i64 d)) := Lib.hid fun wx hb => ⟨(y0.keep hb).cell 0, (y0.keep hb).cell 1⟩
  have HH : Hid (∀ wx, Below W0.heap.size W0 wx → Has encp wx a X) := Lib.hid fun wx hb2 => (h.keep hb).keep hb2
  have HCL := Lib.hid fun wx (hbx : Below W0.heap.size W0 wx) => clo_lift_p wx g c d ((hbx.cell (Fr.lt_of_cell ((hb.cell (Fr.lt_of_cell hf)).trans hf))).trans ((hb.cell (Fr.lt_of_cell hf)).trans hf))
  have HLO : Hid (∀ j, j < L.length → ltK (keyp (X.getD j zp)) (c, d) = true) := Lib.hid fun j hj => hd.at_lo hj
  have HHI : Hid (∀ j, L.length ≤ j → j < len → ltK (keyp (X.getD j zp)) (c, d) = false) := Lib.hid fun j h1 h2 => hd.at_hi h1 (by rw [hl]; exact h2)
  have HEQ : Hid (L.length < len → decide (cmpK (keyp (X.getD L.length zp)) (c, d) = 0) = o.isSome) := Lib.hid fun h1 => hd.at_eq (by rw [hl]; exact h1)
  have HLE : L.length ≤ len := by rw [← hl, hd.len]; omega
  have HIS : Hid (o.isSome = true → L.length < len) := Lib.hid fun h1 => by rw [← hl]; exact hd.isSome_lt h1
  have HB := Lib.hid hb; have HN := Lib.hid hN; have HW := Lib.hid hW0; have HL := Lib.hid hl
  clear h hl hd hf hN hW0 y0 hb
  generalize L.length = P at *
  generalize o.isSome = B at *
  go_enter Try.func51, Try.ntmps51
  go_upto_region 1 with (fail)
  rw [← HN.out, ← HW.out]
  clear HN HW
  go_wp2
  go_loopg [9, 10] len (fun m i j wr => ∃ lo hi : Nat, hi - lo ≤ m ∧ lo ≤ P ∧ P ≤ hi ∧ hi ≤ len ∧ i = .int .i64 (lo : Int) ∧ j = .int .i64 (hi : Int) ∧ Hid (Below W0.heap.size W0 wr))
  case atStart => exact ⟨0, len, by omega, by omega, HLE, by omega, rfl, rfl, Lib.hid (Below.refl _ _)⟩
  case round =>
    obtain ⟨lo, hi, hm2, hlo, hhi, hle, rfl, rfl, HR⟩ := hrel
    obtain ⟨k0, k1⟩ := KB.out wr HR.out
    by_cases hlt : lo < hi
    · obtain ⟨k, hk⟩ : ∃ k, k = (lo + hi) / 2 := ⟨_, rfl⟩
      obtain ⟨b, off, rfl, c0, c1, c2⟩ := atp (HH.out wr HR.out) (show k < X.length by rw [HL.out]; omega)
      have HC1 : Hid (cmpK (keyp (X.getD k zp)) (c, d) < 0 → k < P) := Lib.hid fun h1 => by
        rcases Nat.lt_or_ge k P with h2 | h2
        · exact h2
        · have := HHI.out k h2 (by omega)
          rw [cmpK_lt.1 h1] at this; cases this
      have HC2 : Hid (¬ cmpK (keyp (X.getD k zp)) (c, d) < 0 → P ≤ k) := Lib.hid fun h1 => by
        rcases Nat.lt_or_ge k P with h2 | h2
        · exact absurd (cmpK_lt.2 (HLO.out k h2)) h1
        · exact h2
      generalize X.getD k zp = x at *
      have HCC := Lib.hid (HCL.out wr HR.out (x.acct) (x.instr) (x.qty))
      have KS : Hid (∀ wx, Below wr.heap.size wr wx → (wx.cell? ⟨N, 0, none⟩ = some (.int .i64 c) ∧ wx.cell? ⟨N, 1, none⟩ = some (.int .i64 d)) ∧ (wx.cell? ⟨b, off + k * 3, none⟩ = some (.int .i64 x.acct) ∧ wx.cell? ⟨b, off + k * 3 + 1, none⟩ = some (.int .i64 x.instr) ∧ wx.cell? ⟨b, off + k * 3 + 2, none⟩ = some (.int .i64 x.qty))) := Lib.hid fun wx hb => ⟨⟨(hb.cell (Fr.lt_of_cell k0)).trans k0, (hb.cell (Fr.lt_of_cell k1)).trans k1⟩, (hb.cell (Fr.lt_of_cell c0)).trans c0, (hb.cell (Fr.lt_of_cell c1)).trans c1, (hb.cell (Fr.lt_of_cell c2)).trans c2⟩
      have e0 : Hid (keyp x = (x.acct, x.instr)) := Lib.hid rfl
      rw [e0.out] at HC1 HC2
      generalize cmpK (x.acct, x.instr) (c, d) = C at *
      have i0 : IntKind.i64.wrap ((lo : Int) + (hi : Int)) = (lo : Int) + (hi : Int) := IntWalk.i64_in _ (by omega)
      have i1 : IntKind.u64.wrap ((lo : Int) + (hi : Int)) = (lo : Int) + (hi : Int) := IntWalk.u64_in _ (by omega)
      have i2 : (((lo : Int) + (hi : Int)) / 2) = (k : Int) := by omega
      have hk1 : lo ≤ k := by omega
      have hk2 : k < hi := by omega
      have i3 : (0 : Int) ≤ (k : Int) := by omega
      have i4 : (k : Int) < (len : Int) := by omega
      have i5 : IntKind.i64.wrap (k : Int) = (k : Int) := IntWalk.i64_in _ (by omega)
      clear hk
      by_cases hc : C < 0
      · have hkP := HC1.out hc
        clear HC1 HC2
        go_upto_region 5 with (fail)
        go_region_held3 (fun wx => (wx.cell? ⟨N, 0, none⟩ = some (.int .i64 c) ∧ wx.cell? ⟨N, 1, none⟩ = some (.int .i64 d)) ∧ (wx.cell? ⟨b, off + k * 3, none⟩ = some (.int .i64 x.acct) ∧ wx.cell? ⟨b, off + k * 3 + 1, none⟩ = some (.int .i64 x.instr) ∧ wx.cell? ⟨b, off + k * 3 + 2, none⟩ = some (.int .i64 x.qty)))
          (first | exact KS.out _ (Below.refl _ _).drew | exact KS.out _ (Below.refl _ _) | exact KS.out _ (by assumption))
          (first | (go_split_ands; go_at_call 52; (with_reducible refine (HCC.out _ (by first | assumption | exact (Below.refl _ _).drew)).mono ?_); rintro e w5 ⟨rfl, hb5⟩) | fail)
        go_wp2
        go_roundg (hi - (k + 1))
        case measure => omega
        case rel => exact ⟨k + 1, hi, by omega, by omega, hhi, hle, by go_num, rfl, Lib.hid (below_next HR.out hb5)⟩
      · have hkP := HC2.out hc
        clear HC1 HC2
        go_upto_region 5 with (fail)
        go_region_held3 (fun wx => (wx.cell? ⟨N, 0, none⟩ = some (.int .i64 c) ∧ wx.cell? ⟨N, 1, none⟩ = some (.int .i64 d)) ∧ (wx.cell? ⟨b, off + k * 3, none⟩ = some (.int .i64 x.acct) ∧ wx.cell? ⟨b, off + k * 3 + 1, none⟩ = some (.int .i64 x.instr) ∧ wx.cell? ⟨b, off + k * 3 + 2, none⟩ = some (.int .i64 x.qty)))
          (first | exact KS.out _ (Below.refl _ _).drew | exact KS.out _ (Below.refl _ _) | exact KS.out _ (by assumption))
          (first | (go_split_ands; go_at_call 52; (with_reducible refine (HCC.out _ (by first | assumption | exact (Below.refl _ _).drew)).mono ?_); rintro e w5 ⟨rfl, hb5⟩) | fail)
        go_wp2
        go_roundg (k - lo)
        case measure => omega
        case rel => exact ⟨lo, k, by omega, hlo, hkP, by omega, rfl, by go_num, Lib.hid (below_next HR.out hb5)⟩
    · obtain rfl : lo = P := by omega
      by_cases hP : lo < len
      · obtain ⟨b, off, rfl, c0, c1, c2⟩ := atp (HH.out wr HR.out) (show lo < X.length by rw [HL.out]; exact hP)
        have hq := HEQ.out hP
        generalize X.getD lo zp = x at *
        have HCC := Lib.hid (HCL.out wr HR.out (x.acct) (x.instr) (x.qty))
        have KS : Hid (∀ wx, Below wr.heap.size wr wx → (wx.cell? ⟨N, 0, none⟩ = some (.int .i64 c) ∧ wx.cell? ⟨N, 1, none⟩ = some (.int .i64 d)) ∧ (wx.cell? ⟨b, off + lo * 3, none⟩ = some (.int .i64 x.acct) ∧ wx.cell? ⟨b, off + lo * 3 + 1, none⟩ = some (.int .i64 x.instr) ∧ wx.cell? ⟨b, off + lo * 3 + 2, none⟩ = some (.int .i64 x.qty))) := Lib.hid fun wx hb => ⟨⟨(hb.cell (Fr.lt_of_cell k0)).trans k0, (hb.cell (Fr.lt_of_cell k1)).trans k1⟩, (hb.cell (Fr.lt_of_cell c0)).trans c0, (hb.cell (Fr.lt_of_cell c1)).trans c1, (hb.cell (Fr.lt_of_cell c2)).trans c2⟩
        rw [show keyp x = (x.acct, x.instr) from rfl] at hq
        generalize cmpK (x.acct, x.instr) (c, d) = C at *
        have HQ : Hid (B = (C == 0)) := Lib.hid (by rw [← hq]; rfl)
        clear hq HIS HEQ
        go_upto_region 8 with (fail)
        go_region_held3 (fun wx => (wx.cell? ⟨N, 0, none⟩ = some (.int .i64 c) ∧ wx.cell? ⟨N, 1, none⟩ = some (.int .i64 d)) ∧ (wx.cell? ⟨b, off + lo * 3, none⟩ = some (.int .i64 x.acct) ∧ wx.cell? ⟨b, off + lo * 3 + 1, none⟩ = some (.int .i64 x.instr) ∧ wx.cell? ⟨b, off + lo * 3 + 2, none⟩ = some (.int .i64 x.qty)))
          (first | exact KS.out _ (Below.refl _ _).drew | exact KS.out _ (Below.refl _ _) | exact KS.out _ (by assumption))
          (first | (go_split_ands; go_at_call 52; (with_reducible refine (HCC.out _ (by first | assumption | exact (Below.refl _ _).drew)).mono ?_); rintro e w5 ⟨rfl, hb5⟩) | fail)
        go_wp2
        go_ret2
        exact ⟨by rw [HQ.out] <;> rfl, below_next HB.out (below_next HR.out hb5)⟩
      · have HQ : Hid (B = false) := Lib.hid (by
          cases hB : B with
          | false => rfl
          | true => exact absurd (HIS.out hB) hP)
        clear HIS HEQ
        go_upto_region 8 with (fail)
        go_quiet (fail)
        go_wp2
        go_ret2
        exact ⟨by rw [HQ.out] <;> rfl, below_next HB.out (below_next HR.out (below_drew _ _))⟩
theorem place_p (a : Option Addr) (len cap : Nat) (X L R : List Ps) (o : Option Ps) (c d : Int) (w : World) (h : Has encp w a X) (hl : X.length = len) (hm : len ≤ 4611686018427387903) (hd : Dec keyp X (c, d) L o R) :
    Calls Try.prog 41 #[.slice a len cap, .func (.func 33) #[] #[], .agg #[.int .i64 c, .int .i64 d]] w fun e w' => e = .returned (.tuple #[.int .i64 (L.length : Int), .bool o.isSome]) ∧ Below w.heap.size w w' := by
  obtain ⟨N, hN⟩ : ∃ N, N = w.heap.size := ⟨_, rfl⟩
  obtain ⟨W0, hW0⟩ : ∃ W0, W0 = (w.alloc (.cells #[.func (.func 33) #[] #[]] 53)).alloc (.cells #[.int .i64 c, .int .i64 d] 63) := ⟨_, rfl⟩
  have x0 : Blk W0 N #[.func (.func 33) #[] #[]] 53 := by rw [hW0, hN]; exact (Blk.new w _ _).keep (one_alloc _ _)
  have y0 : Blk W0 (N + 1) #[.int .i64 c, .int .i64 d] 63 := by
    have := Blk.new (w.alloc (.cells #[.func (.func 33) #[] #[]] 53)) #[.int .i64 c, .int .i64 d] 63
    rw [World.size_alloc, ← hN, ← hW0] at this; exact this
  have hb : Below w.heap.size w W0 := by rw [hW0]; repeat' (first | exact Below.refl _ _ | refine Below.alloc ?_ (by simp) _)
  have k0 : W0.cell? ⟨N + 1, 0, none⟩ = some (.int .i64 c) := y0.cell 0
  have k1 : W0.cell? ⟨N + 1, 1, none⟩ = some (.int .i64 d) := y0.cell 1
  have HS := Lib.hid (search_p a len cap X L R o c d N W0 (h.keep hb) hl hm hd (x0.cell 0))
  have HB := Lib.hid hb; have HN := Lib.hid hN; have HW := Lib.hid hW0
  clear h hl hd hN hW0 x0 y0 hb
  go_enter Try.func41, Try.ntmps41
  go_upto_region 1 with (fail)
  rw [← HN.out, ← HW.out]
  clear HN HW
  go_wp2_with (go_at_call 51; (with_reducible refine HS.out.mono ?_); rintro e w5 ⟨rfl, hb5⟩)
  go_ret2
  exact ⟨rfl, below_next HB.out hb5⟩
end Go.Proofs.Ytpagkeklilgknaa.Bo

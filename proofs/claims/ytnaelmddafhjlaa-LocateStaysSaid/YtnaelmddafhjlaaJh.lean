/-
  Layer 14: whether two lists are the same, of reservations and of integers. (Written by gen_jb.py.)
-/
import Derived.Test.YtnaelmddafhjlaaJa
import Derived.BigQuiet
import Derived.Deep.QuietTactic
namespace Go.Proofs.Ytnaelmddafhjlaa.Bo
open Go.RowKit Rw
set_option linter.unusedVariables false
set_option linter.unusedSimpArgs false

theorem ext_l {X Y : List Lo} (hl : X.length = Y.length) (h : ∀ j, j < X.length → X.getD j zl = Y.getD j zl) : X = Y := by
  apply List.ext_getElem hl
  intro j h1 h2
  have := h j h1
  rwa [List.getD_eq_getElem?_getD, List.getD_eq_getElem?_getD, List.getElem?_eq_getElem h1, List.getElem?_eq_getElem h2] at this
set_option maxRecDepth 100000 in
set_option maxHeartbeats 4000000 in
theorem same_l (a1 a2 : Option Addr) (n1 c1 n2 c2 : Nat) (X Y : List Lo) (w : World) (h1 : Has encl w a1 X) (h2 : Has encl w a2 Y) (hl1 : X.length = n1) (hl2 : Y.length = n2) :
    Calls Try.prog 19 #[.slice a1 n1 c1, .slice a2 n2 c2] w fun e w' => e = .returned (.bool (decide (X = Y))) ∧ Below w.heap.size w w' := by
  have hm1 := h1.1
  have hm2 := h2.1
  rw [hl1] at hm1
  rw [hl2] at hm2
  have H1 := Lib.hid h1; have H2 := Lib.hid h2; have HL1 := Lib.hid hl1; have HL2 := Lib.hid hl2
  clear h1 h2 hl1 hl2
  by_cases hn : n1 = n2
  rotate_left
  · have HE : Hid (decide (X = Y) = false) := Lib.hid (decide_eq_false fun e => hn (by rw [← HL1.out, ← HL2.out, e]))
    have b0 : ((n1 : Int) == (n2 : Int)) = false := beq_eq_false_iff_ne.2 (by omega)
    have b1 : (n1 == n2) = false := beq_eq_false_iff_ne.2 hn
    go_enter Try.func19, Try.ntmps19
    go_wp2
    go_ret
    exact ⟨by rw [HE.out] <;> rfl, Below.refl _ _⟩
  subst hn
  go_enter Try.func19, Try.ntmps19
  go_wp2
  go_loopg [13] n1 (fun m i wr => ∃ k : Nat, k + m = n1 ∧ i = .int .i64 (k : Int) ∧ Hid (∀ j, j < k → X.getD j zl = Y.getD j zl) ∧ Hid (Below w.heap.size w wr))
  case atStart => exact ⟨0, by omega, rfl, Lib.hid (fun j hj => by omega), Lib.hid (Below.refl _ _)⟩
  case round =>
    obtain ⟨k, hk, rfl, HQ, HB⟩ := hrel
    by_cases hlt : k < n1
    · obtain ⟨b, off, rfl, c0, c1, c2⟩ := atl (H1.out.keep HB.out) (show k < X.length by rw [HL1.out]; exact hlt)
      obtain ⟨b', off', rfl, d0, d1, d2⟩ := atl (H2.out.keep HB.out) (show k < Y.length by rw [HL2.out]; exact hlt)
      have HNO : Hid (X.getD k zl ≠ Y.getD k zl → decide (X = Y) = false) := Lib.hid fun h => decide_eq_false fun e => h (by rw [e])
      have HQ1 : Hid (X.getD k zl = Y.getD k zl → ∀ j, j < k + 1 → X.getD j zl = Y.getD j zl) := Lib.hid fun h1 j hj => by
        rcases Nat.lt_or_ge j k with h2 | h2
        · exact HQ.out j h2
        · obtain rfl : j = k := by omega
          exact h1
      generalize X.getD k zl = x at *
      generalize Y.getD k zl = y at *
      have i1 : (0 : Int) ≤ (k : Int) := by omega
      have i2 : (k : Int) < (n1 : Int) := by omega
      go_upto_region 6 with (fail)
      by_cases h0 : x.acct = y.acct
      rotate_left
      · have HE := Lib.hid (HNO.out fun e => h0 (by rw [e]))
        have q0 : (x.acct == y.acct) = false := beq_eq_false_iff_ne.2 h0
        clear h0
        go_quiet (fail)
        go_wp2
        go_ret
        exact ⟨by rw [HE.out] <;> rfl, below_next HB.out (below_drew _ _)⟩
      have q0 : (x.acct == y.acct) = true := beq_iff_eq.2 h0
      by_cases h1 : x.instr = y.instr
      rotate_left
      · have HE := Lib.hid (HNO.out fun e => h1 (by rw [e]))
        have q1 : (x.instr == y.instr) = false := beq_eq_false_iff_ne.2 h1
        clear h1
        go_quiet (fail)
        go_wp2
        go_ret
        exact ⟨by rw [HE.out] <;> rfl, below_next HB.out (below_drew _ _)⟩
      have q1 : (x.instr == y.instr) = true := beq_iff_eq.2 h1
      by_cases h2 : x.qty = y.qty
      rotate_left
      · have HE := Lib.hid (HNO.out fun e => h2 (by rw [e]))
        have q2 : (x.qty == y.qty) = false := beq_eq_false_iff_ne.2 h2
        clear h2
        go_quiet (fail)
        go_wp2
        go_ret
        exact ⟨by rw [HE.out] <;> rfl, below_next HB.out (below_drew _ _)⟩
      have q2 : (x.qty == y.qty) = true := beq_iff_eq.2 h2
      have HQ2 := Lib.hid (HQ1.out (by cases x; cases y; simp_all))
      clear h0 h1 h2
      go_quiet (fail)
      go_wp2
      go_roundg (n1 - (k + 1))
      case measure => omega
      case rel => exact ⟨k + 1, by omega, by go_num, HQ2, Lib.hid (below_next HB.out (below_drew _ _))⟩
    · have HE : Hid (decide (X = Y) = true) := Lib.hid (decide_eq_true (ext_l (by rw [HL1.out, HL2.out]) fun j hj => HQ.out j (by rw [HL1.out] at hj; omega)))
      go_wp2
      go_ret
      exact ⟨by rw [HE.out] <;> rfl, HB.out⟩
theorem ext_z {X Y : List Int} (hl : X.length = Y.length) (h : ∀ j, j < X.length → X.getD j 0 = Y.getD j 0) : X = Y := by
  apply List.ext_getElem hl
  intro j h1 h2
  have := h j h1
  rwa [List.getD_eq_getElem?_getD, List.getD_eq_getElem?_getD, List.getElem?_eq_getElem h1, List.getElem?_eq_getElem h2] at this
set_option maxRecDepth 100000 in
set_option maxHeartbeats 4000000 in
theorem same_z (a1 a2 : Option Addr) (n1 c1 n2 c2 : Nat) (X Y : List Int) (w : World) (h1 : Has encz w a1 X) (h2 : Has encz w a2 Y) (hl1 : X.length = n1) (hl2 : Y.length = n2) :
    Calls Try.prog 14 #[.slice a1 n1 c1, .slice a2 n2 c2] w fun e w' => e = .returned (.bool (decide (X = Y))) ∧ Below w.heap.size w w' := by
  have hm1 := h1.1
  have hm2 := h2.1
  rw [hl1] at hm1
  rw [hl2] at hm2
  have H1 := Lib.hid h1; have H2 := Lib.hid h2; have HL1 := Lib.hid hl1; have HL2 := Lib.hid hl2
  clear h1 h2 hl1 hl2
  by_cases hn : n1 = n2
  rotate_left
  · have HE : Hid (decide (X = Y) = false) := Lib.hid (decide_eq_false fun e => hn (by rw [← HL1.out, ← HL2.out, e]))
    have b0 : ((n1 : Int) == (n2 : Int)) = false := beq_eq_false_iff_ne.2 (by omega)
    have b1 : (n1 == n2) = false := beq_eq_false_iff_ne.2 hn
    go_enter Try.func14, Try.ntmps14
    go_wp2
    go_ret
    exact ⟨by rw [HE.out] <;> rfl, Below.refl _ _⟩
  subst hn
  go_enter Try.func14, Try.ntmps14
  go_wp2
  go_loopg [13] n1 (fun m i wr => ∃ k : Nat, k + m = n1 ∧ i = .int .i64 (k : Int) ∧ Hid (∀ j, j < k → X.getD j 0 = Y.getD j 0) ∧ Hid (Below w.heap.size w wr))
  case atStart => exact ⟨0, by omega, rfl, Lib.hid (fun j hj => by omega), Lib.hid (Below.refl _ _)⟩
  case round =>
    obtain ⟨k, hk, rfl, HQ, HB⟩ := hrel
    by_cases hlt : k < n1
    · obtain ⟨b, off, rfl, c0⟩ := atz (H1.out.keep HB.out) (show k < X.length by rw [HL1.out]; exact hlt)
      obtain ⟨b', off', rfl, d0⟩ := atz (H2.out.keep HB.out) (show k < Y.length by rw [HL2.out]; exact hlt)
      have HNO : Hid (X.getD k 0 ≠ Y.getD k 0 → decide (X = Y) = false) := Lib.hid fun h => decide_eq_false fun e => h (by rw [e])
      have HQ1 : Hid (X.getD k 0 = Y.getD k 0 → ∀ j, j < k + 1 → X.getD j 0 = Y.getD j 0) := Lib.hid fun h1 j hj => by
        rcases Nat.lt_or_ge j k with h2 | h2
        · exact HQ.out j h2
        · obtain rfl : j = k := by omega
          exact h1
      generalize X.getD k 0 = x at *
      generalize Y.getD k 0 = y at *
      have i1 : (0 : Int) ≤ (k : Int) := by omega
      have i2 : (k : Int) < (n1 : Int) := by omega
      go_upto_region 6 with (fail)
      by_cases h0 : x = y
      · have q0 : (x != y) = false := by simp [h0]
        have HQ2 := Lib.hid (HQ1.out h0)
        clear h0
        go_quiet (fail)
        go_wp2
        go_roundg (n1 - (k + 1))
        case measure => omega
        case rel => exact ⟨k + 1, by omega, by go_num, HQ2, Lib.hid (below_next HB.out (below_drew _ _))⟩
      · have HE := Lib.hid (HNO.out h0)
        have q0 : (x != y) = true := by simp [h0]
        clear h0
        go_quiet (fail)
        go_wp2
        go_ret
        exact ⟨by rw [HE.out] <;> rfl, below_next HB.out (below_drew _ _)⟩
    · have HE : Hid (decide (X = Y) = true) := Lib.hid (decide_eq_true (ext_z (by rw [HL1.out, HL2.out]) fun j hj => HQ.out j (by rw [HL1.out] at hj; omega)))
      go_wp2
      go_ret
      exact ⟨by rw [HE.out] <;> rfl, HB.out⟩
end Go.Proofs.Ytnaelmddafhjlaa.Bo

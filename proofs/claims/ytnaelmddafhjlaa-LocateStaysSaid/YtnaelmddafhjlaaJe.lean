/-
  Layer 14: Good, of the program and of the reference.
-/
import Derived.Test.YtnaelmddafhjlaaJd
namespace Go.Proofs.Ytnaelmddafhjlaa.Bo
open Go.RowKit Rw
set_option linter.unusedVariables false
set_option linter.unusedSimpArgs false

set_option maxRecDepth 100000 in
set_option maxHeartbeats 8000000 in
theorem good_any (a0 : Option Addr) (len0 cap0 : Nat) (Z : List Int) (a1 : Option Addr) (len1 cap1 : Nat) (X : List Lo) (A B : Int) (w : World) (h0 : Has encz w a0 Z) (hl0 : Z.length = len0) (h1 : Has encl w a1 X) (hl1 : X.length = len1) :
    Calls Try.prog 9 #[.slice a0 len0 cap0, .slice a1 len1 cap1, .int .i64 A, .int .i64 B] w fun e w' => e = .returned (.bool (goodS Z X A B)) ∧ Below w.heap.size w w' := by
  have hm0 := h0.1
  rw [hl0] at hm0
  have hm1 := h1.1
  rw [hl1] at hm1
  have ho := ordered_l a1 len1 cap1 X w h1 hl1
  have H0 := Lib.hid h0; have HL0 := Lib.hid hl0; have H := Lib.hid h1; have HL := Lib.hid hl1
  clear h0 hl0 h1 hl1
  by_cases hB : (len0 : Int) = B
  rotate_left
  · have HE := Lib.hid (goodS_no0 (Z := Z) (X := X) (A := A) (B := B) (by rw [HL0.out]; exact hB))
    have q0 : ((len0 : Int) != B) = true := by simp [hB]
    clear ho hB
    go_enter Try.func9, Try.ntmps9
    go_wp2
    go_ret
    exact ⟨by rw [HE.out] <;> rfl, Below.refl _ _⟩
  subst hB
  have q0 : ((len0 : Int) != (len0 : Int)) = false := by simp
  by_cases hmx : 32 < len1
  · have HE := Lib.hid (goodS_no1 (Z := Z) (X := X) (A := A) (B := (len0 : Int)) (by rw [HL.out]; exact hmx))
    have i0 : (32 : Int) < (len1 : Int) := by omega
    clear ho
    go_enter Try.func9, Try.ntmps9
    go_wp2
    go_ret
    exact ⟨by rw [HE.out] <;> rfl, Below.refl _ _⟩
  have i0 : ¬ (32 : Int) < (len1 : Int) := by omega
  obtain ⟨R, hR⟩ : ∃ R, riseB keyl X = R := ⟨_, rfl⟩
  have HR := Lib.hid hR
  rw [hR] at ho
  clear hR
  cases R with
  | false =>
    have HE := Lib.hid (goodS_no2 (Z := Z) (A := A) (B := (len0 : Int)) HR.out)
    go_enter Try.func9, Try.ntmps9
    go_wp2_with (go_at_call 22; (with_reducible refine ho.mono ?_); rintro e w5 ⟨rfl, hb5⟩)
    go_ret
    exact ⟨by rw [HE.out] <;> rfl, hb5⟩
  | true =>
    go_enter Try.func9, Try.ntmps9
    go_wp2_with (go_at_call 22; (with_reducible refine ho.mono ?_); rintro e w5 ⟨rfl, hb5⟩; have HB5 := Lib.hid hb5; clear hb5)
    go_loopg [29] len0 (fun m i wr => ∃ k : Nat, k + m = len0 ∧ i = .int .i64 (k : Int) ∧ Hid (∀ j, j < k → stockB (Z.getD j 0) = true) ∧ Hid (Below w.heap.size w wr))
    case atStart => exact ⟨0, by omega, rfl, Lib.hid (fun j hj => by omega), HB5⟩
    case round =>
      obtain ⟨k, hk, rfl, HQ, HB⟩ := hrel
      by_cases hlt : k < len0
      · obtain ⟨b, off, rfl, c0⟩ := atz (H0.out.keep HB.out) (show k < Z.length by rw [HL0.out]; exact hlt)
        have HNO : Hid (stockB (Z.getD k 0) = false → goodS Z X A len0 = false) := Lib.hid (goodS_no3 (by rw [HL0.out]; exact hlt))
        have HQ1 : Hid (stockB (Z.getD k 0) = true → ∀ j, j < k + 1 → stockB (Z.getD j 0) = true) := Lib.hid fun h1 j hj => by
          rcases Nat.lt_or_ge j k with h2 | h2
          · exact HQ.out j h2
          · obtain rfl : j = k := by omega
            exact h1
        generalize Z.getD k 0 = z at *
        have hf := stock_any z wr
        have i1 : (0 : Int) ≤ (k : Int) := by omega
        have i2 : (k : Int) < (len0 : Int) := by omega
        cases hS : stockB z with
        | false =>
          have HE := Lib.hid (HNO.out hS)
          rw [hS] at hf
          clear hS
          go_wp2_with (go_at_call 23; (with_reducible refine hf.mono ?_); rintro e w5 ⟨rfl, rfl⟩)
          go_ret
          exact ⟨by rw [HE.out] <;> rfl, HB.out⟩
        | true =>
          have HQ2 := Lib.hid (HQ1.out hS)
          rw [hS] at hf
          clear hS
          go_wp2_with (go_at_call 23; (with_reducible refine hf.mono ?_); rintro e w5 ⟨rfl, rfl⟩)
          go_roundg (len0 - (k + 1))
          case measure => omega
          case rel => exact ⟨k + 1, by omega, by go_num, HQ2, HB⟩
      · have HZ : Hid (∀ j, j < Z.length → stockB (Z.getD j 0) = true) := Lib.hid fun j hj => HQ.out j (by rw [HL0.out] at hj; omega)
        clear HQ hk
        go_wp2
        go_loopg [39] len1 (fun m i wr => ∃ k : Nat, k + m = len1 ∧ i = .int .i64 (k : Int) ∧ Hid (∀ j, j < k → goodB (X.getD j zl) A len0 = true) ∧ Hid (Below w.heap.size w wr))
        case atStart => exact ⟨0, by omega, rfl, Lib.hid (fun j hj => by omega), HB⟩
        case round =>
          obtain ⟨k, hk, rfl, HQ, HB⟩ := hrel
          by_cases hlt : k < len1
          · have HW := H.out.keep HB.out
            obtain ⟨b, off, rfl, c0, c1, c2⟩ := atl HW (show k < X.length by rw [HL.out]; exact hlt)
            have HNO : Hid (goodB (X.getD k zl) A len0 = false → goodS Z X A len0 = false) := Lib.hid fun h => goodS_no4 (by rw [HL.out]; exact hlt) (by rw [HL0.out]; exact h)
            have HQ1 : Hid (goodB (X.getD k zl) A len0 = true → ∀ j, j < k + 1 → goodB (X.getD j zl) A len0 = true) := Lib.hid fun h1 j hj => by
              rcases Nat.lt_or_ge j k with h2 | h2
              · exact HQ.out j h2
              · obtain rfl : j = k := by omega
                exact h1
            generalize X.getD k zl = y at *
            clear HW
            obtain ⟨g, hg⟩ : ∃ g, g = wr.heap.size := ⟨_, rfl⟩
            obtain ⟨W1, hW1⟩ : ∃ W1, W1 = wr.alloc (.cells #[.int .i64 y.acct, .int .i64 y.instr, .int .i64 y.qty] 42) := ⟨_, rfl⟩
            have y0 : Blk W1 g #[.int .i64 y.acct, .int .i64 y.instr, .int .i64 y.qty] 42 := by rw [hW1, hg]; exact Blk.new wr _ _
            have hb1 : Below wr.heap.size wr W1 := by rw [hW1]; exact one_alloc _ _
            have HB1 := Lib.hid (below_next HB.out hb1); have HG := Lib.hid hg; have HW1 := Lib.hid hW1; have HY0 := Lib.hid y0
            clear hg hW1 hb1 y0
            obtain ⟨d0, d1, d2⟩ := (⟨HY0.out.cell 0, HY0.out.cell 1, HY0.out.cell 2⟩ : W1.cell? ⟨g, 0, none⟩ = some (.int .i64 y.acct) ∧ W1.cell? ⟨g, 1, none⟩ = some (.int .i64 y.instr) ∧ W1.cell? ⟨g, 2, none⟩ = some (.int .i64 y.qty))
            have h1 := exists_any a0 len0 cap0 y.instr W1 hm0
            have h2 := within_any y.qty 1 1000000000 W1
            have HGB : Hid (goodB y A len0 = (decide (2 ≤ y.acct) && (decide (y.acct < A) && (exB len0 y.instr && (decide (1 ≤ y.qty) && decide (y.qty ≤ 1000000000)))))) := Lib.hid rfl
            generalize (decide (1 ≤ y.qty) && decide (y.qty ≤ 1000000000)) = b2 at *
            generalize exB len0 y.instr = b1 at *
            have i1 : (0 : Int) ≤ (k : Int) := by omega
            have i2 : (k : Int) < (len1 : Int) := by omega
            go_upto_region 12 with (fail)
            rw [← HG.out, ← HW1.out]
            by_cases g1 : y.acct < 2
            · have HE := Lib.hid (HNO.out (by rw [HGB.out, decide_eq_false (show ¬ 2 ≤ y.acct by omega), Bool.false_and]))
              go_wp2
              go_ret
              exact ⟨by rw [HE.out] <;> rfl, HB1.out⟩
            by_cases g2 : A ≤ y.acct
            · have HE := Lib.hid (HNO.out (by rw [HGB.out, decide_eq_false (show ¬ y.acct < A by omega), Bool.false_and, Bool.and_false]))
              go_wp2
              go_ret
              exact ⟨by rw [HE.out] <;> rfl, HB1.out⟩
            cases b1 with
            | false =>
              have HE := Lib.hid (HNO.out (by rw [HGB.out, Bool.false_and, Bool.and_false, Bool.and_false]))
              go_wp2_with (go_at_call 24; (with_reducible refine h1.mono ?_); rintro e w5 ⟨rfl, rfl⟩)
              go_ret
              exact ⟨by rw [HE.out] <;> rfl, HB1.out⟩
            | true =>
              cases b2 with
              | false =>
                have HE := Lib.hid (HNO.out (by rw [HGB.out, Bool.and_false, Bool.and_false, Bool.and_false]))
                go_wp2_with (first | (go_at_call 24; (with_reducible refine h1.mono ?_); rintro e w5 ⟨rfl, rfl⟩) | (go_at_call 25; (with_reducible refine h2.mono ?_); rintro e w5 ⟨rfl, rfl⟩))
                go_ret
                exact ⟨by rw [HE.out] <;> rfl, HB1.out⟩
              | true =>
                have HQ2 := Lib.hid (HQ1.out (by rw [HGB.out, decide_eq_true (show 2 ≤ y.acct by omega), decide_eq_true (show y.acct < A by omega)]; rfl))
                go_wp2_with (first | (go_at_call 24; (with_reducible refine h1.mono ?_); rintro e w5 ⟨rfl, rfl⟩) | (go_at_call 25; (with_reducible refine h2.mono ?_); rintro e w5 ⟨rfl, rfl⟩))
                go_roundg (len1 - (k + 1))
                case measure => omega
                case rel => exact ⟨k + 1, by omega, by go_num, HQ2, HB1⟩
          · have HE := Lib.hid (goodS_yes (A := A) (B := (len0 : Int)) (by rw [HL0.out]) (by rw [HL.out]; omega) HR.out HZ.out fun j hj => by rw [HL0.out]; exact HQ.out j (by rw [HL.out] at hj; omega))
            go_wp2
            go_ret
            exact ⟨by rw [HE.out] <;> rfl, HB.out⟩
set_option maxRecDepth 100000 in
set_option maxHeartbeats 8000000 in
theorem rgood_any (a0 : Option Addr) (len0 cap0 : Nat) (Z : List Int) (a1 : Option Addr) (len1 cap1 : Nat) (X : List Lo) (A B : Int) (w : World) (h0 : Has encz w a0 Z) (hl0 : Z.length = len0) (h1 : Has encl w a1 X) (hl1 : X.length = len1) :
    Calls Try.prog 10 #[.slice a0 len0 cap0, .slice a1 len1 cap1, .int .i64 A, .int .i64 B] w fun e w' => e = .returned (.bool (goodS Z X A B)) ∧ Below w.heap.size w w' := by
  have hm0 := h0.1
  rw [hl0] at hm0
  have hm1 := h1.1
  rw [hl1] at hm1
  have ho := rtidy_any a0 len0 cap0 Z a1 len1 cap1 X w h0 hl0 h1 hl1
  have HL0 := Lib.hid hl0; have H := Lib.hid h1; have HL := Lib.hid hl1
  clear h0 hl0 h1 hl1
  by_cases hB : (len0 : Int) = B
  rotate_left
  · have HE := Lib.hid (goodS_no0 (Z := Z) (X := X) (A := A) (B := B) (by rw [HL0.out]; exact hB))
    have q0 : ((len0 : Int) != B) = true := by simp [hB]
    clear ho hB
    go_enter Try.func10, Try.ntmps10
    go_wp2
    go_ret
    exact ⟨by rw [HE.out] <;> rfl, Below.refl _ _⟩
  subst hB
  have q0 : ((len0 : Int) != (len0 : Int)) = false := by simp
  by_cases hmx : 32 < len1
  · have HE := Lib.hid (goodS_no1 (Z := Z) (X := X) (A := A) (B := (len0 : Int)) (by rw [HL.out]; exact hmx))
    have i0 : (32 : Int) < (len1 : Int) := by omega
    clear ho
    go_enter Try.func10, Try.ntmps10
    go_wp2
    go_ret
    exact ⟨by rw [HE.out] <;> rfl, Below.refl _ _⟩
  have i0 : ¬ (32 : Int) < (len1 : Int) := by omega
  obtain ⟨R, hR⟩ : ∃ R, tidyS Z X = R := ⟨_, rfl⟩
  have HR := Lib.hid hR
  rw [hR] at ho
  clear hR
  cases R with
  | false =>
    have HE := Lib.hid (goodS_no5 (A := A) (B := (len0 : Int)) HR.out)
    go_enter Try.func10, Try.ntmps10
    go_wp2_with (go_at_call 11; (with_reducible refine ho.mono ?_); rintro e w5 ⟨rfl, hb5⟩)
    go_ret
    exact ⟨by rw [HE.out] <;> rfl, hb5⟩
  | true =>
    go_enter Try.func10, Try.ntmps10
    go_wp2_with (go_at_call 11; (with_reducible refine ho.mono ?_); rintro e w5 ⟨rfl, hb5⟩; have HB5 := Lib.hid hb5; clear hb5)
    go_loopg [28] len1 (fun m i wr => ∃ k : Nat, k + m = len1 ∧ i = .int .i64 (k : Int) ∧ Hid (∀ j, j < k → okB (X.getD j zl) A len0 = true) ∧ Hid (Below w.heap.size w wr))
    case atStart => exact ⟨0, by omega, rfl, Lib.hid (fun j hj => by omega), HB5⟩
    case round =>
      obtain ⟨k, hk, rfl, HQ, HB⟩ := hrel
      by_cases hlt : k < len1
      · have HW := H.out.keep HB.out
        obtain ⟨b, off, rfl, c0, c1, c2⟩ := atl HW (show k < X.length by rw [HL.out]; exact hlt)
        have HNO : Hid (okB (X.getD k zl) A len0 = false → goodS Z X A len0 = false) := Lib.hid fun h => goodS_no6 (by rw [HL.out]; exact hlt) (by rw [HL0.out]; exact h)
        have HQ1 : Hid (okB (X.getD k zl) A len0 = true → ∀ j, j < k + 1 → okB (X.getD j zl) A len0 = true) := Lib.hid fun h1 j hj => by
          rcases Nat.lt_or_ge j k with h2 | h2
          · exact HQ.out j h2
          · obtain rfl : j = k := by omega
            exact h1
        generalize X.getD k zl = y at *
        clear HW
        obtain ⟨g, hg⟩ : ∃ g, g = wr.heap.size := ⟨_, rfl⟩
        obtain ⟨W1, hW1⟩ : ∃ W1, W1 = wr.alloc (.cells #[.int .i64 y.acct, .int .i64 y.instr, .int .i64 y.qty] 42) := ⟨_, rfl⟩
        have y0 : Blk W1 g #[.int .i64 y.acct, .int .i64 y.instr, .int .i64 y.qty] 42 := by rw [hW1, hg]; exact Blk.new wr _ _
        have hb1 : Below wr.heap.size wr W1 := by rw [hW1]; exact one_alloc _ _
        have HB1 := Lib.hid (below_next HB.out hb1); have HG := Lib.hid hg; have HW1 := Lib.hid hW1; have HY0 := Lib.hid y0
        clear hg hW1 hb1 y0
        obtain ⟨d0, d1, d2⟩ := (⟨HY0.out.cell 0, HY0.out.cell 1, HY0.out.cell 2⟩ : W1.cell? ⟨g, 0, none⟩ = some (.int .i64 y.acct) ∧ W1.cell? ⟨g, 1, none⟩ = some (.int .i64 y.instr) ∧ W1.cell? ⟨g, 2, none⟩ = some (.int .i64 y.qty))
        have HGB : Hid (okB y A len0 = (decide (2 ≤ y.acct) && (decide (y.acct < A) && (decide (0 ≤ y.instr) && (decide (y.instr < (len0 : Int)) && !(y.qty == 0)))))) := Lib.hid rfl
        have i1 : (0 : Int) ≤ (k : Int) := by omega
        have i2 : (k : Int) < (len1 : Int) := by omega
        go_upto_region 6 with (fail)
        rw [← HG.out, ← HW1.out]
        by_cases g1 : y.acct < 2
        · have HE := Lib.hid (HNO.out (by rw [HGB.out, decide_eq_false (show ¬ 2 ≤ y.acct by omega), Bool.false_and]))
          go_wp2
          go_ret
          exact ⟨by rw [HE.out] <;> rfl, HB1.out⟩
        by_cases g2 : A ≤ y.acct
        · have HE := Lib.hid (HNO.out (by rw [HGB.out, decide_eq_false (show ¬ y.acct < A by omega), Bool.false_and, Bool.and_false]))
          go_wp2
          go_ret
          exact ⟨by rw [HE.out] <;> rfl, HB1.out⟩
        by_cases g3 : y.instr < 0
        · have HE := Lib.hid (HNO.out (by rw [HGB.out, decide_eq_false (show ¬ 0 ≤ y.instr by omega), Bool.false_and, Bool.and_false, Bool.and_false]))
          go_wp2
          go_ret
          exact ⟨by rw [HE.out] <;> rfl, HB1.out⟩
        by_cases g4 : (len0 : Int) ≤ y.instr
        · have HE := Lib.hid (HNO.out (by rw [HGB.out, decide_eq_false (show ¬ y.instr < (len0 : Int) by omega), Bool.false_and, Bool.and_false, Bool.and_false, Bool.and_false]))
          go_wp2
          go_ret
          exact ⟨by rw [HE.out] <;> rfl, HB1.out⟩
        by_cases g5 : y.qty = 0
        · have HE := Lib.hid (HNO.out (by rw [HGB.out, beq_iff_eq.2 g5]; simp))
          have bq : (y.qty == 0) = true := beq_iff_eq.2 g5
          clear g5
          go_wp2
          go_ret
          exact ⟨by rw [HE.out] <;> rfl, HB1.out⟩
        have bq : (y.qty == 0) = false := beq_eq_false_iff_ne.2 g5
        have HQ2 := Lib.hid (HQ1.out (by rw [HGB.out, bq, decide_eq_true (show 2 ≤ y.acct by omega), decide_eq_true (show y.acct < A by omega), decide_eq_true (show 0 ≤ y.instr by omega), decide_eq_true (show y.instr < (len0 : Int) by omega)]; rfl))
        clear g5
        go_wp2
        go_roundg (len1 - (k + 1))
        case measure => omega
        case rel => exact ⟨k + 1, by omega, by go_num, HQ2, HB1⟩
      · have HE := Lib.hid (goodS_yes2 (A := A) (B := (len0 : Int)) (by rw [HL0.out]) (by rw [HL.out]; omega) HR.out fun j hj => by rw [HL0.out]; exact HQ.out j (by rw [HL.out] at hj; omega))
        go_wp2
        go_ret
        exact ⟨by rw [HE.out] <;> rfl, HB.out⟩
end Go.Proofs.Ytnaelmddafhjlaa.Bo

/-
  Layer 14: whether the lists can be: Good of both, Tidy.
-/
import Derived.Test.YtnaelmddafhjlaaJb
import Derived.BigQuiet
import Derived.Deep.QuietTactic
namespace Go.Proofs.Ytnaelmddafhjlaa.Bo
open Go.RowKit Rw
set_option linter.unusedVariables false
set_option linter.unusedSimpArgs false

def riseT (X : List Lo) : Bool := riseB keyl X && X.all fun x => stockB x.qty
def tidyS (Z : List Int) (X : List Lo) : Bool := Z.all stockB && riseT X
def wiB (q : Int) : Bool := decide (1 ≤ q) && decide (q ≤ 1000000000)
def goodB (x : Lo) (A : Int) (n : Nat) : Bool := decide (2 ≤ x.acct) && (decide (x.acct < A) && (exB n x.instr && wiB x.qty))
def okB (x : Lo) (A : Int) (n : Nat) : Bool := decide (2 ≤ x.acct) && (decide (x.acct < A) && (decide (0 ≤ x.instr) && (decide (x.instr < (n : Int)) && !(x.qty == 0))))
theorem good_ok (x : Lo) (A : Int) (n : Nat) : goodB x A n = (stockB x.qty && okB x A n) := by
  rw [Bool.eq_iff_iff]
  simp only [goodB, okB, stockB, exB, wiB, Bool.and_eq_true, decide_eq_true_eq, Bool.not_eq_true', beq_eq_false_iff_ne, ne_eq]
  omega
theorem goodB_iff {x : Lo} {A : Int} {n : Nat} : goodB x A n = true ↔ 2 ≤ x.acct ∧ x.acct < A ∧ 0 ≤ x.instr ∧ x.instr < (n : Int) ∧ 1 ≤ x.qty ∧ x.qty ≤ 1000000000 := by
  simp only [goodB, exB, wiB, Bool.and_eq_true, decide_eq_true_eq]
  omega
def goodS (Z : List Int) (X : List Lo) (A B : Int) : Bool := decide ((Z.length : Int) = B) && (decide (X.length ≤ 32) && (riseB keyl X && (Z.all stockB && X.all fun x => goodB x A Z.length)))
theorem goodS_ref (Z : List Int) (X : List Lo) (A B : Int) : goodS Z X A B = (decide ((Z.length : Int) = B) && (decide (X.length ≤ 32) && (tidyS Z X && X.all fun x => okB x A Z.length))) := by
  unfold goodS tidyS riseT
  have : (X.all fun x => goodB x A Z.length) = ((X.all fun x => stockB x.qty) && X.all fun x => okB x A Z.length) := by
    rw [Bool.eq_iff_iff]
    simp only [List.all_eq_true, Bool.and_eq_true, good_ok]
    exact ⟨fun h => ⟨fun x hx => (h x hx).1, fun x hx => (h x hx).2⟩, fun h x hx => ⟨h.1 x hx, h.2 x hx⟩⟩
  rw [this]
  generalize riseB keyl X = a
  generalize Z.all stockB = b
  generalize (X.all fun x => stockB x.qty) = c
  generalize (X.all fun x => okB x A Z.length) = d
  generalize decide ((Z.length : Int) = B) = e
  generalize decide (X.length ≤ 32) = f
  cases a <;> cases b <;> cases c <;> cases d <;> cases e <;> cases f <;> rfl
theorem goodS_no0 {Z : List Int} {X : List Lo} {A B : Int} (h : (Z.length : Int) ≠ B) : goodS Z X A B = false := by
  unfold goodS
  rw [decide_eq_false h, Bool.false_and]
theorem goodS_no1 {Z : List Int} {X : List Lo} {A B : Int} (h : 32 < X.length) : goodS Z X A B = false := by
  unfold goodS
  rw [decide_eq_false (show ¬ X.length ≤ 32 by omega), Bool.false_and, Bool.and_false]
theorem goodS_no2 {Z : List Int} {X : List Lo} {A B : Int} (h : riseB keyl X = false) : goodS Z X A B = false := by
  unfold goodS
  rw [h, Bool.false_and, Bool.and_false, Bool.and_false]
theorem goodS_no3 {Z : List Int} {X : List Lo} {A B : Int} {j : Nat} (hj : j < Z.length) (h : stockB (Z.getD j 0) = false) : goodS Z X A B = false := by
  unfold goodS
  rw [all_no (f := stockB) (d := 0) hj h, Bool.false_and, Bool.and_false, Bool.and_false, Bool.and_false]
theorem goodS_no4 {Z : List Int} {X : List Lo} {A B : Int} {j : Nat} (hj : j < X.length) (h : goodB (X.getD j zl) A Z.length = false) : goodS Z X A B = false := by
  unfold goodS
  rw [all_no (f := fun x => goodB x A Z.length) (d := zl) hj h, Bool.and_false, Bool.and_false, Bool.and_false, Bool.and_false]
theorem goodS_no5 {Z : List Int} {X : List Lo} {A B : Int} (h : tidyS Z X = false) : goodS Z X A B = false := by
  rw [goodS_ref, h, Bool.false_and, Bool.and_false, Bool.and_false]
theorem goodS_no6 {Z : List Int} {X : List Lo} {A B : Int} {j : Nat} (hj : j < X.length) (h : okB (X.getD j zl) A Z.length = false) : goodS Z X A B = false := by
  rw [goodS_ref, all_no (f := fun x => okB x A Z.length) (d := zl) hj h, Bool.and_false, Bool.and_false, Bool.and_false]
theorem goodS_yes {Z : List Int} {X : List Lo} {A B : Int} (h0 : (Z.length : Int) = B) (h1 : X.length ≤ 32) (h2 : riseB keyl X = true) (h3 : ∀ j, j < Z.length → stockB (Z.getD j 0) = true) (h4 : ∀ j, j < X.length → goodB (X.getD j zl) A Z.length = true) : goodS Z X A B = true := by
  unfold goodS
  rw [decide_eq_true h0, decide_eq_true h1, h2, all_yes (f := stockB) (d := 0) h3, all_yes (f := fun x => goodB x A Z.length) (d := zl) h4]
  rfl
theorem goodS_yes2 {Z : List Int} {X : List Lo} {A B : Int} (h0 : (Z.length : Int) = B) (h1 : X.length ≤ 32) (h2 : tidyS Z X = true) (h4 : ∀ j, j < X.length → okB (X.getD j zl) A Z.length = true) : goodS Z X A B = true := by
  rw [goodS_ref, decide_eq_true h0, decide_eq_true h1, h2, all_yes (f := fun x => okB x A Z.length) (d := zl) h4]
  rfl
/-- fits where a region draws its order. -/
theorem fits_quiet (x : Int) (b : Bool) (h : stockB x = b) (w : World) (n : Nat) : Calls Try.prog 26 #[.int .i64 x] (w.drewN n) fun e w'' => e = .returned (.bool b) ∧ ∃ m, w'' = w.drewN m :=
  (fits_any x (w.drewN n)).mono fun e w' ⟨h1, h2⟩ => ⟨by rw [h1, h], n, h2.symm⟩
set_option maxRecDepth 100000 in
set_option maxHeartbeats 8000000 in
theorem rtidy_any (a0 : Option Addr) (len0 cap0 : Nat) (Z : List Int) (a1 : Option Addr) (len1 cap1 : Nat) (X : List Lo) (w : World) (h0 : Has encz w a0 Z) (hl0 : Z.length = len0) (h1 : Has encl w a1 X) (hl1 : X.length = len1) :
    Calls Try.prog 11 #[.slice a0 len0 cap0, .slice a1 len1 cap1] w fun e w' => e = .returned (.bool (tidyS Z X)) ∧ Below w.heap.size w w' := by
  have hm0 := h0.1
  rw [hl0] at hm0
  have hm1 := h1.1
  rw [hl1] at hm1
  have H0 := Lib.hid h0; have HL0 := Lib.hid hl0; have H := Lib.hid h1; have HL := Lib.hid hl1
  clear h0 hl0 h1 hl1
  go_enter Try.func11, Try.ntmps11
  go_wp2
  go_loopg [11] len0 (fun m i wr => ∃ k : Nat, k + m = len0 ∧ i = .int .i64 (k : Int) ∧ Hid (∀ j, j < k → stockB (Z.getD j 0) = true) ∧ w = wr)
  case atStart => exact ⟨0, by omega, rfl, Lib.hid (fun j hj => by omega), rfl⟩
  case round =>
    obtain ⟨k, hk, rfl, HQ, rfl⟩ := hrel
    by_cases hlt : k < len0
    · obtain ⟨b, off, rfl, c0⟩ := atz H0.out (show k < Z.length by rw [HL0.out]; exact hlt)
      have HNO : Hid (stockB (Z.getD k 0) = false → tidyS Z X = false) := Lib.hid fun h1 => by
        unfold tidyS
        rw [all_no (f := stockB) (d := 0) (j := k) (by rw [HL0.out]; exact hlt) h1, Bool.false_and]
      have HQ1 : Hid (stockB (Z.getD k 0) = true → ∀ j, j < k + 1 → stockB (Z.getD j 0) = true) := Lib.hid fun h1 j hj => by
        rcases Nat.lt_or_ge j k with h2 | h2
        · exact HQ.out j h2
        · obtain rfl : j = k := by omega
          exact h1
      generalize Z.getD k 0 = z at *
      have hf := fits_any z w
      have i0 : (0 : Int) ≤ (k : Int) := by omega
      have i1 : (k : Int) < (len0 : Int) := by omega
      cases hS : stockB z with
      | false =>
        have HE := Lib.hid (HNO.out hS)
        rw [hS] at hf
        clear hS
        go_wp2_with (go_at_call 26; (with_reducible refine hf.mono ?_); rintro e w5 ⟨rfl, rfl⟩)
        go_ret
        exact ⟨by rw [HE.out] <;> rfl, Below.refl _ _⟩
      | true =>
        have HQ2 := Lib.hid (HQ1.out hS)
        rw [hS] at hf
        clear hS
        go_wp2_with (go_at_call 26; (with_reducible refine hf.mono ?_); rintro e w5 ⟨rfl, rfl⟩)
        go_roundg (len0 - (k + 1))
        case measure => omega
        case rel => exact ⟨k + 1, by omega, by go_num, HQ2, rfl⟩
    · have HT : Hid (tidyS Z X = riseT X) := Lib.hid (by
        unfold tidyS
        rw [all_yes (f := stockB) (d := 0) fun j hj => HQ.out j (by rw [HL0.out] at hj; omega)]
        rfl)
      clear HQ hk
      go_wp2
      go_loopg [21] len1 (fun m i wr => ∃ k : Nat, k + m = len1 ∧ i = .int .i64 (k : Int) ∧ Hid (upto keyl zl X k) ∧ Hid (∀ j, j < k → stockB (X.getD j zl).qty = true) ∧ Hid (Below w.heap.size w wr))
      case atStart => exact ⟨0, by omega, rfl, Lib.hid (upto_zero _ _), Lib.hid (fun j hj => by omega), Lib.hid (Below.refl _ _)⟩
      case round =>
        obtain ⟨k, hk, rfl, HU, HQ, HB⟩ := hrel
        by_cases hlt : k < len1
        · have HW := H.out.keep HB.out
          obtain ⟨b, off, rfl, c0, c1, c2⟩ := atl HW (show k < X.length by rw [HL.out]; exact hlt)
          have HFQ : Hid (stockB (X.getD k zl).qty = false → riseT X = false) := Lib.hid fun h1 => by
            unfold riseT
            rw [all_no (f := fun x : Lo => stockB x.qty) (d := zl) (j := k) (by rw [HL.out]; exact hlt) h1, Bool.and_false]
          have HQ1 : Hid (stockB (X.getD k zl).qty = true → ∀ j, j < k + 1 → stockB (X.getD j zl).qty = true) := Lib.hid fun h1 j hj => by
            rcases Nat.lt_or_ge j k with h2 | h2
            · exact HQ.out j h2
            · obtain rfl : j = k := by omega
              exact h1
          have HU1 : Hid ((1 ≤ k → ltK (keyl (X.getD (k - 1) zl)) (keyl (X.getD k zl)) = true) → upto keyl zl X (k + 1)) := Lib.hid fun h1 => upto_succ HU.out h1
          have HU0 : Hid (1 ≤ k → ltK (keyl (X.getD (k - 1) zl)) (keyl (X.getD k zl)) = false → riseT X = false) := Lib.hid fun h1 h2 => by
            unfold riseT
            rw [rise_no (d := zl) (k := k - 1) (by rw [HL.out]; omega) (by rw [show k - 1 + 1 = k by omega]; exact h2), Bool.false_and]
          have C1 : Hid (1 ≤ k → ∃ b' off', (some (⟨b, off, none⟩ : Addr)) = some ⟨b', off', none⟩ ∧ (wr.cell? ⟨b', off' + (k - 1) * 3, none⟩ = some (.int .i64 (X.getD (k - 1) zl).acct) ∧ wr.cell? ⟨b', off' + (k - 1) * 3 + 1, none⟩ = some (.int .i64 (X.getD (k - 1) zl).instr) ∧ wr.cell? ⟨b', off' + (k - 1) * 3 + 2, none⟩ = some (.int .i64 (X.getD (k - 1) zl).qty))) := Lib.hid fun h1 => atl HW (show k - 1 < X.length by rw [HL.out]; omega)
          generalize X.getD k zl = y at *
          generalize X.getD (k - 1) zl = x at *
          obtain ⟨kp, hkp⟩ : ∃ kp, kp = k - 1 := ⟨_, rfl⟩
          rw [← hkp] at C1
          have HKP := Lib.hid hkp
          clear hkp HW
          obtain ⟨g, hg⟩ : ∃ g, g = wr.heap.size := ⟨_, rfl⟩
          obtain ⟨W1, hW1⟩ : ∃ W1, W1 = wr.alloc (.cells #[.int .i64 y.acct, .int .i64 y.instr, .int .i64 y.qty] 42) := ⟨_, rfl⟩
          have y0 : Blk W1 g #[.int .i64 y.acct, .int .i64 y.instr, .int .i64 y.qty] 42 := by rw [hW1, hg]; exact Blk.new wr _ _
          have hb1 : Below wr.heap.size wr W1 := by rw [hW1]; exact one_alloc _ _
          have HB1 := Lib.hid (below_next HB.out hb1); have HG := Lib.hid hg; have HW1 := Lib.hid hW1; have Hb1 := Lib.hid hb1; have HY0 := Lib.hid y0
          clear hg hW1 hb1 y0
          have i0 : (0 : Int) ≤ (k : Int) := by omega
          have i1 : (k : Int) < (len1 : Int) := by omega
          obtain ⟨d0, d1, d2⟩ := (⟨HY0.out.cell 0, HY0.out.cell 1, HY0.out.cell 2⟩ : W1.cell? ⟨g, 0, none⟩ = some (.int .i64 y.acct) ∧ W1.cell? ⟨g, 1, none⟩ = some (.int .i64 y.instr) ∧ W1.cell? ⟨g, 2, none⟩ = some (.int .i64 y.qty))
          cases hQ : stockB y.qty with
          | false =>
            have HE := Lib.hid (HFQ.out hQ)
            have HF := Lib.hid (fits_quiet y.qty false hQ)
            clear hQ HFQ HQ1 HU1 HU0 C1
            go_upto_region 10 with (fail)
            rw [← HG.out, ← HW1.out]
            clear c0 c1 c2
            go_quiet (focus (go_at_call 26; exact HF.out _ _))
            go_wp2
            go_ret
            exact ⟨by rw [HT.out, HE.out] <;> rfl, below_next HB1.out (below_drew _ _)⟩
          | true =>
            have HQ2 := Lib.hid (HQ1.out hQ)
            have HF := Lib.hid (fits_quiet y.qty true hQ)
            clear hQ HFQ HQ1
            go_upto_region 10 with (fail)
            rw [← HG.out, ← HW1.out]
            clear c0 c1 c2 i0 i1
            rcases Nat.eq_zero_or_pos k with h0 | h0
            · have HU2 := Lib.hid (HU1.out (by omega))
              have i8 : ¬ ((0 : Int) < (k : Int)) := by omega
              have i9 : ¬ (0 < k) := by omega
              clear HU1 HU0 C1 h0
              go_quiet (focus (go_at_call 26; exact HF.out _ _))
              go_wp2
              go_roundg (len1 - (k + 1))
              case measure => omega
              case rel => exact ⟨k + 1, by omega, by go_num, HU2, HQ2, Lib.hid (below_next HB1.out (below_drew _ _))⟩
            · obtain ⟨b', off', e, e0, e1, e2⟩ := C1.out h0
              cases e
              have hkk : kp < len1 := by have := HKP.out; omega
              have i5 : IntKind.i64.wrap ((k : Int) - 1) = (kp : Int) := by have := HKP.out; rw [show (k : Int) - 1 = (kp : Int) by omega]; exact IntWalk.i64_in _ (by omega)
              have i6 : (0 : Int) ≤ (kp : Int) := by omega
              have i7 : (kp : Int) < (len1 : Int) := by omega
              have i8 : (0 : Int) < (k : Int) := by omega
              have f0 := (Hb1.out.cell (Fr.lt_of_cell e0)).trans e0
              have f1 := (Hb1.out.cell (Fr.lt_of_cell e1)).trans e1
              have f2 := (Hb1.out.cell (Fr.lt_of_cell e2)).trans e2
              clear e0 e1 e2
              have HLT : Hid (ltK (keyl x) (keyl y) = (decide (x.acct < y.acct) || (decide (x.acct = y.acct) && decide (x.instr < y.instr)))) := Lib.hid rfl
              by_cases q1 : y.acct < x.acct
              · have HE := Lib.hid (HU0.out h0 (by rw [HLT.out]; simp; omega))
                clear HU1 HU0 C1 HLT
                go_quiet (focus (go_at_call 26; exact HF.out _ _))
                go_wp2
                go_ret
                exact ⟨by rw [HT.out, HE.out] <;> rfl, below_next HB1.out (below_drew _ _)⟩
              by_cases q2 : x.acct = y.acct
              · have b2 : (x.acct == y.acct) = true := beq_iff_eq.2 q2
                by_cases q3 : y.instr ≤ x.instr
                · have HE := Lib.hid (HU0.out h0 (by rw [HLT.out]; simp; omega))
                  clear HU1 HU0 C1 HLT q2
                  go_quiet (focus (go_at_call 26; exact HF.out _ _))
                  go_wp2
                  go_ret
                  exact ⟨by rw [HT.out, HE.out] <;> rfl, below_next HB1.out (below_drew _ _)⟩
                · have HU2 := Lib.hid (HU1.out fun _ => by rw [HLT.out]; simp; omega)
                  clear HU1 HU0 C1 HLT q2
                  go_quiet (focus (go_at_call 26; exact HF.out _ _))
                  go_wp2
                  go_roundg (len1 - (k + 1))
                  case measure => omega
                  case rel => exact ⟨k + 1, by omega, by go_num, HU2, HQ2, Lib.hid (below_next HB1.out (below_drew _ _))⟩
              · have b2 : (x.acct == y.acct) = false := beq_eq_false_iff_ne.2 q2
                have HU2 := Lib.hid (HU1.out fun _ => by rw [HLT.out]; simp; omega)
                clear HU1 HU0 C1 HLT q2
                go_quiet (focus (go_at_call 26; exact HF.out _ _))
                go_wp2
                go_roundg (len1 - (k + 1))
                case measure => omega
                case rel => exact ⟨k + 1, by omega, by go_num, HU2, HQ2, Lib.hid (below_next HB1.out (below_drew _ _))⟩
        · have HE : Hid (riseT X = true) := Lib.hid (by
            unfold riseT
            rw [Bool.and_eq_true]
            exact ⟨rise_upto.2 fun j hj => HU.out j (by rw [HL.out] at hj; omega), all_yes (d := zl) fun j hj => HQ.out j (by rw [HL.out] at hj; omega)⟩)
          go_wp2
          go_ret
          exact ⟨by rw [HT.out, HE.out] <;> rfl, HB.out⟩
end Go.Proofs.Ytnaelmddafhjlaa.Bo

/-
  Layer 13: lists of api.Pos: whether they can be, and whether two are the same. (Written by gen_ic.py out of p_ih.txt.)
-/
import Derived.Test.YtpagkeklilgknaaIgp
namespace Go.Proofs.Ytpagkeklilgknaa.Bo
open Go.RowKit Rw
set_option linter.unusedVariables false
set_option linter.unusedSimpArgs false

def okBp (x : Ps) (A B : Int) : Bool := decide (2 ≤ x.acct) && decide (x.acct < A) && decide (0 ≤ x.instr) && decide (x.instr < B) && !(x.qty == 0)
def goodBp (x : Ps) (A B : Int) : Bool := holdsB x.acct x.instr x.qty A B
theorem good_okp (x : Ps) (A B : Int) : goodBp x A B = (qtyB x.qty && okBp x A B) := by
  rw [Bool.eq_iff_iff]
  simp only [goodBp, okBp, holdsB, Bool.and_eq_true, decide_eq_true_eq, Bool.not_eq_true']
  constructor
  · intro h; simp_all
  · intro h; simp_all
def goodSp (X : List Ps) (A B : Int) : Bool := decide (X.length ≤ 64) && (riseB keyp X && X.all fun x => goodBp x A B)
theorem goodS_refp (X : List Ps) (A B : Int) : goodSp X A B = (decide (X.length ≤ 64) && (riseSp X && X.all fun x => okBp x A B)) := by
  unfold goodSp riseSp
  have : (X.all fun x => goodBp x A B) = ((X.all fun x => qtyB x.qty) && X.all fun x => okBp x A B) := by
    rw [Bool.eq_iff_iff]
    simp only [List.all_eq_true, Bool.and_eq_true, good_okp]
    exact ⟨fun h => ⟨fun x hx => (h x hx).1, fun x hx => (h x hx).2⟩, fun h x hx => ⟨h.1 x hx, h.2 x hx⟩⟩
  rw [this, Bool.and_assoc]
theorem goodS_no1p {X : List Ps} {A B : Int} (h : 64 < X.length) : goodSp X A B = false := by
  unfold goodSp
  rw [decide_eq_false (by omega), Bool.false_and]
theorem goodS_no2p {X : List Ps} {A B : Int} (h : riseB keyp X = false) : goodSp X A B = false := by
  unfold goodSp
  rw [h, Bool.false_and, Bool.and_false]
theorem goodS_no3p {X : List Ps} {A B : Int} {j : Nat} (hj : j < X.length) (h : goodBp (X.getD j zp) A B = false) : goodSp X A B = false := by
  unfold goodSp
  rw [all_no (f := fun x => goodBp x A B) (d := zp) hj h, Bool.and_false, Bool.and_false]
theorem goodS_yesp {X : List Ps} {A B : Int} (h1 : X.length ≤ 64) (h2 : riseB keyp X = true) (h3 : ∀ j, j < X.length → goodBp (X.getD j zp) A B = true) : goodSp X A B = true := by
  unfold goodSp
  rw [decide_eq_true h1, h2, all_yes (f := fun x => goodBp x A B) (d := zp) h3]
  rfl
theorem goodS_no4p {X : List Ps} {A B : Int} (h : riseSp X = false) : goodSp X A B = false := by
  rw [goodS_refp, h, Bool.false_and, Bool.and_false]
theorem goodS_no5p {X : List Ps} {A B : Int} {j : Nat} (hj : j < X.length) (h : okBp (X.getD j zp) A B = false) : goodSp X A B = false := by
  rw [goodS_refp, all_no (f := fun x => okBp x A B) (d := zp) hj h, Bool.and_false, Bool.and_false]
theorem goodS_yes2p {X : List Ps} {A B : Int} (h1 : X.length ≤ 64) (h2 : riseSp X = true) (h3 : ∀ j, j < X.length → okBp (X.getD j zp) A B = true) : goodSp X A B = true := by
  rw [goodS_refp, decide_eq_true h1, h2, all_yes (f := fun x => okBp x A B) (d := zp) h3]
  rfl
set_option maxRecDepth 100000 in
set_option maxHeartbeats 8000000 in
theorem good_p (a : Option Addr) (len cap : Nat) (A B : Int) (X : List Ps) (w : World) (h : Has encp w a X) (hl : X.length = len) :
    Calls Try.prog 10 #[.slice a len cap, .int .i64 A, .int .i64 B] w fun e w' => e = .returned (.bool (goodSp X A B)) ∧ Below w.heap.size w w' := by
  have hm := h.1
  rw [hl] at hm
  have ho := ordered_p a len cap X w h hl
  have H := Lib.hid h; have HL := Lib.hid hl
  clear h hl
  by_cases hmx : 64 < len
  · have HE := Lib.hid (goodS_no1p (A := A) (B := B) (by rw [HL.out]; exact hmx))
    have i0 : (64 : Int) < (len : Int) := by omega
    clear ho
    go_enter Try.func10, Try.ntmps10
    go_wp2
    go_ret
    exact ⟨by rw [HE.out] <;> rfl, Below.refl _ _⟩
  have i0 : ¬ (64 : Int) < (len : Int) := by omega
  obtain ⟨R, hR⟩ : ∃ R, riseB keyp X = R := ⟨_, rfl⟩
  have HR := Lib.hid hR
  rw [hR] at ho
  clear hR
  cases R with
  | false =>
    have HE := Lib.hid (goodS_no2p (A := A) (B := B) HR.out)
    go_enter Try.func10, Try.ntmps10
    go_wp2_with (go_at_call 32; (with_reducible refine ho.mono ?_); rintro e w5 ⟨rfl, hb5⟩)
    go_ret
    exact ⟨by rw [HE.out] <;> rfl, hb5⟩
  | true =>
    go_enter Try.func10, Try.ntmps10
    go_wp2_with (go_at_call 32; (with_reducible refine ho.mono ?_); rintro e w5 ⟨rfl, hb5⟩; have HB5 := Lib.hid hb5; clear hb5)
    go_loopg [19] len (fun m i wr => ∃ k : Nat, k + m = len ∧ i = .int .i64 (k : Int) ∧ Hid (∀ j, j < k → goodBp (X.getD j zp) A B = true) ∧ Hid (Below w.heap.size w wr))
    case atStart => exact ⟨0, by omega, rfl, Lib.hid (fun j hj => by omega), HB5⟩
    case round =>
      obtain ⟨k, hk, rfl, HQ, HB⟩ := hrel
      by_cases hlt : k < len
      · have HW := H.out.keep HB.out
        obtain ⟨b, off, rfl, c0, c1, c2⟩ := atp HW (show k < X.length by rw [HL.out]; exact hlt)
        have HNO : Hid (goodBp (X.getD k zp) A B = false → goodSp X A B = false) := Lib.hid (goodS_no3p (by rw [HL.out]; exact hlt))
        have HQ1 : Hid (goodBp (X.getD k zp) A B = true → ∀ j, j < k + 1 → goodBp (X.getD j zp) A B = true) := Lib.hid fun h1 j hj => by
          rcases Nat.lt_or_ge j k with h2 | h2
          · exact HQ.out j h2
          · obtain rfl : j = k := by omega
            exact h1
        generalize X.getD k zp = y at *
        clear HW
        obtain ⟨g, hg⟩ : ∃ g, g = wr.heap.size := ⟨_, rfl⟩
        obtain ⟨W1, hW1⟩ : ∃ W1, W1 = wr.alloc (.cells #[.int .i64 y.acct, .int .i64 y.instr, .int .i64 y.qty] 48) := ⟨_, rfl⟩
        have y0 : Blk W1 g #[.int .i64 y.acct, .int .i64 y.instr, .int .i64 y.qty] 48 := by rw [hW1, hg]; exact Blk.new wr _ _
        have hb1 : Below wr.heap.size wr W1 := by rw [hW1]; exact one_alloc _ _
        have HB1 := Lib.hid (below_next HB.out hb1); have HG := Lib.hid hg; have HW1 := Lib.hid hW1; have HY0 := Lib.hid y0
        clear hg hW1 hb1 y0
        obtain ⟨d0, d1, d2⟩ := (⟨HY0.out.cell 0, HY0.out.cell 1, HY0.out.cell 2⟩ : W1.cell? ⟨g, 0, none⟩ = some (.int .i64 y.acct) ∧ W1.cell? ⟨g, 1, none⟩ = some (.int .i64 y.instr) ∧ W1.cell? ⟨g, 2, none⟩ = some (.int .i64 y.qty))
        have h1 := holds_any y.acct y.instr y.qty A B W1
        have HGB : Hid (goodBp y A B = holdsB y.acct y.instr y.qty A B) := Lib.hid rfl
        generalize holdsB y.acct y.instr y.qty A B = b1 at *
        have i1 : (0 : Int) ≤ (k : Int) := by omega
        have i2 : (k : Int) < (len : Int) := by omega
        go_upto_region 6 with (fail)
        rw [← HG.out, ← HW1.out]
        cases b1 with
        | false =>
          have HE := Lib.hid (HNO.out (by rw [HGB.out]))
          go_wp2_with (go_at_call 34; (with_reducible refine h1.mono ?_); rintro e w5 ⟨rfl, rfl⟩)
          go_ret
          exact ⟨by rw [HE.out] <;> rfl, HB1.out⟩
        | true =>
          have HQ2 := Lib.hid (HQ1.out HGB.out)
          go_wp2_with (go_at_call 34; (with_reducible refine h1.mono ?_); rintro e w5 ⟨rfl, rfl⟩)
          go_roundg (len - (k + 1))
          case measure => omega
          case rel => exact ⟨k + 1, by omega, by go_num, HQ2, HB1⟩
      · have HE := Lib.hid (goodS_yesp (A := A) (B := B) (by rw [HL.out]; omega) HR.out fun j hj => HQ.out j (by rw [HL.out] at hj; omega))
        go_wp2
        go_ret
        exact ⟨by rw [HE.out] <;> rfl, HB.out⟩
set_option maxRecDepth 100000 in
set_option maxHeartbeats 8000000 in
theorem rgood_p (a : Option Addr) (len cap : Nat) (A B : Int) (X : List Ps) (w : World) (h : Has encp w a X) (hl : X.length = len) :
    Calls Try.prog 11 #[.slice a len cap, .int .i64 A, .int .i64 B] w fun e w' => e = .returned (.bool (goodSp X A B)) ∧ Below w.heap.size w w' := by
  have hm := h.1
  rw [hl] at hm
  have ho := rrise_p a len cap X w h hl
  have H := Lib.hid h; have HL := Lib.hid hl
  clear h hl
  by_cases hmx : 64 < len
  · have HE := Lib.hid (goodS_no1p (A := A) (B := B) (by rw [HL.out]; exact hmx))
    have i0 : (64 : Int) < (len : Int) := by omega
    clear ho
    go_enter Try.func11, Try.ntmps11
    go_wp2
    go_ret
    exact ⟨by rw [HE.out] <;> rfl, Below.refl _ _⟩
  have i0 : ¬ (64 : Int) < (len : Int) := by omega
  obtain ⟨R, hR⟩ : ∃ R, riseSp X = R := ⟨_, rfl⟩
  have HR := Lib.hid hR
  rw [hR] at ho
  clear hR
  cases R with
  | false =>
    have HE := Lib.hid (goodS_no4p (A := A) (B := B) HR.out)
    go_enter Try.func11, Try.ntmps11
    go_wp2_with (go_at_call 14; (with_reducible refine ho.mono ?_); rintro e w5 ⟨rfl, hb5⟩)
    go_ret
    exact ⟨by rw [HE.out] <;> rfl, hb5⟩
  | true =>
    go_enter Try.func11, Try.ntmps11
    go_wp2_with (go_at_call 14; (with_reducible refine ho.mono ?_); rintro e w5 ⟨rfl, hb5⟩; have HB5 := Lib.hid hb5; clear hb5)
    go_loopg [19] len (fun m i wr => ∃ k : Nat, k + m = len ∧ i = .int .i64 (k : Int) ∧ Hid (∀ j, j < k → okBp (X.getD j zp) A B = true) ∧ Hid (Below w.heap.size w wr))
    case atStart => exact ⟨0, by omega, rfl, Lib.hid (fun j hj => by omega), HB5⟩
    case round =>
      obtain ⟨k, hk, rfl, HQ, HB⟩ := hrel
      by_cases hlt : k < len
      · have HW := H.out.keep HB.out
        obtain ⟨b, off, rfl, c0, c1, c2⟩ := atp HW (show k < X.length by rw [HL.out]; exact hlt)
        have HNO : Hid (okBp (X.getD k zp) A B = false → goodSp X A B = false) := Lib.hid (goodS_no5p (by rw [HL.out]; exact hlt))
        have HQ1 : Hid (okBp (X.getD k zp) A B = true → ∀ j, j < k + 1 → okBp (X.getD j zp) A B = true) := Lib.hid fun h1 j hj => by
          rcases Nat.lt_or_ge j k with h2 | h2
          · exact HQ.out j h2
          · obtain rfl : j = k := by omega
            exact h1
        generalize X.getD k zp = y at *
        clear HW
        obtain ⟨g, hg⟩ : ∃ g, g = wr.heap.size := ⟨_, rfl⟩
        obtain ⟨W1, hW1⟩ : ∃ W1, W1 = wr.alloc (.cells #[.int .i64 y.acct, .int .i64 y.instr, .int .i64 y.qty] 48) := ⟨_, rfl⟩
        have y0 : Blk W1 g #[.int .i64 y.acct, .int .i64 y.instr, .int .i64 y.qty] 48 := by rw [hW1, hg]; exact Blk.new wr _ _
        have hb1 : Below wr.heap.size wr W1 := by rw [hW1]; exact one_alloc _ _
        have HB1 := Lib.hid (below_next HB.out hb1); have HG := Lib.hid hg; have HW1 := Lib.hid hW1; have HY0 := Lib.hid y0
        clear hg hW1 hb1 y0
        obtain ⟨d0, d1, d2⟩ := (⟨HY0.out.cell 0, HY0.out.cell 1, HY0.out.cell 2⟩ : W1.cell? ⟨g, 0, none⟩ = some (.int .i64 y.acct) ∧ W1.cell? ⟨g, 1, none⟩ = some (.int .i64 y.instr) ∧ W1.cell? ⟨g, 2, none⟩ = some (.int .i64 y.qty))
        have i1 : (0 : Int) ≤ (k : Int) := by omega
        have i2 : (k : Int) < (len : Int) := by omega
        go_upto_region 6 with (fail)
        rw [← HG.out, ← HW1.out]
        by_cases h0 : y.acct < 2
        · have HE := Lib.hid (HNO.out (by simp only [okBp]; rw [Bool.eq_false_iff]; intro h; simp only [Bool.and_eq_true, decide_eq_true_eq, Bool.not_eq_true', beq_eq_false_iff_ne, ne_eq] at h; omega))
          go_wp2
          go_ret
          exact ⟨by rw [HE.out] <;> rfl, HB1.out⟩
        by_cases h1 : A ≤ y.acct
        · have HE := Lib.hid (HNO.out (by simp only [okBp]; rw [Bool.eq_false_iff]; intro h; simp only [Bool.and_eq_true, decide_eq_true_eq, Bool.not_eq_true', beq_eq_false_iff_ne, ne_eq] at h; omega))
          go_wp2
          go_ret
          exact ⟨by rw [HE.out] <;> rfl, HB1.out⟩
        by_cases h2 : y.instr < 0
        · have HE := Lib.hid (HNO.out (by simp only [okBp]; rw [Bool.eq_false_iff]; intro h; simp only [Bool.and_eq_true, decide_eq_true_eq, Bool.not_eq_true', beq_eq_false_iff_ne, ne_eq] at h; omega))
          go_wp2
          go_ret
          exact ⟨by rw [HE.out] <;> rfl, HB1.out⟩
        by_cases h3 : B ≤ y.instr
        · have HE := Lib.hid (HNO.out (by simp only [okBp]; rw [Bool.eq_false_iff]; intro h; simp only [Bool.and_eq_true, decide_eq_true_eq, Bool.not_eq_true', beq_eq_false_iff_ne, ne_eq] at h; omega))
          go_wp2
          go_ret
          exact ⟨by rw [HE.out] <;> rfl, HB1.out⟩
        by_cases h4 : y.qty = 0
        · have HE := Lib.hid (HNO.out (by simp only [okBp]; rw [Bool.eq_false_iff]; intro h; simp only [Bool.and_eq_true, decide_eq_true_eq, Bool.not_eq_true', beq_eq_false_iff_ne, ne_eq] at h; omega))
          have bq : (y.qty == 0) = true := beq_iff_eq.2 h4
          clear h4
          go_wp2
          go_ret
          exact ⟨by rw [HE.out] <;> rfl, HB1.out⟩
        have bq : (y.qty == 0) = false := beq_eq_false_iff_ne.2 h4
        have HQ2 := Lib.hid (HQ1.out (by simp only [okBp, Bool.and_eq_true, decide_eq_true_eq, Bool.not_eq_true', beq_eq_false_iff_ne, ne_eq]; omega))
        go_wp2
        go_roundg (len - (k + 1))
        case measure => omega
        case rel => exact ⟨k + 1, by omega, by go_num, HQ2, HB1⟩
      · have HE := Lib.hid (goodS_yes2p (A := A) (B := B) (by rw [HL.out]; omega) HR.out fun j hj => HQ.out j (by rw [HL.out] at hj; omega))
        go_wp2
        go_ret
        exact ⟨by rw [HE.out] <;> rfl, HB.out⟩

theorem ext_p {X Y : List Ps} (hl : X.length = Y.length) (h : ∀ j, j < X.length → X.getD j zp = Y.getD j zp) : X = Y := by
  apply List.ext_getElem hl
  intro j h1 h2
  have := h j h1
  rwa [List.getD_eq_getElem?_getD, List.getD_eq_getElem?_getD, List.getElem?_eq_getElem h1, List.getElem?_eq_getElem h2] at this
set_option maxRecDepth 100000 in
set_option maxHeartbeats 4000000 in
theorem same_p (a1 a2 : Option Addr) (n1 c1 n2 c2 : Nat) (X Y : List Ps) (w : World) (h1 : Has encp w a1 X) (h2 : Has encp w a2 Y) (hl1 : X.length = n1) (hl2 : Y.length = n2) :
    Calls Try.prog 17 #[.slice a1 n1 c1, .slice a2 n2 c2] w fun e w' => e = .returned (.bool (decide (X = Y))) ∧ Below w.heap.size w w' := by
  have hm1 := h1.1
  have hm2 := h2.1
  rw [hl1] at hm1
  rw [hl2] at hm2
  have H1 := Lib.hid h1; have H2 := Lib.hid h2; have HL1 := Lib.hid hl1; have HL2 := Lib.hid hl2
  clear h1 h2 hl1 hl2
  by_cases hn : n1 = n2
  rotate_left
  · have HE : Hid (decide (X = Y) = false) := Lib.hid (decide_eq_false fun e => hn (by rw [← HL1.out, ← HL2.out, e]))
    have b0 : ((n1 : Int) == (n2 : Int)) = false := beq_eq_false_iff_ne.2 (by omega)
    have b1 : (n1 == n2) = false := beq_eq_false_iff_ne.2 hn
    go_enter Try.func17, Try.ntmps17
    go_wp2
    go_ret
    exact ⟨by rw [HE.out] <;> rfl, Below.refl _ _⟩
  subst hn
  go_enter Try.func17, Try.ntmps17
  go_wp2
  go_loopg [13] n1 (fun m i wr => ∃ k : Nat, k + m = n1 ∧ i = .int .i64 (k : Int) ∧ Hid (∀ j, j < k → X.getD j zp = Y.getD j zp) ∧ Hid (Below w.heap.size w wr))
  case atStart => exact ⟨0, by omega, rfl, Lib.hid (fun j hj => by omega), Lib.hid (Below.refl _ _)⟩
  case round =>
    obtain ⟨k, hk, rfl, HQ, HB⟩ := hrel
    by_cases hlt : k < n1
    · obtain ⟨b, off, rfl, c0, c1, c2⟩ := atp (H1.out.keep HB.out) (show k < X.length by rw [HL1.out]; exact hlt)
      obtain ⟨b', off', rfl, d0, d1, d2⟩ := atp (H2.out.keep HB.out) (show k < Y.length by rw [HL2.out]; exact hlt)
      have HNO : Hid (X.getD k zp ≠ Y.getD k zp → decide (X = Y) = false) := Lib.hid fun h => decide_eq_false fun e => h (by rw [e])
      have HQ1 : Hid (X.getD k zp = Y.getD k zp → ∀ j, j < k + 1 → X.getD j zp = Y.getD j zp) := Lib.hid fun h1 j hj => by
        rcases Nat.lt_or_ge j k with h2 | h2
        · exact HQ.out j h2
        · obtain rfl : j = k := by omega
          exact h1
      generalize X.getD k zp = x at *
      generalize Y.getD k zp = y at *
      have i1 : (0 : Int) ≤ (k : Int) := by omega
      have i2 : (k : Int) < (n1 : Int) := by omega
      go_upto_region 6 with (fail)
      by_cases h0 : x.acct = y.acct
      rotate_left
      · have HE := Lib.hid (HNO.out fun e => h0 (by rw [e]))
        have q0 : (x.acct == y.acct) = false := beq_eq_false_iff_ne.2 h0
        clear h0
        go_quiet (fail)
        go_wp2
        go_ret
        exact ⟨by rw [HE.out] <;> rfl, below_next HB.out (below_drew _ _)⟩
      have q0 : (x.acct == y.acct) = true := beq_iff_eq.2 h0
      by_cases h1 : x.instr = y.instr
      rotate_left
      · have HE := Lib.hid (HNO.out fun e => h1 (by rw [e]))
        have q1 : (x.instr == y.instr) = false := beq_eq_false_iff_ne.2 h1
        clear h1
        go_quiet (fail)
        go_wp2
        go_ret
        exact ⟨by rw [HE.out] <;> rfl, below_next HB.out (below_drew _ _)⟩
      have q1 : (x.instr == y.instr) = true := beq_iff_eq.2 h1
      by_cases h2 : x.qty = y.qty
      rotate_left
      · have HE := Lib.hid (HNO.out fun e => h2 (by rw [e]))
        have q2 : (x.qty == y.qty) = false := beq_eq_false_iff_ne.2 h2
        clear h2
        go_quiet (fail)
        go_wp2
        go_ret
        exact ⟨by rw [HE.out] <;> rfl, below_next HB.out (below_drew _ _)⟩
      have q2 : (x.qty == y.qty) = true := beq_iff_eq.2 h2
      have HQ2 := Lib.hid (HQ1.out (by cases x; cases y; simp_all))
      clear h0 h1 h2
      go_quiet (fail)
      go_wp2
      go_roundg (n1 - (k + 1))
      case measure => omega
      case rel => exact ⟨k + 1, by omega, by go_num, HQ2, Lib.hid (below_next HB.out (below_drew _ _))⟩
    · have HE : Hid (decide (X = Y) = true) := Lib.hid (decide_eq_true (ext_p (by rw [HL1.out, HL2.out]) fun j hj => HQ.out j (by rw [HL1.out] at hj; omega)))
      go_wp2
      go_ret
      exact ⟨by rw [HE.out] <;> rfl, HB.out⟩
end Go.Proofs.Ytpagkeklilgknaa.Bo

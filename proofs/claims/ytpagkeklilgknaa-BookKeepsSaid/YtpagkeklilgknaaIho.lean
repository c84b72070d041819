/-
  Layer 13: lists of api.Order: whether they can be, and whether two are the same. (Written by gen_ic.py out of p_ih.txt.)
-/
import Derived.Test.YtpagkeklilgknaaIgo
namespace Go.Proofs.Ytpagkeklilgknaa.Bo
open Go.RowKit Rw
set_option linter.unusedVariables false
set_option linter.unusedSimpArgs false

def okBo (x : Od) (A B : Int) : Bool := decide (2 ≤ x.acct) && decide (x.acct < A) && decide (1 ≤ x.id) && decide (x.id ≤ 1099511627776) && decide (0 ≤ x.instr) && decide (x.instr < B) && !(x.qty == 0) && decide (1 ≤ x.price) && decide (x.price ≤ 100000000000000)
def goodBo (x : Od) (A B : Int) : Bool := holdsB x.acct x.instr x.qty A B && ((decide (1 ≤ x.id) && decide (x.id ≤ 1099511627776)) && (decide (1 ≤ x.price) && decide (x.price ≤ 100000000000000)))
theorem good_oko (x : Od) (A B : Int) : goodBo x A B = (qtyB x.qty && okBo x A B) := by
  rw [Bool.eq_iff_iff]
  simp only [goodBo, okBo, holdsB, Bool.and_eq_true, decide_eq_true_eq, Bool.not_eq_true']
  constructor
  · intro h; simp_all
  · intro h; simp_all
def goodSo (X : List Od) (A B : Int) : Bool := decide (X.length ≤ 32) && (riseB keyo X && X.all fun x => goodBo x A B)
theorem goodS_refo (X : List Od) (A B : Int) : goodSo X A B = (decide (X.length ≤ 32) && (riseSo X && X.all fun x => okBo x A B)) := by
  unfold goodSo riseSo
  have : (X.all fun x => goodBo x A B) = ((X.all fun x => qtyB x.qty) && X.all fun x => okBo x A B) := by
    rw [Bool.eq_iff_iff]
    simp only [List.all_eq_true, Bool.and_eq_true, good_oko]
    exact ⟨fun h => ⟨fun x hx => (h x hx).1, fun x hx => (h x hx).2⟩, fun h x hx => ⟨h.1 x hx, h.2 x hx⟩⟩
  rw [this, Bool.and_assoc]
theorem goodS_no1o {X : List Od} {A B : Int} (h : 32 < X.length) : goodSo X A B = false := by
  unfold goodSo
  rw [decide_eq_false (by omega), Bool.false_and]
theorem goodS_no2o {X : List Od} {A B : Int} (h : riseB keyo X = false) : goodSo X A B = false := by
  unfold goodSo
  rw [h, Bool.false_and, Bool.and_false]
theorem goodS_no3o {X : List Od} {A B : Int} {j : Nat} (hj : j < X.length) (h : goodBo (X.getD j zo) A B = false) : goodSo X A B = false := by
  unfold goodSo
  rw [all_no (f := fun x => goodBo x A B) (d := zo) hj h, Bool.and_false, Bool.and_false]
theorem goodS_yeso {X : List Od} {A B : Int} (h1 : X.length ≤ 32) (h2 : riseB keyo X = true) (h3 : ∀ j, j < X.length → goodBo (X.getD j zo) A B = true) : goodSo X A B = true := by
  unfold goodSo
  rw [decide_eq_true h1, h2, all_yes (f := fun x => goodBo x A B) (d := zo) h3]
  rfl
theorem goodS_no4o {X : List Od} {A B : Int} (h : riseSo X = false) : goodSo X A B = false := by
  rw [goodS_refo, h, Bool.false_and, Bool.and_false]
theorem goodS_no5o {X : List Od} {A B : Int} {j : Nat} (hj : j < X.length) (h : okBo (X.getD j zo) A B = false) : goodSo X A B = false := by
  rw [goodS_refo, all_no (f := fun x => okBo x A B) (d := zo) hj h, Bool.and_false, Bool.and_false]
theorem goodS_yes2o {X : List Od} {A B : Int} (h1 : X.length ≤ 32) (h2 : riseSo X = true) (h3 : ∀ j, j < X.length → okBo (X.getD j zo) A B = true) : goodSo X A B = true := by
  rw [goodS_refo, decide_eq_true h1, h2, all_yes (f := fun x => okBo x A B) (d := zo) h3]
  rfl
set_option maxRecDepth 100000 in
set_option maxHeartbeats 8000000 in
theorem good_o (a : Option Addr) (len cap : Nat) (A B : Int) (X : List Od) (w : World) (h : Has enco w a X) (hl : X.length = len) :
    Calls Try.prog 12 #[.slice a len cap, .int .i64 A, .int .i64 B] w fun e w' => e = .returned (.bool (goodSo X A B)) ∧ Below w.heap.size w w' := by
  have hm := h.1
  rw [hl] at hm
  have ho := ordered_o a len cap X w h hl
  have H := Lib.hid h; have HL := Lib.hid hl
  clear h hl
  by_cases hmx : 32 < len
  · have HE := Lib.hid (goodS_no1o (A := A) (B := B) (by rw [HL.out]; exact hmx))
    have i0 : (32 : Int) < (len : Int) := by omega
    clear ho
    go_enter Try.func12, Try.ntmps12
    go_wp2
    go_ret
    exact ⟨by rw [HE.out] <;> rfl, Below.refl _ _⟩
  have i0 : ¬ (32 : Int) < (len : Int) := by omega
  obtain ⟨R, hR⟩ : ∃ R, riseB keyo X = R := ⟨_, rfl⟩
  have HR := Lib.hid hR
  rw [hR] at ho
  clear hR
  cases R with
  | false =>
    have HE := Lib.hid (goodS_no2o (A := A) (B := B) HR.out)
    go_enter Try.func12, Try.ntmps12
    go_wp2_with (go_at_call 35; (with_reducible refine ho.mono ?_); rintro e w5 ⟨rfl, hb5⟩)
    go_ret
    exact ⟨by rw [HE.out] <;> rfl, hb5⟩
  | true =>
    go_enter Try.func12, Try.ntmps12
    go_wp2_with (go_at_call 35; (with_reducible refine ho.mono ?_); rintro e w5 ⟨rfl, hb5⟩; have HB5 := Lib.hid hb5; clear hb5)
    go_loopg [19] len (fun m i wr => ∃ k : Nat, k + m = len ∧ i = .int .i64 (k : Int) ∧ Hid (∀ j, j < k → goodBo (X.getD j zo) A B = true) ∧ Hid (Below w.heap.size w wr))
    case atStart => exact ⟨0, by omega, rfl, Lib.hid (fun j hj => by omega), HB5⟩
    case round =>
      obtain ⟨k, hk, rfl, HQ, HB⟩ := hrel
      by_cases hlt : k < len
      · have HW := H.out.keep HB.out
        obtain ⟨b, off, rfl, c0, c1, c2, c3, c4⟩ := ato HW (show k < X.length by rw [HL.out]; exact hlt)
        have HNO : Hid (goodBo (X.getD k zo) A B = false → goodSo X A B = false) := Lib.hid (goodS_no3o (by rw [HL.out]; exact hlt))
        have HQ1 : Hid (goodBo (X.getD k zo) A B = true → ∀ j, j < k + 1 → goodBo (X.getD j zo) A B = true) := Lib.hid fun h1 j hj => by
          rcases Nat.lt_or_ge j k with h2 | h2
          · exact HQ.out j h2
          · obtain rfl : j = k := by omega
            exact h1
        generalize X.getD k zo = y at *
        clear HW
        obtain ⟨g, hg⟩ : ∃ g, g = wr.heap.size := ⟨_, rfl⟩
        obtain ⟨W1, hW1⟩ : ∃ W1, W1 = wr.alloc (.cells #[.int .i64 y.acct, .int .i64 y.id, .int .i64 y.instr, .int .i64 y.qty, .int .i64 y.price] 37) := ⟨_, rfl⟩
        have y0 : Blk W1 g #[.int .i64 y.acct, .int .i64 y.id, .int .i64 y.instr, .int .i64 y.qty, .int .i64 y.price] 37 := by rw [hW1, hg]; exact Blk.new wr _ _
        have hb1 : Below wr.heap.size wr W1 := by rw [hW1]; exact one_alloc _ _
        have HB1 := Lib.hid (below_next HB.out hb1); have HG := Lib.hid hg; have HW1 := Lib.hid hW1; have HY0 := Lib.hid y0
        clear hg hW1 hb1 y0
        obtain ⟨d0, d1, d2, d3, d4⟩ := (⟨HY0.out.cell 0, HY0.out.cell 1, HY0.out.cell 2, HY0.out.cell 3, HY0.out.cell 4⟩ : W1.cell? ⟨g, 0, none⟩ = some (.int .i64 y.acct) ∧ W1.cell? ⟨g, 1, none⟩ = some (.int .i64 y.id) ∧ W1.cell? ⟨g, 2, none⟩ = some (.int .i64 y.instr) ∧ W1.cell? ⟨g, 3, none⟩ = some (.int .i64 y.qty) ∧ W1.cell? ⟨g, 4, none⟩ = some (.int .i64 y.price))
        have h1 := holds_any y.acct y.instr y.qty A B W1
        have HGB : Hid (goodBo y A B = (holdsB y.acct y.instr y.qty A B && ((decide (1 ≤ y.id) && decide (y.id ≤ 1099511627776)) && (decide (1 ≤ y.price) && decide (y.price ≤ 100000000000000))))) := Lib.hid rfl
        have h2 := within_any y.id 1 1099511627776 W1
        have h3 := within_any y.price 1 100000000000000 W1
        generalize (decide (1 ≤ y.id) && decide (y.id ≤ 1099511627776)) = b2 at *
        generalize (decide (1 ≤ y.price) && decide (y.price ≤ 100000000000000)) = b3 at *
        generalize holdsB y.acct y.instr y.qty A B = b1 at *
        have i1 : (0 : Int) ≤ (k : Int) := by omega
        have i2 : (k : Int) < (len : Int) := by omega
        go_upto_region 6 with (fail)
        rw [← HG.out, ← HW1.out]
        cases b1 with
        | false =>
          have HE := Lib.hid (HNO.out (by rw [HGB.out]; rfl))
          go_wp2_with (go_at_call 34; (with_reducible refine h1.mono ?_); rintro e w5 ⟨rfl, rfl⟩)
          go_ret
          exact ⟨by rw [HE.out] <;> rfl, HB1.out⟩
        | true =>
          cases b2 with
          | false =>
            have HE := Lib.hid (HNO.out (by rw [HGB.out]; rfl))
            go_wp2_with (first | (go_at_call 34; (with_reducible refine h1.mono ?_); rintro e w5 ⟨rfl, rfl⟩) | (go_at_call 37; (with_reducible refine h2.mono ?_); rintro e w5 ⟨rfl, rfl⟩))
            go_ret
            exact ⟨by rw [HE.out] <;> rfl, HB1.out⟩
          | true =>
            cases b3 with
            | false =>
              have HE := Lib.hid (HNO.out (by rw [HGB.out]; rfl))
              go_wp2_with (first | (go_at_call 34; (with_reducible refine h1.mono ?_); rintro e w5 ⟨rfl, rfl⟩) | (go_at_call 37; (with_reducible refine h2.mono ?_); rintro e w5 ⟨rfl, rfl⟩) | (go_at_call 37; (with_reducible refine h3.mono ?_); rintro e w5 ⟨rfl, rfl⟩))
              go_ret
              exact ⟨by rw [HE.out] <;> rfl, HB1.out⟩
            | true =>
              have HQ2 := Lib.hid (HQ1.out HGB.out)
              go_wp2_with (first | (go_at_call 34; (with_reducible refine h1.mono ?_); rintro e w5 ⟨rfl, rfl⟩) | (go_at_call 37; (with_reducible refine h2.mono ?_); rintro e w5 ⟨rfl, rfl⟩) | (go_at_call 37; (with_reducible refine h3.mono ?_); rintro e w5 ⟨rfl, rfl⟩))
              go_roundg (len - (k + 1))
              case measure => omega
              case rel => exact ⟨k + 1, by omega, by go_num, HQ2, HB1⟩
      · have HE := Lib.hid (goodS_yeso (A := A) (B := B) (by rw [HL.out]; omega) HR.out fun j hj => HQ.out j (by rw [HL.out] at hj; omega))
        go_wp2
        go_ret
        exact ⟨by rw [HE.out] <;> rfl, HB.out⟩
set_option maxRecDepth 100000 in
set_option maxHeartbeats 8000000 in
theorem rgood_o (a : Option Addr) (len cap : Nat) (A B : Int) (X : List Od) (w : World) (h : Has enco w a X) (hl : X.length = len) :
    Calls Try.prog 13 #[.slice a len cap, .int .i64 A, .int .i64 B] w fun e w' => e = .returned (.bool (goodSo X A B)) ∧ Below w.heap.size w w' := by
  have hm := h.1
  rw [hl] at hm
  have ho := rrise_o a len cap X w h hl
  have H := Lib.hid h; have HL := Lib.hid hl
  clear h hl
  by_cases hmx : 32 < len
  · have HE := Lib.hid (goodS_no1o (A := A) (B := B) (by rw [HL.out]; exact hmx))
    have i0 : (32 : Int) < (len : Int) := by omega
    clear ho
    go_enter Try.func13, Try.ntmps13
    go_wp2
    go_ret
    exact ⟨by rw [HE.out] <;> rfl, Below.refl _ _⟩
  have i0 : ¬ (32 : Int) < (len : Int) := by omega
  obtain ⟨R, hR⟩ : ∃ R, riseSo X = R := ⟨_, rfl⟩
  have HR := Lib.hid hR
  rw [hR] at ho
  clear hR
  cases R with
  | false =>
    have HE := Lib.hid (goodS_no4o (A := A) (B := B) HR.out)
    go_enter Try.func13, Try.ntmps13
    go_wp2_with (go_at_call 20; (with_reducible refine ho.mono ?_); rintro e w5 ⟨rfl, hb5⟩)
    go_ret
    exact ⟨by rw [HE.out] <;> rfl, hb5⟩
  | true =>
    go_enter Try.func13, Try.ntmps13
    go_wp2_with (go_at_call 20; (with_reducible refine ho.mono ?_); rintro e w5 ⟨rfl, hb5⟩; have HB5 := Lib.hid hb5; clear hb5)
    go_loopg [19] len (fun m i wr => ∃ k : Nat, k + m = len ∧ i = .int .i64 (k : Int) ∧ Hid (∀ j, j < k → okBo (X.getD j zo) A B = true) ∧ Hid (Below w.heap.size w wr))
    case atStart => exact ⟨0, by omega, rfl, Lib.hid (fun j hj => by omega), HB5⟩
    case round =>
      obtain ⟨k, hk, rfl, HQ, HB⟩ := hrel
      by_cases hlt : k < len
      · have HW := H.out.keep HB.out
        obtain ⟨b, off, rfl, c0, c1, c2, c3, c4⟩ := ato HW (show k < X.length by rw [HL.out]; exact hlt)
        have HNO : Hid (okBo (X.getD k zo) A B = false → goodSo X A B = false) := Lib.hid (goodS_no5o (by rw [HL.out]; exact hlt))
        have HQ1 : Hid (okBo (X.getD k zo) A B = true → ∀ j, j < k + 1 → okBo (X.getD j zo) A B = true) := Lib.hid fun h1 j hj => by
          rcases Nat.lt_or_ge j k with h2 | h2
          · exact HQ.out j h2
          · obtain rfl : j = k := by omega
            exact h1
        generalize X.getD k zo = y at *
        clear HW
        obtain ⟨g, hg⟩ : ∃ g, g = wr.heap.size := ⟨_, rfl⟩
        obtain ⟨W1, hW1⟩ : ∃ W1, W1 = wr.alloc (.cells #[.int .i64 y.acct, .int .i64 y.id, .int .i64 y.instr, .int .i64 y.qty, .int .i64 y.price] 37) := ⟨_, rfl⟩
        have y0 : Blk W1 g #[.int .i64 y.acct, .int .i64 y.id, .int .i64 y.instr, .int .i64 y.qty, .int .i64 y.price] 37 := by rw [hW1, hg]; exact Blk.new wr _ _
        have hb1 : Below wr.heap.size wr W1 := by rw [hW1]; exact one_alloc _ _
        have HB1 := Lib.hid (below_next HB.out hb1); have HG := Lib.hid hg; have HW1 := Lib.hid hW1; have HY0 := Lib.hid y0
        clear hg hW1 hb1 y0
        obtain ⟨d0, d1, d2, d3, d4⟩ := (⟨HY0.out.cell 0, HY0.out.cell 1, HY0.out.cell 2, HY0.out.cell 3, HY0.out.cell 4⟩ : W1.cell? ⟨g, 0, none⟩ = some (.int .i64 y.acct) ∧ W1.cell? ⟨g, 1, none⟩ = some (.int .i64 y.id) ∧ W1.cell? ⟨g, 2, none⟩ = some (.int .i64 y.instr) ∧ W1.cell? ⟨g, 3, none⟩ = some (.int .i64 y.qty) ∧ W1.cell? ⟨g, 4, none⟩ = some (.int .i64 y.price))
        have i1 : (0 : Int) ≤ (k : Int) := by omega
        have i2 : (k : Int) < (len : Int) := by omega
        go_upto_region 6 with (fail)
        rw [← HG.out, ← HW1.out]
        by_cases h0 : y.acct < 2
        · have HE := Lib.hid (HNO.out (by simp only [okBo]; rw [Bool.eq_false_iff]; intro h; simp only [Bool.and_eq_true, decide_eq_true_eq, Bool.not_eq_true', beq_eq_false_iff_ne, ne_eq] at h; omega))
          go_wp2
          go_ret
          exact ⟨by rw [HE.out] <;> rfl, HB1.out⟩
        by_cases h1 : A ≤ y.acct
        · have HE := Lib.hid (HNO.out (by simp only [okBo]; rw [Bool.eq_false_iff]; intro h; simp only [Bool.and_eq_true, decide_eq_true_eq, Bool.not_eq_true', beq_eq_false_iff_ne, ne_eq] at h; omega))
          go_wp2
          go_ret
          exact ⟨by rw [HE.out] <;> rfl, HB1.out⟩
        by_cases h2 : y.id < 1
        · have HE := Lib.hid (HNO.out (by simp only [okBo]; rw [Bool.eq_false_iff]; intro h; simp only [Bool.and_eq_true, decide_eq_true_eq, Bool.not_eq_true', beq_eq_false_iff_ne, ne_eq] at h; omega))
          go_wp2
          go_ret
          exact ⟨by rw [HE.out] <;> rfl, HB1.out⟩
        by_cases h3 : 1099511627776 < y.id
        · have HE := Lib.hid (HNO.out (by simp only [okBo]; rw [Bool.eq_false_iff]; intro h; simp only [Bool.and_eq_true, decide_eq_true_eq, Bool.not_eq_true', beq_eq_false_iff_ne, ne_eq] at h; omega))
          go_wp2
          go_ret
          exact ⟨by rw [HE.out] <;> rfl, HB1.out⟩
        by_cases h4 : y.instr < 0
        · have HE := Lib.hid (HNO.out (by simp only [okBo]; rw [Bool.eq_false_iff]; intro h; simp only [Bool.and_eq_true, decide_eq_true_eq, Bool.not_eq_true', beq_eq_false_iff_ne, ne_eq] at h; omega))
          go_wp2
          go_ret
          exact ⟨by rw [HE.out] <;> rfl, HB1.out⟩
        by_cases h5 : B ≤ y.instr
        · have HE := Lib.hid (HNO.out (by simp only [okBo]; rw [Bool.eq_false_iff]; intro h; simp only [Bool.and_eq_true, decide_eq_true_eq, Bool.not_eq_true', beq_eq_false_iff_ne, ne_eq] at h; omega))
          go_wp2
          go_ret
          exact ⟨by rw [HE.out] <;> rfl, HB1.out⟩
        by_cases h6 : y.qty = 0
        · have HE := Lib.hid (HNO.out (by simp only [okBo]; rw [Bool.eq_false_iff]; intro h; simp only [Bool.and_eq_true, decide_eq_true_eq, Bool.not_eq_true', beq_eq_false_iff_ne, ne_eq] at h; omega))
          have bq : (y.qty == 0) = true := beq_iff_eq.2 h6
          clear h6
          go_wp2
          go_ret
          exact ⟨by rw [HE.out] <;> rfl, HB1.out⟩
        have bq : (y.qty == 0) = false := beq_eq_false_iff_ne.2 h6
        by_cases h7 : y.price < 1
        · have HE := Lib.hid (HNO.out (by simp only [okBo]; rw [Bool.eq_false_iff]; intro h; simp only [Bool.and_eq_true, decide_eq_true_eq, Bool.not_eq_true', beq_eq_false_iff_ne, ne_eq] at h; omega))
          go_wp2
          go_ret
          exact ⟨by rw [HE.out] <;> rfl, HB1.out⟩
        by_cases h8 : 100000000000000 < y.price
        · have HE := Lib.hid (HNO.out (by simp only [okBo]; rw [Bool.eq_false_iff]; intro h; simp only [Bool.and_eq_true, decide_eq_true_eq, Bool.not_eq_true', beq_eq_false_iff_ne, ne_eq] at h; omega))
          go_wp2
          go_ret
          exact ⟨by rw [HE.out] <;> rfl, HB1.out⟩
        have HQ2 := Lib.hid (HQ1.out (by simp only [okBo, Bool.and_eq_true, decide_eq_true_eq, Bool.not_eq_true', beq_eq_false_iff_ne, ne_eq]; omega))
        go_wp2
        go_roundg (len - (k + 1))
        case measure => omega
        case rel => exact ⟨k + 1, by omega, by go_num, HQ2, HB1⟩
      · have HE := Lib.hid (goodS_yes2o (A := A) (B := B) (by rw [HL.out]; omega) HR.out fun j hj => HQ.out j (by rw [HL.out] at hj; omega))
        go_wp2
        go_ret
        exact ⟨by rw [HE.out] <;> rfl, HB.out⟩

theorem ext_o {X Y : List Od} (hl : X.length = Y.length) (h : ∀ j, j < X.length → X.getD j zo = Y.getD j zo) : X = Y := by
  apply List.ext_getElem hl
  intro j h1 h2
  have := h j h1
  rwa [List.getD_eq_getElem?_getD, List.getD_eq_getElem?_getD, List.getElem?_eq_getElem h1, List.getElem?_eq_getElem h2] at this
set_option maxRecDepth 100000 in
set_option maxHeartbeats 4000000 in
theorem same_o (a1 a2 : Option Addr) (n1 c1 n2 c2 : Nat) (X Y : List Od) (w : World) (h1 : Has enco w a1 X) (h2 : Has enco w a2 Y) (hl1 : X.length = n1) (hl2 : Y.length = n2) :
    Calls Try.prog 23 #[.slice a1 n1 c1, .slice a2 n2 c2] w fun e w' => e = .returned (.bool (decide (X = Y))) ∧ Below w.heap.size w w' := by
  have hm1 := h1.1
  have hm2 := h2.1
  rw [hl1] at hm1
  rw [hl2] at hm2
  have H1 := Lib.hid h1; have H2 := Lib.hid h2; have HL1 := Lib.hid hl1; have HL2 := Lib.hid hl2
  clear h1 h2 hl1 hl2
  by_cases hn : n1 = n2
  rotate_left
  · have HE : Hid (decide (X = Y) = false) := Lib.hid (decide_eq_false fun e => hn (by rw [← HL1.out, ← HL2.out, e]))
    have b0 : ((n1 : Int) == (n2 : Int)) = false := beq_eq_false_iff_ne.2 (by omega)
    have b1 : (n1 == n2) = false := beq_eq_false_iff_ne.2 hn
    go_enter Try.func23, Try.ntmps23
    go_wp2
    go_ret
    exact ⟨by rw [HE.out] <;> rfl, Below.refl _ _⟩
  subst hn
  go_enter Try.func23, Try.ntmps23
  go_wp2
  go_loopg [13] n1 (fun m i wr => ∃ k : Nat, k + m = n1 ∧ i = .int .i64 (k : Int) ∧ Hid (∀ j, j < k → X.getD j zo = Y.getD j zo) ∧ Hid (Below w.heap.size w wr))
  case atStart => exact ⟨0, by omega, rfl, Lib.hid (fun j hj => by omega), Lib.hid (Below.refl _ _)⟩
  case round =>
    obtain ⟨k, hk, rfl, HQ, HB⟩ := hrel
    by_cases hlt : k < n1
    · obtain ⟨b, off, rfl, c0, c1, c2, c3, c4⟩ := ato (H1.out.keep HB.out) (show k < X.length by rw [HL1.out]; exact hlt)
      obtain ⟨b', off', rfl, d0, d1, d2, d3, d4⟩ := ato (H2.out.keep HB.out) (show k < Y.length by rw [HL2.out]; exact hlt)
      have HNO : Hid (X.getD k zo ≠ Y.getD k zo → decide (X = Y) = false) := Lib.hid fun h => decide_eq_false fun e => h (by rw [e])
      have HQ1 : Hid (X.getD k zo = Y.getD k zo → ∀ j, j < k + 1 → X.getD j zo = Y.getD j zo) := Lib.hid fun h1 j hj => by
        rcases Nat.lt_or_ge j k with h2 | h2
        · exact HQ.out j h2
        · obtain rfl : j = k := by omega
          exact h1
      generalize X.getD k zo = x at *
      generalize Y.getD k zo = y at *
      have i1 : (0 : Int) ≤ (k : Int) := by omega
      have i2 : (k : Int) < (n1 : Int) := by omega
      go_upto_region 6 with (fail)
      by_cases h0 : x.acct = y.acct
      rotate_left
      · have HE := Lib.hid (HNO.out fun e => h0 (by rw [e]))
        have q0 : (x.acct == y.acct) = false := beq_eq_false_iff_ne.2 h0
        clear h0
        go_quiet (fail)
        go_wp2
        go_ret
        exact ⟨by rw [HE.out] <;> rfl, below_next HB.out (below_drew _ _)⟩
      have q0 : (x.acct == y.acct) = true := beq_iff_eq.2 h0
      by_cases h1 : x.id = y.id
      rotate_left
      · have HE := Lib.hid (HNO.out fun e => h1 (by rw [e]))
        have q1 : (x.id == y.id) = false := beq_eq_false_iff_ne.2 h1
        clear h1
        go_quiet (fail)
        go_wp2
        go_ret
        exact ⟨by rw [HE.out] <;> rfl, below_next HB.out (below_drew _ _)⟩
      have q1 : (x.id == y.id) = true := beq_iff_eq.2 h1
      by_cases h2 : x.instr = y.instr
      rotate_left
      · have HE := Lib.hid (HNO.out fun e => h2 (by rw [e]))
        have q2 : (x.instr == y.instr) = false := beq_eq_false_iff_ne.2 h2
        clear h2
        go_quiet (fail)
        go_wp2
        go_ret
        exact ⟨by rw [HE.out] <;> rfl, below_next HB.out (below_drew _ _)⟩
      have q2 : (x.instr == y.instr) = true := beq_iff_eq.2 h2
      by_cases h3 : x.qty = y.qty
      rotate_left
      · have HE := Lib.hid (HNO.out fun e => h3 (by rw [e]))
        have q3 : (x.qty == y.qty) = false := beq_eq_false_iff_ne.2 h3
        clear h3
        go_quiet (fail)
        go_wp2
        go_ret
        exact ⟨by rw [HE.out] <;> rfl, below_next HB.out (below_drew _ _)⟩
      have q3 : (x.qty == y.qty) = true := beq_iff_eq.2 h3
      by_cases h4 : x.price = y.price
      rotate_left
      · have HE := Lib.hid (HNO.out fun e => h4 (by rw [e]))
        have q4 : (x.price == y.price) = false := beq_eq_false_iff_ne.2 h4
        clear h4
        go_quiet (fail)
        go_wp2
        go_ret
        exact ⟨by rw [HE.out] <;> rfl, below_next HB.out (below_drew _ _)⟩
      have q4 : (x.price == y.price) = true := beq_iff_eq.2 h4
      have HQ2 := Lib.hid (HQ1.out (by cases x; cases y; simp_all))
      clear h0 h1 h2 h3 h4
      go_quiet (fail)
      go_wp2
      go_roundg (n1 - (k + 1))
      case measure => omega
      case rel => exact ⟨k + 1, by omega, by go_num, HQ2, Lib.hid (below_next HB.out (below_drew _ _))⟩
    · have HE : Hid (decide (X = Y) = true) := Lib.hid (decide_eq_true (ext_o (by rw [HL1.out, HL2.out]) fun j hj => HQ.out j (by rw [HL1.out] at hj; omega)))
      go_wp2
      go_ret
      exact ⟨by rw [HE.out] <;> rfl, HB.out⟩
end Go.Proofs.Ytpagkeklilgknaa.Bo

/-
  Layer 13: positions: the reference's Qty and Add. (Written by gen_il.py.)
-/
import Derived.Test.YtpagkeklilgknaaIj
import Derived.Test.YtpagkeklilgknaaIk
namespace Go.Proofs.Ytpagkeklilgknaa.Bo
open Go.RowKit Rw
set_option linter.unusedVariables false
set_option linter.unusedSimpArgs false

set_option maxRecDepth 100000 in
set_option maxHeartbeats 4000000 in
theorem rqty_any (a : Option Addr) (len cap : Nat) (X L R : List Ps) (o : Option Ps) (c d : Int) (w : World) (h : Has encp w a X) (hl : X.length = len) (hd : Dec keyp X (c, d) L o R) :
    Calls Try.prog 19 #[.slice a len cap, .int .i64 c, .int .i64 d] w fun e w' => e = .returned (.int .i64 (qtyOf o)) ∧ Below w.heap.size w w' := by
  have hm := h.1
  rw [hl] at hm
  have H := Lib.hid h; have HL := Lib.hid hl
  have HEQ : Hid (∀ j, j < len → j ≤ L.length → (o.isSome = true → (j = L.length → (X.getD j zp).acct = c ∧ (X.getD j zp).instr = d ∧ (X.getD j zp).qty = qtyOf o)) ∧ ((o.isSome = true ∧ j = L.length) ∨ (X.getD j zp).acct ≠ c ∨ (X.getD j zp).instr ≠ d)) := Lib.hid fun j h1 h2 => by
    refine ⟨fun h3 h4 => ?_, ?_⟩
    · subst h4
      cases o with
      | none => cases h3
      | some y =>
        obtain ⟨e1, e2, e3⟩ := hd.at_key (d := zp)
        rw [e1]
        exact ⟨e2, e3, rfl⟩
    · rcases Nat.lt_or_ge j L.length with h3 | h3
      · have : (X.getD j zp).acct < c ∨ ((X.getD j zp).acct = c ∧ (X.getD j zp).instr < d) := hd.lt_lo (d := zp) h3
        exact .inr (by omega)
      · cases o with
        | some y => exact .inl ⟨rfl, by omega⟩
        | none =>
          have : c < (X.getD j zp).acct ∨ (c = (X.getD j zp).acct ∧ d < (X.getD j zp).instr) := hd.lt_hi (d := zp) h3 (by rw [hl]; exact h1)
          exact .inr (by omega)
  have HHI : Hid (∀ j, j < len → L.length < j → (X.getD j zp).acct ≠ c ∨ (X.getD j zp).instr ≠ d) := Lib.hid fun j h1 h2 => by
    have : c < (X.getD j zp).acct ∨ (c = (X.getD j zp).acct ∧ d < (X.getD j zp).instr) := hd.lt_hi (d := zp) (by cases o <;> simp <;> omega) (by rw [hl]; exact h1)
    omega
  have HNO : Hid (o.isSome = false → qtyOf o = 0) := Lib.hid fun h => by
    cases o with
    | none => rfl
    | some y => cases h
  have HLT : Hid (o.isSome = true → L.length < len) := Lib.hid fun h1 => by rw [← hl]; exact hd.isSome_lt h1
  clear h hl hd
  generalize qtyOf o = QQ at *
  generalize o.isSome = B at *
  generalize L.length = P at *
  go_enter Try.func19, Try.ntmps19
  go_wp2
  go_loopg [11] len (fun m i wr => ∃ k : Nat, k + m = len ∧ i = .int .i64 (k : Int) ∧ Hid (B = true → k ≤ P) ∧ Hid (Below w.heap.size w wr))
  case atStart => exact ⟨0, by omega, rfl, Lib.hid (fun _ => Nat.zero_le _), Lib.hid (Below.refl _ _)⟩
  case round =>
    obtain ⟨k, hk, rfl, HK, HB⟩ := hrel
    by_cases hlt : k < len
    · obtain ⟨b, off, rfl, c0, c1, c2⟩ := atp (H.out.keep HB.out) (show k < X.length by rw [HL.out]; exact hlt)
      have hcase : Hid ((B = true ∧ k = P ∧ (X.getD k zp).acct = c ∧ (X.getD k zp).instr = d ∧ (X.getD k zp).qty = QQ) ∨ ((B = true → k + 1 ≤ P) ∧ ((X.getD k zp).acct ≠ c ∨ (X.getD k zp).instr ≠ d))) := Lib.hid (by
        rcases Nat.lt_or_ge P k with h1 | h1
        · exact .inr ⟨fun h2 => by have := HK.out h2; omega, HHI.out k hlt h1⟩
        · obtain ⟨h2, h3⟩ := HEQ.out k hlt h1
          rcases h3 with ⟨h3, h4⟩ | h3
          · exact .inl ⟨h3, h4, h2 h3 h4⟩
          · by_cases h5 : B = true ∧ k = P
            · obtain ⟨e1, e2, _⟩ := h2 h5.1 h5.2
              omega
            · exact .inr ⟨fun h6 => by have : k ≠ P := fun e => h5 ⟨h6, e⟩; omega, h3⟩)
      generalize X.getD k zp = x at *
      have i1 : (0 : Int) ≤ (k : Int) := by omega
      have i2 : (k : Int) < (len : Int) := by omega
      obtain ⟨g, hg⟩ : ∃ g, g = wr.heap.size := ⟨_, rfl⟩
      obtain ⟨W1, hW1⟩ : ∃ W1, W1 = wr.alloc (.cells #[.int .i64 x.acct, .int .i64 x.instr, .int .i64 x.qty] 48) := ⟨_, rfl⟩
      have x0 : Blk W1 g #[.int .i64 x.acct, .int .i64 x.instr, .int .i64 x.qty] 48 := by rw [hW1, hg]; exact Blk.new wr _ _
      have hb1 : Below wr.heap.size wr W1 := by rw [hW1]; exact one_alloc _ _
      have HG := Lib.hid hg; have HW1 := Lib.hid hW1; have HX0 := Lib.hid x0; have Hb1 := Lib.hid hb1
      have hsz1 : W1.heap.size = wr.heap.size + 1 := by rw [hW1]; simp
      have HSZ := Lib.hid hsz1
      clear hW1 x0 hb1 hsz1
      have d0 : W1.cell? ⟨g, 0, none⟩ = some (.int .i64 x.acct) := HX0.out.cell 0
      have d1 : W1.cell? ⟨g, 1, none⟩ = some (.int .i64 x.instr) := HX0.out.cell 1
      have d2 : W1.cell? ⟨g, 2, none⟩ = some (.int .i64 x.qty) := HX0.out.cell 2
      clear hg
      go_upto_region 4 with (fail)
      rw [← HG.out, ← HW1.out]
      have HB1 := Lib.hid (below_next HB.out Hb1.out)
      clear HEQ HHI HNO HLT
      rcases hcase.out with ⟨h1, h2, e1, e2, e3⟩ | ⟨h1, h2⟩
      · have b1 : (x.acct == c) = true := beq_iff_eq.2 e1
        have b2 : (x.instr == d) = true := beq_iff_eq.2 e2
        have HE := Lib.hid e3
        clear hcase e1 e2 e3 h1 h2
        go_wp2
        go_ret
        exact ⟨by rw [← HE.out] <;> rfl, HB1.out⟩
      · by_cases e1 : x.acct = c
        · have b1 : (x.acct == c) = true := beq_iff_eq.2 e1
          have b2 : (x.instr == d) = false := beq_eq_false_iff_ne.2 (by omega)
          have HK2 := Lib.hid h1
          clear hcase h1 h2 e1
          go_wp2
          go_roundg (len - (k + 1))
          case measure => omega
          case rel => exact ⟨k + 1, by omega, by go_num, HK2, HB1⟩
        · have b1 : (x.acct == c) = false := beq_eq_false_iff_ne.2 e1
          have HK2 := Lib.hid h1
          clear hcase h1 h2 e1
          go_wp2
          go_roundg (len - (k + 1))
          case measure => omega
          case rel => exact ⟨k + 1, by omega, by go_num, HK2, HB1⟩
    · have HE : Hid (QQ = 0) := Lib.hid (HNO.out (by
        cases hB : B with
        | false => rfl
        | true => have h1 := HK.out hB; have h2 := HLT.out hB; omega))
      go_wp2
      go_ret
      exact ⟨by rw [HE.out] <;> rfl, HB.out⟩
theorem one_alloc' {W : World} {N : Nat} {o : Obj} (h : N ≤ W.heap.size) : Below N W (W.alloc o) := (Below.refl _ _).alloc h _
set_option maxRecDepth 100000 in
set_option maxHeartbeats 16000000 in
theorem radd_any (a : Option Addr) (len cap : Nat) (X L R : List Ps) (o : Option Ps) (c d q : Int) (w : World) (h : Has encp w a X) (hl : X.length = len) (hm : len ≤ 900) (hd : Dec keyp X (c, d) L o R) (hq : ∀ y, o = some y → qtyB y.qty = true) :
    Calls Try.prog 16 #[.slice a len cap, .int .i64 c, .int .i64 d, .int .i64 q] w (AddIt X L o R c d q w) := by
  unfold AddIt
  obtain ⟨N, hN⟩ : ∃ N, N = w.heap.size := ⟨_, rfl⟩
  rw [← hN]
  have H : Hid (∀ wx, Below N w wx → Has encp wx a X) := Lib.hid fun wx hb => h.keep (by rw [← hN]; exact hb)
  have HL := Lib.hid hl; have HN := Lib.hid hN
  have hqq := fits_any q w
  by_cases hQ : qtyB q = true
  rotate_left
  · have hQf : qtyB q = false := by simpa using hQ
    have HE : Hid (addE X.length o q = 36) := Lib.hid (by simp [addE, hQf])
    have HLL : Hid (addL X L o R c d q = []) := Lib.hid (by unfold addL; rw [HE.out]; rfl)
    rw [hQf] at hqq
    rw [HE.out, HLL.out]
    clear hQ hQf h hl hd hN
    go_enter Try.func16, Try.ntmps16
    go_wp2_with (go_at_call 38; (with_reducible refine hqq.mono ?_); rintro e w5 ⟨rfl, rfl⟩)
    go_ret2
    exact ⟨_, rfl, Own.nil _ _, Below.refl _ _⟩
  rw [hQ] at hqq
  obtain ⟨q1, q2⟩ := qtyB_iff.1 hQ
  have HD := Lib.hid hd
  have HLO : Hid (∀ j, j < L.length → (X.getD j zp).acct < c ∨ ((X.getD j zp).acct = c ∧ (X.getD j zp).instr < d)) := Lib.hid fun j hj => hd.lt_lo (d := zp) hj
  have HHI : Hid (∀ j, L.length + o.toList.length ≤ j → j < len → c < (X.getD j zp).acct ∨ (c = (X.getD j zp).acct ∧ d < (X.getD j zp).instr)) := Lib.hid fun j h1 h2 => hd.lt_hi (d := zp) h1 (by rw [hl]; exact h2)
  have HAT : Hid (∀ y, o = some y → X.getD L.length zp = y ∧ y.acct = c ∧ y.instr = d) := Lib.hid fun y e => by subst e; exact hd.at_key
  have HLE : Hid (L.length ≤ len) := Lib.hid (by rw [← hl, hd.len]; omega)
  have HIS : Hid (∀ y, o = some y → L.length < len) := Lib.hid fun y e => by subst e; rw [← hl]; exact hd.isSome_lt rfl
  have hmL := HLE.out
  clear h hl hN
  go_enter Try.func16, Try.ntmps16
  go_wp2_with (go_at_call 38; (with_reducible refine hqq.mono ?_); rintro e w5 ⟨rfl, rfl⟩)
  clear hqq
  go_loopg [12, 24] len (fun m t i wr => ∃ k : Nat, k + m = len ∧ t = .bool (o.isSome && decide (L.length < k)) ∧ i = .int .i64 (k : Int) ∧ Hid (Below N w wr))
  case atStart => exact ⟨0, by omega, by simp, rfl, Lib.hid (Below.refl _ _)⟩
  case round =>
    obtain ⟨k, hk, rfl, rfl, HB⟩ := hrel
    by_cases hlt : k < len
    · obtain ⟨b, off, rfl, c0, c1, c2⟩ := atp (H.out wr HB.out) (show k < X.length by rw [HL.out]; exact hlt)
      have hcase : Hid ((((X.getD k zp).acct = c ∧ (X.getD k zp).instr = d) ∧ (o.isSome && decide (L.length < k + 1)) = true) ∨ (((X.getD k zp).acct ≠ c ∨ (X.getD k zp).instr ≠ d) ∧ (o.isSome && decide (L.length < k + 1)) = (o.isSome && decide (L.length < k)))) := Lib.hid (by
        rcases Nat.lt_trichotomy k L.length with h1 | h1 | h1
        · refine .inr ⟨by have := HLO.out k h1; omega, ?_⟩
          rw [decide_eq_false (show ¬ L.length < k + 1 by omega), decide_eq_false (show ¬ L.length < k by omega)]
        · cases o with
          | none => refine .inr ⟨by have := HHI.out k (by simp; omega) hlt; omega, by simp⟩
          | some y =>
            obtain ⟨e1, e2, e3⟩ := HAT.out y rfl
            rw [h1, e1]
            exact .inl ⟨⟨e2, e3⟩, by simp⟩
        · refine .inr ⟨by have := HHI.out k (by cases o <;> simp <;> omega) hlt; omega, ?_⟩
          rw [decide_eq_true (show L.length < k + 1 by omega), decide_eq_true h1])
      generalize X.getD k zp = x at *
      obtain ⟨T0, hT0⟩ : ∃ T0, (o.isSome && decide (L.length < k)) = T0 := ⟨_, rfl⟩
      have hcase2 := hcase.out
      rw [hT0]
      rw [hT0] at hcase2
      have hcase := Lib.hid hcase2
      clear hT0 hcase2
      have i1 : (0 : Int) ≤ (k : Int) := by omega
      have i2 : (k : Int) < (len : Int) := by omega
      have HNB := HB.out.size
      have HNW : Hid (N ≤ wr.heap.size) := Lib.hid (by rw [HN.out]; exact HNB)
      obtain ⟨g, hg⟩ : ∃ g, g = wr.heap.size := ⟨_, rfl⟩
      obtain ⟨W1, hW1⟩ : ∃ W1, W1 = wr.alloc (.cells #[.int .i64 x.acct, .int .i64 x.instr, .int .i64 x.qty] 48) := ⟨_, rfl⟩
      have x0 : Blk W1 g #[.int .i64 x.acct, .int .i64 x.instr, .int .i64 x.qty] 48 := by rw [hW1, hg]; exact Blk.new wr _ _
      have hb1 : Below wr.heap.size wr W1 := by rw [hW1]; exact one_alloc _ _
      have HG := Lib.hid hg; have HW1 := Lib.hid hW1; have HX0 := Lib.hid x0; have Hb1 := Lib.hid hb1
      have hsz1 : W1.heap.size = wr.heap.size + 1 := by rw [hW1]; simp
      have HSZ := Lib.hid hsz1
      clear hW1 x0 hb1 hsz1
      have d0 : W1.cell? ⟨g, 0, none⟩ = some (.int .i64 x.acct) := HX0.out.cell 0
      have d1 : W1.cell? ⟨g, 1, none⟩ = some (.int .i64 x.instr) := HX0.out.cell 1
      have d2 : W1.cell? ⟨g, 2, none⟩ = some (.int .i64 x.qty) := HX0.out.cell 2
      clear hg
      go_upto_region 9 with (fail)
      rw [← HG.out, ← HW1.out]
      have HB1 := Lib.hid (HB.out.trans (Hb1.out.mono HNW.out))
      rcases hcase.out with ⟨⟨e1, e2⟩, e3⟩ | ⟨e1, e3⟩
      · have b1 : (x.acct == c) = true := beq_iff_eq.2 e1
        have b2 : (x.instr == d) = true := beq_iff_eq.2 e2
        have HT1 := Lib.hid e3
        clear hcase e1 e2 e3
        go_wp2
        go_roundg (len - (k + 1))
        case measure => omega
        case rel => exact ⟨k + 1, by omega, by rw [HT1.out], by go_num, HB1⟩
      · have HT1 := Lib.hid e3
        clear e3
        by_cases e2 : x.acct = c
        · have b1 : (x.acct == c) = true := beq_iff_eq.2 e2
          have b2 : (x.instr == d) = false := beq_eq_false_iff_ne.2 (by omega)
          clear hcase e1 e2
          go_wp2
          go_roundg (len - (k + 1))
          case measure => omega
          case rel => exact ⟨k + 1, by omega, by rw [HT1.out], by go_num, HB1⟩
        · have b1 : (x.acct == c) = false := beq_eq_false_iff_ne.2 e2
          clear hcase e1 e2
          go_wp2
          go_roundg (len - (k + 1))
          case measure => omega
          case rel => exact ⟨k + 1, by omega, by rw [HT1.out], by go_num, HB1⟩
    · have hT : (o.isSome && decide (L.length < k)) = o.isSome := by
        cases o with
        | none => rfl
        | some y => simp; have := HIS.out y rfl; omega
      rw [hT]
      have HKL : Hid (k = len) := Lib.hid (by omega)
      clear hT hk hlt
      have i0 : (len : Int) ≤ (k : Int) := by have := HKL.out; omega
      obtain ⟨w1, hw1⟩ : ∃ w1, w1 = wr := ⟨_, rfl⟩
      subst hw1
      have HBa := HB
      clear HB
      go_upto_region 12 with (fail)
      try rw [show decide (k < len) = false from decide_eq_false (by have := HKL.out; omega)]
      by_cases h0 : q = 0
      · have HE : Hid (addE X.length o q = 0) := Lib.hid (by simp [addE, h0, qtyB])
        have HLL : Hid (addL X L o R c d q = X) := Lib.hid (by unfold addL; rw [HE.out, if_neg (by simp), if_pos h0])
        have b0 : (q == 0) = true := beq_iff_eq.2 h0
        clear h0
        rw [b0]
        generalize o.isSome = B at *
        clear HLO HHI HAT HLE HIS HD hd
        go_wp2
        go_loopg [10, 11, 52] len (fun m v ld i wr => ∃ j : Nat, j + m = len ∧ i = .int .i64 (j : Int) ∧ Hid (Own encp wr N v (X.take j)) ∧ ld = .bool true ∧ Hid (Below N w wr))
        case atStart => exact ⟨0, by omega, rfl, Lib.hid (Own.nil _ _), by first | rfl | rw [b0], HBa⟩
        case round =>
          obtain ⟨j, hj, rfl, HO, rfl, HB⟩ := hrel
          have HNB := HB.out.size
          have HNW : Hid (N ≤ wr.heap.size) := Lib.hid (by rw [HN.out]; exact HNB)
          by_cases hlt : j < len
          · obtain ⟨b, off, rfl, c0, c1, c2⟩ := atp (H.out wr HB.out) (show j < X.length by rw [HL.out]; exact hlt)
            have i1 : (0 : Int) ≤ (j : Int) := by omega
            have i2 : (j : Int) < (len : Int) := by omega
            have HS : Hid (X.take (j + 1) = X.take j ++ [X.getD j zp]) := Lib.hid (take_getD zp (by rw [HL.out]; exact hlt))
            have HT : Hid ((X.take j).length ≤ 900) := Lib.hid (by rw [List.length_take]; omega)
            generalize X.getD j zp = x at *
            generalize X.take j = Y at *
            obtain ⟨g, hg⟩ : ∃ g, g = wr.heap.size := ⟨_, rfl⟩
            obtain ⟨W1, hW1⟩ : ∃ W1, W1 = wr.alloc (.cells #[.int .i64 x.acct, .int .i64 x.instr, .int .i64 x.qty] 48) := ⟨_, rfl⟩
            have x0 : Blk W1 g #[.int .i64 x.acct, .int .i64 x.instr, .int .i64 x.qty] 48 := by rw [hW1, hg]; exact Blk.new wr _ _
            have hb1 : Below wr.heap.size wr W1 := by rw [hW1]; exact one_alloc _ _
            have HG := Lib.hid hg; have HW1 := Lib.hid hW1; have HX0 := Lib.hid x0; have Hb1 := Lib.hid hb1
            have hsz1 : W1.heap.size = wr.heap.size + 1 := by rw [hW1]; simp
            have HSZ := Lib.hid hsz1
            clear hW1 x0 hb1 hsz1
            have d0 : W1.cell? ⟨g, 0, none⟩ = some (.int .i64 x.acct) := HX0.out.cell 0
            have d1 : W1.cell? ⟨g, 1, none⟩ = some (.int .i64 x.instr) := HX0.out.cell 1
            have d2 : W1.cell? ⟨g, 2, none⟩ = some (.int .i64 x.qty) := HX0.out.cell 2
            clear hg
            go_upto_region 17 with (fail)
            rw [← HG.out, ← HW1.out]
            have HB1 := Lib.hid (HB.out.trans (Hb1.out.mono HNW.out))
            have HO1 := Lib.hid (HO.out.keep Hb1.out)
            have HNW1 : Hid (N ≤ W1.heap.size) := Lib.hid (by have := HSZ.out; have := HNW.out; omega)
            go_wp2_with (at_builtin; (refine wp_ap okp rfl (.tmp 122) (.tmp 124) rfl N _ Y rfl (HO1.out.keep (one_alloc _ _)) _ _ _ [x] rfl (onep _ x _ _ rfl) rfl (fun h => by cases h) (by have := HT.out; simp only [List.length_append, List.length_cons, List.length_nil, maxLen] at *; omega) (by have := HT.out; simp only [encp, List.length_append, List.length_cons, List.length_nil] at *; omega) (by rw [World.size_alloc]; exact Nat.le_trans HNW1.out (Nat.le_add_right _ 1)) ?_; intro v6 w6 ho6 hb6 hg6 hv6; have HO6 := Lib.hid ho6; have HB6 := Lib.hid ((HB1.out.trans (one_alloc' HNW1.out)).trans hb6); clear ho6 hb6 hg6 hv6))
            go_roundg (len - (j + 1))
            case measure => omega
            case rel => exact ⟨j + 1, by omega, by go_num, by rw [HS.out]; exact HO6, rfl, HB6⟩
          · have HJ : Hid (j = len) := Lib.hid (by omega)
            rw [HJ.out, ← HL.out, List.take_length] at HO
            go_wp2
            go_ret2
            refine ⟨_, by rw [HE.out] <;> rfl, ?_, HB.out⟩
            rw [HLL.out]
            exact HO.out
      have b0 : (q == 0) = false := beq_eq_false_iff_ne.2 h0
      rw [b0]
      cases o with
      | none =>
        rw [show (none : Option Ps).isSome = false from rfl]
        by_cases h64 : 64 ≤ len
        · have HE : Hid (addE X.length none q = 40) := Lib.hid (by simp [addE, h0, hQ, HL.out, h64])
          have HLL : Hid (addL X L none R c d q = []) := Lib.hid (by unfold addL; rw [HE.out]; rfl)
          skip
          have i3 : (64 : Int) ≤ (len : Int) := by omega
          clear h0
          go_wp2
          go_ret2
          refine ⟨_, by rw [HE.out] <;> rfl, ?_, HBa.out⟩
          rw [HLL.out]
          exact Own.nil _ _
        have HE : Hid (addE X.length none q = 0) := Lib.hid (by simp [addE, h0, hQ, HL.out, h64, qtyOf])
        have HLL : Hid (addL X L none R c d q = L ++ ([⟨c, d, q⟩] ++ R)) := Lib.hid (by unfold addL; rw [HE.out, if_neg (by simp), if_neg h0]; simp [addO, qtyOf, h0])
        skip
        have i3 : ¬ (64 : Int) ≤ (len : Int) := by omega
        clear h0
        go_wp2
        go_loopg [10, 11, 52] len (fun m v ld i wr => ∃ j : Nat, j + m = len ∧ i = .int .i64 (j : Int) ∧ Hid (Own encp wr N v (outS X L [⟨c, d, q⟩] 0 j)) ∧ ld = .bool (decide (L.length < j)) ∧ Hid (Below N w wr))
        case atStart => exact ⟨0, by omega, rfl, by rw [outS_zero]; exact Lib.hid (Own.nil _ _), by simp, HBa⟩
        case round =>
          obtain ⟨j, hj, rfl, HO, rfl, HB⟩ := hrel
          have HNB := HB.out.size
          have HNW : Hid (N ≤ wr.heap.size) := Lib.hid (by rw [HN.out]; exact HNB)
          by_cases hlt : j < len
          · obtain ⟨b, off, rfl, c0, c1, c2⟩ := atp (H.out wr HB.out) (show j < X.length by rw [HL.out]; exact hlt)
            have i1 : (0 : Int) ≤ (j : Int) := by omega
            have i2 : (j : Int) < (len : Int) := by omega
            obtain ⟨x, hx⟩ : ∃ x, X.getD j zp = x := ⟨_, rfl⟩
            rw [hx] at c0 c1 c2
            have HT : Hid ((outS X L [⟨c, d, q⟩] 0 j).length ≤ 901) := Lib.hid (Nat.le_trans (outS_le (by rw [HL.out]; exact HLE.out) (by simp)) (by rw [HL.out]; omega))
            obtain ⟨g, hg⟩ : ∃ g, g = wr.heap.size := ⟨_, rfl⟩
            obtain ⟨W1, hW1⟩ : ∃ W1, W1 = wr.alloc (.cells #[.int .i64 x.acct, .int .i64 x.instr, .int .i64 x.qty] 48) := ⟨_, rfl⟩
            have x0 : Blk W1 g #[.int .i64 x.acct, .int .i64 x.instr, .int .i64 x.qty] 48 := by rw [hW1, hg]; exact Blk.new wr _ _
            have hb1 : Below wr.heap.size wr W1 := by rw [hW1]; exact one_alloc _ _
            have HG := Lib.hid hg; have HW1 := Lib.hid hW1; have HX0 := Lib.hid x0; have Hb1 := Lib.hid hb1
            have hsz1 : W1.heap.size = wr.heap.size + 1 := by rw [hW1]; simp
            have HSZ := Lib.hid hsz1
            clear hW1 x0 hb1 hsz1
            have d0 : W1.cell? ⟨g, 0, none⟩ = some (.int .i64 x.acct) := HX0.out.cell 0
            have d1 : W1.cell? ⟨g, 1, none⟩ = some (.int .i64 x.instr) := HX0.out.cell 1
            have d2 : W1.cell? ⟨g, 2, none⟩ = some (.int .i64 x.qty) := HX0.out.cell 2
            clear hg
            go_upto_region 17 with (fail)
            rw [← HG.out, ← HW1.out]
            have HB1 := Lib.hid (HB.out.trans (Hb1.out.mono HNW.out))
            have HO1 := Lib.hid (HO.out.keep Hb1.out)
            have HNW1 : Hid (N ≤ W1.heap.size) := Lib.hid (by have := HSZ.out; have := HNW.out; omega)
            rcases Nat.lt_trichotomy j L.length with hjl | hjl | hjl
            · have HO2 : Hid (outS X L [⟨c, d, q⟩] 0 (j + 1) = outS X L [⟨c, d, q⟩] 0 j ++ [x]) := Lib.hid (by rw [← hx]; exact outS_lo zp hjl (by rw [HL.out]; exact hlt))
              have hkey := HLO.out j hjl
              rw [hx] at hkey
              have HLD : Hid (decide (L.length < j + 1) = false) := Lib.hid (decide_eq_false (by omega))
              have hld : decide (L.length < j) = false := decide_eq_false (by omega)
              rw [hld]
              generalize outS X L [⟨c, d, q⟩] 0 j = Y at *
              clear hld hx
              rcases hkey with e1 | ⟨e1, e2⟩
              · have b1 : (x.acct == c) = false := beq_eq_false_iff_ne.2 (by omega)
                have g1 : ¬ c < x.acct := by omega
                clear e1
                go_wp2_with (at_builtin; (refine wp_ap okp rfl (.tmp 122) (.tmp 124) rfl N _ Y rfl (HO1.out.keep (one_alloc _ _)) _ _ _ [x] rfl (onep _ x _ _ rfl) rfl (fun h => by cases h) (by have := HT.out; simp only [List.length_append, List.length_cons, List.length_nil, maxLen] at *; omega) (by have := HT.out; simp only [encp, List.length_append, List.length_cons, List.length_nil] at *; omega) (by rw [World.size_alloc]; exact Nat.le_trans HNW1.out (Nat.le_add_right _ 1)) ?_; intro v6 w6 ho6 hb6 hg6 hv6; have HO6 := Lib.hid ho6; have HB6 := Lib.hid ((HB1.out.trans (one_alloc' HNW1.out)).trans hb6); clear ho6 hb6 hg6 hv6))
                go_roundg (len - (j + 1))
                case measure => omega
                case rel => exact ⟨j + 1, by omega, by go_num, by rw [HO2.out]; exact HO6, by rw [HLD.out], HB6⟩
              · have b1 : (x.acct == c) = true := beq_iff_eq.2 e1
                have b2 : (x.instr == d) = false := beq_eq_false_iff_ne.2 (by omega)
                have g1 : ¬ c < x.acct := by omega
                have g2 : ¬ d < x.instr := by omega
                clear e1 e2
                go_wp2_with (at_builtin; (refine wp_ap okp rfl (.tmp 122) (.tmp 124) rfl N _ Y rfl (HO1.out.keep (one_alloc _ _)) _ _ _ [x] rfl (onep _ x _ _ rfl) rfl (fun h => by cases h) (by have := HT.out; simp only [List.length_append, List.length_cons, List.length_nil, maxLen] at *; omega) (by have := HT.out; simp only [encp, List.length_append, List.length_cons, List.length_nil] at *; omega) (by rw [World.size_alloc]; exact Nat.le_trans HNW1.out (Nat.le_add_right _ 1)) ?_; intro v6 w6 ho6 hb6 hg6 hv6; have HO6 := Lib.hid ho6; have HB6 := Lib.hid ((HB1.out.trans (one_alloc' HNW1.out)).trans hb6); clear ho6 hb6 hg6 hv6))
                go_roundg (len - (j + 1))
                case measure => omega
                case rel => exact ⟨j + 1, by omega, by go_num, by rw [HO2.out]; exact HO6, by rw [HLD.out], HB6⟩
            · have HO2 : Hid (outS X L [⟨c, d, q⟩] 0 (j + 1) = (outS X L [⟨c, d, q⟩] 0 j ++ [⟨c, d, q⟩]) ++ [x]) := Lib.hid (by
                have hX : X = L ++ R := HD.out.eq
                have hlx : L.length < X.length := by rw [HL.out, ← hjl]; exact hlt
                have t1 := outS_mid0 (A := [(⟨c, d, q⟩ : Ps)]) zp hX hlx
                have t2 := outS_at (A := [(⟨c, d, q⟩ : Ps)]) (ol := 0) (O := []) (R := R) hX
                rw [← hjl] at t1 t2
                rw [t1, t2, hx, List.append_assoc])
              have hkey := HHI.out j (by show L.length + 0 ≤ j; omega) hlt
              rw [hx] at hkey
              have HLD : Hid (decide (L.length < j + 1) = true) := Lib.hid (decide_eq_true (by omega))
              have hld : decide (L.length < j) = false := decide_eq_false (by omega)
              rw [hld]
              generalize outS X L [⟨c, d, q⟩] 0 j = Y at *
              clear hld hx
              rcases hkey with e1 | ⟨e1, e2⟩
              · have b1 : (x.acct == c) = false := beq_eq_false_iff_ne.2 (by omega)
                clear hjl
                go_wp2_with (first | (at_builtin; (refine wp_ap okp rfl (.tmp 115) (.tmp 120) rfl N _ Y rfl (HO1.out.keep (one_alloc _ _)) _ _ _ [⟨c, d, q⟩] rfl (onep _ ⟨c, d, q⟩ _ _ rfl) rfl (fun h => by cases h) (by have := HT.out; simp only [List.length_append, List.length_cons, List.length_nil, maxLen] at *; omega) (by have := HT.out; simp only [encp, List.length_append, List.length_cons, List.length_nil] at *; omega) (by rw [World.size_alloc]; exact Nat.le_trans HNW1.out (Nat.le_add_right _ 1)) ?_; intro v5 w5 ho5 hb5 hg5 hv5; have HO5 := Lib.hid ho5; have HB5 := Lib.hid ((HB1.out.trans (one_alloc' HNW1.out)).trans hb5); have HX5 := Lib.hid ((HX0.out.keep (one_alloc _ _)).gone hg5 (fun e => by have := (HO.out.lt e).2; have := HG.out; omega)); have HNW5 : Hid (N ≤ w5.heap.size) := Lib.hid (by have := HB5.out.size; rw [HN.out]; exact this); clear ho5 hb5 hg5 hv5 d0 d1 d2; obtain ⟨d0, d1, d2⟩ := (⟨HX5.out.cell 0, HX5.out.cell 1, HX5.out.cell 2⟩ : w5.cell? ⟨g, 0, none⟩ = some (.int .i64 x.acct) ∧ w5.cell? ⟨g, 1, none⟩ = some (.int .i64 x.instr) ∧ w5.cell? ⟨g, 2, none⟩ = some (.int .i64 x.qty)))) | (at_builtin; (refine wp_ap okp rfl (.tmp 122) (.tmp 124) rfl N _ (Y ++ [⟨c, d, q⟩]) rfl (HO5.out.keep (one_alloc _ _)) _ _ _ [x] rfl (onep _ x _ _ rfl) rfl (fun h => by cases h) (by have := HT.out; simp only [List.length_append, List.length_cons, List.length_nil, maxLen] at *; omega) (by have := HT.out; simp only [encp, List.length_append, List.length_cons, List.length_nil] at *; omega) (by rw [World.size_alloc]; exact Nat.le_trans HNW5.out (Nat.le_add_right _ 1)) ?_; intro v6 w6 ho6 hb6 hg6 hv6; have HO6 := Lib.hid ho6; have HB6 := Lib.hid ((HB5.out.trans (one_alloc' HNW5.out)).trans hb6); clear ho6 hb6 hg6 hv6)))
                go_roundg (len - (j + 1))
                case measure => omega
                case rel => exact ⟨j + 1, by omega, by go_num, by rw [HO2.out]; exact HO6, by rw [HLD.out], HB6⟩
              · have b1 : (x.acct == c) = true := beq_iff_eq.2 e1.symm
                have b2 : (x.instr == d) = false := beq_eq_false_iff_ne.2 (by omega)
                have g1 : ¬ c < x.acct := by omega
                clear hjl e1
                go_wp2_with (first | (at_builtin; (refine wp_ap okp rfl (.tmp 115) (.tmp 120) rfl N _ Y rfl (HO1.out.keep (one_alloc _ _)) _ _ _ [⟨c, d, q⟩] rfl (onep _ ⟨c, d, q⟩ _ _ rfl) rfl (fun h => by cases h) (by have := HT.out; simp only [List.length_append, List.length_cons, List.length_nil, maxLen] at *; omega) (by have := HT.out; simp only [encp, List.length_append, List.length_cons, List.length_nil] at *; omega) (by rw [World.size_alloc]; exact Nat.le_trans HNW1.out (Nat.le_add_right _ 1)) ?_; intro v5 w5 ho5 hb5 hg5 hv5; have HO5 := Lib.hid ho5; have HB5 := Lib.hid ((HB1.out.trans (one_alloc' HNW1.out)).trans hb5); have HX5 := Lib.hid ((HX0.out.keep (one_alloc _ _)).gone hg5 (fun e => by have := (HO.out.lt e).2; have := HG.out; omega)); have HNW5 : Hid (N ≤ w5.heap.size) := Lib.hid (by have := HB5.out.size; rw [HN.out]; exact this); clear ho5 hb5 hg5 hv5 d0 d1 d2; obtain ⟨d0, d1, d2⟩ := (⟨HX5.out.cell 0, HX5.out.cell 1, HX5.out.cell 2⟩ : w5.cell? ⟨g, 0, none⟩ = some (.int .i64 x.acct) ∧ w5.cell? ⟨g, 1, none⟩ = some (.int .i64 x.instr) ∧ w5.cell? ⟨g, 2, none⟩ = some (.int .i64 x.qty)))) | (at_builtin; (refine wp_ap okp rfl (.tmp 122) (.tmp 124) rfl N _ (Y ++ [⟨c, d, q⟩]) rfl (HO5.out.keep (one_alloc _ _)) _ _ _ [x] rfl (onep _ x _ _ rfl) rfl (fun h => by cases h) (by have := HT.out; simp only [List.length_append, List.length_cons, List.length_nil, maxLen] at *; omega) (by have := HT.out; simp only [encp, List.length_append, List.length_cons, List.length_nil] at *; omega) (by rw [World.size_alloc]; exact Nat.le_trans HNW5.out (Nat.le_add_right _ 1)) ?_; intro v6 w6 ho6 hb6 hg6 hv6; have HO6 := Lib.hid ho6; have HB6 := Lib.hid ((HB5.out.trans (one_alloc' HNW5.out)).trans hb6); clear ho6 hb6 hg6 hv6)))
                go_roundg (len - (j + 1))
                case measure => omega
                case rel => exact ⟨j + 1, by omega, by go_num, by rw [HO2.out]; exact HO6, by rw [HLD.out], HB6⟩
            · have HO2 : Hid (outS X L [⟨c, d, q⟩] 0 (j + 1) = outS X L [⟨c, d, q⟩] 0 j ++ [x]) := Lib.hid (by rw [← hx]; exact outS_hi zp hjl (by omega) (by rw [HL.out]; exact hlt))
              have HLD : Hid (decide (L.length < j + 1) = true) := Lib.hid (decide_eq_true (by omega))
              have hld : decide (L.length < j) = true := decide_eq_true hjl
              rw [hld]
              generalize outS X L [⟨c, d, q⟩] 0 j = Y at *
              clear hld hx hjl
              go_wp2_with (at_builtin; (refine wp_ap okp rfl (.tmp 122) (.tmp 124) rfl N _ Y rfl (HO1.out.keep (one_alloc _ _)) _ _ _ [x] rfl (onep _ x _ _ rfl) rfl (fun h => by cases h) (by have := HT.out; simp only [List.length_append, List.length_cons, List.length_nil, maxLen] at *; omega) (by have := HT.out; simp only [encp, List.length_append, List.length_cons, List.length_nil] at *; omega) (by rw [World.size_alloc]; exact Nat.le_trans HNW1.out (Nat.le_add_right _ 1)) ?_; intro v6 w6 ho6 hb6 hg6 hv6; have HO6 := Lib.hid ho6; have HB6 := Lib.hid ((HB1.out.trans (one_alloc' HNW1.out)).trans hb6); clear ho6 hb6 hg6 hv6))
              go_roundg (len - (j + 1))
              case measure => omega
              case rel => exact ⟨j + 1, by omega, by go_num, by rw [HO2.out]; exact HO6, by rw [HLD.out], HB6⟩
          · have HJ : Hid (j = len) := Lib.hid (by omega)
            rw [HJ.out]
            rw [HJ.out] at HO
            have hX : X = L ++ R := HD.out.eq
            by_cases hR : L.length < len
            · have hend := outS_end (A := [(⟨c, d, q⟩ : Ps)]) (O := []) (R := R) hX (by rw [HL.out]; exact hR)
              rw [HL.out] at hend
              rw [show ([] : List Ps).length = 0 from rfl] at hend
              rw [hend] at HO
              rw [decide_eq_true hR]
              clear hend hX hR
              go_wp2
              go_ret2
              refine ⟨_, by rw [HE.out] <;> rfl, ?_, HB.out⟩
              rw [HLL.out]
              exact HO.out
            · have hR0 : R = [] := List.eq_nil_of_length_eq_zero (by have := HL.out; rw [hX, List.length_append] at this; omega)
              have hend : outS X L [⟨c, d, q⟩] 0 len = X := by unfold outS; rw [if_pos (by omega), ← HL.out, List.take_length]
              rw [hend] at HO
              rw [decide_eq_false hR]
              have HF : Hid (L ++ ([⟨c, d, q⟩] ++ R) = X ++ [⟨c, d, q⟩]) := Lib.hid (by rw [hX, hR0]; simp)
              have HT : Hid (X.length ≤ 900) := Lib.hid (by rw [HL.out]; exact hm)
              clear hend hX hR hR0
              go_wp2_with (at_builtin; (refine wp_ap okp rfl (.tmp 129) (.tmp 134) rfl N _ X rfl (HO.out.keep (one_alloc _ _)) _ _ _ [⟨c, d, q⟩] rfl (onep _ ⟨c, d, q⟩ _ _ rfl) rfl (fun h => by cases h) (by have := HT.out; simp only [List.length_append, List.length_cons, List.length_nil, maxLen] at *; omega) (by have := HT.out; simp only [encp, List.length_append, List.length_cons, List.length_nil] at *; omega) (by rw [World.size_alloc]; exact Nat.le_trans HNW.out (Nat.le_add_right _ 1)) ?_; intro v6 w6 ho6 hb6 hg6 hv6; have HO6 := Lib.hid ho6; have HB6 := Lib.hid ((HB.out.trans (one_alloc' HNW.out)).trans hb6); clear ho6 hb6 hg6 hv6))
              go_ret2
              refine ⟨_, by rw [HE.out] <;> rfl, ?_, HB6.out⟩
              rw [HLL.out, HF.out]
              exact HO6.out
      | some y =>
        rw [show (some y : Option Ps).isSome = true from rfl]
        obtain ⟨y1, y2⟩ := qtyB_iff.1 (hq y rfl)
        obtain ⟨t, ht⟩ : ∃ t, y.qty + q = t := ⟨_, rfl⟩
        have i2t : IntKind.i64.wrap (y.qty + q) = t := by rw [← ht]; exact IntWalk.i64_in _ (by omega)
        have hqt := fun w => fits_any t w
        by_cases hT : qtyB t = true
        rotate_left
        · have hTf : qtyB t = false := by simpa using hT
          have HE : Hid (addE X.length (some y) q = 36) := Lib.hid (by simp [addE, h0, hQ, qtyOf, ht, hTf])
          have HLL : Hid (addL X L (some y) R c d q = []) := Lib.hid (by unfold addL; rw [HE.out]; rfl)
          skip
          simp only [hTf] at hqt
          obtain ⟨AA, hAA⟩ : ∃ AA : List Ps, AA = [] := ⟨_, rfl⟩
          have HA1 : Hid (AA.length ≤ 1) := Lib.hid (by rw [hAA]; simp)
          clear h0 hT hTf ht hAA
          go_wp2
          go_loopg [10, 11, 52] len (fun m v ld i wr => ∃ j : Nat, j + m = len ∧ i = .int .i64 (j : Int) ∧ Hid (Own encp wr N v (outS X L AA 1 j)) ∧ ld = .bool false ∧ Hid (j ≤ L.length) ∧ Hid (Below N w wr))
          case atStart => exact ⟨0, by omega, rfl, by rw [outS_zero]; exact Lib.hid (Own.nil _ _), rfl, Lib.hid (Nat.zero_le _), HBa⟩
          case round =>
            obtain ⟨j, hj, rfl, HO, rfl, HJL, HB⟩ := hrel
            have HNB := HB.out.size
            have HNW : Hid (N ≤ wr.heap.size) := Lib.hid (by rw [HN.out]; exact HNB)
            have hlt : j < len := Nat.lt_of_le_of_lt HJL.out (HIS.out y rfl)
            obtain ⟨b, off, rfl, c0, c1, c2⟩ := atp (H.out wr HB.out) (show j < X.length by rw [HL.out]; exact hlt)
            have i1 : (0 : Int) ≤ (j : Int) := by omega
            have i2 : (j : Int) < (len : Int) := by omega
            obtain ⟨x, hx⟩ : ∃ x, X.getD j zp = x := ⟨_, rfl⟩
            rw [hx] at c0 c1 c2
            have HT : Hid ((outS X L AA 1 j).length ≤ 901) := Lib.hid (Nat.le_trans (outS_le (by rw [HL.out]; exact HLE.out) HA1.out) (by rw [HL.out]; omega))
            obtain ⟨g, hg⟩ : ∃ g, g = wr.heap.size := ⟨_, rfl⟩
            obtain ⟨W1, hW1⟩ : ∃ W1, W1 = wr.alloc (.cells #[.int .i64 x.acct, .int .i64 x.instr, .int .i64 x.qty] 48) := ⟨_, rfl⟩
            have x0 : Blk W1 g #[.int .i64 x.acct, .int .i64 x.instr, .int .i64 x.qty] 48 := by rw [hW1, hg]; exact Blk.new wr _ _
            have hb1 : Below wr.heap.size wr W1 := by rw [hW1]; exact one_alloc _ _
            have HG := Lib.hid hg; have HW1 := Lib.hid hW1; have HX0 := Lib.hid x0; have Hb1 := Lib.hid hb1
            have hsz1 : W1.heap.size = wr.heap.size + 1 := by rw [hW1]; simp
            have HSZ := Lib.hid hsz1
            clear hW1 x0 hb1 hsz1
            have d0 : W1.cell? ⟨g, 0, none⟩ = some (.int .i64 x.acct) := HX0.out.cell 0
            have d1 : W1.cell? ⟨g, 1, none⟩ = some (.int .i64 x.instr) := HX0.out.cell 1
            have d2 : W1.cell? ⟨g, 2, none⟩ = some (.int .i64 x.qty) := HX0.out.cell 2
            clear hg
            go_upto_region 17 with (fail)
            rw [← HG.out, ← HW1.out]
            have HB1 := Lib.hid (HB.out.trans (Hb1.out.mono HNW.out))
            have HO1 := Lib.hid (HO.out.keep Hb1.out)
            have HNW1 : Hid (N ≤ W1.heap.size) := Lib.hid (by have := HSZ.out; have := HNW.out; omega)
            rcases Nat.lt_or_ge j L.length with hjl | hjl
            · have HO2 : Hid (outS X L AA 1 (j + 1) = outS X L AA 1 j ++ [x]) := Lib.hid (by rw [← hx]; exact outS_lo zp hjl (by rw [HL.out]; exact hlt))
              have hkey := HLO.out j hjl
              rw [hx] at hkey
              have HJ2 : Hid (j + 1 ≤ L.length) := Lib.hid hjl
              generalize outS X L AA 1 j = Y at *
              clear hx
              rcases hkey with e1 | ⟨e1, e2⟩
              · have b1 : (x.acct == c) = false := beq_eq_false_iff_ne.2 (by omega)
                have g1 : ¬ c < x.acct := by omega
                clear e1
                go_wp2_with (at_builtin; (refine wp_ap okp rfl (.tmp 122) (.tmp 124) rfl N _ Y rfl (HO1.out.keep (one_alloc _ _)) _ _ _ [x] rfl (onep _ x _ _ rfl) rfl (fun h => by cases h) (by have := HT.out; simp only [List.length_append, List.length_cons, List.length_nil, maxLen] at *; omega) (by have := HT.out; simp only [encp, List.length_append, List.length_cons, List.length_nil] at *; omega) (by rw [World.size_alloc]; exact Nat.le_trans HNW1.out (Nat.le_add_right _ 1)) ?_; intro v6 w6 ho6 hb6 hg6 hv6; have HO6 := Lib.hid ho6; have HB6 := Lib.hid ((HB1.out.trans (one_alloc' HNW1.out)).trans hb6); clear ho6 hb6 hg6 hv6))
                go_roundg (len - (j + 1))
                case measure => omega
                case rel => exact ⟨j + 1, by omega, by go_num, by rw [HO2.out]; exact HO6, rfl, HJ2, HB6⟩
              · have b1 : (x.acct == c) = true := beq_iff_eq.2 e1
                have b2 : (x.instr == d) = false := beq_eq_false_iff_ne.2 (by omega)
                have g1 : ¬ c < x.acct := by omega
                clear e1 e2
                go_wp2_with (at_builtin; (refine wp_ap okp rfl (.tmp 122) (.tmp 124) rfl N _ Y rfl (HO1.out.keep (one_alloc _ _)) _ _ _ [x] rfl (onep _ x _ _ rfl) rfl (fun h => by cases h) (by have := HT.out; simp only [List.length_append, List.length_cons, List.length_nil, maxLen] at *; omega) (by have := HT.out; simp only [encp, List.length_append, List.length_cons, List.length_nil] at *; omega) (by rw [World.size_alloc]; exact Nat.le_trans HNW1.out (Nat.le_add_right _ 1)) ?_; intro v6 w6 ho6 hb6 hg6 hv6; have HO6 := Lib.hid ho6; have HB6 := Lib.hid ((HB1.out.trans (one_alloc' HNW1.out)).trans hb6); clear ho6 hb6 hg6 hv6))
                go_roundg (len - (j + 1))
                case measure => omega
                case rel => exact ⟨j + 1, by omega, by go_num, by rw [HO2.out]; exact HO6, rfl, HJ2, HB6⟩
            · obtain rfl : j = L.length := Nat.le_antisymm HJL.out hjl
              obtain ⟨e0, e1, e2⟩ := HAT.out y rfl
              rw [hx] at e0
              subst e0
              have b1 : (x.acct == c) = true := beq_iff_eq.2 e1
              have b2 : (x.instr == d) = true := beq_iff_eq.2 e2
              clear hx e1 e2
              go_wp2_with (go_at_call 38; (with_reducible refine (hqt _).mono ?_); rintro e w5 ⟨rfl, rfl⟩)
              go_ret2
              refine ⟨_, by rw [HE.out] <;> rfl, ?_, HB1.out⟩
              rw [HLL.out]
              exact Own.nil _ _
        simp only [hT] at hqt
        by_cases ht0 : t = 0
        · have HE : Hid (addE X.length (some y) q = 0) := Lib.hid (by simp [addE, h0, hQ, qtyOf, ht, hT])
          have HLL : Hid (addL X L (some y) R c d q = L ++ ([] ++ R)) := Lib.hid (by unfold addL; rw [HE.out, if_neg (by simp), if_neg h0]; simp [addO, qtyOf, ht, ht0])
          skip
          obtain ⟨AA, hAA⟩ : ∃ AA : List Ps, AA = [] := ⟨_, rfl⟩
          have HA1 : Hid (AA.length ≤ 1) := Lib.hid (by rw [hAA]; simp)
          have HAA := Lib.hid hAA
          subst ht0
          clear h0 hT ht hAA
          go_wp2
          go_loopg [10, 11, 52] len (fun m v ld i wr => ∃ j : Nat, j + m = len ∧ i = .int .i64 (j : Int) ∧ Hid (Own encp wr N v (outS X L AA 1 j)) ∧ ld = .bool (decide (L.length < j)) ∧ Hid (Below N w wr))
          case atStart => exact ⟨0, by omega, rfl, by rw [outS_zero]; exact Lib.hid (Own.nil _ _), by simp, HBa⟩
          case round =>
            obtain ⟨j, hj, rfl, HO, rfl, HB⟩ := hrel
            have HNB := HB.out.size
            have HNW : Hid (N ≤ wr.heap.size) := Lib.hid (by rw [HN.out]; exact HNB)
            by_cases hlt : j < len
            · obtain ⟨b, off, rfl, c0, c1, c2⟩ := atp (H.out wr HB.out) (show j < X.length by rw [HL.out]; exact hlt)
              have i1 : (0 : Int) ≤ (j : Int) := by omega
              have i2 : (j : Int) < (len : Int) := by omega
              obtain ⟨x, hx⟩ : ∃ x, X.getD j zp = x := ⟨_, rfl⟩
              rw [hx] at c0 c1 c2
              have HT : Hid ((outS X L AA 1 j).length ≤ 901) := Lib.hid (Nat.le_trans (outS_le (by rw [HL.out]; exact HLE.out) HA1.out) (by rw [HL.out]; omega))
              obtain ⟨g, hg⟩ : ∃ g, g = wr.heap.size := ⟨_, rfl⟩
              obtain ⟨W1, hW1⟩ : ∃ W1, W1 = wr.alloc (.cells #[.int .i64 x.acct, .int .i64 x.instr, .int .i64 x.qty] 48) := ⟨_, rfl⟩
              have x0 : Blk W1 g #[.int .i64 x.acct, .int .i64 x.instr, .int .i64 x.qty] 48 := by rw [hW1, hg]; exact Blk.new wr _ _
              have hb1 : Below wr.heap.size wr W1 := by rw [hW1]; exact one_alloc _ _
              have HG := Lib.hid hg; have HW1 := Lib.hid hW1; have HX0 := Lib.hid x0; have Hb1 := Lib.hid hb1
              have hsz1 : W1.heap.size = wr.heap.size + 1 := by rw [hW1]; simp
              have HSZ := Lib.hid hsz1
              clear hW1 x0 hb1 hsz1
              have d0 : W1.cell? ⟨g, 0, none⟩ = some (.int .i64 x.acct) := HX0.out.cell 0
              have d1 : W1.cell? ⟨g, 1, none⟩ = some (.int .i64 x.instr) := HX0.out.cell 1
              have d2 : W1.cell? ⟨g, 2, none⟩ = some (.int .i64 x.qty) := HX0.out.cell 2
              clear hg
              go_upto_region 17 with (fail)
              rw [← HG.out, ← HW1.out]
              have HB1 := Lib.hid (HB.out.trans (Hb1.out.mono HNW.out))
              have HO1 := Lib.hid (HO.out.keep Hb1.out)
              have HNW1 : Hid (N ≤ W1.heap.size) := Lib.hid (by have := HSZ.out; have := HNW.out; omega)
              rcases Nat.lt_trichotomy j L.length with hjl | hjl | hjl
              · have HO2 : Hid (outS X L AA 1 (j + 1) = outS X L AA 1 j ++ [x]) := Lib.hid (by rw [← hx]; exact outS_lo zp hjl (by rw [HL.out]; exact hlt))
                have hkey := HLO.out j hjl
                rw [hx] at hkey
                have HLD : Hid (decide (L.length < j + 1) = false) := Lib.hid (decide_eq_false (by omega))
                have hld : decide (L.length < j) = false := decide_eq_false (by omega)
                rw [hld]
                generalize outS X L AA 1 j = Y at *
                clear hld hx
                rcases hkey with e1 | ⟨e1, e2⟩
                · have b1 : (x.acct == c) = false := beq_eq_false_iff_ne.2 (by omega)
                  have g1 : ¬ c < x.acct := by omega
                  clear e1
                  go_wp2_with (at_builtin; (refine wp_ap okp rfl (.tmp 122) (.tmp 124) rfl N _ Y rfl (HO1.out.keep (one_alloc _ _)) _ _ _ [x] rfl (onep _ x _ _ rfl) rfl (fun h => by cases h) (by have := HT.out; simp only [List.length_append, List.length_cons, List.length_nil, maxLen] at *; omega) (by have := HT.out; simp only [encp, List.length_append, List.length_cons, List.length_nil] at *; omega) (by rw [World.size_alloc]; exact Nat.le_trans HNW1.out (Nat.le_add_right _ 1)) ?_; intro v6 w6 ho6 hb6 hg6 hv6; have HO6 := Lib.hid ho6; have HB6 := Lib.hid ((HB1.out.trans (one_alloc' HNW1.out)).trans hb6); clear ho6 hb6 hg6 hv6))
                  go_roundg (len - (j + 1))
                  case measure => omega
                  case rel => exact ⟨j + 1, by omega, by go_num, by rw [HO2.out]; exact HO6, by rw [HLD.out], HB6⟩
                · have b1 : (x.acct == c) = true := beq_iff_eq.2 e1
                  have b2 : (x.instr == d) = false := beq_eq_false_iff_ne.2 (by omega)
                  have g1 : ¬ c < x.acct := by omega
                  clear e1 e2
                  go_wp2_with (at_builtin; (refine wp_ap okp rfl (.tmp 122) (.tmp 124) rfl N _ Y rfl (HO1.out.keep (one_alloc _ _)) _ _ _ [x] rfl (onep _ x _ _ rfl) rfl (fun h => by cases h) (by have := HT.out; simp only [List.length_append, List.length_cons, List.length_nil, maxLen] at *; omega) (by have := HT.out; simp only [encp, List.length_append, List.length_cons, List.length_nil] at *; omega) (by rw [World.size_alloc]; exact Nat.le_trans HNW1.out (Nat.le_add_right _ 1)) ?_; intro v6 w6 ho6 hb6 hg6 hv6; have HO6 := Lib.hid ho6; have HB6 := Lib.hid ((HB1.out.trans (one_alloc' HNW1.out)).trans hb6); clear ho6 hb6 hg6 hv6))
                  go_roundg (len - (j + 1))
                  case measure => omega
                  case rel => exact ⟨j + 1, by omega, by go_num, by rw [HO2.out]; exact HO6, by rw [HLD.out], HB6⟩
              · have HO2 : Hid (outS X L AA 1 (j + 1) = outS X L AA 1 j ++ AA) := Lib.hid (by
                  have hX : X = L ++ (y :: R) := HD.out.eq
                  have t1 := outS_mid1 (A := AA) hX
                  have t2 := outS_at (A := AA) (ol := 1) (O := [y]) (R := R) hX
                  rw [← hjl] at t1 t2
                  rw [t1, t2])
                obtain ⟨e0, e1, e2⟩ := HAT.out y rfl
                rw [← hjl, hx] at e0
                subst e0
                have HLD : Hid (decide (L.length < j + 1) = true) := Lib.hid (decide_eq_true (by omega))
                have hld : decide (L.length < j) = false := decide_eq_false (by omega)
                rw [hld]
                generalize outS X L AA 1 j = Y at *
                have b1 : (x.acct == c) = true := beq_iff_eq.2 e1
                have b2 : (x.instr == d) = true := beq_iff_eq.2 e2
                clear hld hx hjl e1 e2
                go_wp2_with (go_at_call 38; (with_reducible refine (hqt _).mono ?_); rintro e w5 ⟨rfl, rfl⟩)
                go_roundg (len - (j + 1))
                case measure => omega
                case rel => exact ⟨j + 1, by omega, by go_num, by rw [HO2.out, HAA.out, List.append_nil]; exact HO1, by rw [HLD.out], HB1⟩
              · have HO2 : Hid (outS X L AA 1 (j + 1) = outS X L AA 1 j ++ [x]) := Lib.hid (by rw [← hx]; exact outS_hi zp hjl (by omega) (by rw [HL.out]; exact hlt))
                have HLD : Hid (decide (L.length < j + 1) = true) := Lib.hid (decide_eq_true (by omega))
                have hld : decide (L.length < j) = true := decide_eq_true hjl
                rw [hld]
                generalize outS X L AA 1 j = Y at *
                clear hld hx hjl
                go_wp2_with (at_builtin; (refine wp_ap okp rfl (.tmp 122) (.tmp 124) rfl N _ Y rfl (HO1.out.keep (one_alloc _ _)) _ _ _ [x] rfl (onep _ x _ _ rfl) rfl (fun h => by cases h) (by have := HT.out; simp only [List.length_append, List.length_cons, List.length_nil, maxLen] at *; omega) (by have := HT.out; simp only [encp, List.length_append, List.length_cons, List.length_nil] at *; omega) (by rw [World.size_alloc]; exact Nat.le_trans HNW1.out (Nat.le_add_right _ 1)) ?_; intro v6 w6 ho6 hb6 hg6 hv6; have HO6 := Lib.hid ho6; have HB6 := Lib.hid ((HB1.out.trans (one_alloc' HNW1.out)).trans hb6); clear ho6 hb6 hg6 hv6))
                go_roundg (len - (j + 1))
                case measure => omega
                case rel => exact ⟨j + 1, by omega, by go_num, by rw [HO2.out]; exact HO6, by rw [HLD.out], HB6⟩
            · have HJ : Hid (j = len) := Lib.hid (by omega)
              rw [HJ.out]
              rw [HJ.out] at HO
              have hend := outS_end (A := AA) (O := [y]) (R := R) HD.out.eq (by rw [HL.out]; exact HIS.out y rfl)
              rw [HL.out] at hend
              rw [show ([y] : List Ps).length = 1 from rfl] at hend
              rw [hend, HAA.out] at HO
              rw [decide_eq_true (HIS.out y rfl)]
              clear hend
              go_wp2
              go_ret2
              refine ⟨_, by rw [HE.out] <;> rfl, ?_, HB.out⟩
              rw [HLL.out]
              exact HO.out
        · have HE : Hid (addE X.length (some y) q = 0) := Lib.hid (by simp [addE, h0, hQ, qtyOf, ht, hT])
          have HLL : Hid (addL X L (some y) R c d q = L ++ ([⟨c, d, t⟩] ++ R)) := Lib.hid (by unfold addL; rw [HE.out, if_neg (by simp), if_neg h0]; simp [addO, qtyOf, ht, ht0])
          skip
          have bt : (t == 0) = false := beq_eq_false_iff_ne.2 ht0
          obtain ⟨AA, hAA⟩ : ∃ AA : List Ps, AA = [⟨c, d, t⟩] := ⟨_, rfl⟩
          have HA1 : Hid (AA.length ≤ 1) := Lib.hid (by rw [hAA]; simp)
          have HAA := Lib.hid hAA
          clear h0 hT ht hAA ht0
          go_wp2
          go_loopg [10, 11, 52] len (fun m v ld i wr => ∃ j : Nat, j + m = len ∧ i = .int .i64 (j : Int) ∧ Hid (Own encp wr N v (outS X L AA 1 j)) ∧ ld = .bool (decide (L.length < j)) ∧ Hid (Below N w wr))
          case atStart => exact ⟨0, by omega, rfl, by rw [outS_zero]; exact Lib.hid (Own.nil _ _), by simp, HBa⟩
          case round =>
            obtain ⟨j, hj, rfl, HO, rfl, HB⟩ := hrel
            have HNB := HB.out.size
            have HNW : Hid (N ≤ wr.heap.size) := Lib.hid (by rw [HN.out]; exact HNB)
            by_cases hlt : j < len
            · obtain ⟨b, off, rfl, c0, c1, c2⟩ := atp (H.out wr HB.out) (show j < X.length by rw [HL.out]; exact hlt)
              have i1 : (0 : Int) ≤ (j : Int) := by omega
              have i2 : (j : Int) < (len : Int) := by omega
              obtain ⟨x, hx⟩ : ∃ x, X.getD j zp = x := ⟨_, rfl⟩
              rw [hx] at c0 c1 c2
              have HT : Hid ((outS X L AA 1 j).length ≤ 901) := Lib.hid (Nat.le_trans (outS_le (by rw [HL.out]; exact HLE.out) HA1.out) (by rw [HL.out]; omega))
              obtain ⟨g, hg⟩ : ∃ g, g = wr.heap.size := ⟨_, rfl⟩
              obtain ⟨W1, hW1⟩ : ∃ W1, W1 = wr.alloc (.cells #[.int .i64 x.acct, .int .i64 x.instr, .int .i64 x.qty] 48) := ⟨_, rfl⟩
              have x0 : Blk W1 g #[.int .i64 x.acct, .int .i64 x.instr, .int .i64 x.qty] 48 := by rw [hW1, hg]; exact Blk.new wr _ _
              have hb1 : Below wr.heap.size wr W1 := by rw [hW1]; exact one_alloc _ _
              have HG := Lib.hid hg; have HW1 := Lib.hid hW1; have HX0 := Lib.hid x0; have Hb1 := Lib.hid hb1
              have hsz1 : W1.heap.size = wr.heap.size + 1 := by rw [hW1]; simp
              have HSZ := Lib.hid hsz1
              clear hW1 x0 hb1 hsz1
              have d0 : W1.cell? ⟨g, 0, none⟩ = some (.int .i64 x.acct) := HX0.out.cell 0
              have d1 : W1.cell? ⟨g, 1, none⟩ = some (.int .i64 x.instr) := HX0.out.cell 1
              have d2 : W1.cell? ⟨g, 2, none⟩ = some (.int .i64 x.qty) := HX0.out.cell 2
              clear hg
              go_upto_region 17 with (fail)
              rw [← HG.out, ← HW1.out]
              have HB1 := Lib.hid (HB.out.trans (Hb1.out.mono HNW.out))
              have HO1 := Lib.hid (HO.out.keep Hb1.out)
              have HNW1 : Hid (N ≤ W1.heap.size) := Lib.hid (by have := HSZ.out; have := HNW.out; omega)
              rcases Nat.lt_trichotomy j L.length with hjl | hjl | hjl
              · have HO2 : Hid (outS X L AA 1 (j + 1) = outS X L AA 1 j ++ [x]) := Lib.hid (by rw [← hx]; exact outS_lo zp hjl (by rw [HL.out]; exact hlt))
                have hkey := HLO.out j hjl
                rw [hx] at hkey
                have HLD : Hid (decide (L.length < j + 1) = false) := Lib.hid (decide_eq_false (by omega))
                have hld : decide (L.length < j) = false := decide_eq_false (by omega)
                rw [hld]
                generalize outS X L AA 1 j = Y at *
                clear hld hx
                rcases hkey with e1 | ⟨e1, e2⟩
                · have b1 : (x.acct == c) = false := beq_eq_false_iff_ne.2 (by omega)
                  have g1 : ¬ c < x.acct := by omega
                  clear e1
                  go_wp2_with (at_builtin; (refine wp_ap okp rfl (.tmp 122) (.tmp 124) rfl N _ Y rfl (HO1.out.keep (one_alloc _ _)) _ _ _ [x] rfl (onep _ x _ _ rfl) rfl (fun h => by cases h) (by have := HT.out; simp only [List.length_append, List.length_cons, List.length_nil, maxLen] at *; omega) (by have := HT.out; simp only [encp, List.length_append, List.length_cons, List.length_nil] at *; omega) (by rw [World.size_alloc]; exact Nat.le_trans HNW1.out (Nat.le_add_right _ 1)) ?_; intro v6 w6 ho6 hb6 hg6 hv6; have HO6 := Lib.hid ho6; have HB6 := Lib.hid ((HB1.out.trans (one_alloc' HNW1.out)).trans hb6); clear ho6 hb6 hg6 hv6))
                  go_roundg (len - (j + 1))
                  case measure => omega
                  case rel => exact ⟨j + 1, by omega, by go_num, by rw [HO2.out]; exact HO6, by rw [HLD.out], HB6⟩
                · have b1 : (x.acct == c) = true := beq_iff_eq.2 e1
                  have b2 : (x.instr == d) = false := beq_eq_false_iff_ne.2 (by omega)
                  have g1 : ¬ c < x.acct := by omega
                  clear e1 e2
                  go_wp2_with (at_builtin; (refine wp_ap okp rfl (.tmp 122) (.tmp 124) rfl N _ Y rfl (HO1.out.keep (one_alloc _ _)) _ _ _ [x] rfl (onep _ x _ _ rfl) rfl (fun h => by cases h) (by have := HT.out; simp only [List.length_append, List.length_cons, List.length_nil, maxLen] at *; omega) (by have := HT.out; simp only [encp, List.length_append, List.length_cons, List.length_nil] at *; omega) (by rw [World.size_alloc]; exact Nat.le_trans HNW1.out (Nat.le_add_right _ 1)) ?_; intro v6 w6 ho6 hb6 hg6 hv6; have HO6 := Lib.hid ho6; have HB6 := Lib.hid ((HB1.out.trans (one_alloc' HNW1.out)).trans hb6); clear ho6 hb6 hg6 hv6))
                  go_roundg (len - (j + 1))
                  case measure => omega
                  case rel => exact ⟨j + 1, by omega, by go_num, by rw [HO2.out]; exact HO6, by rw [HLD.out], HB6⟩
              · have HO2 : Hid (outS X L AA 1 (j + 1) = outS X L AA 1 j ++ AA) := Lib.hid (by
                  have hX : X = L ++ (y :: R) := HD.out.eq
                  have t1 := outS_mid1 (A := AA) hX
                  have t2 := outS_at (A := AA) (ol := 1) (O := [y]) (R := R) hX
                  rw [← hjl] at t1 t2
                  rw [t1, t2])
                obtain ⟨e0, e1, e2⟩ := HAT.out y rfl
                rw [← hjl, hx] at e0
                subst e0
                have HLD : Hid (decide (L.length < j + 1) = true) := Lib.hid (decide_eq_true (by omega))
                have hld : decide (L.length < j) = false := decide_eq_false (by omega)
                rw [hld]
                generalize outS X L AA 1 j = Y at *
                have b1 : (x.acct == c) = true := beq_iff_eq.2 e1
                have b2 : (x.instr == d) = true := beq_iff_eq.2 e2
                clear hld hx hjl e1 e2
                go_wp2_with (first | (go_at_call 38; (with_reducible refine (hqt _).mono ?_); rintro e w5 ⟨rfl, rfl⟩) | (at_builtin; (refine wp_ap okp rfl (.tmp 81) (.tmp 89) rfl N _ Y rfl (HO1.out.keep (one_alloc _ _)) _ _ _ [⟨c, d, t⟩] rfl (onep _ ⟨c, d, t⟩ _ _ rfl) rfl (fun h => by cases h) (by have := HT.out; simp only [List.length_append, List.length_cons, List.length_nil, maxLen] at *; omega) (by have := HT.out; simp only [encp, List.length_append, List.length_cons, List.length_nil] at *; omega) (by rw [World.size_alloc]; exact Nat.le_trans HNW1.out (Nat.le_add_right _ 1)) ?_; intro v6 w6 ho6 hb6 hg6 hv6; have HO6 := Lib.hid ho6; have HB6 := Lib.hid ((HB1.out.trans (one_alloc' HNW1.out)).trans hb6); clear ho6 hb6 hg6 hv6)))
                go_roundg (len - (j + 1))
                case measure => omega
                case rel => exact ⟨j + 1, by omega, by go_num, by rw [HO2.out, HAA.out]; exact HO6, by rw [HLD.out], HB6⟩
              · have HO2 : Hid (outS X L AA 1 (j + 1) = outS X L AA 1 j ++ [x]) := Lib.hid (by rw [← hx]; exact outS_hi zp hjl (by omega) (by rw [HL.out]; exact hlt))
                have HLD : Hid (decide (L.length < j + 1) = true) := Lib.hid (decide_eq_true (by omega))
                have hld : decide (L.length < j) = true := decide_eq_true hjl
                rw [hld]
                generalize outS X L AA 1 j = Y at *
                clear hld hx hjl
                go_wp2_with (at_builtin; (refine wp_ap okp rfl (.tmp 122) (.tmp 124) rfl N _ Y rfl (HO1.out.keep (one_alloc _ _)) _ _ _ [x] rfl (onep _ x _ _ rfl) rfl (fun h => by cases h) (by have := HT.out; simp only [List.length_append, List.length_cons, List.length_nil, maxLen] at *; omega) (by have := HT.out; simp only [encp, List.length_append, List.length_cons, List.length_nil] at *; omega) (by rw [World.size_alloc]; exact Nat.le_trans HNW1.out (Nat.le_add_right _ 1)) ?_; intro v6 w6 ho6 hb6 hg6 hv6; have HO6 := Lib.hid ho6; have HB6 := Lib.hid ((HB1.out.trans (one_alloc' HNW1.out)).trans hb6); clear ho6 hb6 hg6 hv6))
                go_roundg (len - (j + 1))
                case measure => omega
                case rel => exact ⟨j + 1, by omega, by go_num, by rw [HO2.out]; exact HO6, by rw [HLD.out], HB6⟩
            · have HJ : Hid (j = len) := Lib.hid (by omega)
              rw [HJ.out]
              rw [HJ.out] at HO
              have hend := outS_end (A := AA) (O := [y]) (R := R) HD.out.eq (by rw [HL.out]; exact HIS.out y rfl)
              rw [HL.out] at hend
              rw [show ([y] : List Ps).length = 1 from rfl] at hend
              rw [hend, HAA.out] at HO
              rw [decide_eq_true (HIS.out y rfl)]
              clear hend
              go_wp2
              go_ret2
              refine ⟨_, by rw [HE.out] <;> rfl, ?_, HB.out⟩
              rw [HLL.out]
              exact HO.out
end Go.Proofs.Ytpagkeklilgknaa.Bo

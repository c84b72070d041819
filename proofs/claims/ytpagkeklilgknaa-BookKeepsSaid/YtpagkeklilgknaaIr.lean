/-
  Layer 13: orders: the reference's Put and Cut. (Written by gen_ir.py.)
-/
import Derived.Test.YtpagkeklilgknaaIn
namespace Go.Proofs.Ytpagkeklilgknaa.Bo
open Go.RowKit Rw
set_option linter.unusedVariables false
set_option linter.unusedSimpArgs false

theorem one_alloc' {W : World} {N : Nat} {o : Obj} (h : N ≤ W.heap.size) : Below N W (W.alloc o) := (Below.refl _ _).alloc h _
set_option maxRecDepth 100000 in
set_option maxHeartbeats 16000000 in
theorem rput_any (a : Option Addr) (len cap : Nat) (x : Od) (X L R : List Od) (o : Option Od) (w : World) (h : Has enco w a X) (hl : X.length = len) (hm : len ≤ 900) (hd : Dec keyo X (x.acct, x.id) L o R) :
    Calls Try.prog 22 #[.slice a len cap, .agg #[.int .i64 x.acct, .int .i64 x.id, .int .i64 x.instr, .int .i64 x.qty, .int .i64 x.price]] w (PutIt len L o R x w) := by
  unfold PutIt
  obtain ⟨N, hN⟩ : ∃ N, N = w.heap.size := ⟨_, rfl⟩
  obtain ⟨W0, hW0⟩ : ∃ W0, W0 = w.alloc (.cells #[.int .i64 x.acct, .int .i64 x.id, .int .i64 x.instr, .int .i64 x.qty, .int .i64 x.price] 37) := ⟨_, rfl⟩
  have x0 : Blk W0 N #[.int .i64 x.acct, .int .i64 x.id, .int .i64 x.instr, .int .i64 x.qty, .int .i64 x.price] 37 := by rw [hW0, hN]; exact Blk.new w _ _
  have hb : Below w.heap.size w W0 := by rw [hW0]; exact one_alloc _ _
  obtain ⟨M, hM⟩ : ∃ M, M = W0.heap.size := ⟨_, rfl⟩
  have KS : Hid (∀ wx, Below M W0 wx → wx.cell? ⟨N, 0, none⟩ = some (.int .i64 x.acct) ∧ wx.cell? ⟨N, 1, none⟩ = some (.int .i64 x.id) ∧ wx.cell? ⟨N, 2, none⟩ = some (.int .i64 x.instr) ∧ wx.cell? ⟨N, 3, none⟩ = some (.int .i64 x.qty) ∧ wx.cell? ⟨N, 4, none⟩ = some (.int .i64 x.price)) :=
    Lib.hid fun wx hb => by
      rw [hM] at hb
      exact ⟨(x0.keep hb).cell 0, (x0.keep hb).cell 1, (x0.keep hb).cell 2, (x0.keep hb).cell 3, (x0.keep hb).cell 4⟩
  have HB0 := Lib.hid hb; have HN := Lib.hid hN; have HW := Lib.hid hW0; have HM := Lib.hid hM
  have hp := rfind_any a len cap X L R o x.acct x.id W0 (h.keep hb) hl hd
  rw [← HM.out] at hp
  have H : Hid (∀ wx, Below M W0 wx → Has enco wx a X) := Lib.hid fun wx hb2 => (h.keep hb).keep (by rw [← hM]; exact hb2)
  have HL := Lib.hid hl
  obtain ⟨c0, c1, c2, c3, c4⟩ := KS.out W0 (Below.refl _ _)
  have HLOW : Hid (∀ v w' Y, Own enco w' M v Y → Below M W0 w' → Own enco w' w.heap.size v Y ∧ Below w.heap.size w w') := Lib.hid fun v w' Y h1 h2 => ⟨h1.low (by rw [hM]; exact hb.size), below_next hb (by rw [← hM]; exact h2)⟩
  cases o with
  | some y =>
    have HE : Hid (putE len (some y) = 35) := Lib.hid rfl
    have HLL : Hid (putL len L (some y) R x = []) := Lib.hid rfl
    have HF : Hid (findI L (some y) = (L.length : Int)) := Lib.hid rfl
    rw [HE.out, HLL.out]
    rw [HF.out] at hp
    clear h hl hd x0 hb hN hW0 hM
    generalize L.length = k at *
    have i0 : (0 : Int) ≤ (k : Int) := by omega
    go_enter Try.func22, Try.ntmps22
    go_upto_region 1 with (fail)
    rw [← HN.out, ← HW.out]
    go_wp2_with (go_at_call 25; (with_reducible refine hp.mono ?_); rintro e w5 ⟨rfl, hb5⟩)
    go_ret2
    exact ⟨_, rfl, Own.nil _ _, (HLOW.out _ _ _ (Own.nil _ _) hb5).2⟩
  | none =>
    have HF : Hid (findI L none = -1) := Lib.hid rfl
    rw [HF.out] at hp
    by_cases h32 : 32 ≤ len
    · have HE : Hid (putE len none = 40) := Lib.hid (by simp [putE, h32])
      have HLL : Hid (putL len L none R x = []) := Lib.hid (by unfold putL; rw [HE.out]; rfl)
      rw [HE.out, HLL.out]
      have i0 : (32 : Int) ≤ (len : Int) := by omega
      clear h hl hd x0 hb hN hW0 hM
      go_enter Try.func22, Try.ntmps22
      go_upto_region 1 with (fail)
      rw [← HN.out, ← HW.out]
      go_wp2_with (go_at_call 25; (with_reducible refine hp.mono ?_); rintro e w5 ⟨rfl, hb5⟩)
      go_ret2
      exact ⟨_, rfl, Own.nil _ _, (HLOW.out _ _ _ (Own.nil _ _) hb5).2⟩
    have HE : Hid (putE len none = 0) := Lib.hid (by simp [putE, h32])
    have HLL : Hid (putL len L none R x = L ++ ([x] ++ R)) := Lib.hid (by unfold putL; rw [HE.out, if_pos rfl])
    rw [HE.out, HLL.out]
    have i0 : ¬ (32 : Int) ≤ (len : Int) := by omega
    have HD := Lib.hid hd
    have HLO : Hid (∀ j, j < L.length → (X.getD j zo).acct < x.acct ∨ ((X.getD j zo).acct = x.acct ∧ (X.getD j zo).id < x.id)) := Lib.hid fun j hj => hd.lt_lo (d := zo) hj
    have HHI : Hid (∀ j, L.length ≤ j → j < len → x.acct < (X.getD j zo).acct ∨ (x.acct = (X.getD j zo).acct ∧ x.id < (X.getD j zo).id)) := Lib.hid fun j h1 h2 => hd.lt_hi (d := zo) h1 (by rw [hl]; exact h2)
    have HLE : Hid (L.length ≤ len) := Lib.hid (by rw [← hl, hd.len]; omega)
    clear h hl hd x0 hb hN hW0 hM HE HLL
    go_enter Try.func22, Try.ntmps22
    go_upto_region 1 with (fail)
    rw [← HN.out, ← HW.out]
    go_wp2_with (go_at_call 25; (with_reducible refine hp.mono ?_); rintro e w5 ⟨rfl, hb5⟩; have HBa := Lib.hid hb5; clear hb5 c0 c1 c2 c3 c4)
    go_loopg [6, 7, 22] len (fun m v ld i wr => ∃ j : Nat, j + m = len ∧ i = .int .i64 (j : Int) ∧ Hid (Own enco wr M v (outS X L [x] 0 j)) ∧ ld = .bool (decide (L.length < j)) ∧ Hid (Below M W0 wr))
    case atStart => exact ⟨0, by omega, rfl, by rw [outS_zero]; exact Lib.hid (Own.nil _ _), by simp, HBa⟩
    case round =>
      obtain ⟨j, hj, rfl, HO, rfl, HB⟩ := hrel
      have HNB := HB.out.size
      have HNW : Hid (M ≤ wr.heap.size) := Lib.hid (by rw [HM.out]; exact HNB)
      by_cases hlt : j < len
      · obtain ⟨b, off, rfl, c0, c1, c2, c3, c4⟩ := ato (H.out wr HB.out) (show j < X.length by rw [HL.out]; exact hlt)
        have i1 : (0 : Int) ≤ (j : Int) := by omega
        have i2 : (j : Int) < (len : Int) := by omega
        obtain ⟨e, hx⟩ : ∃ e, X.getD j zo = e := ⟨_, rfl⟩
        rw [hx] at c0 c1 c2 c3 c4
        have HT : Hid ((outS X L [x] 0 j).length ≤ 901) := Lib.hid (Nat.le_trans (outS_le (by rw [HL.out]; exact HLE.out) (by simp)) (by rw [HL.out]; omega))
        obtain ⟨g, hg⟩ : ∃ g, g = wr.heap.size := ⟨_, rfl⟩
        obtain ⟨W1, hW1⟩ : ∃ W1, W1 = wr.alloc (.cells #[.int .i64 e.acct, .int .i64 e.id, .int .i64 e.instr, .int .i64 e.qty, .int .i64 e.price] 37) := ⟨_, rfl⟩
        have e0 : Blk W1 g #[.int .i64 e.acct, .int .i64 e.id, .int .i64 e.instr, .int .i64 e.qty, .int .i64 e.price] 37 := by rw [hW1, hg]; exact Blk.new wr _ _
        have hb1 : Below wr.heap.size wr W1 := by rw [hW1]; exact one_alloc _ _
        have HG := Lib.hid hg; have HW1 := Lib.hid hW1; have HX0 := Lib.hid e0; have Hb1 := Lib.hid hb1
        have hsz1 : W1.heap.size = wr.heap.size + 1 := by rw [hW1]; simp
        have HSZ := Lib.hid hsz1
        clear hW1 e0 hb1 hsz1
        obtain ⟨d0, d1, d2, d3, d4⟩ := (⟨HX0.out.cell 0, HX0.out.cell 1, HX0.out.cell 2, HX0.out.cell 3, HX0.out.cell 4⟩ : W1.cell? ⟨g, 0, none⟩ = some (.int .i64 e.acct) ∧ W1.cell? ⟨g, 1, none⟩ = some (.int .i64 e.id) ∧ W1.cell? ⟨g, 2, none⟩ = some (.int .i64 e.instr) ∧ W1.cell? ⟨g, 3, none⟩ = some (.int .i64 e.qty) ∧ W1.cell? ⟨g, 4, none⟩ = some (.int .i64 e.price))
        clear hg
        have HB1 := Lib.hid (HB.out.trans (Hb1.out.mono HNW.out))
        have HO1 := Lib.hid (HO.out.keep Hb1.out)
        have HNW1 : Hid (M ≤ W1.heap.size) := Lib.hid (by have := HSZ.out; have := HNW.out; omega)
        obtain ⟨f0, f1, f2, f3, f4⟩ := KS.out W1 HB1.out
        go_upto_region 10 with (fail)
        rw [← HG.out, ← HW1.out]
        clear c0 c1 c2 c3 c4
        rcases Nat.lt_trichotomy j L.length with hjl | hjl | hjl
        · have HO2 : Hid (outS X L [x] 0 (j + 1) = outS X L [x] 0 j ++ [e]) := Lib.hid (by rw [← hx]; exact outS_lo zo hjl (by rw [HL.out]; exact hlt))
          have hkey := HLO.out j hjl
          rw [hx] at hkey
          have HLD : Hid (decide (L.length < j + 1) = false) := Lib.hid (decide_eq_false (by omega))
          have hld : decide (L.length < j) = false := decide_eq_false (by omega)
          rw [hld]
          generalize outS X L [x] 0 j = Y at *
          clear hld hx
          rcases hkey with e1 | ⟨e1, e2⟩
          · have b1 : (e.acct == x.acct) = false := beq_eq_false_iff_ne.2 (by omega)
            have g1 : ¬ x.acct < e.acct := by omega
            clear e1
            go_wp2_with (at_builtin; (refine wp_ap oko rfl (.tmp 53) (.tmp 55) rfl M _ Y rfl (HO1.out.keep (one_alloc _ _)) _ _ _ [e] rfl (oneo _ e _ _ rfl) rfl (fun h => by cases h) (by have := HT.out; simp only [List.length_append, List.length_cons, List.length_nil, maxLen] at *; omega) (by have := HT.out; simp only [enco, List.length_append, List.length_cons, List.length_nil] at *; omega) (by rw [World.size_alloc]; exact Nat.le_trans HNW1.out (Nat.le_add_right _ 1)) ?_; intro v6 w6 ho6 hb6 hg6 hv6; have HO6 := Lib.hid ho6; have HB6 := Lib.hid ((HB1.out.trans (one_alloc' HNW1.out)).trans hb6); clear ho6 hb6 hg6 hv6))
            go_roundg (len - (j + 1))
            case measure => omega
            case rel => exact ⟨j + 1, by omega, by go_num, by rw [HO2.out]; exact HO6, by rw [HLD.out], HB6⟩
          · have b1 : (e.acct == x.acct) = true := beq_iff_eq.2 e1
            have g1 : ¬ x.acct < e.acct := by omega
            have g2 : ¬ x.id < e.id := by omega
            clear e1 e2
            go_wp2_with (at_builtin; (refine wp_ap oko rfl (.tmp 53) (.tmp 55) rfl M _ Y rfl (HO1.out.keep (one_alloc _ _)) _ _ _ [e] rfl (oneo _ e _ _ rfl) rfl (fun h => by cases h) (by have := HT.out; simp only [List.length_append, List.length_cons, List.length_nil, maxLen] at *; omega) (by have := HT.out; simp only [enco, List.length_append, List.length_cons, List.length_nil] at *; omega) (by rw [World.size_alloc]; exact Nat.le_trans HNW1.out (Nat.le_add_right _ 1)) ?_; intro v6 w6 ho6 hb6 hg6 hv6; have HO6 := Lib.hid ho6; have HB6 := Lib.hid ((HB1.out.trans (one_alloc' HNW1.out)).trans hb6); clear ho6 hb6 hg6 hv6))
            go_roundg (len - (j + 1))
            case measure => omega
            case rel => exact ⟨j + 1, by omega, by go_num, by rw [HO2.out]; exact HO6, by rw [HLD.out], HB6⟩
        · have HO2 : Hid (outS X L [x] 0 (j + 1) = (outS X L [x] 0 j ++ [x]) ++ [e]) := Lib.hid (by
            have hX : X = L ++ R := HD.out.eq
            have hlx : L.length < X.length := by rw [HL.out, ← hjl]; exact hlt
            have t1 := outS_mid0 (A := [x]) zo hX hlx
            have t2 := outS_at (A := [x]) (ol := 0) (O := []) (R := R) hX
            rw [← hjl] at t1 t2
            rw [t1, t2, hx, List.append_assoc])
          have hkey := HHI.out j (by omega) hlt
          rw [hx] at hkey
          have HLD : Hid (decide (L.length < j + 1) = true) := Lib.hid (decide_eq_true (by omega))
          have hld : decide (L.length < j) = false := decide_eq_false (by omega)
          rw [hld]
          generalize outS X L [x] 0 j = Y at *
          clear hld hx
          rcases hkey with e1 | ⟨e1, e2⟩
          · clear hjl
            go_wp2_with (first | (at_builtin; (refine wp_ap oko rfl (.tmp 49) (.tmp 51) rfl M _ Y rfl (HO1.out.keep (one_alloc _ _)) _ _ _ [x] rfl (oneo _ x _ _ rfl) rfl (fun h => by cases h) (by have := HT.out; simp only [List.length_append, List.length_cons, List.length_nil, maxLen] at *; omega) (by have := HT.out; simp only [enco, List.length_append, List.length_cons, List.length_nil] at *; omega) (by rw [World.size_alloc]; exact Nat.le_trans HNW1.out (Nat.le_add_right _ 1)) ?_; intro v5 w5 ho5 hb5 hg5 hv5; have HO5 := Lib.hid ho5; have HB5 := Lib.hid ((HB1.out.trans (one_alloc' HNW1.out)).trans hb5); have HX5 := Lib.hid ((HX0.out.keep (one_alloc _ _)).gone hg5 (fun e => by have := (HO.out.lt e).2; have := HG.out; omega)); have HNW5 : Hid (M ≤ w5.heap.size) := Lib.hid (by have := HB5.out.size; rw [HM.out]; exact this); clear ho5 hb5 hg5 hv5 d0 d1 d2 d3 d4; obtain ⟨d0, d1, d2, d3, d4⟩ := (⟨HX5.out.cell 0, HX5.out.cell 1, HX5.out.cell 2, HX5.out.cell 3, HX5.out.cell 4⟩ : w5.cell? ⟨g, 0, none⟩ = some (.int .i64 e.acct) ∧ w5.cell? ⟨g, 1, none⟩ = some (.int .i64 e.id) ∧ w5.cell? ⟨g, 2, none⟩ = some (.int .i64 e.instr) ∧ w5.cell? ⟨g, 3, none⟩ = some (.int .i64 e.qty) ∧ w5.cell? ⟨g, 4, none⟩ = some (.int .i64 e.price)))) | (at_builtin; (refine wp_ap oko rfl (.tmp 53) (.tmp 55) rfl M _ (Y ++ [x]) rfl (HO5.out.keep (one_alloc _ _)) _ _ _ [e] rfl (oneo _ e _ _ rfl) rfl (fun h => by cases h) (by have := HT.out; simp only [List.length_append, List.length_cons, List.length_nil, maxLen] at *; omega) (by have := HT.out; simp only [enco, List.length_append, List.length_cons, List.length_nil] at *; omega) (by rw [World.size_alloc]; exact Nat.le_trans HNW5.out (Nat.le_add_right _ 1)) ?_; intro v6 w6 ho6 hb6 hg6 hv6; have HO6 := Lib.hid ho6; have HB6 := Lib.hid ((HB5.out.trans (one_alloc' HNW5.out)).trans hb6); clear ho6 hb6 hg6 hv6)))
            go_roundg (len - (j + 1))
            case measure => omega
            case rel => exact ⟨j + 1, by omega, by go_num, by rw [HO2.out]; exact HO6, by rw [HLD.out], HB6⟩
          · have b1 : (e.acct == x.acct) = true := beq_iff_eq.2 e1.symm
            have g1 : ¬ x.acct < e.acct := by omega
            clear hjl e1
            go_wp2_with (first | (at_builtin; (refine wp_ap oko rfl (.tmp 49) (.tmp 51) rfl M _ Y rfl (HO1.out.keep (one_alloc _ _)) _ _ _ [x] rfl (oneo _ x _ _ rfl) rfl (fun h => by cases h) (by have := HT.out; simp only [List.length_append, List.length_cons, List.length_nil, maxLen] at *; omega) (by have := HT.out; simp only [enco, List.length_append, List.length_cons, List.length_nil] at *; omega) (by rw [World.size_alloc]; exact Nat.le_trans HNW1.out (Nat.le_add_right _ 1)) ?_; intro v5 w5 ho5 hb5 hg5 hv5; have HO5 := Lib.hid ho5; have HB5 := Lib.hid ((HB1.out.trans (one_alloc' HNW1.out)).trans hb5); have HX5 := Lib.hid ((HX0.out.keep (one_alloc _ _)).gone hg5 (fun e => by have := (HO.out.lt e).2; have := HG.out; omega)); have HNW5 : Hid (M ≤ w5.heap.size) := Lib.hid (by have := HB5.out.size; rw [HM.out]; exact this); clear ho5 hb5 hg5 hv5 d0 d1 d2 d3 d4; obtain ⟨d0, d1, d2, d3, d4⟩ := (⟨HX5.out.cell 0, HX5.out.cell 1, HX5.out.cell 2, HX5.out.cell 3, HX5.out.cell 4⟩ : w5.cell? ⟨g, 0, none⟩ = some (.int .i64 e.acct) ∧ w5.cell? ⟨g, 1, none⟩ = some (.int .i64 e.id) ∧ w5.cell? ⟨g, 2, none⟩ = some (.int .i64 e.instr) ∧ w5.cell? ⟨g, 3, none⟩ = some (.int .i64 e.qty) ∧ w5.cell? ⟨g, 4, none⟩ = some (.int .i64 e.price)))) | (at_builtin; (refine wp_ap oko rfl (.tmp 53) (.tmp 55) rfl M _ (Y ++ [x]) rfl (HO5.out.keep (one_alloc _ _)) _ _ _ [e] rfl (oneo _ e _ _ rfl) rfl (fun h => by cases h) (by have := HT.out; simp only [List.length_append, List.length_cons, List.length_nil, maxLen] at *; omega) (by have := HT.out; simp only [enco, List.length_append, List.length_cons, List.length_nil] at *; omega) (by rw [World.size_alloc]; exact Nat.le_trans HNW5.out (Nat.le_add_right _ 1)) ?_; intro v6 w6 ho6 hb6 hg6 hv6; have HO6 := Lib.hid ho6; have HB6 := Lib.hid ((HB5.out.trans (one_alloc' HNW5.out)).trans hb6); clear ho6 hb6 hg6 hv6)))
            go_roundg (len - (j + 1))
            case measure => omega
            case rel => exact ⟨j + 1, by omega, by go_num, by rw [HO2.out]; exact HO6, by rw [HLD.out], HB6⟩
        · have HO2 : Hid (outS X L [x] 0 (j + 1) = outS X L [x] 0 j ++ [e]) := Lib.hid (by rw [← hx]; exact outS_hi zo hjl (by omega) (by rw [HL.out]; exact hlt))
          have HLD : Hid (decide (L.length < j + 1) = true) := Lib.hid (decide_eq_true (by omega))
          have hld : decide (L.length < j) = true := decide_eq_true hjl
          rw [hld]
          generalize outS X L [x] 0 j = Y at *
          clear hld hx hjl
          go_wp2_with (at_builtin; (refine wp_ap oko rfl (.tmp 53) (.tmp 55) rfl M _ Y rfl (HO1.out.keep (one_alloc _ _)) _ _ _ [e] rfl (oneo _ e _ _ rfl) rfl (fun h => by cases h) (by have := HT.out; simp only [List.length_append, List.length_cons, List.length_nil, maxLen] at *; omega) (by have := HT.out; simp only [enco, List.length_append, List.length_cons, List.length_nil] at *; omega) (by rw [World.size_alloc]; exact Nat.le_trans HNW1.out (Nat.le_add_right _ 1)) ?_; intro v6 w6 ho6 hb6 hg6 hv6; have HO6 := Lib.hid ho6; have HB6 := Lib.hid ((HB1.out.trans (one_alloc' HNW1.out)).trans hb6); clear ho6 hb6 hg6 hv6))
          go_roundg (len - (j + 1))
          case measure => omega
          case rel => exact ⟨j + 1, by omega, by go_num, by rw [HO2.out]; exact HO6, by rw [HLD.out], HB6⟩
      · have HJ : Hid (j = len) := Lib.hid (by omega)
        rw [HJ.out]
        rw [HJ.out] at HO
        obtain ⟨f0, f1, f2, f3, f4⟩ := KS.out wr HB.out
        have hX : X = L ++ R := HD.out.eq
        by_cases hR : L.length < len
        · have hend := outS_end (A := [x]) (O := []) (R := R) hX (by rw [HL.out]; exact hR)
          rw [HL.out] at hend
          rw [show ([] : List Od).length = 0 from rfl] at hend
          rw [hend] at HO
          rw [decide_eq_true hR]
          clear hend hX hR
          go_wp2
          go_ret2
          exact ⟨_, rfl, (HLOW.out _ _ _ HO.out HB.out).1, (HLOW.out _ _ _ HO.out HB.out).2⟩
        · have hR0 : R = [] := List.eq_nil_of_length_eq_zero (by have := HL.out; rw [hX, List.length_append] at this; omega)
          have hend : outS X L [x] 0 len = X := by unfold outS; rw [if_pos (by omega), ← HL.out, List.take_length]
          rw [hend] at HO
          rw [decide_eq_false hR]
          have HFF : Hid (L ++ ([x] ++ R) = X ++ [x]) := Lib.hid (by rw [hX, hR0]; simp)
          have HT : Hid (X.length ≤ 900) := Lib.hid (by rw [HL.out]; exact hm)
          clear hend hX hR hR0
          go_wp2_with (at_builtin; (refine wp_ap oko rfl (.tmp 60) (.tmp 62) rfl M _ X rfl (HO.out.keep (one_alloc _ _)) _ _ _ [x] rfl (oneo _ x _ _ rfl) rfl (fun h => by cases h) (by have := HT.out; simp only [List.length_append, List.length_cons, List.length_nil, maxLen] at *; omega) (by have := HT.out; simp only [enco, List.length_append, List.length_cons, List.length_nil] at *; omega) (by rw [World.size_alloc]; exact Nat.le_trans HNW.out (Nat.le_add_right _ 1)) ?_; intro v6 w6 ho6 hb6 hg6 hv6; have HO6 := Lib.hid ho6; have HB6 := Lib.hid ((HB.out.trans (one_alloc' HNW.out)).trans hb6); clear ho6 hb6 hg6 hv6))
          go_ret2
          refine ⟨_, rfl, ?_, (HLOW.out _ _ _ HO6.out HB6.out).2⟩
          have h9 := (HLOW.out _ _ _ HO6.out HB6.out).1
          rw [← HFF.out] at h9
          exact h9
set_option maxRecDepth 100000 in
set_option maxHeartbeats 8000000 in
theorem rcut_any (a : Option Addr) (len cap : Nat) (X L R : List Od) (o : Option Od) (c d q : Int) (w : World) (h : Has enco w a X) (hl : X.length = len) (hlc : len ≤ cap) (hm : len ≤ 900) (hcm : cap ≤ 9223372036854775807) (hd : Dec keyo X (c, d) L o R) (hq : ∀ y, o = some y → qtyB y.qty = true) (hqb : -9223372036854775808 ≤ q ∧ q ≤ 9223372036854775807) :
    Calls Try.prog 29 #[.slice a len cap, .int .i64 c, .int .i64 d, .int .i64 q] w (CutIt L o R q w) := by
  unfold CutIt
  have hp := rfind_any a len cap X L R o c d w h hl hd
  have H := Lib.hid h
  cases o with
  | none =>
    have HE : Hid (cutE none q = 34) := Lib.hid rfl
    have HL : Hid (cutL L none R q = []) := Lib.hid rfl
    have HNN : Hid (cutN none q = 0) := Lib.hid rfl
    have HF : Hid (findI L none = -1) := Lib.hid rfl
    rw [HE.out, HL.out, HNN.out]
    rw [HF.out] at hp
    clear h hl hd
    go_enter Try.func29, Try.ntmps29
    go_wp2_with (go_at_call 25; (with_reducible refine hp.mono ?_); rintro e w5 ⟨rfl, hb5⟩)
    go_ret3
    exact ⟨_, rfl, Own.nil _ _, hb5⟩
  | some y =>
    have HF : Hid (findI L (some y) = (L.length : Int)) := Lib.hid rfl
    rw [HF.out] at hp
    have hX : X = L ++ (y :: R) := hd.eq
    have hlt : L.length < X.length := hd.isSome_lt rfl
    have hg : X.getD L.length zo = y := by rw [hX]; exact getD_mid' _ _ _ _
    obtain ⟨k, hk⟩ : ∃ k, k = L.length := ⟨_, rfl⟩
    rw [← hk] at hp hlt hg
    have i0 : (0 : Int) ≤ (k : Int) := by omega
    have i1 : (k : Int) < (len : Int) := by omega
    have hqy := hq y rfl
    obtain ⟨y1, y2⟩ := qtyB_iff.1 hqy
    obtain ⟨s1, s2⟩ := absS_bd hqy
    have HA := Lib.hid fun w => rabs_any y.qty w hqy
    have HC : Hid (∀ wx, Below w.heap.size w wx → ∃ b off, a = some ⟨b, off, none⟩ ∧ wx.cell? ⟨b, off + k * 5 + 3, none⟩ = some (.int .i64 y.qty)) := Lib.hid fun wx hb => by
      obtain ⟨b, off, e, _, _, _, c3, _⟩ := ato (H.out.keep hb) hlt
      rw [hg] at c3
      exact ⟨b, off, e, c3⟩
    obtain ⟨b, off, rfl, _⟩ := HC.out w (Below.refl _ _)
    obtain ⟨lf, hlf⟩ : ∃ lf, IntKind.i64.wrap (absS y.qty - q) = lf := ⟨_, rfl⟩
    by_cases hr : 1 ≤ q ∧ q ≤ absS y.qty
    rotate_left
    · have HE : Hid (cutE (some y) q = 36) := Lib.hid (by simp only [cutE, if_neg hr])
      have HL : Hid (cutL L (some y) R q = []) := Lib.hid (by unfold cutL; rw [HE.out]; rfl)
      have HNN : Hid (cutN (some y) q = 0) := Lib.hid (by simp only [cutN, if_neg hr])
      rw [HE.out, HL.out, HNN.out]
      by_cases hq1 : q < 1
      · generalize absS y.qty = S at *
        clear h hl hd hX hg hlt hk hr hq HE HL HNN
        go_enter Try.func29, Try.ntmps29
        go_wp2_with (first | (go_at_call 25; (with_reducible refine hp.mono ?_); rintro e w6 ⟨rfl, hb6⟩; obtain ⟨b', off', e, c3⟩ := HC.out w6 hb6; cases e) | (go_at_call 46; (with_reducible refine (HA.out _).mono ?_); rintro e w5 ⟨rfl, rfl⟩))
        go_ret3
        exact ⟨_, rfl, Own.nil _ _, hb6⟩
      · have hlf2 : lf < 0 := by
          rw [← hlf, IntWalk.i64_in _ (by omega)]
          have : ¬ q ≤ absS y.qty := fun h => hr ⟨by omega, h⟩
          omega
        generalize absS y.qty = S at *
        clear h hl hd hX hg hlt hk hr hq HE HL HNN
        go_enter Try.func29, Try.ntmps29
        go_wp2_with (first | (go_at_call 25; (with_reducible refine hp.mono ?_); rintro e w6 ⟨rfl, hb6⟩; obtain ⟨b', off', e, c3⟩ := HC.out w6 hb6; cases e) | (go_at_call 46; (with_reducible refine (HA.out _).mono ?_); rintro e w5 ⟨rfl, rfl⟩))
        go_ret3
        exact ⟨_, rfl, Own.nil _ _, hb6⟩
    obtain ⟨hr1, hr2⟩ := hr
    have HE : Hid (cutE (some y) q = 0) := Lib.hid (by simp only [cutE, if_pos (And.intro hr1 hr2)])
    have HNN : Hid (cutN (some y) q = lf) := Lib.hid (by simp only [cutN, if_pos (And.intro hr1 hr2)]; rw [← hlf, IntWalk.i64_in _ (by omega)])
    rw [HE.out, HNN.out]
    have hlfe : lf = absS y.qty - q := by rw [← hlf, IntWalk.i64_in _ (by omega)]
    have g1 : ¬ q < 1 := by omega
    have g2 : ¬ lf < 0 := by omega
    by_cases hs : q = absS y.qty
    · have HL : Hid (cutL L (some y) R q = L ++ R) := Lib.hid (by unfold cutL; rw [HE.out, if_pos rfl]; simp only [cutO, if_pos hs]; rfl)
      rw [HL.out]
      have HW : Hid (∀ wx, Below w.heap.size w wx → Calls Try.prog 31 #[.slice (some ⟨b, off, none⟩) len cap, .int .i64 c, .int .i64 d] wx fun e w' => ∃ v, e = .returned (.tuple #[v, .int .i64 0]) ∧ Own enco w' wx.heap.size v (L ++ R) ∧ Below wx.heap.size wx w') :=
        Lib.hid fun wx hb => rdrop_any _ len cap X L R (some y) c d wx (h.keep hb) hl hlc hm hcm hd
      have HZ : Hid (lf = 0) := Lib.hid (by omega)
      have bl : (lf == 0) = true := beq_iff_eq.2 HZ.out
      rw [show (.int .i64 lf : Value) = .int .i64 0 by rw [HZ.out]]
      clear h hl hd hX hg hlt hk hr1 hr2 hq HE HL HNN hs hlfe
      generalize absS y.qty = S at *
      go_enter Try.func29, Try.ntmps29
      go_wp2_with (first | (go_at_call 25; (with_reducible refine hp.mono ?_); rintro e w6 ⟨rfl, hb6⟩; obtain ⟨b', off', e, c3⟩ := HC.out w6 hb6; cases e) | (go_at_call 46; (with_reducible refine (HA.out _).mono ?_); rintro e w5 ⟨rfl, rfl⟩) | (go_at_call 31; (with_reducible refine (HW.out _ hb6).mono ?_); rintro e w7 ⟨v7, rfl, ho7, hb7⟩; have HO7 := Lib.hid ho7; clear ho7))
      go_ret3
      exact ⟨_, rfl, HO7.out.low hb6.size, below_next hb6 hb7⟩
    · have HL : Hid (cutL L (some y) R q = L ++ ([{ y with qty := cutQ y q }] ++ R)) := Lib.hid (by unfold cutL; rw [HE.out, if_pos rfl]; simp only [cutO, if_neg hs]; rfl)
      rw [HL.out]
      have bl : (lf == 0) = false := beq_eq_false_iff_ne.2 (by omega)
      obtain ⟨z, hz⟩ : ∃ z : Od, z = { y with qty := cutQ y q } := ⟨_, rfl⟩
      have hzq : z.qty = if 0 < y.qty then lf else -lf := by
        rw [hz]; show cutQ y q = _
        unfold cutQ
        rw [hlfe]
        unfold absS
        split
        · rw [if_neg (by omega)]
        · split <;> omega
      have HZ5 : Hid (z.acct = y.acct ∧ z.id = y.id ∧ z.instr = y.instr ∧ z.price = y.price) := Lib.hid (by rw [hz]; exact ⟨rfl, rfl, rfl, rfl⟩)
      have HS : Hid (X.set k z = L ++ ([z] ++ R)) := Lib.hid (by rw [hX, hk, set_mid']; rfl)
      have HG := Lib.hid hg; have HLT := Lib.hid hlt; have HLL := Lib.hid hl; have HZQ := Lib.hid hzq; have HM := Lib.hid hm
      rw [← hz]
      clear h hl hd hX hg hlt hk hr1 hr2 hq HE HL HNN hs hz hzq hlfe
      generalize absS y.qty = S at *
      go_enter Try.func29, Try.ntmps29
      go_upto_region 11 with (first | (go_at_call 25; (with_reducible refine hp.mono ?_); rintro e w6 ⟨rfl, hb6⟩; obtain ⟨b', off', e, c3⟩ := HC.out w6 hb6; cases e; have HB6 := Lib.hid hb6; clear hb6) | (go_at_call 46; (with_reducible refine (HA.out _).mono ?_); rintro e w5 ⟨rfl, rfl⟩) | (at_builtin; (refine wp_ap oko rfl (.tmp 47) (.tmp 48) rfl w6.heap.size _ [] rfl (made_o w6) _ _ _ X rfl ((H.out.keep HB6.out).keep (one_alloc _ _)) HLL.out (fun h => by cases h) (by have := HM.out; simp [maxLen]; omega) (by have := HM.out; simp [enco]; omega) (by simp) ?_; intro v7 w7 ho7 hb7 hg7 hv7; rw [List.nil_append] at ho7; obtain ⟨g7, c7, rfl, hg7b, hgl7, hf7⟩ := ho7.block (by have := HLT.out; omega); have HO7 := Lib.hid ho7; have HF7 := Lib.hid hf7; have HGB := Lib.hid hg7b; have HGL := Lib.hid hgl7; have HB7 := Lib.hid ((one_alloc w6 (.cells #[] 37)).trans hb7); clear ho7 hf7 hg7b hgl7 hb7 hg7 hv7)))
      rw [HLL.out]
      obtain ⟨e0, e1, e2, e3, e4⟩ := own_ato HO7.out HLT.out
      rw [HG.out] at e0 e1 e2 e3 e4
      obtain ⟨gb, hgb⟩ : ∃ gb, gb = w7.heap.size := ⟨_, rfl⟩
      obtain ⟨W7, hW7⟩ : ∃ W7, W7 = w7.alloc (.cells #[.int .i64 y.acct, .int .i64 y.id, .int .i64 y.instr, .int .i64 y.qty, .int .i64 y.price] 37) := ⟨_, rfl⟩
      have x0 : Blk W7 gb #[.int .i64 y.acct, .int .i64 y.id, .int .i64 y.instr, .int .i64 y.qty, .int .i64 y.price] 37 := by rw [hW7, hgb]; exact Blk.new w7 _ _
      have hb7 : Below w7.heap.size w7 W7 := by rw [hW7]; exact one_alloc _ _
      obtain ⟨W8, hW8⟩ : ∃ W8, W8 = W7.setCell ⟨gb, 3, none⟩ (.int .i64 z.qty) := ⟨_, rfl⟩
      have x8 : Blk W8 gb #[.int .i64 z.acct, .int .i64 z.id, .int .i64 z.instr, .int .i64 z.qty, .int .i64 z.price] 37 := by
        obtain ⟨z1, z2, z3, z4⟩ := HZ5.out
        rw [z1, z2, z3, z4, hW8]
        exact x0.set 3 (.int .i64 z.qty)
      have hb8 : Below w7.heap.size w7 W8 := by rw [hW8]; exact hb7.setCell (p := ⟨gb, 3, none⟩) (by rw [hgb]; exact Nat.le_refl _) _
      have d3 : W7.cell? ⟨gb, 3, none⟩ = some (.int .i64 y.qty) := x0.cell 3
      have fz := x0.free 3
      have HGB2 := Lib.hid hgb; have HW7 := Lib.hid hW7; have HW8 := Lib.hid hW8; have HX8 := Lib.hid x8; have HB8 := Lib.hid hb8
      have i2 : (0 : Int) ≤ (k : Int) := by omega
      clear hgb hW7 x0 hb7 hW8 x8 hb8
      go_upto_region 12 with (fail)
      rw [← HGB2.out, ← HW7.out]
      have HO8 := Lib.hid (HO7.out.keep HB8.out)
      obtain ⟨g8, c8, e8, _, _, hf8⟩ := HO8.out.block (by have := HLT.out; omega)
      cases e8
      have j0 := hf8 (k * 5)
      have j1 := hf8 (k * 5 + 1)
      have j2 := hf8 (k * 5 + 2)
      have j3 := hf8 (k * 5 + 3)
      have j4 := hf8 (k * 5 + 4)
      obtain ⟨m0, m1, m2, m3, m4⟩ := own_ato HO8.out HLT.out
      obtain ⟨p0, p1, p2, p3, p4⟩ := (⟨HX8.out.cell 0, HX8.out.cell 1, HX8.out.cell 2, HX8.out.cell 3, HX8.out.cell 4⟩ : W8.cell? ⟨gb, 0, none⟩ = some (.int .i64 z.acct) ∧ W8.cell? ⟨gb, 1, none⟩ = some (.int .i64 z.id) ∧ W8.cell? ⟨gb, 2, none⟩ = some (.int .i64 z.instr) ∧ W8.cell? ⟨gb, 3, none⟩ = some (.int .i64 z.qty) ∧ W8.cell? ⟨gb, 4, none⟩ = some (.int .i64 z.price))
      clear hf8 e0 e1 e2 e3 e4
      have hend : Hid (∀ W9, Own enco W9 w6.heap.size (.slice (some ⟨g7, 0, none⟩) len c7) (X.set k z) → Below w6.heap.size w6 W9 → Own enco W9 w.heap.size (.slice (some ⟨g7, 0, none⟩) len c7) (L ++ ([z] ++ R)) ∧ Below w.heap.size w W9) := Lib.hid fun W9 h1 h2 => by
        rw [HS.out] at h1
        exact ⟨h1.low HB6.out.size, below_next HB6.out h2⟩
      have hB8 : Below w6.heap.size w6 W8 := HB7.out.trans (HB8.out.mono HB7.out.size)
      have HSET := Lib.hid (own_allo HO8.out HLT.out z)
      rw [HLL.out] at HSET
      have HBS := Lib.hid ((((((hB8.setCell (p := ⟨g7, k * 5, none⟩) HGB.out (.int .i64 z.acct)).setCell (p := ⟨g7, k * 5 + 1, none⟩) HGB.out (.int .i64 z.id)).setCell (p := ⟨g7, k * 5 + 2, none⟩) HGB.out (.int .i64 z.instr)).setCell (p := ⟨g7, k * 5 + 3, none⟩) HGB.out (.int .i64 z.qty)).setCell (p := ⟨g7, k * 5 + 4, none⟩) HGB.out (.int .i64 z.price)))
      by_cases hpos : 0 < y.qty
      · have HQ : Hid (z.qty = lf) := Lib.hid (by rw [HZQ.out, if_pos hpos])
        clear hB8
        rw [show (.int .i64 lf : Value) = .int .i64 z.qty by rw [HQ.out]]
        go_upto_region 15 with (fail)
        rw [← HW8.out]
        go_wp2
        go_ret3
        obtain ⟨r1, r2⟩ := hend.out _ HSET.out HBS.out
        exact ⟨_, by rw [HQ.out] <;> rfl, r1, r2⟩
      · have HQ : Hid (z.qty = -lf) := Lib.hid (by rw [HZQ.out, if_neg hpos])
        have iw : IntKind.i64.wrap (-lf) = z.qty := by rw [HQ.out]; exact IntWalk.i64_in _ (by rw [← hlf, IntWalk.i64_in _ (by omega)] at *; omega)
        clear hB8
        go_upto_region 15 with (fail)
        rw [← HW8.out]
        go_wp2
        go_ret3
        obtain ⟨r1, r2⟩ := hend.out _ HSET.out HBS.out
        exact ⟨_, rfl, r1, r2⟩
end Go.Proofs.Ytpagkeklilgknaa.Bo

/-
  Layer 8: the law that a gap is mended.
-/
import Derived.Test.YtmecaioklmkdlaaAu
namespace Go.Proofs.Ytmecaioklmkdlaa.Ss
open Go.RowKit
set_option linter.unusedVariables false
set_option linter.unusedSimpArgs false

theorem send_from {S : List ByteArray} {m : ByteArray} (h : goodB ⟨S, 0, 0⟩ = true) : ((sendS ⟨S, 0, 0⟩ m).2.2 = 0 ∧ (sendS ⟨S, 0, 0⟩ m).1 = ⟨S ++ [m], 0, 0⟩ ∧ goodB ⟨S ++ [m], 0, 0⟩ = true) ∨ ((sendS ⟨S, 0, 0⟩ m).2.2 == 0) = false := by
  unfold sendS
  rw [if_neg (by simp [h])]
  by_cases hm : msgB m = false
  · rw [if_pos hm]; exact .inr rfl
  rw [if_neg hm]
  by_cases hl : S.length = 256
  · rw [if_pos hl]; exact .inr rfl
  rw [if_neg hl]
  exact .inl ⟨rfl, rfl, (send_good (s := ⟨S, 0, 0⟩) h (by simpa using hm) hl).1⟩
theorem good_nil {t : Int} (h0 : 0 ≤ t) (h1 : t ≤ 256) : goodB ⟨[], t, 0⟩ = true := goodB_iff.2 ⟨by simp, (fun m hm => by cases hm), ⟨Int.le_refl _, by simp⟩, ⟨h0, by simp only; omega⟩⟩
theorem take_beat {t : Int} {n : Nat} (h0 : 0 ≤ t) (h1 : t ≤ 256) (hn : n ≤ 256) : takeS ⟨[], t, 0⟩ ⟨3, n, 0, em⟩ = (⟨[], t, 0⟩, em, if t < n then [⟨2, t + 1, t, em⟩] else [], 0) := by
  unfold takeS
  have hv : validB ⟨3, n, 0, em⟩ = true := validB_iff.2 ⟨⟨by simp only; omega, by simp only; omega⟩, ⟨by simp only; omega, by simp only; omega⟩, .inr (.inr ⟨rfl, rfl⟩)⟩
  rw [if_neg (by simp [good_nil h0 h1]), if_neg (by simp [hv])]
  simp only
  rw [if_neg (by decide), if_neg (fun h => absurd h.1 (by decide))]
  have hk : knownS ⟨[], t, 0⟩ ⟨3, n, 0, em⟩ = 0 := by unfold knownS; simp
  rw [hk]
  split <;> rfl
theorem take_question {S : List ByteArray} {t : Nat} (h : goodB ⟨S, 0, 0⟩ = true) (ht : t < S.length) : (takeS ⟨S, 0, 0⟩ ⟨2, (t : Int) + 1, t, em⟩).2 = (em, resent S 0 t, 0) := by
  have hb := (goodB_iff.1 h).1
  simp only at hb
  unfold takeS
  have hv : validB ⟨2, (t : Int) + 1, t, em⟩ = true := validB_iff.2 ⟨⟨by simp only; omega, by simp only; omega⟩, ⟨by simp only; omega, by simp only; omega⟩, .inr (.inl ⟨rfl, by simp only; omega, rfl⟩)⟩
  rw [if_neg (by simp [h]), if_neg (by simp [hv])]
  simp only
  rw [if_pos (by trivial), show ((t : Int) + 1 - 1).toNat = t by omega]
theorem take_next {t : Int} {b : ByteArray} (h0 : 0 ≤ t) (h1 : t < 256) (hb : msgB b = true) : takeS ⟨[], t, 0⟩ ⟨1, t + 1, 0, b⟩ = (⟨[], t + 1, 0⟩, b, [], 0) := by
  unfold takeS
  have hv : validB ⟨1, t + 1, 0, b⟩ = true := validB_iff.2 ⟨⟨by simp only; omega, by simp only; omega⟩, ⟨by simp only; omega, by simp only; omega⟩, .inl ⟨rfl, by simp only; omega, hb⟩⟩
  rw [if_neg (by simp [good_nil h0 (by omega)]), if_neg (by simp [hv])]
  simp only
  rw [if_neg (by decide), if_pos (by simp)]
  have hk : knownS ⟨[], t, 0⟩ ⟨1, t + 1, 0, b⟩ = 0 := by unfold knownS; simp
  rw [hk]
theorem OwnS.other3 {W : World} {base : Nat} {v : Value} {S : List ByteArray} (h : OwnS W base v S) {g : Nat} (hne : ∀ k, v.ownBlock = some k → k ≠ g) (a b c : Value) : OwnS (((W.setCell ⟨g, 0, none⟩ a).setCell ⟨g, 1, none⟩ b).setCell ⟨g, 2, none⟩ c) base v S :=
  ((h.gone (set_grown _ g 0 a) fun k hk e => hne k hk (Option.some.inj e).symm).gone (set_grown _ g 1 b) fun k hk e => hne k hk (Option.some.inj e).symm).gone (set_grown _ g 2 c) fun k hk e => hne k hk (Option.some.inj e).symm
theorem OwnX.other3 {W : World} {base : Nat} {v : Value} {S : List Fm} (h : OwnX W base v S) {g : Nat} (hne : ∀ k, v.ownBlock = some k → k ≠ g) (a b c : Value) : OwnX (((W.setCell ⟨g, 0, none⟩ a).setCell ⟨g, 1, none⟩ b).setCell ⟨g, 2, none⟩ c) base v S :=
  ((h.gone (set_grown _ g 0 a) fun k hk e => hne k hk (Option.some.inj e).symm).gone (set_grown _ g 1 b) fun k hk e => hne k hk (Option.some.inj e).symm).gone (set_grown _ g 2 c) fun k hk e => hne k hk (Option.some.inj e).symm
theorem HasS.cell {w : World} {b off : Nat} {S : List ByteArray} (h : HasS w (some ⟨b, off, none⟩) S) {j : Nat} (hj : j < S.length) : w.cell? ⟨b, off + j, none⟩ = some (.string (S.getD j em)) := by
  obtain ⟨b', o', e, hc⟩ := h.at hj
  cases e
  exact hc
/-- Between the rounds: the two ends in their boxes, the question. -/
structure Mn (w : World) (N g5 g12 : Nat) (a5 : Option Addr) (L c5 : Nat) (S : List ByteArray) (v9 : Value) (ask : List Fm) (T : Int) (wr : World) : Prop where
  r : ∃ x c, Blk wr g12 #[.slice x 0 c, .int .i64 T, .int .i64 0] 24 ∧ (x = none → c = 0)
  s : Blk wr g5 #[.slice a5 L c5, .int .i64 0, .int .i64 0] 24
  own : OwnS wr 0 (.slice a5 L c5) S ∧ ∀ k, (Value.slice a5 L c5).ownBlock = some k → k ≠ g12
  ask : OwnX wr 0 v9 ask ∧ ∀ k, v9.ownBlock = some k → k ≠ g12
  bel : Below N w wr
  lt : N ≤ wr.heap.size ∧ N ≤ g12 ∧ g5 ≠ g12
theorem Mn.keep {w : World} {N g5 g12 : Nat} {a5 : Option Addr} {L c5 : Nat} {S : List ByteArray} {v9 : Value} {ask : List Fm} {T : Int} {wr wx : World} (h : Mn w N g5 g12 a5 L c5 S v9 ask T wr) (hb : Below wr.heap.size wr wx) : Mn w N g5 g12 a5 L c5 S v9 ask T wx := by
  obtain ⟨x, c, h1, h2⟩ := h.r
  exact ⟨⟨x, c, h1.keep hb, h2⟩, h.s.keep hb, ⟨h.own.1.keep hb, h.own.2⟩, ⟨h.ask.1.keep hb, h.ask.2⟩, h.bel.trans (hb.mono h.lt.1), Nat.le_trans h.lt.1 hb.size, h.lt.2⟩
theorem Mn.set {w : World} {N g5 g12 : Nat} {a5 : Option Addr} {L c5 : Nat} {S : List ByteArray} {v9 : Value} {ask : List Fm} {T : Int} {wr : World} (h : Mn w N g5 g12 a5 L c5 S v9 ask T wr) (x : Option Addr) (c : Nat) (T' : Int) (hx : x = none → c = 0) :
    Mn w N g5 g12 a5 L c5 S v9 ask T' (((wr.setCell ⟨g12, 0, none⟩ (.slice x 0 c)).setCell ⟨g12, 1, none⟩ (.int .i64 T')).setCell ⟨g12, 2, none⟩ (.int .i64 0)) := by
  obtain ⟨x0, c0, h1, h2⟩ := h.r
  exact ⟨⟨x, c, h1.set3 _ _ _, hx⟩, blk_set3 h.s h.lt.2.2.symm _ _ _, ⟨h.own.1.other3 h.own.2 _ _ _, h.own.2⟩, ⟨h.ask.1.other3 h.ask.2 _ _ _, h.ask.2⟩, below_set3 h.bel h.lt.2.1 _ _ _, by simp [World.setCell]; exact h.lt.1, h.lt.2⟩
set_option maxRecDepth 100000 in
set_option maxHeartbeats 8000000 in
theorem mends_walk (a : Option Addr) (len cap : Nat) (LS : List ByteArray) (tk : Int) (w : World) (hin : InS w a len cap LS) (ht1 : -9223372036854775808 ≤ tk) (ht2 : tk ≤ 9223372036854775807) :
    Calls Try.prog 7 #[.slice a len cap, .int .i64 tk] w fun e w' => e = .returned (.bool true) ∧ Below w.heap.size w w' := by
  obtain ⟨hS, hl, hlc, hn, _⟩ := hin
  have hm := hS.1
  rw [hl] at hm
  have HIN := Lib.hid hS; have HL := Lib.hid hl
  clear hS hl hn
  go_enter Try.func7, Try.ntmps7
  go_wp2_with fail
  refine (wakes_any _).mono ?_
  rintro e w1 ⟨rfl, hb1⟩
  obtain ⟨N, hN⟩ : ∃ N, N = w.heap.size := ⟨_, rfl⟩
  have HN := Lib.hid hN
  obtain ⟨g5, hg5⟩ : ∃ g5, g5 = w1.heap.size := ⟨_, rfl⟩
  obtain ⟨x5, b5⟩ := box_new w1 #[.slice none 0 0, .int .i64 0, .int .i64 0] 24
  obtain ⟨w2, hw2⟩ : ∃ w2, w2 = w1.alloc (.cells #[.slice none 0 0, .int .i64 0, .int .i64 0] 24) := ⟨_, rfl⟩
  rw [← hw2] at x5 b5
  rw [← hg5] at x5
  have hgN : N ≤ g5 := by rw [hg5, hN]; exact hb1.size
  have HB2 : Hid (Below N w w2) := Lib.hid (by rw [hN]; exact hb1.trans (b5.mono hb1.size))
  have H5 := Lib.hid x5; have HG5 := Lib.hid hg5; have HW2 := Lib.hid hw2
  clear hb1 x5 b5 hw2 hg5 hN
  go_upto_region 4 with (fail)
  rw [← HG5.out, ← HW2.out]
  clear HW2 HG5
  go_wp2_with fail
  go_loopg [34] len (fun m i wr => ∃ (p : Nat) (S : List ByteArray), p + m = len ∧ i = .int .i64 (p : Int) ∧ Hid (∃ a5 c5, Blk wr g5 #[.slice a5 S.length c5, .int .i64 0, .int .i64 0] 24 ∧ OwnS wr (g5 + 1) (.slice a5 S.length c5) S) ∧ Hid (goodB ⟨S, 0, 0⟩ = true) ∧ Hid (Below N w wr))
  case atStart => exact ⟨0, [], by omega, rfl, Lib.hid ⟨none, 0, H5.out, ownS_nil _ _⟩, Lib.hid rfl, HB2⟩
  case round =>
    obtain ⟨p, S, hp, rfl, HO, HGD, HB⟩ := hrel
    obtain ⟨a5, c5, hbk, hos⟩ := HO.out
    obtain ⟨L, hL⟩ : ∃ L, S.length = L := ⟨_, rfl⟩
    rw [hL] at hbk hos
    have HBK := Lib.hid hbk; have HOS := Lib.hid hos; have HL5 := Lib.hid hL
    have hzr := hbk.lt
    clear hbk hos hL HO
    obtain ⟨c0, c1, c2⟩ := agg_cells HBK.out
    by_cases hlt : p < len
    · have hpX : p < LS.length := by rw [HL.out]; exact hlt
      obtain ⟨bb, off, rfl, cm⟩ := (HIN.out.keep (show Below w.heap.size w wr by rw [← HN.out]; exact HB.out)).at hpX
      obtain ⟨m0, hm0⟩ : ∃ m0, m0 = LS.getD p em := ⟨_, rfl⟩
      rw [← hm0] at cm
      have i0 : (p : Int) < (len : Int) := by omega
      have hsd := send_any a5 L c5 ⟨S, 0, 0⟩ m0 wr (own_read HOS.out).1 HL5.out (own_read HOS.out).2.2
      have hfr := send_from (m := m0) HGD.out
      generalize sendS ⟨S, 0, 0⟩ m0 = R at *
      obtain ⟨⟨S1, t1, k1⟩, ⟨f1, f2, f3, f4⟩, E⟩ := R
      unfold SendIt at hsd
      simp only at hsd hfr
      have HSD := Lib.hid hsd; have HFR := Lib.hid hfr
      clear hsd hfr hm0 hpX
      go_wp2_with fail
      refine HSD.out.mono ?_
      rintro e w3 ⟨v3, rfl, ho3, hb3⟩
      obtain ⟨a3, cap3, rfl, -⟩ := ho3.has
      obtain ⟨L1, hL1⟩ : ∃ L1, S1.length = L1 := ⟨_, rfl⟩
      rw [hL1] at ho3 ⊢
      obtain ⟨x8, x9, b89⟩ := two_new w3 #[.slice a3 L1 cap3, .int .i64 t1, .int .i64 k1] #[.int .i64 f1, .int .i64 f2, .int .i64 f3, .string f4] 24 27
      obtain ⟨w4, hw4⟩ : ∃ w4, w4 = (w3.alloc (.cells #[.slice a3 L1 cap3, .int .i64 t1, .int .i64 k1] 24)).alloc (.cells #[.int .i64 f1, .int .i64 f2, .int .i64 f3, .string f4] 27) := ⟨_, rfl⟩
      rw [← hw4] at x8 x9 b89
      have hb4 := hb3.trans (b89.mono hb3.size)
      have HBK4 := Lib.hid (HBK.out.keep hb4); have HOS4 := Lib.hid (HOS.out.keep hb4); have HO4 := Lib.hid (ho3.keep b89); have H8 := Lib.hid x8
      have HB4 := Lib.hid (HB.out.trans (hb4.mono (by omega)))
      have hz3 := hb3.size; have hz4 := b89.size
      obtain ⟨g8, hg8⟩ : ∃ g8, g8 = w3.heap.size := ⟨_, rfl⟩
      rw [← hg8] at H8
      have HG8 := Lib.hid hg8; have HW4 := Lib.hid hw4; have HL1 := Lib.hid hL1
      clear hb3 ho3 x8 x9 b89 hw4 hb4 hg8 hL1 c0 c1 c2 cm HBK HOS HSD
      go_upto_region 8 with (fail)
      rw [← HG8.out, ← HW4.out]
      clear HW4
      rcases HFR.out with ⟨he, hr, hg1⟩ | he
      · injection hr with e1 e2 e3
        subst he e1 e2 e3
        have HG1 := Lib.hid hg1
        clear hg1
        obtain ⟨c0, c1, c2⟩ := agg_cells HBK4.out
        have q0 := HBK4.out.free 0; have q1 := HBK4.out.free 1; have q2 := HBK4.out.free 2
        obtain ⟨d0, d1, d2⟩ := agg_cells H8.out
        have hgw : g8 = w3.heap.size := HG8.out
        have REL : Hid (Blk (((w4.setCell ⟨g5, 0, none⟩ (.slice a3 L1 cap3)).setCell ⟨g5, 1, none⟩ (.int .i64 0)).setCell ⟨g5, 2, none⟩ (.int .i64 0)) g5 #[.slice a3 L1 cap3, .int .i64 0, .int .i64 0] 24 ∧ OwnS (((w4.setCell ⟨g5, 0, none⟩ (.slice a3 L1 cap3)).setCell ⟨g5, 1, none⟩ (.int .i64 0)).setCell ⟨g5, 2, none⟩ (.int .i64 0)) (g5 + 1) (.slice a3 L1 cap3) (S ++ [m0]) ∧ Below N w (((w4.setCell ⟨g5, 0, none⟩ (.slice a3 L1 cap3)).setCell ⟨g5, 1, none⟩ (.int .i64 0)).setCell ⟨g5, 2, none⟩ (.int .i64 0))) :=
          Lib.hid ⟨HBK4.out.set3 _ _ _, (HO4.out.low (by omega)).set3 (by omega), below_set3 HB4.out hgN _ _ _⟩
        clear hgw
        go_wp2
        go_roundg (len - (p + 1))
        case measure => omega
        case rel => exact ⟨p + 1, S ++ [m0], by omega, by go_num, Lib.hid ⟨a3, cap3, by rw [HL1.out]; exact REL.out.1, by rw [HL1.out]; exact REL.out.2.1⟩, HG1, Lib.hid REL.out.2.2⟩
      · go_wp2
        go_roundg (len - (p + 1))
        case measure => omega
        case rel => exact ⟨p + 1, S, by omega, by go_num, Lib.hid ⟨a5, c5, by rw [HL5.out]; exact HBK4.out, by rw [HL5.out]; exact HOS4.out⟩, HGD, HB4⟩
    · obtain rfl : p = len := by omega
      have hgs := goodB_iff.1 HGD.out
      simp only at hgs
      have hL256 : L ≤ 256 := by rw [← HL5.out]; exact hgs.1
      clear hgs
      by_cases hr : 0 ≤ tk ∧ tk ≤ (L : Int)
      case neg =>
        by_cases hr1 : tk < 0
        · have t1 : decide (tk < 0) = true := decide_eq_true hr1
          clear hr hr1
          go_wp2
          go_ret
          exact ⟨rfl, by rw [← HN.out]; exact HB.out⟩
        · have t1 : decide (tk < 0) = false := decide_eq_false hr1
          have t2 : decide ((L : Int) < tk) = true := decide_eq_true (by omega)
          clear hr hr1
          go_wp2
          go_ret
          exact ⟨rfl, by rw [← HN.out]; exact HB.out⟩
      case pos =>
      obtain ⟨hr1, hr2⟩ := hr
      obtain ⟨tn, htn⟩ : ∃ tn : Nat, tk = (tn : Int) := ⟨tk.toNat, by omega⟩
      subst htn
      have htL : tn ≤ L := by omega
      have t1 : decide ((tn : Int) < 0) = false := by rw [decide_eq_false_iff_not]; omega
      have t2 : decide ((L : Int) < (tn : Int)) = false := by rw [decide_eq_false_iff_not]; omega
      have t3 : decide (L < tn) = false := by rw [decide_eq_false_iff_not]; omega
      clear hr1 hr2 ht1 ht2
      obtain ⟨x12, b12⟩ := box_new wr #[.slice none 0 0, .int .i64 (tn : Int), .int .i64 0] 24
      obtain ⟨w6, hw6⟩ : ∃ w6, w6 = wr.alloc (.cells #[.slice none 0 0, .int .i64 (tn : Int), .int .i64 0] 24) := ⟨_, rfl⟩
      rw [← hw6] at x12 b12
      obtain ⟨g12, hg12⟩ : ∃ g12, g12 = wr.heap.size := ⟨_, rfl⟩
      rw [← hg12] at x12
      have HBK6 := Lib.hid (HBK.out.keep b12); have HOS6 := Lib.hid (HOS.out.keep b12); have HB6 := Lib.hid (HB.out.trans (b12.mono (by omega))); have H12 := Lib.hid x12
      have HG12 := Lib.hid hg12; have HW6 := Lib.hid hw6
      have HLT : Hid (∀ k, (Value.slice a5 L c5).ownBlock = some k → k < g12) := Lib.hid (fun k hk => by rw [hg12]; exact (HOS.out.lt k hk).2)
      have hg512 : g5 < g12 := by omega
      have hz6 := b12.size
      have hgw : g12 < w6.heap.size := x12.lt
      clear x12 b12 hg12 hw6 c0 c1 c2
      have q5 := HBK.out.cell 0
      simp only [List.getElem?_toArray, List.getElem?_cons_zero] at q5
      go_upto_region 15 with (fail)
      rw [← HG12.out, ← HW6.out]
      clear HW6 q5 HBK HOS HB
      obtain ⟨c0, c1, c2⟩ := agg_cells HBK6.out
      have hti := tick_any a5 L c5 ⟨S, 0, 0⟩ w6 (own_read HOS6.out).1 HL5.out
      rw [show tickS ⟨S, 0, 0⟩ = (⟨3, L, 0, em⟩, 0) by unfold tickS; rw [if_neg (by simp [HGD.out]), HL5.out]] at hti
      simp only at hti
      have HTI := Lib.hid hti
      clear hti
      go_wp2_with fail
      refine HTI.out.mono ?_
      rintro e w7 ⟨rfl, hb7⟩
      obtain ⟨x13, b13⟩ := box_new w7 #[.int .i64 3, .int .i64 (L : Int), .int .i64 0, .string em] 27
      obtain ⟨w8, hw8⟩ : ∃ w8, w8 = w7.alloc (.cells #[.int .i64 3, .int .i64 (L : Int), .int .i64 0, .string em] 27) := ⟨_, rfl⟩
      rw [← hw8] at x13 b13
      have hb8 := hb7.trans (b13.mono hb7.size)
      obtain ⟨g13, hg13⟩ : ∃ g13, g13 = w7.heap.size := ⟨_, rfl⟩
      rw [← hg13] at x13
      have HBK8 := Lib.hid (HBK6.out.keep hb8); have HOS8 := Lib.hid (HOS6.out.keep hb8); have HB8 := Lib.hid (HB6.out.trans (hb8.mono (by omega))); have H12a := Lib.hid (H12.out.keep hb8); have H13 := Lib.hid x13
      have HG13 := Lib.hid hg13; have HW8 := Lib.hid hw8
      have hz8 := hb8.size
      clear x13 b13 hg13 hw8 hb7 hb8 c0 c1 c2 HBK6 HOS6 HB6 H12 HTI
      go_upto_region 18 with (fail)
      rw [← HG13.out, ← HW8.out]
      clear HW8 HG13
      obtain ⟨d0, d1, d2⟩ := agg_cells H12a.out
      obtain ⟨p0, p1, p2, p3⟩ := fm_cells H13.out
      have htb := take_any none 0 0 ⟨[], (tn : Int), 0⟩ ⟨3, L, 0, em⟩ w8 (HasS.nil _ _) rfl (fun _ => rfl)
      rw [take_beat (by omega) (by omega) hL256] at htb
      unfold TakeIt at htb
      simp only at htb
      have HTB := Lib.hid htb
      clear htb
      go_wp2_with fail
      refine HTB.out.mono ?_
      rintro e w9 ⟨v9, u9, rfl, ho9, hox9, -, hb9⟩
      obtain ⟨a9, cap9, rfl, -⟩ := ho9.has
      obtain ⟨d9, cd9, rfl, -⟩ := hox9.has
      obtain ⟨M, hM⟩ : ∃ M, (if (tn : Int) < (L : Int) then [(⟨2, (tn : Int) + 1, tn, em⟩ : Fm)] else []).length = M := ⟨_, rfl⟩
      have hMv : M = if tn < L then 1 else 0 := by
        rw [← hM]
        by_cases h : tn < L
        · rw [if_pos (by omega), if_pos h]; rfl
        · rw [if_neg (by omega), if_neg h]; rfl
      rw [hM] at hox9 ⊢
      have HBK9 := Lib.hid (HBK8.out.keep hb9); have HOS9 := Lib.hid (HOS8.out.keep hb9); have HB9 := Lib.hid (HB8.out.trans (hb9.mono (by omega))); have H12b := Lib.hid (H12a.out.keep hb9)
      have HOX9 := Lib.hid hox9; have HM := Lib.hid hM; have HMV := Lib.hid hMv
      have hz9 := hb9.size
      have HN9 := Lib.hid (own_read ho9).2.2
      clear hb9 ho9 hox9 hM hMv d0 d1 d2 p0 p1 p2 p3 HBK8 HOS8 HB8 H12a H13 HTB
      obtain ⟨d0, d1, d2⟩ := agg_cells H12b.out; have f0 := H12b.out.free 0; have f1 := H12b.out.free 1; have f2 := H12b.out.free 2
      obtain ⟨w10, hw10⟩ : ∃ w10, w10 = ((w9.setCell ⟨g12, 0, none⟩ (.slice a9 0 cap9)).setCell ⟨g12, 1, none⟩ (.int .i64 (tn : Int))).setCell ⟨g12, 2, none⟩ (.int .i64 0) := ⟨_, rfl⟩
      have MN : Hid (Mn w N g5 g12 a5 L c5 S (.slice d9 M cd9) (if (tn : Int) < (L : Int) then [(⟨2, (tn : Int) + 1, tn, em⟩ : Fm)] else []) (tn : Int) w10) := Lib.hid (by
        rw [hw10]
        refine Mn.set (T := (tn : Int)) ⟨⟨none, 0, H12b.out, fun _ => rfl⟩, HBK9.out, ⟨HOS9.out.low (Nat.zero_le _), fun k hk e => ?_⟩, ⟨HOX9.out.low (Nat.zero_le _), fun k hk e => ?_⟩, HB9.out, by omega, by omega, by omega⟩ a9 cap9 (tn : Int) HN9.out
        · have := HLT.out k hk; omega
        · have := (HOX9.out.lt k hk).1; omega)
      have HW10 := Lib.hid hw10
      clear hw10
      go_upto_region 19 with (fail)
      rw [← HW10.out]
      clear HW10 d0 d1 d2 f0 f1 f2 H12b HBK9 HOS9 HOX9 HB9 HN9
      have mv := HMV.out
      have u1 : IntKind.i64.wrap ((L : Int) - (tn : Int)) = (L : Int) - (tn : Int) := IntWalk.i64_in _ (by omega)
      have hM1 : M ≤ 1 := by
        by_cases h : tn < L
        · rw [if_pos h] at mv; omega
        · rw [if_neg h] at mv; omega
      go_cut [90] (fun s wc => s = .bool false ∧ wc = w10)
      case first =>
        by_cases h : 1 < (L : Int) - (tn : Int)
        · have u3 : ((M : Int) != 1) = false := by
            rw [if_pos (by omega)] at mv
            rw [mv]; rfl
          clear mv
          go_wp2_with fail
          go_meet
          case rel => exact ⟨rfl, rfl⟩
        · have u3 : ((M : Int) != (L : Int) - (tn : Int)) = false := by
            rw [bne_eq_false_iff_eq]
            by_cases h2 : tn < L
            · rw [if_pos h2] at mv; omega
            · rw [if_neg h2] at mv; omega
          clear mv
          go_wp2_with fail
          go_meet
          case rel => exact ⟨rfl, rfl⟩
      obtain ⟨rfl, hwc⟩ := hcut
      rw [← hwc] at MN
      clear hwc u1 mv
      go_wp2_with fail
      go_loopg [93] M (fun m i wr => ∃ (q T : Nat), q + m = M ∧ i = .int .i64 (q : Int) ∧ Hid (T = if q = 0 then tn else tn + min (L - tn) 64) ∧ Hid (Mn w N g5 g12 a5 L c5 S (.slice d9 M cd9) (if (tn : Int) < (L : Int) then [(⟨2, (tn : Int) + 1, tn, em⟩ : Fm)] else []) (T : Int) wr))
      case atStart => exact ⟨0, tn, by omega, rfl, Lib.hid rfl, MN⟩
      case round =>
        obtain ⟨q, T, hq, rfl, HT, MR⟩ := hrel
        by_cases hlt : q < M
        · have hq0 : q = 0 := by omega
          have htl : tn < L := by
            have := HMV.out
            by_cases h : tn < L
            · exact h
            · rw [if_neg h] at this; omega
          have hTt : T = tn := by have := HT.out; rw [if_pos hq0] at this; exact this
          have hask : (if (tn : Int) < (L : Int) then [(⟨2, (tn : Int) + 1, tn, em⟩ : Fm)] else []) = [⟨2, (tn : Int) + 1, tn, em⟩] := if_pos (by omega)
          rw [hask] at MR
          obtain ⟨bb, off, rfl, e0, e1, e2, e3⟩ := (own_readX MR.out.ask.1).1.at (j := q) (by rw [hq0]; exact Nat.zero_lt_one)
          rw [show ([(⟨2, (tn : Int) + 1, tn, em⟩ : Fm)]).getD q fm0 = ⟨2, (tn : Int) + 1, tn, em⟩ by rw [hq0]; rfl] at e0 e1 e2 e3
          simp only at e0 e1 e2 e3
          have i0 : (q : Int) < (M : Int) := by omega
          have i1 : (0 : Int) ≤ (q : Int) := by omega
          have HQ0 := Lib.hid hq0; have HTT := Lib.hid hTt
          have MR2 : Hid (Mn w N g5 g12 a5 L c5 S (.slice (some ⟨bb, off, none⟩) M cd9) (if (tn : Int) < (L : Int) then [(⟨2, (tn : Int) + 1, tn, em⟩ : Fm)] else []) (T : Int) wr) := Lib.hid (by rw [hask]; exact MR.out)
          obtain ⟨x18, b18⟩ := box_new wr #[.int .i64 2, .int .i64 ((tn : Int) + 1), .int .i64 (tn : Int), .string em] 27
          obtain ⟨w11, hw11⟩ : ∃ w11, w11 = wr.alloc (.cells #[.int .i64 2, .int .i64 ((tn : Int) + 1), .int .i64 (tn : Int), .string em] 27) := ⟨_, rfl⟩
          rw [← hw11] at x18 b18
          obtain ⟨g18, hg18⟩ : ∃ g18, g18 = wr.heap.size := ⟨_, rfl⟩
          rw [← hg18] at x18
          have MR11 := Lib.hid (MR2.out.keep b18)
          have H18 := Lib.hid x18; have HG18 := Lib.hid hg18; have HW11 := Lib.hid hw11
          clear hq0 hTt hask MR MR2 x18 b18 hg18 hw11
          go_upto_region 24 with (fail)
          rw [← HG18.out, ← HW11.out]
          clear HW11 e0 e1 e2 e3
          obtain ⟨c0, c1, c2⟩ := agg_cells MR11.out.s
          obtain ⟨p0, p1, p2, p3⟩ := fm_cells H18.out
          have hta := take_any a5 L c5 ⟨S, 0, 0⟩ ⟨2, (tn : Int) + 1, tn, em⟩ w11 (own_read MR11.out.own.1).1 HL5.out (own_read MR11.out.own.1).2.2
          have htq := take_question (t := tn) HGD.out (by rw [HL5.out]; exact htl)
          generalize takeS ⟨S, 0, 0⟩ ⟨2, (tn : Int) + 1, tn, em⟩ = R at *
          obtain ⟨⟨S2, t2, k2⟩, R2⟩ := R
          simp only at htq
          subst htq
          unfold TakeIt at hta
          simp only at hta
          have HTA := Lib.hid hta
          clear hta
          go_wp2_with fail
          refine HTA.out.mono ?_
          rintro e w12 ⟨v12, u12, rfl, ho12, hox12, -, hb12⟩
          obtain ⟨a12, cap12, rfl, -⟩ := ho12.has
          obtain ⟨dd, cD, rfl, -⟩ := hox12.has
          obtain ⟨D, hD⟩ : ∃ D, (Ss.resent S 0 tn).length = D := ⟨_, rfl⟩
          obtain ⟨L2, hL2⟩ : ∃ L2, S2.length = L2 := ⟨_, rfl⟩
          rw [hD] at hox12 ⊢
          rw [hL2] at ho12 ⊢
          have hDv : D = min (L - tn) 64 := by rw [← hD, resent_len, HL5.out]
          obtain ⟨x19, b19⟩ := box_new w12 #[.slice a12 L2 cap12, .int .i64 t2, .int .i64 k2] 24
          obtain ⟨w13, hw13⟩ : ∃ w13, w13 = w12.alloc (.cells #[.slice a12 L2 cap12, .int .i64 t2, .int .i64 k2] 24) := ⟨_, rfl⟩
          rw [← hw13] at x19 b19
          have hb13 := hb12.trans (b19.mono hb12.size)
          have MR13 := Lib.hid (MR11.out.keep hb13)
          have HOX13 := Lib.hid (hox12.keep b19)
          have hD12 : ∀ k, (Value.slice dd D cD).ownBlock = some k → k ≠ g12 := fun k hk e => by
            have h1 := (hox12.lt k hk).1
            have := MR11.out.r
            obtain ⟨x, c, h, _⟩ := this
            have := h.lt
            omega
          have HD12 := Lib.hid hD12; have HD := Lib.hid hD; have HDV := Lib.hid hDv; have HW13 := Lib.hid hw13
          clear hb12 ho12 hox12 x19 b19 hw13 hb13 hD12 hD hDv hL2 c0 c1 c2 p0 p1 p2 p3 MR11 H18 HTA
          go_upto_region 25 with (fail)
          rw [← HW13.out]
          clear HW13
          have hD64 : D ≤ 64 ∧ tn + D ≤ L := by have := HDV.out; omega
          go_wp2_with fail
          go_loopg [109] D (fun m i wx => ∃ j : Nat, j + m = D ∧ i = .int .i64 (j : Int) ∧ Hid (Mn w N g5 g12 a5 L c5 S (.slice (some ⟨bb, off, none⟩) M cd9) (if (tn : Int) < (L : Int) then [(⟨2, (tn : Int) + 1, tn, em⟩ : Fm)] else []) ((tn : Int) + (j : Int)) wx) ∧ Hid (OwnX wx 0 (.slice dd D cD) (Ss.resent S 0 tn)))
          case atStart => exact ⟨0, by omega, rfl, Lib.hid (by have := MR13.out; rw [HTT.out] at this; simpa using this), Lib.hid (HOX13.out.low (Nat.zero_le _))⟩
          case round =>
            obtain ⟨j, hj, rfl, MX, HOX⟩ := hrel
            by_cases hlt2 : j < D
            · have hjL : tn + j < S.length := by rw [HL5.out]; omega
              obtain ⟨sb, so, rfl, cS⟩ := (own_read MX.out.own.1).1.at hjL
              have hel : (Ss.resent S 0 tn).getD j fm0 = ⟨1, (tn : Int) + (j : Int) + 1, 0, S.getD (tn + j) em⟩ := by
                have := resent_at S 0 tn j (by rw [HL5.out, ← HDV.out]; exact hlt2)
                simp [List.getD, this]
              obtain ⟨b2, o2, rfl, k0, k1, k2', k3⟩ := (own_readX HOX.out).1.at (j := j) (by rw [HD.out]; exact hlt2)
              rw [hel] at k0 k1 k2' k3
              simp only at k0 k1 k2' k3
              have hbm : msgB (S.getD (tn + j) em) = true := msg_at (goodB_iff.1 HGD.out).2.1 hjL
              obtain ⟨b0, hb0⟩ : ∃ b0, b0 = S.getD (tn + j) em := ⟨_, rfl⟩
              rw [← hb0] at k3 cS hbm
              have HBM := Lib.hid hbm; have HJL := Lib.hid hjL; have HB0 := Lib.hid hb0
              obtain ⟨x24, b24⟩ := box_new wr #[.int .i64 1, .int .i64 ((tn : Int) + (j : Int) + 1), .int .i64 0, .string b0] 27
              obtain ⟨w14, hw14⟩ : ∃ w14, w14 = wr.alloc (.cells #[.int .i64 1, .int .i64 ((tn : Int) + (j : Int) + 1), .int .i64 0, .string b0] 27) := ⟨_, rfl⟩
              rw [← hw14] at x24 b24
              obtain ⟨g24, hg24⟩ : ∃ g24, g24 = wr.heap.size := ⟨_, rfl⟩
              rw [← hg24] at x24
              have MX14 := Lib.hid (MX.out.keep b24); have HOX14 := Lib.hid (HOX.out.keep b24); have H24 := Lib.hid x24; have HG24 := Lib.hid hg24; have HW14 := Lib.hid hw14
              have i2 : (j : Int) < (D : Int) := by omega
              have i3 : (0 : Int) ≤ (j : Int) := by omega
              clear hel hbm cS hb0 hw14 hg24 x24 b24 hjL MX HOX
              go_upto_region 30 with (fail)
              rw [← HG24.out, ← HW14.out]
              clear HW14 k0 k1 k2' k3
              obtain ⟨x0, c0', hr0, hx0⟩ := MX14.out.r
              obtain ⟨d0, d1, d2⟩ := agg_cells hr0
              obtain ⟨p0, p1, p2, p3⟩ := fm_cells H24.out
              have htn2 := take_any x0 0 c0' ⟨[], (tn : Int) + (j : Int), 0⟩ ⟨1, (tn : Int) + (j : Int) + 1, 0, b0⟩ w14 (HasS.nil _ _) rfl hx0
              rw [take_next (by omega) (by omega) HBM.out] at htn2
              unfold TakeIt at htn2
              simp only at htn2
              have HTN := Lib.hid htn2
              clear htn2 hr0 hx0
              go_wp2_with fail
              refine HTN.out.mono ?_
              rintro e w15 ⟨v15, u15, rfl, ho15, hox15, -, hb15⟩
              obtain ⟨a15, cap15, rfl, -⟩ := ho15.has
              obtain ⟨e15, ce15, rfl, -⟩ := hox15.has
              obtain ⟨x25, b25⟩ := box_new w15 #[.slice a15 0 cap15, .int .i64 ((tn : Int) + (j : Int) + 1), .int .i64 0] 24
              obtain ⟨w16, hw16⟩ : ∃ w16, w16 = w15.alloc (.cells #[.slice a15 0 cap15, .int .i64 ((tn : Int) + (j : Int) + 1), .int .i64 0] 24) := ⟨_, rfl⟩
              rw [← hw16] at x25 b25
              obtain ⟨g25, hg25⟩ : ∃ g25, g25 = w15.heap.size := ⟨_, rfl⟩
              rw [← hg25] at x25
              have hb16 := hb15.trans (b25.mono hb15.size)
              have MX16 := Lib.hid (MX14.out.keep hb16); have HOX16 := Lib.hid (HOX14.out.keep hb16); have H25 := Lib.hid x25; have HG25 := Lib.hid hg25; have HW16 := Lib.hid hw16
              have HNN := Lib.hid (own_read ho15).2.2
              clear hb15 ho15 hox15 x25 b25 hw16 hg25 hb16 d0 d1 d2 p0 p1 p2 p3 MX14 HOX14 H24 HTN
              go_upto_region 31 with (fail)
              rw [← HG25.out, ← HW16.out]
              clear HW16
              have cS := HasS.cell (own_read MX16.out.own.1).1 HJL.out
              rw [← HB0.out] at cS
              obtain ⟨c0, c1, c2⟩ := agg_cells MX16.out.s
              obtain ⟨x1, c1', hr1, hx1⟩ := MX16.out.r
              obtain ⟨d0, d1, d2⟩ := agg_cells hr1; have f0 := hr1.free 0; have f1 := hr1.free 1; have f2 := hr1.free 2
              obtain ⟨q0, q1, q2⟩ := agg_cells H25.out
              have u1 : IntKind.i64.wrap ((tn : Int) + (j : Int)) = (tn : Int) + (j : Int) := IntWalk.i64_in _ (by omega)
              have u2 : (b0.toList != b0.toList) = false := bne_self_eq_false _
              have u3 : (0 : Int) ≤ (tn : Int) + (j : Int) := by omega
              have u4 : (tn : Int) + (j : Int) < (L : Int) := by omega
              have MXN : Hid (Mn w N g5 g12 (some ⟨sb, so, none⟩) L c5 S (.slice (some ⟨bb, off, none⟩) M cd9) (if (tn : Int) < (L : Int) then [(⟨2, (tn : Int) + 1, tn, em⟩ : Fm)] else []) ((tn : Int) + ((j + 1 : Nat) : Int)) (((w16.setCell ⟨g12, 0, none⟩ (.slice a15 0 cap15)).setCell ⟨g12, 1, none⟩ (.int .i64 ((tn : Int) + (j : Int) + 1))).setCell ⟨g12, 2, none⟩ (.int .i64 0))) := Lib.hid (by
                rw [show (tn : Int) + ((j + 1 : Nat) : Int) = (tn : Int) + (j : Int) + 1 by omega]
                exact MX16.out.set a15 cap15 _ HNN.out)
              have HOXN : Hid (OwnX (((w16.setCell ⟨g12, 0, none⟩ (.slice a15 0 cap15)).setCell ⟨g12, 1, none⟩ (.int .i64 ((tn : Int) + (j : Int) + 1))).setCell ⟨g12, 2, none⟩ (.int .i64 0)) 0 (.slice (some ⟨b2, o2, none⟩) D cD) (Ss.resent S 0 tn)) := Lib.hid (HOX16.out.other3 HD12.out _ _ _)
              clear hr1 hx1
              go_wp2
              go_roundg (D - (j + 1))
              case measure => omega
              case rel => exact ⟨j + 1, by omega, by go_num, MXN, HOXN⟩
            · obtain rfl : j = D := by omega
              have MXE : Hid (Mn w N g5 g12 a5 L c5 S (.slice (some ⟨bb, off, none⟩) M cd9) (if (tn : Int) < (L : Int) then [(⟨2, (tn : Int) + 1, tn, em⟩ : Fm)] else []) ((tn + j : Nat) : Int) wr) := Lib.hid (by rw [show ((tn + j : Nat) : Int) = (tn : Int) + (j : Int) by omega]; exact MX.out)
              have HTE : Hid (tn + j = if q + 1 = 0 then tn else tn + min (L - tn) 64) := Lib.hid (by rw [if_neg (by omega), HDV.out])
              go_wp2
              go_roundg (M - (q + 1))
              case measure => omega
              case rel => exact ⟨q + 1, tn + j, by omega, by go_num, HTE, MXE⟩
        · obtain rfl : q = M := by omega
          obtain ⟨x1, c1', hr1, hx1⟩ := MR.out.r
          obtain ⟨d0, d1, d2⟩ := agg_cells hr1
          have hT := HT.out; have hMv := HMV.out
          have u1 : IntKind.i64.wrap ((tn : Int) + 64) = (tn : Int) + 64 := IntWalk.i64_in _ (by omega)
          have hTv : T = if tn + 64 < L then tn + 64 else L := by
            by_cases h : tn < L
            · rw [if_pos h] at hMv
              rw [if_neg (by omega)] at hT
              split <;> omega
            · rw [if_neg h] at hMv
              rw [if_pos (by omega)] at hT
              split <;> omega
          have hBL := Lib.hid MR.out.bel
          clear hr1 hx1 hT hMv HT HMV
          by_cases h : tn + 64 < L
          case' pos =>
            rw [if_pos h] at hTv
            have t7 : decide ((tn : Int) + 64 < (L : Int)) = true := by rw [decide_eq_true_eq]; omega
            have t8 : ((T : Int) == (tn : Int) + 64) = true := by rw [beq_iff_eq]; omega
          case' neg =>
            rw [if_neg h] at hTv
            have t7 : decide ((tn : Int) + 64 < (L : Int)) = false := by rw [decide_eq_false_iff_not]; omega
            have t7b : ¬ (tn : Int) + 64 < (L : Int) := by omega
            have t8 : ((T : Int) == (L : Int)) = true := by rw [beq_iff_eq]; omega
            have t9 : (T == L) = true := by rw [beq_iff_eq]; exact hTv
          all_goals
            clear hTv
            go_wp2
            all_goals
              go_ret
              exact ⟨rfl, by rw [← HN.out]; exact hBL.out⟩
end Go.Proofs.Ytmecaioklmkdlaa.Ss

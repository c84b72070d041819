/-
  Layer 8: the reference's Take: an asking, what is refused, any.
-/
import Derived.Test.YtmecaioklmkdlaaAn
namespace Go.Proofs.Ytmecaioklmkdlaa.Ss
open Go.RowKit
set_option linter.unusedVariables false
set_option linter.unusedSimpArgs false

set_option maxRecDepth 100000 in
set_option maxHeartbeats 8000000 in
theorem rtake_ask (a : Option Addr) (len cap : Nat) (S : List ByteArray) (t k : Int) (K tk : Int) (j : Nat) (b : ByteArray) (w : World) (hS : HasS w a S) (hl : S.length = len) (hn : a = none → cap = 0) (hgd : goodB ⟨S, t, k⟩ = true) (hvd : validB ⟨2, ((j : Int) + 1), tk, b⟩ = true) (hkn : KN k tk K len) :
    Calls Try.prog 18 #[.agg #[.slice a len cap, .int .i64 t, .int .i64 k], .agg #[.int .i64 2, .int .i64 ((j : Int) + 1), .int .i64 tk, .string b]] w (TakeIt (⟨S, t, K⟩, em, Ss.resent S t j, 0) w) := by
  have hg := fun w h => rgood_any a len cap ⟨S, t, k⟩ w h hl
  have hr := fun w h hb => copied_any a len cap ⟨S, t, k⟩ w h hl hn hb
  have hv := fun w => rvalid_any 2 ((j : Int) + 1) tk b w
  obtain ⟨gd1, gd2, gd3, gd4⟩ := goodB_iff.1 hgd
  obtain ⟨vd1, vd2, vd3⟩ := validB_iff.1 hvd
  simp only at gd1 gd2 gd3 gd4 vd1 vd2 vd3
  unfold Tells at hg hv
  rw [hgd] at hg
  rw [hvd] at hv
  have hb256 : len ≤ 256 := by omega
  have HS := Lib.hid hS; have HL := Lib.hid hl; have HGD := Lib.hid gd2; clear hS hl hn hgd hvd gd1 gd2 vd3
  simp only at hg hr
  obtain ⟨N, hN⟩ : ∃ N, N = w.heap.size := ⟨_, rfl⟩
  obtain ⟨x0, y0, z0, b0⟩ := three_new w #[.slice a len cap, .int .i64 t, .int .i64 k] #[.int .i64 2, .int .i64 ((j : Int) + 1), .int .i64 tk, .string b] #[.slice none 0 0, .int .i64 0, .int .i64 0] 24 27 24
  obtain ⟨w0, hw0⟩ : ∃ w0, w0 = ((w.alloc (.cells #[.slice a len cap, .int .i64 t, .int .i64 k] 24)).alloc (.cells #[.int .i64 2, .int .i64 ((j : Int) + 1), .int .i64 tk, .string b] 27)).alloc (.cells #[.slice none 0 0, .int .i64 0, .int .i64 0] 24) := ⟨_, rfl⟩
  rw [← hw0] at x0 y0 z0 b0
  have HS0 := Lib.hid (HS.out.keep b0)
  rw [← hN] at x0 y0 z0 b0
  have HN := Lib.hid hN; have HW0 := Lib.hid hw0; have B0 := Lib.hid b0; have HX := Lib.hid x0; have HF := Lib.hid y0; have HY := Lib.hid z0
  have hz0 : N + 3 ≤ w0.heap.size := z0.lt
  clear hN hw0 b0 x0 y0 z0
  obtain ⟨c0, c1, c2⟩ := agg_cells HX.out
  obtain ⟨p0, p1, p2, p3⟩ := fm_cells HF.out
  have hat := fun q h => resL_snoc (S.drop j) t j q (by rw [List.length_drop]; exact h)
  have hln := fun q => resL_len (S.drop j) t j q
  rw [List.length_drop, HL.out] at hln
  rw [HL.out] at hat
  have HAT := Lib.hid hat; have HLN := Lib.hid hln
  clear hat hln
  rcases hkn with ⟨h1, h2, rfl⟩ | ⟨h1, h2, rfl⟩ | ⟨h1, rfl⟩
  case' inl =>
    have t1 : decide (k < K) = true := decide_eq_true h1
    have t2 : decide (K ≤ (len : Int)) = true := decide_eq_true h2
  case' inr.inl =>
    have t1 : decide (K < tk) = true := decide_eq_true h1
    have t2 : decide (tk ≤ (len : Int)) = false := decide_eq_false h2
  case' inr.inr =>
    have t1 : decide (K < tk) = false := decide_eq_false h1
  all_goals
    go_enter Try.func18, Try.ntmps18
    go_wp2_with fail
    rw [← HN.out, ← HW0.out]
    go_wp2_with (first
      | (go_at_call 14; (with_reducible refine (hg _ HS0.out).mono ?_); rintro e w1 ⟨rfl, hb1⟩; have HB1 := Lib.hid (B0.out.trans (hb1.mono (by omega))); have HX1 := Lib.hid (HX.out.keep hb1); have HF1 := Lib.hid (HF.out.keep hb1); have HY1 := Lib.hid (HY.out.keep hb1); have HS1 := Lib.hid (HS0.out.keep hb1); have hz1 := hb1.size; clear hb1 c0 c1 c2 p0 p1 p2 p3; obtain ⟨c0, c1, c2⟩ := agg_cells HX1.out; obtain ⟨p0, p1, p2, p3⟩ := fm_cells HF1.out)
      | (go_at_call 21; (with_reducible refine (hv _).mono ?_); rintro e w1b ⟨rfl, hb1⟩; have HB1b := Lib.hid (HB1.out.trans (hb1.mono (by omega))); have HX1b := Lib.hid (HX1.out.keep hb1); have HF1b := Lib.hid (HF1.out.keep hb1); have HY1b := Lib.hid (HY1.out.keep hb1); have HS1b := Lib.hid (HS1.out.keep hb1); have hz1b := hb1.size; clear hb1 c0 c1 c2 p0 p1 p2 p3; obtain ⟨c0, c1, c2⟩ := agg_cells HX1b.out; obtain ⟨p0, p1, p2, p3⟩ := fm_cells HF1b.out)
      | (go_at_call 25; (with_reducible refine (hr _ HS1b.out hb256).mono ?_); rintro e w2 ⟨v2, rfl, ho2, hb2⟩; obtain ⟨a2, cap2, rfl, -⟩ := ho2.has; have HB2 := Lib.hid (HB1b.out.trans (hb2.mono (by omega))); have HX2 := Lib.hid (HX1b.out.keep hb2); have HF2 := Lib.hid (HF1b.out.keep hb2); have HY2 := Lib.hid (HY1b.out.keep hb2); have HS2 := Lib.hid (HS1b.out.keep hb2); have HO2 := Lib.hid (ho2.low (show N + 3 ≤ w1b.heap.size by omega)); have hz2 := hb2.size; clear hb2 ho2 c0 c1 c2 p0 p1 p2 p3; rw [HL.out]; rw [HL.out] at HO2; have c0 := fun o : Obj => (agg_cells (HX2.out.keep ((Below.refl w2.heap.size w2).alloc (Nat.le_refl _) o))).1; have c1 := fun o : Obj => (agg_cells (HX2.out.keep ((Below.refl w2.heap.size w2).alloc (Nat.le_refl _) o))).2.1; have c2 := fun o : Obj => (agg_cells (HX2.out.keep ((Below.refl w2.heap.size w2).alloc (Nat.le_refl _) o))).2.2; have q0 := fun o : Obj => (fm_cells (HF2.out.keep ((Below.refl w2.heap.size w2).alloc (Nat.le_refl _) o))).1; have q1 := fun o : Obj => (fm_cells (HF2.out.keep ((Below.refl w2.heap.size w2).alloc (Nat.le_refl _) o))).2.1; have q2 := fun o : Obj => (fm_cells (HF2.out.keep ((Below.refl w2.heap.size w2).alloc (Nat.le_refl _) o))).2.2.1; have q3 := fun o : Obj => (fm_cells (HF2.out.keep ((Below.refl w2.heap.size w2).alloc (Nat.le_refl _) o))).2.2.2; have d0 := fun o : Obj => (agg_cells (HY2.out.keep ((Below.refl w2.heap.size w2).alloc (Nat.le_refl _) o))).1; have d1 := fun o : Obj => (agg_cells (HY2.out.keep ((Below.refl w2.heap.size w2).alloc (Nat.le_refl _) o))).2.1; have d2 := fun o : Obj => (agg_cells (HY2.out.keep ((Below.refl w2.heap.size w2).alloc (Nat.le_refl _) o))).2.2; have f0 := fun o : Obj => (HY2.out.keep ((Below.refl w2.heap.size w2).alloc (Nat.le_refl _) o)).free 0; have f1 := fun o : Obj => (HY2.out.keep ((Below.refl w2.heap.size w2).alloc (Nat.le_refl _) o)).free 1; have f2 := fun o : Obj => (HY2.out.keep ((Below.refl w2.heap.size w2).alloc (Nat.le_refl _) o)).free 2))
    obtain ⟨w3, hw3⟩ : ∃ w3, w3 = w2.alloc (.cells #[.slice a2 len cap2, .int .i64 t, .int .i64 K] 24) := ⟨_, rfl⟩
    rw [← hw3]
    have hb3 : Below w2.heap.size w2 w3 := by rw [hw3]; exact (Below.refl _ _).alloc (Nat.le_refl _) _
    have hz3 : w3.heap.size = w2.heap.size + 1 := by rw [hw3, World.size_alloc]
    have HG3 : Hid (Blk w3 w2.heap.size #[.slice a2 len cap2, .int .i64 t, .int .i64 K] 24) := Lib.hid (by rw [hw3]; exact Blk.new _ _ _)
    obtain ⟨fr, hfr, hf3⟩ : ∃ fr, fr[1]? = some (Value.int .i64 ((j : Int) + 1)) ∧ Blk w3 (N + 1) fr 27 := ⟨_, rfl, HF2.out.keep hb3⟩
    obtain ⟨sr, hsr, hx3⟩ : ∃ sr, sr[1]? = some (Value.int .i64 t) ∧ Blk w3 N sr 24 := ⟨_, rfl, HX2.out.keep hb3⟩
    have HFR := Lib.hid hfr; have HF3 := Lib.hid hf3; have HSR := Lib.hid hsr; have HX3 := Lib.hid hx3
    have HY3 := Lib.hid (HY2.out.keep hb3); have HO3 := Lib.hid (HO2.out.keep hb3); have HB3 := Lib.hid (HB2.out.trans (hb3.mono (by omega))); have HS3 := Lib.hid (HS2.out.keep hb3)
    have hzN : N + 3 ≤ w2.heap.size := by omega
    clear hw3 hb3 c0 c1 c2 q0 q1 q2 q3 d0 d1 d2 f0 f1 f2 HF2 HY2 HX2 HS2 HO2 HB2 HF1b HY1b HX1b HB1b HF1 HY1 HX1 HB1 hfr hf3 hsr hx3 hz1 hz1b hz2 hz0
    go_loopg [9, 44] len (fun m v i wr => ∃ p : Nat, p + m = len ∧ i = .int .i64 (p : Int) ∧ Hid (OwnX wr w3.heap.size v (resL (S.drop j) t j (min (p - j) 64))) ∧ Hid (Below w3.heap.size w3 wr))
    case atStart => exact ⟨0, by omega, rfl, Lib.hid (by rw [show min (0 - j) 64 = 0 by omega, resL_zero]; exact ownX_nil _ _), Lib.hid (Below.refl _ _)⟩
    case round =>
      obtain ⟨p, hp, rfl, HO, HB⟩ := hrel
      have hz := HB.out.size
      obtain ⟨av, cv, rfl, -⟩ := HO.out.has
      by_cases hlt : p < len
      · obtain ⟨l, hl0⟩ : ∃ l, l = min (p - j) 64 := ⟨_, rfl⟩
        have hlen : (resL (S.drop j) t j (min (p - j) 64)).length = l := by rw [HLN.out, hl0]; omega
        rw [hlen]
        rw [hlen] at HO
        have HLEN := Lib.hid hlen; have HL0 := Lib.hid hl0
        obtain ⟨bb, off, rfl, cs⟩ := (HS3.out.keep HB.out).at (show p < S.length by rw [HL.out]; exact hlt)
        have p1 := ((HF3.out.keep HB.out).cell 1).trans HFR.out
        have c1 := ((HX3.out.keep HB.out).cell 1).trans HSR.out
        have i0 : (p : Int) < (len : Int) := by omega
        have i1 : IntKind.i64.wrap ((p : Int) + 1) = (p : Int) + 1 := IntWalk.i64_in _ (by omega)
        obtain ⟨m0, hm0⟩ : ∃ m0, m0 = S.getD p em := ⟨_, rfl⟩
        rw [← hm0] at cs
        have HM0 := Lib.hid hm0
        clear hlen hl0 hm0
        by_cases hq : j ≤ p ∧ p - j < 64
        · obtain ⟨hq1, hq2⟩ := hq
          have t3 : decide ((j : Int) + 1 ≤ (p : Int) + 1) = true := by rw [decide_eq_true_eq]; omega
          have t4 : decide ((j : Int) ≤ (p : Int)) = true := by rw [decide_eq_true_eq]; omega
          have t5 : decide (j ≤ p) = true := by rw [decide_eq_true_eq]; omega
          have t6 : decide ((l : Int) < 64) = true := by rw [decide_eq_true_eq]; have := HL0.out; omega
          have hlb : l < 64 := by have := HL0.out; omega
          go_wp2_with (at_builtin; go_must (refine wp_apX rfl (.tmp 59) (.tmp 66) rfl w3.heap.size _ _ rfl (HO.out.keep (below_alloc1 _ _)) _ _ _ [⟨1, (p : Int) + 1, t, m0⟩] rfl (lit_oneX _ ⟨1, (p : Int) + 1, t, m0⟩ _ _ rfl) rfl (fun h => by cases h) (by rw [HLEN.out]; omega) (by rw [World.size_alloc]; omega) ?_; intro v6 w6 ho6 hg6 hnb6; have hov := HO.out.lt; have HB6 := Lib.hid ((HB.out.alloc hz (.cells #[.int .i64 1, .int .i64 ((p : Int) + 1), .int .i64 t, .string m0] 27)).grown hg6 (by rw [World.size_alloc]; omega) (fun r hr => (hov r hr).1)); have HO6 := Lib.hid ho6; clear ho6 hg6 hnb6 hov))
          have hon : OwnX w6 w3.heap.size v6 (resL (S.drop j) t j (min (p + 1 - j) 64)) := by
            have h1 := HO6.out
            have h2 := HAT.out (p - j) (by omega)
            rw [show min (p - j) 64 = p - j by omega] at h1
            rw [show min (p + 1 - j) 64 = p - j + 1 by omega, h2, getD_drop, show j + (p - j) = p by omega, ← HM0.out, show (j : Int) + ((p - j : Nat) : Int) = (p : Int) by omega]
            exact h1
          have HON := Lib.hid hon
          clear hon
          go_roundg (len - (p + 1))
          case measure => omega
          case rel => exact ⟨p + 1, by omega, by go_num, HON, HB6⟩
        · have hon : resL (S.drop j) t j (min (p - j) 64) = resL (S.drop j) t j (min (p + 1 - j) 64) := by congr 1; omega
          rw [hon] at HO
          by_cases hjp : j ≤ p
          · have t3 : decide ((j : Int) + 1 ≤ (p : Int) + 1) = true := by rw [decide_eq_true_eq]; omega
            have t4 : decide ((j : Int) ≤ (p : Int)) = true := by rw [decide_eq_true_eq]; omega
            have t5 : decide (j ≤ p) = true := by rw [decide_eq_true_eq]; omega
            have t6 : decide ((l : Int) < 64) = false := by rw [decide_eq_false_iff_not]; have := HL0.out; omega
            clear hon hq hjp
            go_wp2
            go_roundg (len - (p + 1))
            case measure => omega
            case rel => exact ⟨p + 1, by omega, by go_num, HO, HB⟩
          · have t3 : decide ((j : Int) + 1 ≤ (p : Int) + 1) = false := by rw [decide_eq_false_iff_not]; omega
            have t4 : decide ((j : Int) ≤ (p : Int)) = false := by rw [decide_eq_false_iff_not]; omega
            have t5 : decide (j ≤ p) = false := by rw [decide_eq_false_iff_not]; omega
            clear hon hq hjp
            go_wp2
            go_roundg (len - (p + 1))
            case measure => omega
            case rel => exact ⟨p + 1, by omega, by go_num, HO, HB⟩
      · obtain rfl : p = len := by omega
        have hfin : resL (S.drop j) t j (min (p - j) 64) = Ss.resent S t j := by
          unfold Ss.resent
          refine List.ext_getElem? fun i => ?_
          have hL := HL.out
          by_cases hi : i < min (p - j) 64
          · rw [resL_at _ _ _ _ _ (by rw [List.length_drop, hL]; omega), resL_at _ _ _ _ _ (by rw [List.length_drop, hL]; omega)]
          · rw [List.getElem?_eq_none (by rw [HLN.out]; omega), List.getElem?_eq_none (by rw [HLN.out]; omega)]
        rw [hfin] at HO
        rw [hfin]
        clear hfin
        have HGr := Lib.hid (HG3.out.keep HB.out); have HYr := Lib.hid (HY3.out.keep HB.out)
        obtain ⟨k0, k1, k2⟩ := agg_cells HGr.out
        obtain ⟨d0, d1, d2⟩ := agg_cells HYr.out; have f0 := HYr.out.free 0; have f1 := HYr.out.free 1; have f2 := HYr.out.free 2
        obtain ⟨vl, hvl⟩ : ∃ vl, vl = (Ss.resent S t j).length := ⟨_, rfl⟩
        rw [← hvl]
        rw [← hvl] at HO
        clear hvl
        go_wp2
        have hN := HN.out
        have hov := HO3.out.lt
        have j1 := HYr.out.set3 (.slice a2 p cap2) (.int .i64 t) (.int .i64 K)
        refine bodyPost_ret (take_res (x := .string em) (y := .slice av vl cv) (z := .int .i64 0) rfl j1 rfl rfl rfl rfl) rfl ⟨_, _, rfl, ?_, ?_, ?_, ?_⟩
        · exact ((HO3.out.keep HB.out).set3 (by omega)).low (by omega)
        · exact (HO.out.set3 (by omega)).low (by omega)
        · intro r h1 h2
          have := (hov r h1).2; have := (HO.out.lt r h2).1
          omega
        · rw [← hN]
          exact below_set3 (HB3.out.trans (HB.out.mono (by omega))) (by omega) _ _ _
set_option maxRecDepth 100000 in
set_option maxHeartbeats 4000000 in
theorem rtake_bad (a : Option Addr) (len cap : Nat) (S : List ByteArray) (t k kd n tk : Int) (b : ByteArray) (w : World) (hS : HasS w a S) (hl : S.length = len) (hgd : goodB ⟨S, t, k⟩ = false) :
    Calls Try.prog 18 #[.agg #[.slice a len cap, .int .i64 t, .int .i64 k], .agg #[.int .i64 kd, .int .i64 n, .int .i64 tk, .string b]] w (TakeIt (sd0, em, [], 1) w) := by
  have hg := fun w h => rgood_any a len cap ⟨S, t, k⟩ w h hl
  have hv := fun w => rvalid_any kd n tk b w
  unfold Tells at hg hv
  rw [hgd] at hg
  
  have HS := Lib.hid hS; have HL := Lib.hid hl; clear hS hl hgd
  simp only at hg
  obtain ⟨N, hN⟩ : ∃ N, N = w.heap.size := ⟨_, rfl⟩
  obtain ⟨x0, y0, z0, b0⟩ := three_new w #[.slice a len cap, .int .i64 t, .int .i64 k] #[.int .i64 kd, .int .i64 n, .int .i64 tk, .string b] #[.slice none 0 0, .int .i64 0, .int .i64 0] 24 27 24
  obtain ⟨w0, hw0⟩ : ∃ w0, w0 = ((w.alloc (.cells #[.slice a len cap, .int .i64 t, .int .i64 k] 24)).alloc (.cells #[.int .i64 kd, .int .i64 n, .int .i64 tk, .string b] 27)).alloc (.cells #[.slice none 0 0, .int .i64 0, .int .i64 0] 24) := ⟨_, rfl⟩
  rw [← hw0] at x0 y0 z0 b0
  have HS0 := Lib.hid (HS.out.keep b0)
  rw [← hN] at x0 y0 z0 b0
  have HN := Lib.hid hN; have HW0 := Lib.hid hw0; have B0 := Lib.hid b0; have HX := Lib.hid x0; have HF := Lib.hid y0; have HY := Lib.hid z0
  have hz0 : N + 3 ≤ w0.heap.size := z0.lt
  clear hN hw0 b0 x0 y0 z0
  obtain ⟨c0, c1, c2⟩ := agg_cells HX.out
  obtain ⟨p0, p1, p2, p3⟩ := fm_cells HF.out
  go_enter Try.func18, Try.ntmps18
  go_wp2_with fail
  rw [← HN.out, ← HW0.out]
  go_wp2_with (go_at_call 14; (with_reducible refine (hg _ HS0.out).mono ?_); rintro e w1 ⟨rfl, hb1⟩; have HB1 := Lib.hid (B0.out.trans (hb1.mono (by omega))); have HX1 := Lib.hid (HX.out.keep hb1); have HF1 := Lib.hid (HF.out.keep hb1); have HY1 := Lib.hid (HY.out.keep hb1); have HS1 := Lib.hid (HS0.out.keep hb1); have hz1 := hb1.size; clear hb1 c0 c1 c2 p0 p1 p2 p3; obtain ⟨c0, c1, c2⟩ := agg_cells HX1.out; obtain ⟨p0, p1, p2, p3⟩ := fm_cells HF1.out; obtain ⟨d0, d1, d2⟩ := agg_cells HY1.out; have f0 := HY1.out.free 0; have f1 := HY1.out.free 1; have f2 := HY1.out.free 2)
  have hN := HN.out
  have j1 := HY1.out.set3 (.slice none 0 0) (.int .i64 0) (.int .i64 0)
  refine bodyPost_ret (take_res (x := .string em) (y := .slice none 0 0) (z := .int .i64 1) rfl j1 rfl rfl rfl rfl) rfl ⟨_, _, rfl, ownS_nil _ _, ownX_nil _ _, Apart.nil _, ?_⟩
  rw [← hN]
  exact below_set3 HB1.out (by omega) _ _ _
set_option maxRecDepth 100000 in
set_option maxHeartbeats 4000000 in
theorem rtake_form (a : Option Addr) (len cap : Nat) (S : List ByteArray) (t k kd n tk : Int) (b : ByteArray) (w : World) (hS : HasS w a S) (hl : S.length = len) (hgd : goodB ⟨S, t, k⟩ = true) (hvd : validB ⟨kd, n, tk, b⟩ = false) :
    Calls Try.prog 18 #[.agg #[.slice a len cap, .int .i64 t, .int .i64 k], .agg #[.int .i64 kd, .int .i64 n, .int .i64 tk, .string b]] w (TakeIt (sd0, em, [], 11) w) := by
  have hg := fun w h => rgood_any a len cap ⟨S, t, k⟩ w h hl
  have hv := fun w => rvalid_any kd n tk b w
  unfold Tells at hg hv
  rw [hgd] at hg
  rw [hvd] at hv
  have HS := Lib.hid hS; have HL := Lib.hid hl; clear hS hl hgd
  simp only at hg
  obtain ⟨N, hN⟩ : ∃ N, N = w.heap.size := ⟨_, rfl⟩
  obtain ⟨x0, y0, z0, b0⟩ := three_new w #[.slice a len cap, .int .i64 t, .int .i64 k] #[.int .i64 kd, .int .i64 n, .int .i64 tk, .string b] #[.slice none 0 0, .int .i64 0, .int .i64 0] 24 27 24
  obtain ⟨w0, hw0⟩ : ∃ w0, w0 = ((w.alloc (.cells #[.slice a len cap, .int .i64 t, .int .i64 k] 24)).alloc (.cells #[.int .i64 kd, .int .i64 n, .int .i64 tk, .string b] 27)).alloc (.cells #[.slice none 0 0, .int .i64 0, .int .i64 0] 24) := ⟨_, rfl⟩
  rw [← hw0] at x0 y0 z0 b0
  have HS0 := Lib.hid (HS.out.keep b0)
  rw [← hN] at x0 y0 z0 b0
  have HN := Lib.hid hN; have HW0 := Lib.hid hw0; have B0 := Lib.hid b0; have HX := Lib.hid x0; have HF := Lib.hid y0; have HY := Lib.hid z0
  have hz0 : N + 3 ≤ w0.heap.size := z0.lt
  clear hN hw0 b0 x0 y0 z0
  obtain ⟨c0, c1, c2⟩ := agg_cells HX.out
  obtain ⟨p0, p1, p2, p3⟩ := fm_cells HF.out
  go_enter Try.func18, Try.ntmps18
  go_wp2_with fail
  rw [← HN.out, ← HW0.out]
  go_wp2_with (first | (go_at_call 14; (with_reducible refine (hg _ HS0.out).mono ?_); rintro e w1 ⟨rfl, hb1⟩; have HB1 := Lib.hid (B0.out.trans (hb1.mono (by omega))); have HX1 := Lib.hid (HX.out.keep hb1); have HF1 := Lib.hid (HF.out.keep hb1); have HY1 := Lib.hid (HY.out.keep hb1); have HS1 := Lib.hid (HS0.out.keep hb1); have hz1 := hb1.size; clear hb1 c0 c1 c2 p0 p1 p2 p3; obtain ⟨c0, c1, c2⟩ := agg_cells HX1.out; obtain ⟨p0, p1, p2, p3⟩ := fm_cells HF1.out) | (go_at_call 21; (with_reducible refine (hv _).mono ?_); rintro e w1b ⟨rfl, hb1⟩; have HB1b := Lib.hid (HB1.out.trans (hb1.mono (by omega))); have HX1b := Lib.hid (HX1.out.keep hb1); have HF1b := Lib.hid (HF1.out.keep hb1); have HY1b := Lib.hid (HY1.out.keep hb1); have HS1b := Lib.hid (HS1.out.keep hb1); have hz1b := hb1.size; clear hb1 c0 c1 c2 p0 p1 p2 p3; obtain ⟨c0, c1, c2⟩ := agg_cells HX1b.out; obtain ⟨p0, p1, p2, p3⟩ := fm_cells HF1b.out; obtain ⟨d0, d1, d2⟩ := agg_cells HY1b.out; have f0 := HY1b.out.free 0; have f1 := HY1b.out.free 1; have f2 := HY1b.out.free 2))
  have hN := HN.out
  have j1 := HY1b.out.set3 (.slice none 0 0) (.int .i64 0) (.int .i64 0)
  refine bodyPost_ret (take_res (x := .string em) (y := .slice none 0 0) (z := .int .i64 11) rfl j1 rfl rfl rfl rfl) rfl ⟨_, _, rfl, ownS_nil _ _, ownX_nil _ _, Apart.nil _, ?_⟩
  rw [← hN]
  exact below_set3 HB1b.out (by omega) _ _ _
/-- The reference's Take, of any end and any frame. -/
theorem rtake_any (a : Option Addr) (len cap : Nat) (s : Sd) (f : Fm) (w : World) (hS : HasS w a s.S) (hl : s.S.length = len) (hn : a = none → cap = 0) :
    Calls Try.prog 18 #[.agg #[.slice a len cap, .int .i64 s.t, .int .i64 s.k], .agg (fmV f)] w (TakeIt (takeS s f) w) := by
  obtain ⟨S, t, k⟩ := s
  obtain ⟨kd, n, tk, b⟩ := f
  simp only at hS hl ⊢
  cases hg : goodB ⟨S, t, k⟩ with
  | false =>
    have e : takeS ⟨S, t, k⟩ ⟨kd, n, tk, b⟩ = (sd0, em, [], 1) := by unfold takeS; rw [if_pos hg]
    rw [e]
    exact rtake_bad a len cap S t k kd n tk b w hS hl hg
  | true =>
  cases hv : validB ⟨kd, n, tk, b⟩ with
  | false =>
    have e : takeS ⟨S, t, k⟩ ⟨kd, n, tk, b⟩ = (sd0, em, [], 11) := by unfold takeS; rw [if_neg (by simp [hg]), if_pos hv]
    rw [e]
    exact rtake_form a len cap S t k kd n tk b w hS hl hg hv
  | true =>
  have hkn := kn_of S t k ⟨kd, n, tk, b⟩ len hl
  simp only at hkn
  obtain ⟨K, hK⟩ : ∃ K, knownS ⟨S, t, k⟩ ⟨kd, n, tk, b⟩ = K := ⟨_, rfl⟩
  rw [hK] at hkn
  obtain ⟨v1, v2, v3⟩ := validB_iff.1 hv
  simp only at v1 v2 v3
  unfold takeS
  rw [if_neg (by simp [hg]), if_neg (by simp [hv]), hK]
  simp only
  by_cases k2 : kd = 2
  · rw [if_pos k2]
    subst k2
    obtain ⟨j, hj⟩ : ∃ j : Nat, n = (j : Int) + 1 := ⟨(n - 1).toNat, by omega⟩
    subst hj
    rw [show ((j : Int) + 1 - 1).toNat = j by omega]
    exact rtake_ask a len cap S t k K tk j b w hS hl hn hg hv hkn
  rw [if_neg k2]
  by_cases k1 : kd = 1 ∧ n = t + 1
  · rw [if_pos k1]
    obtain ⟨rfl, rfl⟩ := k1
    exact rtake_data a len cap S t k K tk b w hS hl hn hg hv hkn
  rw [if_neg k1]
  have hk : kd = 1 ∧ n ≠ t + 1 ∨ kd = 3 := by
    rcases v3 with h | h | h
    · exact .inl ⟨h.1, fun e => k1 ⟨h.1, e⟩⟩
    · exact absurd h.1 k2
    · exact .inr h.1
  by_cases hlt : t < n
  · rw [if_pos hlt]
    rcases hk with ⟨rfl, hne⟩ | rfl
    · exact rtake_gap1 a len cap S t k K tk n b hne hlt w hS hl hn hg hv hkn
    · exact rtake_gap3 a len cap S t k K tk n b hlt w hS hl hn hg hv hkn
  · rw [if_neg hlt]
    rcases hk with ⟨rfl, hne⟩ | rfl
    · exact rtake_none1 a len cap S t k K tk n b hlt w hS hl hn hg hv hkn
    · exact rtake_none3 a len cap S t k K tk n b hlt w hS hl hn hg hv hkn
end Go.Proofs.Ytmecaioklmkdlaa.Ss

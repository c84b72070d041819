/-
  Layer 8: the reference's Take.
-/
import Derived.Test.YtmecaioklmkdlaaAm
import Derived.Test.YtmecaioklmkdlaaAj
import Derived.Deep.DeepMust
namespace Go.Proofs.Ytmecaioklmkdlaa.Ss
open Go.RowKit
set_option linter.unusedVariables false
set_option linter.unusedSimpArgs false

set_option maxRecDepth 100000 in
set_option maxHeartbeats 8000000 in
theorem rtake_none1 (a : Option Addr) (len cap : Nat) (S : List ByteArray) (t k : Int) (K tk n : Int) (b : ByteArray) (hlt : ¬ t < n) (w : World) (hS : HasS w a S) (hl : S.length = len) (hn : a = none → cap = 0) (hgd : goodB ⟨S, t, k⟩ = true) (hvd : validB ⟨1, n, tk, b⟩ = true) (hkn : KN k tk K len) :
    Calls Try.prog 18 #[.agg #[.slice a len cap, .int .i64 t, .int .i64 k], .agg #[.int .i64 1, .int .i64 n, .int .i64 tk, .string b]] w (TakeIt (⟨S, t, K⟩, em, [], 0) w) := by
  have hg := fun w h => rgood_any a len cap ⟨S, t, k⟩ w h hl
  have hr := fun w h hb => copied_any a len cap ⟨S, t, k⟩ w h hl hn hb
  have hv := fun w => rvalid_any 1 n tk b w
  obtain ⟨gd1, gd2, gd3, gd4⟩ := goodB_iff.1 hgd
  obtain ⟨vd1, vd2, vd3⟩ := validB_iff.1 hvd
  simp only at gd1 gd2 gd3 gd4 vd1 vd2 vd3
  unfold Tells at hg hv
  rw [hgd] at hg
  rw [hvd] at hv
  have hb256 : len ≤ 256 := by omega
  have HS := Lib.hid hS; have HL := Lib.hid hl; have HGD := Lib.hid gd2; clear hS hl hn hgd hvd gd1 gd2 vd3
  simp only at hg hr
  obtain ⟨N, hN⟩ : ∃ N, N = w.heap.size := ⟨_, rfl⟩
  obtain ⟨x0, y0, z0, b0⟩ := three_new w #[.slice a len cap, .int .i64 t, .int .i64 k] #[.int .i64 1, .int .i64 n, .int .i64 tk, .string b] #[.slice none 0 0, .int .i64 0, .int .i64 0] 24 27 24
  obtain ⟨w0, hw0⟩ : ∃ w0, w0 = ((w.alloc (.cells #[.slice a len cap, .int .i64 t, .int .i64 k] 24)).alloc (.cells #[.int .i64 1, .int .i64 n, .int .i64 tk, .string b] 27)).alloc (.cells #[.slice none 0 0, .int .i64 0, .int .i64 0] 24) := ⟨_, rfl⟩
  rw [← hw0] at x0 y0 z0 b0
  have HS0 := Lib.hid (HS.out.keep b0)
  rw [← hN] at x0 y0 z0 b0
  have HN := Lib.hid hN; have HW0 := Lib.hid hw0; have B0 := Lib.hid b0; have HX := Lib.hid x0; have HF := Lib.hid y0; have HY := Lib.hid z0
  have hz0 : N + 3 ≤ w0.heap.size := z0.lt
  clear hN hw0 b0 x0 y0 z0
  obtain ⟨c0, c1, c2⟩ := agg_cells HX.out
  obtain ⟨p0, p1, p2, p3⟩ := fm_cells HF.out
  have n5 : (n == t + 1) = false := by rw [beq_eq_false_iff_ne]; omega
  have n6 : decide (t < n) = false := decide_eq_false hlt
  have i1 : IntKind.i64.wrap (t + 1) = t + 1 := IntWalk.i64_in _ (by omega)
  rcases hkn with ⟨h1, h2, rfl⟩ | ⟨h1, h2, rfl⟩ | ⟨h1, rfl⟩
  case' inl =>
    have t1 : decide (k < K) = true := decide_eq_true h1
    have t2 : decide (K ≤ (len : Int)) = true := decide_eq_true h2
  case' inr.inl =>
    have t1 : decide (K < tk) = true := decide_eq_true h1
    have t2 : decide (tk ≤ (len : Int)) = false := decide_eq_false h2
  case' inr.inr =>
    have t1 : decide (K < tk) = false := decide_eq_false h1
  all_goals
    go_enter Try.func18, Try.ntmps18
    go_wp2_with fail
    rw [← HN.out, ← HW0.out]
    go_wp2_with (first
      | (go_at_call 14; (with_reducible refine (hg _ HS0.out).mono ?_); rintro e w1 ⟨rfl, hb1⟩; have HB1 := Lib.hid (B0.out.trans (hb1.mono (by omega))); have HX1 := Lib.hid (HX.out.keep hb1); have HF1 := Lib.hid (HF.out.keep hb1); have HY1 := Lib.hid (HY.out.keep hb1); have HS1 := Lib.hid (HS0.out.keep hb1); have hz1 := hb1.size; clear hb1 c0 c1 c2 p0 p1 p2 p3; obtain ⟨c0, c1, c2⟩ := agg_cells HX1.out; obtain ⟨p0, p1, p2, p3⟩ := fm_cells HF1.out)
      | (go_at_call 21; (with_reducible refine (hv _).mono ?_); rintro e w1b ⟨rfl, hb1⟩; have HB1b := Lib.hid (HB1.out.trans (hb1.mono (by omega))); have HX1b := Lib.hid (HX1.out.keep hb1); have HF1b := Lib.hid (HF1.out.keep hb1); have HY1b := Lib.hid (HY1.out.keep hb1); have HS1b := Lib.hid (HS1.out.keep hb1); have hz1b := hb1.size; clear hb1 c0 c1 c2 p0 p1 p2 p3; obtain ⟨c0, c1, c2⟩ := agg_cells HX1b.out; obtain ⟨p0, p1, p2, p3⟩ := fm_cells HF1b.out)
      | (go_at_call 25; (with_reducible refine (hr _ HS1b.out hb256).mono ?_); rintro e w2 ⟨v2, rfl, ho2, hb2⟩; obtain ⟨a2, cap2, rfl, -⟩ := ho2.has; have HB2 := Lib.hid (HB1b.out.trans (hb2.mono (by omega))); have HX2 := Lib.hid (HX1b.out.keep hb2); have HF2 := Lib.hid (HF1b.out.keep hb2); have HY2 := Lib.hid (HY1b.out.keep hb2); have HS2 := Lib.hid (HS1b.out.keep hb2); have HO2 := Lib.hid (ho2.low (show N + 3 ≤ w1b.heap.size by omega)); have hz2 := hb2.size; clear hb2 ho2 c0 c1 c2 p0 p1 p2 p3; rw [HL.out]; rw [HL.out] at HO2; have c0 := fun o : Obj => (agg_cells (HX2.out.keep ((Below.refl w2.heap.size w2).alloc (Nat.le_refl _) o))).1; have c1 := fun o : Obj => (agg_cells (HX2.out.keep ((Below.refl w2.heap.size w2).alloc (Nat.le_refl _) o))).2.1; have c2 := fun o : Obj => (agg_cells (HX2.out.keep ((Below.refl w2.heap.size w2).alloc (Nat.le_refl _) o))).2.2; have q0 := fun o : Obj => (fm_cells (HF2.out.keep ((Below.refl w2.heap.size w2).alloc (Nat.le_refl _) o))).1; have q1 := fun o : Obj => (fm_cells (HF2.out.keep ((Below.refl w2.heap.size w2).alloc (Nat.le_refl _) o))).2.1; have q2 := fun o : Obj => (fm_cells (HF2.out.keep ((Below.refl w2.heap.size w2).alloc (Nat.le_refl _) o))).2.2.1; have q3 := fun o : Obj => (fm_cells (HF2.out.keep ((Below.refl w2.heap.size w2).alloc (Nat.le_refl _) o))).2.2.2; have d0 := fun o : Obj => (agg_cells (HY2.out.keep ((Below.refl w2.heap.size w2).alloc (Nat.le_refl _) o))).1; have d1 := fun o : Obj => (agg_cells (HY2.out.keep ((Below.refl w2.heap.size w2).alloc (Nat.le_refl _) o))).2.1; have d2 := fun o : Obj => (agg_cells (HY2.out.keep ((Below.refl w2.heap.size w2).alloc (Nat.le_refl _) o))).2.2; have f0 := fun o : Obj => (HY2.out.keep ((Below.refl w2.heap.size w2).alloc (Nat.le_refl _) o)).free 0; have f1 := fun o : Obj => (HY2.out.keep ((Below.refl w2.heap.size w2).alloc (Nat.le_refl _) o)).free 1; have f2 := fun o : Obj => (HY2.out.keep ((Below.refl w2.heap.size w2).alloc (Nat.le_refl _) o)).free 2))
    have hN := HN.out
    obtain ⟨w3, hw3⟩ : ∃ w3, w3 = w2.alloc (.cells #[.slice a2 len cap2, .int .i64 t, .int .i64 K] 24) := ⟨_, rfl⟩
    have hb3 : Below w2.heap.size w2 w3 := by rw [hw3]; exact (Below.refl _ _).alloc (Nat.le_refl _) _
    have FIN : ∃ W, W = (((w3.setCell ⟨N + 2, 0, none⟩ (.slice a2 len cap2)).setCell ⟨N + 2, 1, none⟩ (.int .i64 t)).setCell ⟨N + 2, 2, none⟩ (.int .i64 K)) ∧ Blk W (N + 2) #[.slice a2 len cap2, .int .i64 t, .int .i64 K] 24 ∧ OwnS W (N + 3) (.slice a2 len cap2) S ∧ Below N w W :=
      ⟨_, rfl, (HY2.out.keep hb3).set3 _ _ _, (HO2.out.keep hb3).set3 (by omega), below_set3 (HB2.out.trans (hb3.mono (by omega))) (show N ≤ N + 2 by omega) _ _ _⟩
    rw [← hw3]
    obtain ⟨W, hW, j1, j3, j4⟩ := FIN
    rw [← hW]
    clear hW hw3
    refine bodyPost_ret (take_res (x := .string em) (y := .slice none 0 0) (z := .int .i64 0) rfl j1 rfl rfl rfl rfl) rfl ⟨_, _, rfl, j3.low (by omega), ownX_nil _ _, Apart.nil _, ?_⟩
    rw [← hN]; exact j4
set_option maxRecDepth 100000 in
set_option maxHeartbeats 8000000 in
theorem rtake_none3 (a : Option Addr) (len cap : Nat) (S : List ByteArray) (t k : Int) (K tk n : Int) (b : ByteArray) (hlt : ¬ t < n) (w : World) (hS : HasS w a S) (hl : S.length = len) (hn : a = none → cap = 0) (hgd : goodB ⟨S, t, k⟩ = true) (hvd : validB ⟨3, n, tk, b⟩ = true) (hkn : KN k tk K len) :
    Calls Try.prog 18 #[.agg #[.slice a len cap, .int .i64 t, .int .i64 k], .agg #[.int .i64 3, .int .i64 n, .int .i64 tk, .string b]] w (TakeIt (⟨S, t, K⟩, em, [], 0) w) := by
  have hg := fun w h => rgood_any a len cap ⟨S, t, k⟩ w h hl
  have hr := fun w h hb => copied_any a len cap ⟨S, t, k⟩ w h hl hn hb
  have hv := fun w => rvalid_any 3 n tk b w
  obtain ⟨gd1, gd2, gd3, gd4⟩ := goodB_iff.1 hgd
  obtain ⟨vd1, vd2, vd3⟩ := validB_iff.1 hvd
  simp only at gd1 gd2 gd3 gd4 vd1 vd2 vd3
  unfold Tells at hg hv
  rw [hgd] at hg
  rw [hvd] at hv
  have hb256 : len ≤ 256 := by omega
  have HS := Lib.hid hS; have HL := Lib.hid hl; have HGD := Lib.hid gd2; clear hS hl hn hgd hvd gd1 gd2 vd3
  simp only at hg hr
  obtain ⟨N, hN⟩ : ∃ N, N = w.heap.size := ⟨_, rfl⟩
  obtain ⟨x0, y0, z0, b0⟩ := three_new w #[.slice a len cap, .int .i64 t, .int .i64 k] #[.int .i64 3, .int .i64 n, .int .i64 tk, .string b] #[.slice none 0 0, .int .i64 0, .int .i64 0] 24 27 24
  obtain ⟨w0, hw0⟩ : ∃ w0, w0 = ((w.alloc (.cells #[.slice a len cap, .int .i64 t, .int .i64 k] 24)).alloc (.cells #[.int .i64 3, .int .i64 n, .int .i64 tk, .string b] 27)).alloc (.cells #[.slice none 0 0, .int .i64 0, .int .i64 0] 24) := ⟨_, rfl⟩
  rw [← hw0] at x0 y0 z0 b0
  have HS0 := Lib.hid (HS.out.keep b0)
  rw [← hN] at x0 y0 z0 b0
  have HN := Lib.hid hN; have HW0 := Lib.hid hw0; have B0 := Lib.hid b0; have HX := Lib.hid x0; have HF := Lib.hid y0; have HY := Lib.hid z0
  have hz0 : N + 3 ≤ w0.heap.size := z0.lt
  clear hN hw0 b0 x0 y0 z0
  obtain ⟨c0, c1, c2⟩ := agg_cells HX.out
  obtain ⟨p0, p1, p2, p3⟩ := fm_cells HF.out
  have n6 : decide (t < n) = false := decide_eq_false hlt
  have i1 : IntKind.i64.wrap (t + 1) = t + 1 := IntWalk.i64_in _ (by omega)
  rcases hkn with ⟨h1, h2, rfl⟩ | ⟨h1, h2, rfl⟩ | ⟨h1, rfl⟩
  case' inl =>
    have t1 : decide (k < K) = true := decide_eq_true h1
    have t2 : decide (K ≤ (len : Int)) = true := decide_eq_true h2
  case' inr.inl =>
    have t1 : decide (K < tk) = true := decide_eq_true h1
    have t2 : decide (tk ≤ (len : Int)) = false := decide_eq_false h2
  case' inr.inr =>
    have t1 : decide (K < tk) = false := decide_eq_false h1
  all_goals
    go_enter Try.func18, Try.ntmps18
    go_wp2_with fail
    rw [← HN.out, ← HW0.out]
    go_wp2_with (first
      | (go_at_call 14; (with_reducible refine (hg _ HS0.out).mono ?_); rintro e w1 ⟨rfl, hb1⟩; have HB1 := Lib.hid (B0.out.trans (hb1.mono (by omega))); have HX1 := Lib.hid (HX.out.keep hb1); have HF1 := Lib.hid (HF.out.keep hb1); have HY1 := Lib.hid (HY.out.keep hb1); have HS1 := Lib.hid (HS0.out.keep hb1); have hz1 := hb1.size; clear hb1 c0 c1 c2 p0 p1 p2 p3; obtain ⟨c0, c1, c2⟩ := agg_cells HX1.out; obtain ⟨p0, p1, p2, p3⟩ := fm_cells HF1.out)
      | (go_at_call 21; (with_reducible refine (hv _).mono ?_); rintro e w1b ⟨rfl, hb1⟩; have HB1b := Lib.hid (HB1.out.trans (hb1.mono (by omega))); have HX1b := Lib.hid (HX1.out.keep hb1); have HF1b := Lib.hid (HF1.out.keep hb1); have HY1b := Lib.hid (HY1.out.keep hb1); have HS1b := Lib.hid (HS1.out.keep hb1); have hz1b := hb1.size; clear hb1 c0 c1 c2 p0 p1 p2 p3; obtain ⟨c0, c1, c2⟩ := agg_cells HX1b.out; obtain ⟨p0, p1, p2, p3⟩ := fm_cells HF1b.out)
      | (go_at_call 25; (with_reducible refine (hr _ HS1b.out hb256).mono ?_); rintro e w2 ⟨v2, rfl, ho2, hb2⟩; obtain ⟨a2, cap2, rfl, -⟩ := ho2.has; have HB2 := Lib.hid (HB1b.out.trans (hb2.mono (by omega))); have HX2 := Lib.hid (HX1b.out.keep hb2); have HF2 := Lib.hid (HF1b.out.keep hb2); have HY2 := Lib.hid (HY1b.out.keep hb2); have HS2 := Lib.hid (HS1b.out.keep hb2); have HO2 := Lib.hid (ho2.low (show N + 3 ≤ w1b.heap.size by omega)); have hz2 := hb2.size; clear hb2 ho2 c0 c1 c2 p0 p1 p2 p3; rw [HL.out]; rw [HL.out] at HO2; have c0 := fun o : Obj => (agg_cells (HX2.out.keep ((Below.refl w2.heap.size w2).alloc (Nat.le_refl _) o))).1; have c1 := fun o : Obj => (agg_cells (HX2.out.keep ((Below.refl w2.heap.size w2).alloc (Nat.le_refl _) o))).2.1; have c2 := fun o : Obj => (agg_cells (HX2.out.keep ((Below.refl w2.heap.size w2).alloc (Nat.le_refl _) o))).2.2; have q0 := fun o : Obj => (fm_cells (HF2.out.keep ((Below.refl w2.heap.size w2).alloc (Nat.le_refl _) o))).1; have q1 := fun o : Obj => (fm_cells (HF2.out.keep ((Below.refl w2.heap.size w2).alloc (Nat.le_refl _) o))).2.1; have q2 := fun o : Obj => (fm_cells (HF2.out.keep ((Below.refl w2.heap.size w2).alloc (Nat.le_refl _) o))).2.2.1; have q3 := fun o : Obj => (fm_cells (HF2.out.keep ((Below.refl w2.heap.size w2).alloc (Nat.le_refl _) o))).2.2.2; have d0 := fun o : Obj => (agg_cells (HY2.out.keep ((Below.refl w2.heap.size w2).alloc (Nat.le_refl _) o))).1; have d1 := fun o : Obj => (agg_cells (HY2.out.keep ((Below.refl w2.heap.size w2).alloc (Nat.le_refl _) o))).2.1; have d2 := fun o : Obj => (agg_cells (HY2.out.keep ((Below.refl w2.heap.size w2).alloc (Nat.le_refl _) o))).2.2; have f0 := fun o : Obj => (HY2.out.keep ((Below.refl w2.heap.size w2).alloc (Nat.le_refl _) o)).free 0; have f1 := fun o : Obj => (HY2.out.keep ((Below.refl w2.heap.size w2).alloc (Nat.le_refl _) o)).free 1; have f2 := fun o : Obj => (HY2.out.keep ((Below.refl w2.heap.size w2).alloc (Nat.le_refl _) o)).free 2))
    have hN := HN.out
    obtain ⟨w3, hw3⟩ : ∃ w3, w3 = w2.alloc (.cells #[.slice a2 len cap2, .int .i64 t, .int .i64 K] 24) := ⟨_, rfl⟩
    have hb3 : Below w2.heap.size w2 w3 := by rw [hw3]; exact (Below.refl _ _).alloc (Nat.le_refl _) _
    have FIN : ∃ W, W = (((w3.setCell ⟨N + 2, 0, none⟩ (.slice a2 len cap2)).setCell ⟨N + 2, 1, none⟩ (.int .i64 t)).setCell ⟨N + 2, 2, none⟩ (.int .i64 K)) ∧ Blk W (N + 2) #[.slice a2 len cap2, .int .i64 t, .int .i64 K] 24 ∧ OwnS W (N + 3) (.slice a2 len cap2) S ∧ Below N w W :=
      ⟨_, rfl, (HY2.out.keep hb3).set3 _ _ _, (HO2.out.keep hb3).set3 (by omega), below_set3 (HB2.out.trans (hb3.mono (by omega))) (show N ≤ N + 2 by omega) _ _ _⟩
    rw [← hw3]
    obtain ⟨W, hW, j1, j3, j4⟩ := FIN
    rw [← hW]
    clear hW hw3
    refine bodyPost_ret (take_res (x := .string em) (y := .slice none 0 0) (z := .int .i64 0) rfl j1 rfl rfl rfl rfl) rfl ⟨_, _, rfl, j3.low (by omega), ownX_nil _ _, Apart.nil _, ?_⟩
    rw [← hN]; exact j4
set_option maxRecDepth 100000 in
set_option maxHeartbeats 8000000 in
theorem rtake_gap1 (a : Option Addr) (len cap : Nat) (S : List ByteArray) (t k : Int) (K tk n : Int) (b : ByteArray) (hk : n ≠ t + 1) (hlt : t < n) (w : World) (hS : HasS w a S) (hl : S.length = len) (hn : a = none → cap = 0) (hgd : goodB ⟨S, t, k⟩ = true) (hvd : validB ⟨1, n, tk, b⟩ = true) (hkn : KN k tk K len) :
    Calls Try.prog 18 #[.agg #[.slice a len cap, .int .i64 t, .int .i64 k], .agg #[.int .i64 1, .int .i64 n, .int .i64 tk, .string b]] w (TakeIt (⟨S, t, K⟩, em, [⟨2, t + 1, t, em⟩], 0) w) := by
  have hg := fun w h => rgood_any a len cap ⟨S, t, k⟩ w h hl
  have hr := fun w h hb => copied_any a len cap ⟨S, t, k⟩ w h hl hn hb
  have hv := fun w => rvalid_any 1 n tk b w
  obtain ⟨gd1, gd2, gd3, gd4⟩ := goodB_iff.1 hgd
  obtain ⟨vd1, vd2, vd3⟩ := validB_iff.1 hvd
  simp only at gd1 gd2 gd3 gd4 vd1 vd2 vd3
  unfold Tells at hg hv
  rw [hgd] at hg
  rw [hvd] at hv
  have hb256 : len ≤ 256 := by omega
  have HS := Lib.hid hS; have HL := Lib.hid hl; have HGD := Lib.hid gd2; clear hS hl hn hgd hvd gd1 gd2 vd3
  simp only at hg hr
  obtain ⟨N, hN⟩ : ∃ N, N = w.heap.size := ⟨_, rfl⟩
  obtain ⟨x0, y0, z0, b0⟩ := three_new w #[.slice a len cap, .int .i64 t, .int .i64 k] #[.int .i64 1, .int .i64 n, .int .i64 tk, .string b] #[.slice none 0 0, .int .i64 0, .int .i64 0] 24 27 24
  obtain ⟨w0, hw0⟩ : ∃ w0, w0 = ((w.alloc (.cells #[.slice a len cap, .int .i64 t, .int .i64 k] 24)).alloc (.cells #[.int .i64 1, .int .i64 n, .int .i64 tk, .string b] 27)).alloc (.cells #[.slice none 0 0, .int .i64 0, .int .i64 0] 24) := ⟨_, rfl⟩
  rw [← hw0] at x0 y0 z0 b0
  have HS0 := Lib.hid (HS.out.keep b0)
  rw [← hN] at x0 y0 z0 b0
  have HN := Lib.hid hN; have HW0 := Lib.hid hw0; have B0 := Lib.hid b0; have HX := Lib.hid x0; have HF := Lib.hid y0; have HY := Lib.hid z0
  have hz0 : N + 3 ≤ w0.heap.size := z0.lt
  clear hN hw0 b0 x0 y0 z0
  obtain ⟨c0, c1, c2⟩ := agg_cells HX.out
  obtain ⟨p0, p1, p2, p3⟩ := fm_cells HF.out
  have n5 : (n == t + 1) = false := by rw [beq_eq_false_iff_ne]; exact hk
  have n6 : decide (t < n) = true := decide_eq_true hlt
  have i1 : IntKind.i64.wrap (t + 1) = t + 1 := IntWalk.i64_in _ (by omega)
  rcases hkn with ⟨h1, h2, rfl⟩ | ⟨h1, h2, rfl⟩ | ⟨h1, rfl⟩
  case' inl =>
    have t1 : decide (k < K) = true := decide_eq_true h1
    have t2 : decide (K ≤ (len : Int)) = true := decide_eq_true h2
  case' inr.inl =>
    have t1 : decide (K < tk) = true := decide_eq_true h1
    have t2 : decide (tk ≤ (len : Int)) = false := decide_eq_false h2
  case' inr.inr =>
    have t1 : decide (K < tk) = false := decide_eq_false h1
  all_goals
    go_enter Try.func18, Try.ntmps18
    go_wp2_with fail
    rw [← HN.out, ← HW0.out]
    go_wp2_with (first
      | (go_at_call 14; (with_reducible refine (hg _ HS0.out).mono ?_); rintro e w1 ⟨rfl, hb1⟩; have HB1 := Lib.hid (B0.out.trans (hb1.mono (by omega))); have HX1 := Lib.hid (HX.out.keep hb1); have HF1 := Lib.hid (HF.out.keep hb1); have HY1 := Lib.hid (HY.out.keep hb1); have HS1 := Lib.hid (HS0.out.keep hb1); have hz1 := hb1.size; clear hb1 c0 c1 c2 p0 p1 p2 p3; obtain ⟨c0, c1, c2⟩ := agg_cells HX1.out; obtain ⟨p0, p1, p2, p3⟩ := fm_cells HF1.out)
      | (go_at_call 21; (with_reducible refine (hv _).mono ?_); rintro e w1b ⟨rfl, hb1⟩; have HB1b := Lib.hid (HB1.out.trans (hb1.mono (by omega))); have HX1b := Lib.hid (HX1.out.keep hb1); have HF1b := Lib.hid (HF1.out.keep hb1); have HY1b := Lib.hid (HY1.out.keep hb1); have HS1b := Lib.hid (HS1.out.keep hb1); have hz1b := hb1.size; clear hb1 c0 c1 c2 p0 p1 p2 p3; obtain ⟨c0, c1, c2⟩ := agg_cells HX1b.out; obtain ⟨p0, p1, p2, p3⟩ := fm_cells HF1b.out)
      | (go_at_call 25; (with_reducible refine (hr _ HS1b.out hb256).mono ?_); rintro e w2 ⟨v2, rfl, ho2, hb2⟩; obtain ⟨a2, cap2, rfl, -⟩ := ho2.has; have HB2 := Lib.hid (HB1b.out.trans (hb2.mono (by omega))); have HX2 := Lib.hid (HX1b.out.keep hb2); have HF2 := Lib.hid (HF1b.out.keep hb2); have HY2 := Lib.hid (HY1b.out.keep hb2); have HS2 := Lib.hid (HS1b.out.keep hb2); have HO2 := Lib.hid (ho2.low (show N + 3 ≤ w1b.heap.size by omega)); have hz2 := hb2.size; clear hb2 ho2 c0 c1 c2 p0 p1 p2 p3; rw [HL.out]; rw [HL.out] at HO2; have c0 := fun o : Obj => (agg_cells (HX2.out.keep ((Below.refl w2.heap.size w2).alloc (Nat.le_refl _) o))).1; have c1 := fun o : Obj => (agg_cells (HX2.out.keep ((Below.refl w2.heap.size w2).alloc (Nat.le_refl _) o))).2.1; have c2 := fun o : Obj => (agg_cells (HX2.out.keep ((Below.refl w2.heap.size w2).alloc (Nat.le_refl _) o))).2.2; have q0 := fun o : Obj => (fm_cells (HF2.out.keep ((Below.refl w2.heap.size w2).alloc (Nat.le_refl _) o))).1; have q1 := fun o : Obj => (fm_cells (HF2.out.keep ((Below.refl w2.heap.size w2).alloc (Nat.le_refl _) o))).2.1; have q2 := fun o : Obj => (fm_cells (HF2.out.keep ((Below.refl w2.heap.size w2).alloc (Nat.le_refl _) o))).2.2.1; have q3 := fun o : Obj => (fm_cells (HF2.out.keep ((Below.refl w2.heap.size w2).alloc (Nat.le_refl _) o))).2.2.2; have d0 := fun o : Obj => (agg_cells (HY2.out.keep ((Below.refl w2.heap.size w2).alloc (Nat.le_refl _) o))).1; have d1 := fun o : Obj => (agg_cells (HY2.out.keep ((Below.refl w2.heap.size w2).alloc (Nat.le_refl _) o))).2.1; have d2 := fun o : Obj => (agg_cells (HY2.out.keep ((Below.refl w2.heap.size w2).alloc (Nat.le_refl _) o))).2.2; have f0 := fun o : Obj => (HY2.out.keep ((Below.refl w2.heap.size w2).alloc (Nat.le_refl _) o)).free 0; have f1 := fun o : Obj => (HY2.out.keep ((Below.refl w2.heap.size w2).alloc (Nat.le_refl _) o)).free 1; have f2 := fun o : Obj => (HY2.out.keep ((Below.refl w2.heap.size w2).alloc (Nat.le_refl _) o)).free 2)
      | (at_builtin; go_must (have hba := ((Below.refl w2.heap.size w2).alloc (Nat.le_refl _) (.cells #[.slice a2 len cap2, .int .i64 t, .int .i64 K] 24)).alloc (by rw [World.size_alloc]; omega) (.cells #[.int .i64 2, .int .i64 (t + 1), .int .i64 t, .string em] 27); refine wp_apX rfl (.tmp 98) (.tmp 105) rfl (w2.heap.size + 1) (.slice none 0 0) [] rfl (ownX_nil _ _) _ _ _ [⟨2, t + 1, t, em⟩] rfl (lit_oneX _ ⟨2, t + 1, t, em⟩ _ _ (by rw [World.size_alloc])) rfl (fun h => by cases h) (by decide) (by rw [World.size_alloc, World.size_alloc]; omega) ?_; intro v6 w6 ho6 hg6 hnb6; rw [List.nil_append] at ho6; have hb6 := hba.trans ((grown_below hg6).mono hba.size); have HG6 := Lib.hid (((Blk.new w2 #[.slice a2 len cap2, .int .i64 t, .int .i64 K] 24).keep ((Below.refl _ _).alloc (Nat.le_refl _) (.cells #[.int .i64 2, .int .i64 (t + 1), .int .i64 t, .string em] 27))).keep (grown_below hg6)); have HY6 := Lib.hid (HY2.out.keep hb6); have HO6 := Lib.hid (HO2.out.keep hb6); have HOX := Lib.hid ho6; have HB6 := Lib.hid (HB2.out.trans (hb6.mono (by omega))); have hz6 := hb6.size; clear hba ho6 hg6 hnb6 hb6 d0 d1 d2 f0 f1 f2; obtain ⟨k0, k1, k2⟩ := agg_cells HG6.out; obtain ⟨d0, d1, d2⟩ := agg_cells HY6.out; have f0 := HY6.out.free 0; have f1 := HY6.out.free 1; have f2 := HY6.out.free 2)))
    have hN := HN.out
    have hov := HO2.out.lt
    have j1 := HY6.out.set3 (.slice a2 len cap2) (.int .i64 t) (.int .i64 K)
    refine bodyPost_ret (take_res (x := .string em) (y := v6) (z := .int .i64 0) rfl j1 rfl rfl rfl rfl) rfl ⟨_, _, rfl, ?_, ?_, ?_, ?_⟩
    · exact (HO6.out.set3 (by omega)).low (by omega)
    · exact (HOX.out.set3 (by omega)).low (by omega)
    · intro r h1 h2
      have := (hov r h1).2; have := (HOX.out.lt r h2).1
      omega
    · rw [← hN]
      exact below_set3 HB6.out (by omega) _ _ _
set_option maxRecDepth 100000 in
set_option maxHeartbeats 8000000 in
theorem rtake_gap3 (a : Option Addr) (len cap : Nat) (S : List ByteArray) (t k : Int) (K tk n : Int) (b : ByteArray) (hlt : t < n) (w : World) (hS : HasS w a S) (hl : S.length = len) (hn : a = none → cap = 0) (hgd : goodB ⟨S, t, k⟩ = true) (hvd : validB ⟨3, n, tk, b⟩ = true) (hkn : KN k tk K len) :
    Calls Try.prog 18 #[.agg #[.slice a len cap, .int .i64 t, .int .i64 k], .agg #[.int .i64 3, .int .i64 n, .int .i64 tk, .string b]] w (TakeIt (⟨S, t, K⟩, em, [⟨2, t + 1, t, em⟩], 0) w) := by
  have hg := fun w h => rgood_any a len cap ⟨S, t, k⟩ w h hl
  have hr := fun w h hb => copied_any a len cap ⟨S, t, k⟩ w h hl hn hb
  have hv := fun w => rvalid_any 3 n tk b w
  obtain ⟨gd1, gd2, gd3, gd4⟩ := goodB_iff.1 hgd
  obtain ⟨vd1, vd2, vd3⟩ := validB_iff.1 hvd
  simp only at gd1 gd2 gd3 gd4 vd1 vd2 vd3
  unfold Tells at hg hv
  rw [hgd] at hg
  rw [hvd] at hv
  have hb256 : len ≤ 256 := by omega
  have HS := Lib.hid hS; have HL := Lib.hid hl; have HGD := Lib.hid gd2; clear hS hl hn hgd hvd gd1 gd2 vd3
  simp only at hg hr
  obtain ⟨N, hN⟩ : ∃ N, N = w.heap.size := ⟨_, rfl⟩
  obtain ⟨x0, y0, z0, b0⟩ := three_new w #[.slice a len cap, .int .i64 t, .int .i64 k] #[.int .i64 3, .int .i64 n, .int .i64 tk, .string b] #[.slice none 0 0, .int .i64 0, .int .i64 0] 24 27 24
  obtain ⟨w0, hw0⟩ : ∃ w0, w0 = ((w.alloc (.cells #[.slice a len cap, .int .i64 t, .int .i64 k] 24)).alloc (.cells #[.int .i64 3, .int .i64 n, .int .i64 tk, .string b] 27)).alloc (.cells #[.slice none 0 0, .int .i64 0, .int .i64 0] 24) := ⟨_, rfl⟩
  rw [← hw0] at x0 y0 z0 b0
  have HS0 := Lib.hid (HS.out.keep b0)
  rw [← hN] at x0 y0 z0 b0
  have HN := Lib.hid hN; have HW0 := Lib.hid hw0; have B0 := Lib.hid b0; have HX := Lib.hid x0; have HF := Lib.hid y0; have HY := Lib.hid z0
  have hz0 : N + 3 ≤ w0.heap.size := z0.lt
  clear hN hw0 b0 x0 y0 z0
  obtain ⟨c0, c1, c2⟩ := agg_cells HX.out
  obtain ⟨p0, p1, p2, p3⟩ := fm_cells HF.out
  have n6 : decide (t < n) = true := decide_eq_true hlt
  have i1 : IntKind.i64.wrap (t + 1) = t + 1 := IntWalk.i64_in _ (by omega)
  rcases hkn with ⟨h1, h2, rfl⟩ | ⟨h1, h2, rfl⟩ | ⟨h1, rfl⟩
  case' inl =>
    have t1 : decide (k < K) = true := decide_eq_true h1
    have t2 : decide (K ≤ (len : Int)) = true := decide_eq_true h2
  case' inr.inl =>
    have t1 : decide (K < tk) = true := decide_eq_true h1
    have t2 : decide (tk ≤ (len : Int)) = false := decide_eq_false h2
  case' inr.inr =>
    have t1 : decide (K < tk) = false := decide_eq_false h1
  all_goals
    go_enter Try.func18, Try.ntmps18
    go_wp2_with fail
    rw [← HN.out, ← HW0.out]
    go_wp2_with (first
      | (go_at_call 14; (with_reducible refine (hg _ HS0.out).mono ?_); rintro e w1 ⟨rfl, hb1⟩; have HB1 := Lib.hid (B0.out.trans (hb1.mono (by omega))); have HX1 := Lib.hid (HX.out.keep hb1); have HF1 := Lib.hid (HF.out.keep hb1); have HY1 := Lib.hid (HY.out.keep hb1); have HS1 := Lib.hid (HS0.out.keep hb1); have hz1 := hb1.size; clear hb1 c0 c1 c2 p0 p1 p2 p3; obtain ⟨c0, c1, c2⟩ := agg_cells HX1.out; obtain ⟨p0, p1, p2, p3⟩ := fm_cells HF1.out)
      | (go_at_call 21; (with_reducible refine (hv _).mono ?_); rintro e w1b ⟨rfl, hb1⟩; have HB1b := Lib.hid (HB1.out.trans (hb1.mono (by omega))); have HX1b := Lib.hid (HX1.out.keep hb1); have HF1b := Lib.hid (HF1.out.keep hb1); have HY1b := Lib.hid (HY1.out.keep hb1); have HS1b := Lib.hid (HS1.out.keep hb1); have hz1b := hb1.size; clear hb1 c0 c1 c2 p0 p1 p2 p3; obtain ⟨c0, c1, c2⟩ := agg_cells HX1b.out; obtain ⟨p0, p1, p2, p3⟩ := fm_cells HF1b.out)
      | (go_at_call 25; (with_reducible refine (hr _ HS1b.out hb256).mono ?_); rintro e w2 ⟨v2, rfl, ho2, hb2⟩; obtain ⟨a2, cap2, rfl, -⟩ := ho2.has; have HB2 := Lib.hid (HB1b.out.trans (hb2.mono (by omega))); have HX2 := Lib.hid (HX1b.out.keep hb2); have HF2 := Lib.hid (HF1b.out.keep hb2); have HY2 := Lib.hid (HY1b.out.keep hb2); have HS2 := Lib.hid (HS1b.out.keep hb2); have HO2 := Lib.hid (ho2.low (show N + 3 ≤ w1b.heap.size by omega)); have hz2 := hb2.size; clear hb2 ho2 c0 c1 c2 p0 p1 p2 p3; rw [HL.out]; rw [HL.out] at HO2; have c0 := fun o : Obj => (agg_cells (HX2.out.keep ((Below.refl w2.heap.size w2).alloc (Nat.le_refl _) o))).1; have c1 := fun o : Obj => (agg_cells (HX2.out.keep ((Below.refl w2.heap.size w2).alloc (Nat.le_refl _) o))).2.1; have c2 := fun o : Obj => (agg_cells (HX2.out.keep ((Below.refl w2.heap.size w2).alloc (Nat.le_refl _) o))).2.2; have q0 := fun o : Obj => (fm_cells (HF2.out.keep ((Below.refl w2.heap.size w2).alloc (Nat.le_refl _) o))).1; have q1 := fun o : Obj => (fm_cells (HF2.out.keep ((Below.refl w2.heap.size w2).alloc (Nat.le_refl _) o))).2.1; have q2 := fun o : Obj => (fm_cells (HF2.out.keep ((Below.refl w2.heap.size w2).alloc (Nat.le_refl _) o))).2.2.1; have q3 := fun o : Obj => (fm_cells (HF2.out.keep ((Below.refl w2.heap.size w2).alloc (Nat.le_refl _) o))).2.2.2; have d0 := fun o : Obj => (agg_cells (HY2.out.keep ((Below.refl w2.heap.size w2).alloc (Nat.le_refl _) o))).1; have d1 := fun o : Obj => (agg_cells (HY2.out.keep ((Below.refl w2.heap.size w2).alloc (Nat.le_refl _) o))).2.1; have d2 := fun o : Obj => (agg_cells (HY2.out.keep ((Below.refl w2.heap.size w2).alloc (Nat.le_refl _) o))).2.2; have f0 := fun o : Obj => (HY2.out.keep ((Below.refl w2.heap.size w2).alloc (Nat.le_refl _) o)).free 0; have f1 := fun o : Obj => (HY2.out.keep ((Below.refl w2.heap.size w2).alloc (Nat.le_refl _) o)).free 1; have f2 := fun o : Obj => (HY2.out.keep ((Below.refl w2.heap.size w2).alloc (Nat.le_refl _) o)).free 2)
      | (at_builtin; go_must (have hba := ((Below.refl w2.heap.size w2).alloc (Nat.le_refl _) (.cells #[.slice a2 len cap2, .int .i64 t, .int .i64 K] 24)).alloc (by rw [World.size_alloc]; omega) (.cells #[.int .i64 2, .int .i64 (t + 1), .int .i64 t, .string em] 27); refine wp_apX rfl (.tmp 98) (.tmp 105) rfl (w2.heap.size + 1) (.slice none 0 0) [] rfl (ownX_nil _ _) _ _ _ [⟨2, t + 1, t, em⟩] rfl (lit_oneX _ ⟨2, t + 1, t, em⟩ _ _ (by rw [World.size_alloc])) rfl (fun h => by cases h) (by decide) (by rw [World.size_alloc, World.size_alloc]; omega) ?_; intro v6 w6 ho6 hg6 hnb6; rw [List.nil_append] at ho6; have hb6 := hba.trans ((grown_below hg6).mono hba.size); have HG6 := Lib.hid (((Blk.new w2 #[.slice a2 len cap2, .int .i64 t, .int .i64 K] 24).keep ((Below.refl _ _).alloc (Nat.le_refl _) (.cells #[.int .i64 2, .int .i64 (t + 1), .int .i64 t, .string em] 27))).keep (grown_below hg6)); have HY6 := Lib.hid (HY2.out.keep hb6); have HO6 := Lib.hid (HO2.out.keep hb6); have HOX := Lib.hid ho6; have HB6 := Lib.hid (HB2.out.trans (hb6.mono (by omega))); have hz6 := hb6.size; clear hba ho6 hg6 hnb6 hb6 d0 d1 d2 f0 f1 f2; obtain ⟨k0, k1, k2⟩ := agg_cells HG6.out; obtain ⟨d0, d1, d2⟩ := agg_cells HY6.out; have f0 := HY6.out.free 0; have f1 := HY6.out.free 1; have f2 := HY6.out.free 2)))
    have hN := HN.out
    have hov := HO2.out.lt
    have j1 := HY6.out.set3 (.slice a2 len cap2) (.int .i64 t) (.int .i64 K)
    refine bodyPost_ret (take_res (x := .string em) (y := v6) (z := .int .i64 0) rfl j1 rfl rfl rfl rfl) rfl ⟨_, _, rfl, ?_, ?_, ?_, ?_⟩
    · exact (HO6.out.set3 (by omega)).low (by omega)
    · exact (HOX.out.set3 (by omega)).low (by omega)
    · intro r h1 h2
      have := (hov r h1).2; have := (HOX.out.lt r h2).1
      omega
    · rw [← hN]
      exact below_set3 HB6.out (by omega) _ _ _
set_option maxRecDepth 100000 in
set_option maxHeartbeats 8000000 in
theorem rtake_data (a : Option Addr) (len cap : Nat) (S : List ByteArray) (t k : Int) (K tk : Int) (b : ByteArray) (w : World) (hS : HasS w a S) (hl : S.length = len) (hn : a = none → cap = 0) (hgd : goodB ⟨S, t, k⟩ = true) (hvd : validB ⟨1, (t + 1), tk, b⟩ = true) (hkn : KN k tk K len) :
    Calls Try.prog 18 #[.agg #[.slice a len cap, .int .i64 t, .int .i64 k], .agg #[.int .i64 1, .int .i64 (t + 1), .int .i64 tk, .string b]] w (TakeIt (⟨S, t + 1, K⟩, b, [], 0) w) := by
  have hg := fun w h => rgood_any a len cap ⟨S, t, k⟩ w h hl
  have hr := fun w h hb => copied_any a len cap ⟨S, t, k⟩ w h hl hn hb
  have hv := fun w => rvalid_any 1 (t + 1) tk b w
  obtain ⟨gd1, gd2, gd3, gd4⟩ := goodB_iff.1 hgd
  obtain ⟨vd1, vd2, vd3⟩ := validB_iff.1 hvd
  simp only at gd1 gd2 gd3 gd4 vd1 vd2 vd3
  unfold Tells at hg hv
  rw [hgd] at hg
  rw [hvd] at hv
  have hb256 : len ≤ 256 := by omega
  have HS := Lib.hid hS; have HL := Lib.hid hl; have HGD := Lib.hid gd2; clear hS hl hn hgd hvd gd1 gd2 vd3
  simp only at hg hr
  obtain ⟨N, hN⟩ : ∃ N, N = w.heap.size := ⟨_, rfl⟩
  obtain ⟨x0, y0, z0, b0⟩ := three_new w #[.slice a len cap, .int .i64 t, .int .i64 k] #[.int .i64 1, .int .i64 (t + 1), .int .i64 tk, .string b] #[.slice none 0 0, .int .i64 0, .int .i64 0] 24 27 24
  obtain ⟨w0, hw0⟩ : ∃ w0, w0 = ((w.alloc (.cells #[.slice a len cap, .int .i64 t, .int .i64 k] 24)).alloc (.cells #[.int .i64 1, .int .i64 (t + 1), .int .i64 tk, .string b] 27)).alloc (.cells #[.slice none 0 0, .int .i64 0, .int .i64 0] 24) := ⟨_, rfl⟩
  rw [← hw0] at x0 y0 z0 b0
  have HS0 := Lib.hid (HS.out.keep b0)
  rw [← hN] at x0 y0 z0 b0
  have HN := Lib.hid hN; have HW0 := Lib.hid hw0; have B0 := Lib.hid b0; have HX := Lib.hid x0; have HF := Lib.hid y0; have HY := Lib.hid z0
  have hz0 : N + 3 ≤ w0.heap.size := z0.lt
  clear hN hw0 b0 x0 y0 z0
  obtain ⟨c0, c1, c2⟩ := agg_cells HX.out
  obtain ⟨p0, p1, p2, p3⟩ := fm_cells HF.out
  have i1 : IntKind.i64.wrap (t + 1) = t + 1 := IntWalk.i64_in _ (by omega)
  have i2 : (t == 1099511627776) = false := by rw [beq_eq_false_iff_ne]; omega
  rcases hkn with ⟨h1, h2, rfl⟩ | ⟨h1, h2, rfl⟩ | ⟨h1, rfl⟩
  case' inl =>
    have t1 : decide (k < K) = true := decide_eq_true h1
    have t2 : decide (K ≤ (len : Int)) = true := decide_eq_true h2
  case' inr.inl =>
    have t1 : decide (K < tk) = true := decide_eq_true h1
    have t2 : decide (tk ≤ (len : Int)) = false := decide_eq_false h2
  case' inr.inr =>
    have t1 : decide (K < tk) = false := decide_eq_false h1
  all_goals
    go_enter Try.func18, Try.ntmps18
    go_wp2_with fail
    rw [← HN.out, ← HW0.out]
    go_wp2_with (first
      | (go_at_call 14; (with_reducible refine (hg _ HS0.out).mono ?_); rintro e w1 ⟨rfl, hb1⟩; have HB1 := Lib.hid (B0.out.trans (hb1.mono (by omega))); have HX1 := Lib.hid (HX.out.keep hb1); have HF1 := Lib.hid (HF.out.keep hb1); have HY1 := Lib.hid (HY.out.keep hb1); have HS1 := Lib.hid (HS0.out.keep hb1); have hz1 := hb1.size; clear hb1 c0 c1 c2 p0 p1 p2 p3; obtain ⟨c0, c1, c2⟩ := agg_cells HX1.out; obtain ⟨p0, p1, p2, p3⟩ := fm_cells HF1.out)
      | (go_at_call 21; (with_reducible refine (hv _).mono ?_); rintro e w1b ⟨rfl, hb1⟩; have HB1b := Lib.hid (HB1.out.trans (hb1.mono (by omega))); have HX1b := Lib.hid (HX1.out.keep hb1); have HF1b := Lib.hid (HF1.out.keep hb1); have HY1b := Lib.hid (HY1.out.keep hb1); have HS1b := Lib.hid (HS1.out.keep hb1); have hz1b := hb1.size; clear hb1 c0 c1 c2 p0 p1 p2 p3; obtain ⟨c0, c1, c2⟩ := agg_cells HX1b.out; obtain ⟨p0, p1, p2, p3⟩ := fm_cells HF1b.out)
      | (go_at_call 25; (with_reducible refine (hr _ HS1b.out hb256).mono ?_); rintro e w2 ⟨v2, rfl, ho2, hb2⟩; obtain ⟨a2, cap2, rfl, -⟩ := ho2.has; have HB2 := Lib.hid (HB1b.out.trans (hb2.mono (by omega))); have HX2 := Lib.hid (HX1b.out.keep hb2); have HF2 := Lib.hid (HF1b.out.keep hb2); have HY2 := Lib.hid (HY1b.out.keep hb2); have HS2 := Lib.hid (HS1b.out.keep hb2); have HO2 := Lib.hid (ho2.low (show N + 3 ≤ w1b.heap.size by omega)); have hz2 := hb2.size; clear hb2 ho2 c0 c1 c2 p0 p1 p2 p3; rw [HL.out]; rw [HL.out] at HO2; have c0 := fun o : Obj => (agg_cells (HX2.out.keep ((Below.refl w2.heap.size w2).alloc (Nat.le_refl _) o))).1; have c1 := fun o : Obj => (agg_cells (HX2.out.keep ((Below.refl w2.heap.size w2).alloc (Nat.le_refl _) o))).2.1; have c2 := fun o : Obj => (agg_cells (HX2.out.keep ((Below.refl w2.heap.size w2).alloc (Nat.le_refl _) o))).2.2; have q0 := fun o : Obj => (fm_cells (HF2.out.keep ((Below.refl w2.heap.size w2).alloc (Nat.le_refl _) o))).1; have q1 := fun o : Obj => (fm_cells (HF2.out.keep ((Below.refl w2.heap.size w2).alloc (Nat.le_refl _) o))).2.1; have q2 := fun o : Obj => (fm_cells (HF2.out.keep ((Below.refl w2.heap.size w2).alloc (Nat.le_refl _) o))).2.2.1; have q3 := fun o : Obj => (fm_cells (HF2.out.keep ((Below.refl w2.heap.size w2).alloc (Nat.le_refl _) o))).2.2.2; have d0 := fun o : Obj => (agg_cells (HY2.out.keep ((Below.refl w2.heap.size w2).alloc (Nat.le_refl _) o))).1; have d1 := fun o : Obj => (agg_cells (HY2.out.keep ((Below.refl w2.heap.size w2).alloc (Nat.le_refl _) o))).2.1; have d2 := fun o : Obj => (agg_cells (HY2.out.keep ((Below.refl w2.heap.size w2).alloc (Nat.le_refl _) o))).2.2; have f0 := fun o : Obj => (HY2.out.keep ((Below.refl w2.heap.size w2).alloc (Nat.le_refl _) o)).free 0; have f1 := fun o : Obj => (HY2.out.keep ((Below.refl w2.heap.size w2).alloc (Nat.le_refl _) o)).free 1; have f2 := fun o : Obj => (HY2.out.keep ((Below.refl w2.heap.size w2).alloc (Nat.le_refl _) o)).free 2))
    obtain ⟨w3, hw3⟩ : ∃ w3, w3 = w2.alloc (.cells #[.slice a2 len cap2, .int .i64 (t + 1), .int .i64 K] 24) := ⟨_, rfl⟩
    rw [← hw3]
    have hb3 : Below w2.heap.size w2 w3 := by rw [hw3]; exact (Below.refl _ _).alloc (Nat.le_refl _) _
    have HG3 : Hid (Blk w3 w2.heap.size #[.slice a2 len cap2, .int .i64 (t + 1), .int .i64 K] 24) := Lib.hid (by rw [hw3]; exact Blk.new _ _ _)
    have hz3 := hb3.size
    obtain ⟨fr, hfr, hf3⟩ : ∃ fr, fr[3]? = some (Value.string b) ∧ Blk w3 (N + 1) fr 27 := ⟨_, rfl, HF2.out.keep hb3⟩
    have HFR := Lib.hid hfr; have HF3 := Lib.hid hf3
    have HY3 := Lib.hid (HY2.out.keep hb3); have HO3 := Lib.hid (HO2.out.keep hb3); have HB3 := Lib.hid (HB2.out.trans (hb3.mono (by omega)))
    have hzN : N + 3 ≤ w2.heap.size := by omega
    clear hw3 hb3 c0 c1 c2 q0 q1 q2 q3 d0 d1 d2 f0 f1 f2 HF2 HY2 HX2 HS2 HO2 HB2 HF1b HY1b HX1b HB1b HF1 HY1 HX1 HB1 hfr hf3 hz1 hz1b hz2 hz0
    obtain ⟨k0, k1, k2⟩ := agg_cells HG3.out
    have p3 := (HF3.out.cell 3).trans HFR.out
    obtain ⟨d0, d1, d2⟩ := agg_cells HY3.out; have f0 := HY3.out.free 0; have f1 := HY3.out.free 1; have f2 := HY3.out.free 2
    have HGD : Hid (Blk w3.drew w2.heap.size #[.slice a2 len cap2, .int .i64 (t + 1), .int .i64 K] 24) := Lib.hid (blk_drew HG3.out)
    have HFD : Hid (Blk w3.drew (N + 1) fr 27) := Lib.hid (blk_drew HF3.out)
    have HGS : Hid (∀ x y z, Blk (((w3.setCell ⟨N + 2, 0, none⟩ x).setCell ⟨N + 2, 1, none⟩ y).setCell ⟨N + 2, 2, none⟩ z).drew w2.heap.size #[.slice a2 len cap2, .int .i64 (t + 1), .int .i64 K] 24 ∧ Blk (((w3.setCell ⟨N + 2, 0, none⟩ x).setCell ⟨N + 2, 1, none⟩ y).setCell ⟨N + 2, 2, none⟩ z).drew (N + 1) fr 27) := Lib.hid fun x y z => ⟨st3_other_drew HG3.out (by omega) x y z, st3_other_drew HF3.out (by omega) x y z⟩
    have HK : Hid (∀ wx, Blk wx w2.heap.size #[.slice a2 len cap2, .int .i64 (t + 1), .int .i64 K] 24 → Blk wx (N + 1) fr 27 → (wx.cell? ⟨w2.heap.size, 0, none⟩ = some (.slice a2 len cap2) ∧ wx.cell? ⟨w2.heap.size, 1, none⟩ = some (.int .i64 (t + 1)) ∧ wx.cell? ⟨w2.heap.size, 2, none⟩ = some (.int .i64 K)) ∧ wx.cell? ⟨N + 1, 3, none⟩ = some (.string b)) := Lib.hid fun wx hb hf => ⟨agg_cells hb, (hf.cell 3).trans HFR.out⟩
    go_region_held3 (fun wx => (wx.cell? ⟨w2.heap.size, 0, none⟩ = some (.slice a2 len cap2) ∧ wx.cell? ⟨w2.heap.size, 1, none⟩ = some (.int .i64 (t + 1)) ∧ wx.cell? ⟨w2.heap.size, 2, none⟩ = some (.int .i64 K)) ∧ wx.cell? ⟨N + 1, 3, none⟩ = some (.string b))
      (first | (with_reducible exact HK.out _ HGD.out HFD.out) | (with_reducible exact HK.out _ HG3.out HF3.out) | (with_reducible exact HK.out _ (HGS.out _ _ _).1 (HGS.out _ _ _).2))
      (fail)
    go_wp2
    have hN := HN.out
    have FIN : ∃ W, W = (((w3.setCell ⟨N + 2, 0, none⟩ (.slice a2 len cap2)).setCell ⟨N + 2, 1, none⟩ (.int .i64 (t + 1))).setCell ⟨N + 2, 2, none⟩ (.int .i64 K)).drew ∧ Blk W (N + 2) #[.slice a2 len cap2, .int .i64 (t + 1), .int .i64 K] 24 ∧ OwnS W (N + 3) (.slice a2 len cap2) S ∧ Below N w W :=
      ⟨_, rfl, blk_drew (HY3.out.set3 _ _ _), ownS_drew (HO3.out.set3 (by omega)), (below_set3 HB3.out (show N ≤ N + 2 by omega) _ _ _).drew⟩
    obtain ⟨W, hW, j1, j3, j4⟩ := FIN
    rw [← hW]
    clear hW
    refine bodyPost_ret (take_res (x := .string b) (y := .slice none 0 0) (z := .int .i64 0) rfl j1 rfl rfl rfl rfl) rfl ⟨_, _, rfl, j3.low (by omega), ownX_nil _ _, Apart.nil _, ?_⟩
    rw [← hN]; exact j4
end Go.Proofs.Ytmecaioklmkdlaa.Ss

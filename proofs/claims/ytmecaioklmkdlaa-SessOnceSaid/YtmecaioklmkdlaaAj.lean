/-
  Layer 8: the program's Take.
-/
import Derived.Test.YtmecaioklmkdlaaAi
namespace Go.Proofs.Ytmecaioklmkdlaa.Ss
open Go.RowKit
set_option linter.unusedVariables false
set_option linter.unusedSimpArgs false

/-- Two values of the call's own that share no block. -/
def Apart (v v2 : Value) : Prop := ∀ k, v.ownBlock = some k → v2.ownBlock ≠ some k
theorem Apart.nil (v : Value) : Apart v (.slice none 0 0) := fun k _ e => by cases e
/-- What Take answers. -/
def TakeIt (R : Sd × ByteArray × List Fm × Int) (w : World) (e : Ending) (w' : World) : Prop :=
  ∃ v v2, e = .returned (.tuple #[.agg (sdV v R.1.t R.1.k), .string R.2.1, v2, .int .i64 R.2.2.2]) ∧ OwnS w' w.heap.size v R.1.S ∧ OwnX w' w.heap.size v2 R.2.2.1 ∧ Apart v v2 ∧ Below w.heap.size w w'
abbrev st3 (W : World) (g : Nat) (a b c : Value) : World := ((W.setCell ⟨g, 0, none⟩ a).setCell ⟨g, 1, none⟩ b).setCell ⟨g, 2, none⟩ c
theorem take_res {fn : Func} {tmps : Array Value} {W : World} {g : Nat} {a b c x y z : Value} {T : TypeId} (hr : fn.results = #[.cell 4 24, .tmp 5, .tmp 6, .tmp 7]) (h1 : Blk W g #[a, b, c] T)
    (t4 : tmps.getD 4 undef = .pointer (some ⟨g, 0, none⟩)) (t5 : tmps.getD 5 undef = x) (t6 : tmps.getD 6 undef = y) (t7 : tmps.getD 7 undef = z) :
    (results fn tmps).run Try.prog W = .ok (.tuple #[.agg #[a, b, c], x, y, z]) W := by
  obtain ⟨d0, d1, d2⟩ := agg_cells h1
  have t4' : tmps[4]?.getD undef = .pointer (some ⟨g, 0, none⟩) := by simpa using t4
  have t5' : tmps[5]?.getD undef = x := by simpa using t5
  have t6' : tmps[6]?.getD undef = y := by simpa using t6
  have t7' : tmps[7]?.getD undef = z := by simpa using t7
  simp [results, hr, t4', t5', t6', t7', asAddr, loadVar, go_sem, d0, d1, d2]
/-- What becomes of Known. -/
def KN (k tk K : Int) (len : Nat) : Prop := (k < tk ∧ tk ≤ (len : Int) ∧ K = tk) ∨ (k < tk ∧ ¬ tk ≤ (len : Int) ∧ K = k) ∨ (¬ k < tk ∧ K = k)
theorem kn_of (S : List ByteArray) (t k : Int) (f : Fm) (len : Nat) (hl : S.length = len) : KN k f.taken (knownS ⟨S, t, k⟩ f) len := by
  unfold knownS KN
  simp only
  subst hl
  by_cases h1 : k < f.taken
  · by_cases h2 : f.taken ≤ (S.length : Int)
    · rw [if_pos ⟨h1, h2⟩]; exact .inl ⟨h1, h2, rfl⟩
    · rw [if_neg (fun h => h2 h.2)]; exact .inr (.inl ⟨h1, h2, rfl⟩)
  · rw [if_neg (fun h => h1 h.1)]; exact .inr (.inr ⟨h1, rfl⟩)
set_option maxRecDepth 100000 in
set_option maxHeartbeats 8000000 in
theorem take_data (a : Option Addr) (len cap : Nat) (S : List ByteArray) (t k : Int) (K tk : Int) (b : ByteArray) (w : World) (hS : HasS w a S) (hl : S.length = len) (hn : a = none → cap = 0) (hgd : goodB ⟨S, t, k⟩ = true) (hvd : validB ⟨1, (t + 1), tk, b⟩ = true) (hkn : KN k tk K len) :
    Calls Try.prog 17 #[.agg #[.slice a len cap, .int .i64 t, .int .i64 k], .agg #[.int .i64 1, .int .i64 (t + 1), .int .i64 tk, .string b]] w (TakeIt (⟨S, t + 1, K⟩, b, [], 0) w) := by
  have hg := fun w h => good_any a len cap ⟨S, t, k⟩ w h hl
  have hr := fun w h hb => renewed_any a len cap ⟨S, t, k⟩ w h hl hn hb
  have hv := fun w => valid_any 1 (t + 1) tk b w
  obtain ⟨gd1, gd2, gd3, gd4⟩ := goodB_iff.1 hgd
  obtain ⟨vd1, vd2, vd3⟩ := validB_iff.1 hvd
  simp only at gd1 gd2 gd3 gd4 vd1 vd2 vd3
  unfold Tells at hg hv
  rw [hgd] at hg
  rw [hvd] at hv
  have hb256 : len ≤ 256 := by omega
  have HS := Lib.hid hS; have HL := Lib.hid hl; have HGD := Lib.hid gd2; clear hS hl hn hgd hvd gd1 gd2 vd3
  simp only at hg hr
  obtain ⟨N, hN⟩ : ∃ N, N = w.heap.size := ⟨_, rfl⟩
  obtain ⟨x0, y0, z0, b0⟩ := three_new w #[.slice a len cap, .int .i64 t, .int .i64 k] #[.int .i64 1, .int .i64 (t + 1), .int .i64 tk, .string b] #[.slice none 0 0, .int .i64 0, .int .i64 0] 24 27 24
  obtain ⟨w0, hw0⟩ : ∃ w0, w0 = ((w.alloc (.cells #[.slice a len cap, .int .i64 t, .int .i64 k] 24)).alloc (.cells #[.int .i64 1, .int .i64 (t + 1), .int .i64 tk, .string b] 27)).alloc (.cells #[.slice none 0 0, .int .i64 0, .int .i64 0] 24) := ⟨_, rfl⟩
  rw [← hw0] at x0 y0 z0 b0
  have HS0 := Lib.hid (HS.out.keep b0)
  rw [← hN] at x0 y0 z0 b0
  have HN := Lib.hid hN; have HW0 := Lib.hid hw0; have B0 := Lib.hid b0; have HX := Lib.hid x0; have HF := Lib.hid y0; have HY := Lib.hid z0
  have hz0 : N + 3 ≤ w0.heap.size := z0.lt
  clear hN hw0 b0 x0 y0 z0
  obtain ⟨c0, c1, c2⟩ := agg_cells HX.out
  obtain ⟨p0, p1, p2, p3⟩ := fm_cells HF.out
  have i1 : IntKind.i64.wrap (t + 1) = t + 1 := IntWalk.i64_in _ (by omega)
  rcases hkn with ⟨h1, h2, rfl⟩ | ⟨h1, h2, rfl⟩ | ⟨h1, rfl⟩
  case' inl =>
    have t1 : decide (k < K) = true := decide_eq_true h1
    have t2 : decide (K ≤ (len : Int)) = true := decide_eq_true h2
  case' inr.inl =>
    have t1 : decide (K < tk) = true := decide_eq_true h1
    have t2 : decide (tk ≤ (len : Int)) = false := decide_eq_false h2
  case' inr.inr =>
    have t1 : decide (K < tk) = false := decide_eq_false h1
  all_goals
    go_enter Try.func17, Try.ntmps17
    go_wp2_with fail
    rw [← HN.out, ← HW0.out]
    go_wp2_with (first
      | (go_at_call 13; (with_reducible refine (hg _ HS0.out).mono ?_); rintro e w1 ⟨rfl, hb1⟩; have HB1 := Lib.hid (B0.out.trans (hb1.mono (by omega))); have HX1 := Lib.hid (HX.out.keep hb1); have HF1 := Lib.hid (HF.out.keep hb1); have HY1 := Lib.hid (HY.out.keep hb1); have HS1 := Lib.hid (HS0.out.keep hb1); have hz1 := hb1.size; clear hb1 c0 c1 c2 p0 p1 p2 p3; obtain ⟨c0, c1, c2⟩ := agg_cells HX1.out; obtain ⟨p0, p1, p2, p3⟩ := fm_cells HF1.out)
      | (go_at_call 20; (with_reducible refine (hv _).mono ?_); rintro e w1b ⟨rfl, hb1⟩; have HB1b := Lib.hid (HB1.out.trans (hb1.mono (by omega))); have HX1b := Lib.hid (HX1.out.keep hb1); have HF1b := Lib.hid (HF1.out.keep hb1); have HY1b := Lib.hid (HY1.out.keep hb1); have HS1b := Lib.hid (HS1.out.keep hb1); have hz1b := hb1.size; clear hb1 c0 c1 c2 p0 p1 p2 p3; obtain ⟨c0, c1, c2⟩ := agg_cells HX1b.out; obtain ⟨p0, p1, p2, p3⟩ := fm_cells HF1b.out)
      | (go_at_call 23; (with_reducible refine (hr _ HS1b.out hb256).mono ?_); rintro e w2 ⟨v2, rfl, ho2, hb2⟩; obtain ⟨a2, cap2, rfl, -⟩ := ho2.has; have HB2 := Lib.hid (HB1b.out.trans (hb2.mono (by omega))); have HF2 := Lib.hid (HF1b.out.keep hb2); have HY2 := Lib.hid (HY1b.out.keep hb2); have HO2 := Lib.hid (ho2.low (show N + 3 ≤ w1b.heap.size by omega)); have hz2 := hb2.size; clear hb2 ho2 c0 c1 c2 p0 p1 p2 p3; rw [HL.out]; rw [HL.out] at HO2; obtain ⟨p0, p1, p2, p3⟩ := fm_cells HF2.out; have q0 := fun o : Obj => (fm_cells (HF2.out.keep ((Below.refl w2.heap.size w2).alloc (Nat.le_refl _) o))).1; have q1 := fun o : Obj => (fm_cells (HF2.out.keep ((Below.refl w2.heap.size w2).alloc (Nat.le_refl _) o))).2.1; have q2 := fun o : Obj => (fm_cells (HF2.out.keep ((Below.refl w2.heap.size w2).alloc (Nat.le_refl _) o))).2.2.1; have q3 := fun o : Obj => (fm_cells (HF2.out.keep ((Below.refl w2.heap.size w2).alloc (Nat.le_refl _) o))).2.2.2)
      | (go_at_call 28; (with_reducible refine (deliver_any _ _ _ _ _ _ _ gd4.1 (by omega)).mono ?_); rintro e w4 ⟨rfl, hb4⟩; have HB4 := Lib.hid hb4; clear hb4; have HY4 := Lib.hid ((HY2.out.keep (box_new w2 #[.slice a2 len cap2, .int .i64 t, .int .i64 K] 24).2).keep HB4.out); obtain ⟨d0, d1, d2⟩ := agg_cells HY4.out; have f0 := HY4.out.free 0; have f1 := HY4.out.free 1; have f2 := HY4.out.free 2))
    have j1 := HY4.out.set3 (.slice a2 len cap2) (.int .i64 (t + 1)) (.int .i64 K)
    have hN := HN.out
    have hz4 := HB4.out.size
    rw [World.size_alloc] at hz4
    have hal := (Below.refl w2.heap.size w2).alloc (Nat.le_refl _) (.cells #[.slice a2 len cap2, .int .i64 t, .int .i64 K] 24)
    refine bodyPost_ret (take_res (x := .string b) (y := .slice none 0 0) (z := .int .i64 0) rfl j1 rfl rfl rfl rfl) rfl ⟨_, _, rfl, ?_, ownX_nil _ _, Apart.nil _, ?_⟩
    · exact (((HO2.out.keep hal).keep HB4.out).set3 (by omega)).low (by omega)
    · rw [← hN]
      exact below_set3 ((HB2.out.trans (hal.mono (by omega))).trans (HB4.out.mono (by rw [World.size_alloc]; omega))) (by omega) _ _ _
def ResB (S : List ByteArray) (t : Int) (j : Nat) (w3 : World) (e : Ending) (w' : World) : Prop := ∃ v, e = .returned v ∧ OwnX w' w3.heap.size v (Ss.resent S t j) ∧ Below w3.heap.size w3 w'
set_option maxRecDepth 100000 in
set_option maxHeartbeats 8000000 in
theorem take_ask (a : Option Addr) (len cap : Nat) (S : List ByteArray) (t k : Int) (K tk : Int) (j : Nat) (b : ByteArray) (w : World) (hS : HasS w a S) (hl : S.length = len) (hn : a = none → cap = 0) (hgd : goodB ⟨S, t, k⟩ = true) (hvd : validB ⟨2, ((j : Int) + 1), tk, b⟩ = true) (hkn : KN k tk K len) :
    Calls Try.prog 17 #[.agg #[.slice a len cap, .int .i64 t, .int .i64 k], .agg #[.int .i64 2, .int .i64 ((j : Int) + 1), .int .i64 tk, .string b]] w (TakeIt (⟨S, t, K⟩, em, Ss.resent S t j, 0) w) := by
  have hg := fun w h => good_any a len cap ⟨S, t, k⟩ w h hl
  have hr := fun w h hb => renewed_any a len cap ⟨S, t, k⟩ w h hl hn hb
  have hv := fun w => valid_any 2 ((j : Int) + 1) tk b w
  obtain ⟨gd1, gd2, gd3, gd4⟩ := goodB_iff.1 hgd
  obtain ⟨vd1, vd2, vd3⟩ := validB_iff.1 hvd
  simp only at gd1 gd2 gd3 gd4 vd1 vd2 vd3
  unfold Tells at hg hv
  rw [hgd] at hg
  rw [hvd] at hv
  have hb256 : len ≤ 256 := by omega
  have HS := Lib.hid hS; have HL := Lib.hid hl; have HGD := Lib.hid gd2; clear hS hl hn hgd hvd gd1 gd2 vd3
  simp only at hg hr
  obtain ⟨N, hN⟩ : ∃ N, N = w.heap.size := ⟨_, rfl⟩
  obtain ⟨x0, y0, z0, b0⟩ := three_new w #[.slice a len cap, .int .i64 t, .int .i64 k] #[.int .i64 2, .int .i64 ((j : Int) + 1), .int .i64 tk, .string b] #[.slice none 0 0, .int .i64 0, .int .i64 0] 24 27 24
  obtain ⟨w0, hw0⟩ : ∃ w0, w0 = ((w.alloc (.cells #[.slice a len cap, .int .i64 t, .int .i64 k] 24)).alloc (.cells #[.int .i64 2, .int .i64 ((j : Int) + 1), .int .i64 tk, .string b] 27)).alloc (.cells #[.slice none 0 0, .int .i64 0, .int .i64 0] 24) := ⟨_, rfl⟩
  rw [← hw0] at x0 y0 z0 b0
  have HS0 := Lib.hid (HS.out.keep b0)
  rw [← hN] at x0 y0 z0 b0
  have HN := Lib.hid hN; have HW0 := Lib.hid hw0; have B0 := Lib.hid b0; have HX := Lib.hid x0; have HF := Lib.hid y0; have HY := Lib.hid z0
  have hz0 : N + 3 ≤ w0.heap.size := z0.lt
  clear hN hw0 b0 x0 y0 z0
  obtain ⟨c0, c1, c2⟩ := agg_cells HX.out
  obtain ⟨p0, p1, p2, p3⟩ := fm_cells HF.out
  rcases hkn with ⟨h1, h2, rfl⟩ | ⟨h1, h2, rfl⟩ | ⟨h1, rfl⟩
  case' inl =>
    have t1 : decide (k < K) = true := decide_eq_true h1
    have t2 : decide (K ≤ (len : Int)) = true := decide_eq_true h2
  case' inr.inl =>
    have t1 : decide (K < tk) = true := decide_eq_true h1
    have t2 : decide (tk ≤ (len : Int)) = false := decide_eq_false h2
  case' inr.inr =>
    have t1 : decide (K < tk) = false := decide_eq_false h1
  all_goals
    go_enter Try.func17, Try.ntmps17
    go_wp2_with fail
    rw [← HN.out, ← HW0.out]
    go_wp2_with (first
      | (go_at_call 13; (with_reducible refine (hg _ HS0.out).mono ?_); rintro e w1 ⟨rfl, hb1⟩; have HB1 := Lib.hid (B0.out.trans (hb1.mono (by omega))); have HX1 := Lib.hid (HX.out.keep hb1); have HF1 := Lib.hid (HF.out.keep hb1); have HY1 := Lib.hid (HY.out.keep hb1); have HS1 := Lib.hid (HS0.out.keep hb1); have hz1 := hb1.size; clear hb1 c0 c1 c2 p0 p1 p2 p3; obtain ⟨c0, c1, c2⟩ := agg_cells HX1.out; obtain ⟨p0, p1, p2, p3⟩ := fm_cells HF1.out)
      | (go_at_call 20; (with_reducible refine (hv _).mono ?_); rintro e w1b ⟨rfl, hb1⟩; have HB1b := Lib.hid (HB1.out.trans (hb1.mono (by omega))); have HX1b := Lib.hid (HX1.out.keep hb1); have HF1b := Lib.hid (HF1.out.keep hb1); have HY1b := Lib.hid (HY1.out.keep hb1); have HS1b := Lib.hid (HS1.out.keep hb1); have hz1b := hb1.size; clear hb1 c0 c1 c2 p0 p1 p2 p3; obtain ⟨c0, c1, c2⟩ := agg_cells HX1b.out; obtain ⟨p0, p1, p2, p3⟩ := fm_cells HF1b.out)
      | (go_at_call 23; (with_reducible refine (hr _ HS1b.out hb256).mono ?_); rintro e w2 ⟨v2, rfl, ho2, hb2⟩; obtain ⟨a2, cap2, rfl, -⟩ := ho2.has; have HB2 := Lib.hid (HB1b.out.trans (hb2.mono (by omega))); have HF2 := Lib.hid (HF1b.out.keep hb2); have HY2 := Lib.hid (HY1b.out.keep hb2); have HO2 := Lib.hid (ho2.low (show N + 3 ≤ w1b.heap.size by omega)); have hz2 := hb2.size; clear hb2 ho2 c0 c1 c2 p0 p1 p2 p3; rw [HL.out]; rw [HL.out] at HO2; obtain ⟨p0, p1, p2, p3⟩ := fm_cells HF2.out; have q0 := fun o : Obj => (fm_cells (HF2.out.keep ((Below.refl w2.heap.size w2).alloc (Nat.le_refl _) o))).1; have q1 := fun o : Obj => (fm_cells (HF2.out.keep ((Below.refl w2.heap.size w2).alloc (Nat.le_refl _) o))).2.1; have q2 := fun o : Obj => (fm_cells (HF2.out.keep ((Below.refl w2.heap.size w2).alloc (Nat.le_refl _) o))).2.2.1; have q3 := fun o : Obj => (fm_cells (HF2.out.keep ((Below.refl w2.heap.size w2).alloc (Nat.le_refl _) o))).2.2.2))
    obtain ⟨w3, hw3⟩ : ∃ w3, w3 = w2.alloc (.cells #[.slice a2 len cap2, .int .i64 t, .int .i64 K] 24) := ⟨_, rfl⟩
    rw [← hw3]
    have hb3 : Below w2.heap.size w2 w3 := by rw [hw3]; exact (Below.refl _ _).alloc (Nat.le_refl _) _
    have HG3 : Hid (Blk w3 w2.heap.size #[.slice a2 len cap2, .int .i64 t, .int .i64 K] 24) := Lib.hid (by rw [hw3]; exact Blk.new _ _ _)
    have hz3 := hb3.size
    obtain ⟨fr, hfr, hf3⟩ : ∃ fr, fr[1]? = some (Value.int .i64 ((j : Int) + 1)) ∧ Blk w3 (N + 1) fr 27 := ⟨_, rfl, HF2.out.keep hb3⟩
    have HFR := Lib.hid hfr; have HF3 := Lib.hid hf3
    have HY3 := Lib.hid (HY2.out.keep hb3); have HO3 := Lib.hid (HO2.out.keep hb3); have HB3 := Lib.hid (HB2.out.trans (hb3.mono (by omega)))
    have hzN : N + 3 ≤ w2.heap.size := by omega
    clear hw3 hb3 p0 p1 p2 p3 q0 q1 q2 q3 HF2 HY2 HO2 HB2 HF1b HY1b HX1b HB1b HF1 HY1 HX1 HB1 hfr hf3 hz1 hz1b hz2 hz0
    obtain ⟨k0, k1, k2⟩ := agg_cells HG3.out
    have p1 := (HF3.out.cell 1).trans HFR.out
    have HGD : Hid (Blk w3.drew w2.heap.size #[.slice a2 len cap2, .int .i64 t, .int .i64 K] 24) := Lib.hid HG3.out
    have HFD : Hid (Blk w3.drew (N + 1) fr 27) := Lib.hid HF3.out
    have HK : Hid (∀ wx, Blk wx w2.heap.size #[.slice a2 len cap2, .int .i64 t, .int .i64 K] 24 → Blk wx (N + 1) fr 27 → (wx.cell? ⟨w2.heap.size, 0, none⟩ = some (.slice a2 len cap2) ∧ wx.cell? ⟨w2.heap.size, 1, none⟩ = some (.int .i64 t) ∧ wx.cell? ⟨w2.heap.size, 2, none⟩ = some (.int .i64 K)) ∧ wx.cell? ⟨N + 1, 1, none⟩ = some (.int .i64 ((j : Int) + 1))) := Lib.hid fun wx hb hf => ⟨agg_cells hb, (hf.cell 1).trans HFR.out⟩
    have HNE1 : Hid (N + 2 ≠ w2.heap.size) := Lib.hid (by omega); have HNE2 : Hid (N + 2 ≠ N + 1) := Lib.hid (by omega)
    have HRS : Hid (∀ wx, Below w3.heap.size w3 wx → Calls Try.prog 27 #[.agg #[.slice a2 len cap2, .int .i64 t, .int .i64 K], .int .i64 ((j : Int) + 1)] wx (ResB S t j w3)) := Lib.hid fun wx hb => by
      obtain ⟨a5, cap5, e5, h5, -⟩ := HO3.out.has
      have e6 : a2 = a5 := by injection e5
      subst e6
      refine (resent_any a2 len cap2 j ⟨S, t, K⟩ wx (h5.keep hb) HL.out hb256 (by omega)).mono ?_
      rintro e w' ⟨v, rfl, h1, h2⟩
      exact ⟨v, rfl, h1.low hb.size, hb.trans (h2.mono hb.size)⟩
    go_region_held3 (fun wx => (wx.cell? ⟨w2.heap.size, 0, none⟩ = some (.slice a2 len cap2) ∧ wx.cell? ⟨w2.heap.size, 1, none⟩ = some (.int .i64 t) ∧ wx.cell? ⟨w2.heap.size, 2, none⟩ = some (.int .i64 K)) ∧ wx.cell? ⟨N + 1, 1, none⟩ = some (.int .i64 ((j : Int) + 1)))
      (first | (with_reducible exact HK.out _ HGD.out HFD.out) | (with_reducible exact HK.out _ HG3.out HF3.out) | (with_reducible exact HK.out _ HG6.out HF6.out) | (with_reducible exact HK.out _ (blk_set3 HG6.out HNE1.out _ _ _) (blk_set3 HF6.out HNE2.out _ _ _)))
      (first | (go_at_call 27; (with_reducible refine (HRS.out _ (below_drew _)).mono ?_); rintro e w6 ⟨v6, rfl, hox, hb6⟩; have HOX := Lib.hid hox; have HB6 := Lib.hid hb6; have HY6 := Lib.hid (HY3.out.keep hb6); have HG6 := Lib.hid (HG3.out.keep hb6); have HF6 := Lib.hid (HF3.out.keep hb6); obtain ⟨d0, d1, d2⟩ := agg_cells HY6.out; have f0 := HY6.out.free 0; have f1 := HY6.out.free 1; have f2 := HY6.out.free 2))
    go_wp2
    have j1 := HY6.out.set3 (.slice a2 len cap2) (.int .i64 t) (.int .i64 K)
    have hN := HN.out
    have hz6 := HB6.out.size
    have hov := HO3.out.lt
    refine bodyPost_ret (take_res (x := .string em) (y := v6) (z := .int .i64 0) rfl j1 rfl rfl rfl rfl) rfl ⟨_, _, rfl, ?_, ?_, ?_, ?_⟩
    · exact ((HO3.out.keep HB6.out).set3 (by omega)).low (by omega)
    · exact (HOX.out.set3 (by omega)).low (by omega)
    · intro r h1 h2
      have := (hov r h1).2; have := (HOX.out.lt r h2).1
      omega
    · rw [← hN]
      exact below_set3 (HB3.out.trans (HB6.out.mono (by omega))) (by omega) _ _ _
theorem ownX_one {W : World} {g base : Nat} {f : Fm} (h : Blk W g (fmV f) 27) (hb : base ≤ g) : OwnX W base (.slice (some ⟨g, 0, none⟩) 1 1) [f] := ⟨rfl, .inr ⟨g, 1, _, rfl, hb, h, Nat.le_refl _, by decide, rfl, rfl⟩⟩
theorem FIN2_of {w w3 : World} {N : Nat} {v t k : Value} {x y z : Value} {S : List ByteArray} {O : Obj} {f : Fm} {T U : TypeId} (hY : Blk w3 (N + 2) #[x, y, z] T) (hO : OwnS w3 (N + 3) v S) (hB : Below N w w3) (hnew : Blk (w3.alloc O) w3.heap.size (fmV f) U) (hz : N + 3 ≤ w3.heap.size) :
    ∃ W, W = ((st3 w3 (N + 2) v t k).alloc O).drew ∧ Blk W (N + 2) #[v, t, k] T ∧ Blk W w3.heap.size (fmV f) U ∧ OwnS W (N + 3) v S ∧ Below N w W := by
  have hs3 : (st3 w3 (N + 2) v t k).heap.size = w3.heap.size := by simp [World.setCell]
  have hal : Below (st3 w3 (N + 2) v t k).heap.size (st3 w3 (N + 2) v t k) ((st3 w3 (N + 2) v t k).alloc O) := (Below.refl _ _).alloc (Nat.le_refl _) _
  have hO2 : O = .cells (fmV f) U (0, 0) := by
    have := (MapKept.heap_alloc w3 O).1
    rw [show (w3.alloc O).heap[w3.heap.size]? = _ from hnew] at this
    exact (Option.some.inj this).symm
  have h2 : Blk ((st3 w3 (N + 2) v t k).alloc O) w3.heap.size (fmV f) U := by
    rw [hO2, ← hs3]
    exact Blk.new _ _ _
  refine ⟨_, rfl, ?_, h2, ?_, ?_⟩
  · exact Blk.keep (W' := (st3 w3 (N + 2) v t k).alloc O) (hY.set3 v t k) hal
  · exact OwnS.keep (w' := (st3 w3 (N + 2) v t k).alloc O) (hO.set3 (by omega)) hal
  · exact Below.drew ((below_set3 hB (show N ≤ N + 2 by omega) v t k).trans (hal.mono (show N ≤ _ by rw [hs3]; omega)))
set_option maxRecDepth 100000 in
set_option maxHeartbeats 8000000 in
theorem take_gap1 (a : Option Addr) (len cap : Nat) (S : List ByteArray) (t k : Int) (K tk n : Int) (b : ByteArray) (hk : n ≠ t + 1) (hlt : t < n) (w : World) (hS : HasS w a S) (hl : S.length = len) (hn : a = none → cap = 0) (hgd : goodB ⟨S, t, k⟩ = true) (hvd : validB ⟨1, n, tk, b⟩ = true) (hkn : KN k tk K len) :
    Calls Try.prog 17 #[.agg #[.slice a len cap, .int .i64 t, .int .i64 k], .agg #[.int .i64 1, .int .i64 n, .int .i64 tk, .string b]] w (TakeIt (⟨S, t, K⟩, em, [⟨2, t + 1, t, em⟩], 0) w) := by
  have hg := fun w h => good_any a len cap ⟨S, t, k⟩ w h hl
  have hr := fun w h hb => renewed_any a len cap ⟨S, t, k⟩ w h hl hn hb
  have hv := fun w => valid_any 1 n tk b w
  obtain ⟨gd1, gd2, gd3, gd4⟩ := goodB_iff.1 hgd
  obtain ⟨vd1, vd2, vd3⟩ := validB_iff.1 hvd
  simp only at gd1 gd2 gd3 gd4 vd1 vd2 vd3
  unfold Tells at hg hv
  rw [hgd] at hg
  rw [hvd] at hv
  have hb256 : len ≤ 256 := by omega
  have HS := Lib.hid hS; have HL := Lib.hid hl; have HGD := Lib.hid gd2; clear hS hl hn hgd hvd gd1 gd2 vd3
  simp only at hg hr
  obtain ⟨N, hN⟩ : ∃ N, N = w.heap.size := ⟨_, rfl⟩
  obtain ⟨x0, y0, z0, b0⟩ := three_new w #[.slice a len cap, .int .i64 t, .int .i64 k] #[.int .i64 1, .int .i64 n, .int .i64 tk, .string b] #[.slice none 0 0, .int .i64 0, .int .i64 0] 24 27 24
  obtain ⟨w0, hw0⟩ : ∃ w0, w0 = ((w.alloc (.cells #[.slice a len cap, .int .i64 t, .int .i64 k] 24)).alloc (.cells #[.int .i64 1, .int .i64 n, .int .i64 tk, .string b] 27)).alloc (.cells #[.slice none 0 0, .int .i64 0, .int .i64 0] 24) := ⟨_, rfl⟩
  rw [← hw0] at x0 y0 z0 b0
  have HS0 := Lib.hid (HS.out.keep b0)
  rw [← hN] at x0 y0 z0 b0
  have HN := Lib.hid hN; have HW0 := Lib.hid hw0; have B0 := Lib.hid b0; have HX := Lib.hid x0; have HF := Lib.hid y0; have HY := Lib.hid z0
  have hz0 : N + 3 ≤ w0.heap.size := z0.lt
  clear hN hw0 b0 x0 y0 z0
  obtain ⟨c0, c1, c2⟩ := agg_cells HX.out
  obtain ⟨p0, p1, p2, p3⟩ := fm_cells HF.out
  have n5 : (n == t + 1) = false := by rw [beq_eq_false_iff_ne]; exact hk
  have n6 : decide (t < n) = true := decide_eq_true hlt
  rcases hkn with ⟨h1, h2, rfl⟩ | ⟨h1, h2, rfl⟩ | ⟨h1, rfl⟩
  case' inl =>
    have t1 : decide (k < K) = true := decide_eq_true h1
    have t2 : decide (K ≤ (len : Int)) = true := decide_eq_true h2
  case' inr.inl =>
    have t1 : decide (K < tk) = true := decide_eq_true h1
    have t2 : decide (tk ≤ (len : Int)) = false := decide_eq_false h2
  case' inr.inr =>
    have t1 : decide (K < tk) = false := decide_eq_false h1
  all_goals
    go_enter Try.func17, Try.ntmps17
    go_wp2_with fail
    rw [← HN.out, ← HW0.out]
    go_wp2_with (first
      | (go_at_call 13; (with_reducible refine (hg _ HS0.out).mono ?_); rintro e w1 ⟨rfl, hb1⟩; have HB1 := Lib.hid (B0.out.trans (hb1.mono (by omega))); have HX1 := Lib.hid (HX.out.keep hb1); have HF1 := Lib.hid (HF.out.keep hb1); have HY1 := Lib.hid (HY.out.keep hb1); have HS1 := Lib.hid (HS0.out.keep hb1); have hz1 := hb1.size; clear hb1 c0 c1 c2 p0 p1 p2 p3; obtain ⟨c0, c1, c2⟩ := agg_cells HX1.out; obtain ⟨p0, p1, p2, p3⟩ := fm_cells HF1.out)
      | (go_at_call 20; (with_reducible refine (hv _).mono ?_); rintro e w1b ⟨rfl, hb1⟩; have HB1b := Lib.hid (HB1.out.trans (hb1.mono (by omega))); have HX1b := Lib.hid (HX1.out.keep hb1); have HF1b := Lib.hid (HF1.out.keep hb1); have HY1b := Lib.hid (HY1.out.keep hb1); have HS1b := Lib.hid (HS1.out.keep hb1); have hz1b := hb1.size; clear hb1 c0 c1 c2 p0 p1 p2 p3; obtain ⟨c0, c1, c2⟩ := agg_cells HX1b.out; obtain ⟨p0, p1, p2, p3⟩ := fm_cells HF1b.out)
      | (go_at_call 23; (with_reducible refine (hr _ HS1b.out hb256).mono ?_); rintro e w2 ⟨v2, rfl, ho2, hb2⟩; obtain ⟨a2, cap2, rfl, -⟩ := ho2.has; have HB2 := Lib.hid (HB1b.out.trans (hb2.mono (by omega))); have HF2 := Lib.hid (HF1b.out.keep hb2); have HY2 := Lib.hid (HY1b.out.keep hb2); have HO2 := Lib.hid (ho2.low (show N + 3 ≤ w1b.heap.size by omega)); have hz2 := hb2.size; clear hb2 ho2 c0 c1 c2 p0 p1 p2 p3; rw [HL.out]; rw [HL.out] at HO2; obtain ⟨p0, p1, p2, p3⟩ := fm_cells HF2.out; have q0 := fun o : Obj => (fm_cells (HF2.out.keep ((Below.refl w2.heap.size w2).alloc (Nat.le_refl _) o))).1; have q1 := fun o : Obj => (fm_cells (HF2.out.keep ((Below.refl w2.heap.size w2).alloc (Nat.le_refl _) o))).2.1; have q2 := fun o : Obj => (fm_cells (HF2.out.keep ((Below.refl w2.heap.size w2).alloc (Nat.le_refl _) o))).2.2.1; have q3 := fun o : Obj => (fm_cells (HF2.out.keep ((Below.refl w2.heap.size w2).alloc (Nat.le_refl _) o))).2.2.2))
    obtain ⟨w3, hw3⟩ : ∃ w3, w3 = w2.alloc (.cells #[.slice a2 len cap2, .int .i64 t, .int .i64 K] 24) := ⟨_, rfl⟩
    rw [← hw3]
    have hb3 : Below w2.heap.size w2 w3 := by rw [hw3]; exact (Below.refl _ _).alloc (Nat.le_refl _) _
    have HG3 : Hid (Blk w3 w2.heap.size #[.slice a2 len cap2, .int .i64 t, .int .i64 K] 24) := Lib.hid (by rw [hw3]; exact Blk.new _ _ _)
    have hz3 := hb3.size
    obtain ⟨fr, hfr, hf3⟩ : ∃ fr, fr[1]? = some (Value.int .i64 n) ∧ Blk w3 (N + 1) fr 27 := ⟨_, rfl, HF2.out.keep hb3⟩
    have HFR := Lib.hid hfr; have HF3 := Lib.hid hf3
    have HY3 := Lib.hid (HY2.out.keep hb3); have HO3 := Lib.hid (HO2.out.keep hb3); have HB3 := Lib.hid (HB2.out.trans (hb3.mono (by omega)))
    have hzN : N + 3 ≤ w2.heap.size := by omega
    clear hw3 hb3 p0 p1 p2 p3 q0 q1 q2 q3 HF2 HY2 HO2 HB2 HF1b HY1b HX1b HB1b HF1 HY1 HX1 HB1 hfr hf3 hz1 hz1b hz2 hz0
    obtain ⟨k0, k1, k2⟩ := agg_cells HG3.out
    have p1 := (HF3.out.cell 1).trans HFR.out
    have HGD : Hid (Blk w3.drew w2.heap.size #[.slice a2 len cap2, .int .i64 t, .int .i64 K] 24) := Lib.hid HG3.out
    have HFD : Hid (Blk w3.drew (N + 1) fr 27) := Lib.hid HF3.out
    have HK : Hid (∀ wx, Blk wx w2.heap.size #[.slice a2 len cap2, .int .i64 t, .int .i64 K] 24 → Blk wx (N + 1) fr 27 → (wx.cell? ⟨w2.heap.size, 0, none⟩ = some (.slice a2 len cap2) ∧ wx.cell? ⟨w2.heap.size, 1, none⟩ = some (.int .i64 t) ∧ wx.cell? ⟨w2.heap.size, 2, none⟩ = some (.int .i64 K)) ∧ wx.cell? ⟨N + 1, 1, none⟩ = some (.int .i64 n)) := Lib.hid fun wx hb hf => ⟨agg_cells hb, (hf.cell 1).trans HFR.out⟩
    have HNE1 : Hid (N + 2 ≠ w2.heap.size) := Lib.hid (by omega); have HNE2 : Hid (N + 2 ≠ N + 1) := Lib.hid (by omega)
    have i1 : IntKind.i64.wrap (t + 1) = t + 1 := IntWalk.i64_in _ (by omega)
    have HGA : Hid (∀ o, Blk (w3.alloc o).drew w2.heap.size #[.slice a2 len cap2, .int .i64 t, .int .i64 K] 24 ∧ Blk (w3.alloc o).drew (N + 1) fr 27) := Lib.hid fun o => by constructor; exact Blk.keep (W' := w3.alloc o) HG3.out ((Below.refl _ _).alloc (Nat.le_refl _) _); exact Blk.keep (W' := w3.alloc o) HF3.out ((Below.refl _ _).alloc (Nat.le_refl _) _)
    have HGS : Hid (∀ o x y z, Blk (st3 (w3.alloc o) (N + 2) x y z).drew w2.heap.size #[.slice a2 len cap2, .int .i64 t, .int .i64 K] 24 ∧ Blk (st3 (w3.alloc o) (N + 2) x y z).drew (N + 1) fr 27) := Lib.hid fun o x y z => ⟨blk_set3 (HGA.out o).1 HNE1.out x y z, blk_set3 (HGA.out o).2 HNE2.out x y z⟩
    have HGB : Hid (∀ x y z, Blk (st3 w3 (N + 2) x y z).drew w2.heap.size #[.slice a2 len cap2, .int .i64 t, .int .i64 K] 24 ∧ Blk (st3 w3 (N + 2) x y z).drew (N + 1) fr 27) := Lib.hid fun x y z => ⟨blk_set3 HG3.out HNE1.out x y z, blk_set3 HF3.out HNE2.out x y z⟩
    have HGC : Hid (∀ o x y z, Blk ((st3 w3 (N + 2) x y z).alloc o).drew w2.heap.size #[.slice a2 len cap2, .int .i64 t, .int .i64 K] 24 ∧ Blk ((st3 w3 (N + 2) x y z).alloc o).drew (N + 1) fr 27) := Lib.hid fun o x y z => by constructor; exact Blk.keep (W' := (st3 w3 (N + 2) x y z).alloc o) (blk_set3 HG3.out HNE1.out x y z) ((Below.refl _ _).alloc (Nat.le_refl _) _); exact Blk.keep (W' := (st3 w3 (N + 2) x y z).alloc o) (blk_set3 HF3.out HNE2.out x y z) ((Below.refl _ _).alloc (Nat.le_refl _) _)
    have HYA : Hid (∀ o, Blk (w3.alloc o) (N + 2) #[.slice none 0 0, .int .i64 0, .int .i64 0] 24) := Lib.hid fun o => HY3.out.keep ((Below.refl _ _).alloc (Nat.le_refl _) _)
    have d0 := fun o => (agg_cells (HYA.out o)).1
    have d1 := fun o => (agg_cells (HYA.out o)).2.1
    have d2 := fun o => (agg_cells (HYA.out o)).2.2
    obtain ⟨d3, d4, d5⟩ := agg_cells HY3.out
    have f3 := HY3.out.free 0; have f4 := HY3.out.free 1; have f5 := HY3.out.free 2
    have hlt3 := HY3.out.lt
    have f0 := fun o => (HYA.out o).free 0
    have f1 := fun o => (HYA.out o).free 1
    have f2 := fun o => (HYA.out o).free 2
    go_region_held3 (fun wx => (wx.cell? ⟨w2.heap.size, 0, none⟩ = some (.slice a2 len cap2) ∧ wx.cell? ⟨w2.heap.size, 1, none⟩ = some (.int .i64 t) ∧ wx.cell? ⟨w2.heap.size, 2, none⟩ = some (.int .i64 K)) ∧ wx.cell? ⟨N + 1, 1, none⟩ = some (.int .i64 n))
      (first | (with_reducible exact HK.out _ HGD.out HFD.out) | (with_reducible exact HK.out _ HG3.out HF3.out) | (with_reducible exact HK.out _ (HGA.out _).1 (HGA.out _).2) | (with_reducible exact HK.out _ (HGS.out _ _ _ _).1 (HGS.out _ _ _ _).2) | (with_reducible exact HK.out _ (HGB.out _ _ _).1 (HGB.out _ _ _).2) | (with_reducible exact HK.out _ (HGC.out _ _ _ _).1 (HGC.out _ _ _ _).2))
      (fail)
    all_goals
      go_wp2
      have hN := HN.out
      have hov := HO3.out.lt
      obtain ⟨O, hO⟩ : ∃ O : Obj, O = .cells #[.int .i64 2, .int .i64 (t + 1), .int .i64 t, .string { data := #[] }] 27 := ⟨_, rfl⟩
      have hnew : Blk (w3.alloc O) w3.heap.size (fmV ⟨2, t + 1, t, em⟩) 27 := by rw [hO]; exact Blk.new _ _ _
      have hsz : (w3.alloc O).heap.size = w3.heap.size + 1 := World.size_alloc _ _
      have hal : Below w3.heap.size w3 (w3.alloc O) := (Below.refl _ _).alloc (Nat.le_refl _) _
      rw [← hO]
      clear hO
      have FIN : ∃ W, W = (st3 (w3.alloc O) (N + 2) (.slice a2 len cap2) (.int .i64 t) (.int .i64 K)).drew ∧ Blk W (N + 2) #[.slice a2 len cap2, .int .i64 t, .int .i64 K] 24 ∧ Blk W w3.heap.size (fmV ⟨2, t + 1, t, em⟩) 27 ∧ OwnS W (N + 3) (.slice a2 len cap2) S ∧ Below N w W :=
        ⟨_, rfl, (HY3.out.keep hal).set3 _ _ _, blk_set3 hnew (show N + 2 ≠ w3.heap.size by omega) _ _ _, (HO3.out.keep hal).set3 (by omega), Below.drew (below_set3 (HB3.out.trans (hal.mono (by omega))) (show N ≤ N + 2 by omega) _ _ _)⟩
      have FIN2 : ∃ W, W = ((st3 w3 (N + 2) (.slice a2 len cap2) (.int .i64 t) (.int .i64 K)).alloc O).drew ∧ Blk W (N + 2) #[.slice a2 len cap2, .int .i64 t, .int .i64 K] 24 ∧ Blk W w3.heap.size (fmV ⟨2, t + 1, t, em⟩) 27 ∧ OwnS W (N + 3) (.slice a2 len cap2) S ∧ Below N w W := FIN2_of (O := O) (w := w) HY3.out HO3.out HB3.out hnew (by omega)
      first
        | (obtain ⟨W, hW, j1, j2, j3, j4⟩ := FIN
           rw [← hW]
           clear hW FIN2
           refine bodyPost_ret (take_res (x := .string em) (y := .slice (some ⟨w3.heap.size, 0, none⟩) 1 1) (z := .int .i64 0) rfl j1 rfl rfl rfl rfl) rfl ⟨_, _, rfl, j3.low (by omega), ownX_one j2 (by omega), fun r h1 h2 => ?_, ?_⟩
           · have := (hov r h1).2
             have e2 : w3.heap.size = r := Option.some.inj h2
             omega
           · rw [← hN]; exact j4)
        | (obtain ⟨W, hW, j1, j2, j3, j4⟩ := FIN2
           rw [← hW]
           clear hW FIN
           refine bodyPost_ret (take_res (x := .string em) (y := .slice (some ⟨w3.heap.size, 0, none⟩) 1 1) (z := .int .i64 0) rfl j1 rfl rfl rfl rfl) rfl ⟨_, _, rfl, j3.low (by omega), ownX_one j2 (by omega), fun r h1 h2 => ?_, ?_⟩
           · have := (hov r h1).2
             have e2 : w3.heap.size = r := Option.some.inj h2
             omega
           · rw [← hN]; exact j4)
set_option maxRecDepth 100000 in
set_option maxHeartbeats 8000000 in
theorem take_gap3 (a : Option Addr) (len cap : Nat) (S : List ByteArray) (t k : Int) (K tk n : Int) (b : ByteArray) (hlt : t < n) (w : World) (hS : HasS w a S) (hl : S.length = len) (hn : a = none → cap = 0) (hgd : goodB ⟨S, t, k⟩ = true) (hvd : validB ⟨3, n, tk, b⟩ = true) (hkn : KN k tk K len) :
    Calls Try.prog 17 #[.agg #[.slice a len cap, .int .i64 t, .int .i64 k], .agg #[.int .i64 3, .int .i64 n, .int .i64 tk, .string b]] w (TakeIt (⟨S, t, K⟩, em, [⟨2, t + 1, t, em⟩], 0) w) := by
  have hg := fun w h => good_any a len cap ⟨S, t, k⟩ w h hl
  have hr := fun w h hb => renewed_any a len cap ⟨S, t, k⟩ w h hl hn hb
  have hv := fun w => valid_any 3 n tk b w
  obtain ⟨gd1, gd2, gd3, gd4⟩ := goodB_iff.1 hgd
  obtain ⟨vd1, vd2, vd3⟩ := validB_iff.1 hvd
  simp only at gd1 gd2 gd3 gd4 vd1 vd2 vd3
  unfold Tells at hg hv
  rw [hgd] at hg
  rw [hvd] at hv
  have hb256 : len ≤ 256 := by omega
  have HS := Lib.hid hS; have HL := Lib.hid hl; have HGD := Lib.hid gd2; clear hS hl hn hgd hvd gd1 gd2 vd3
  simp only at hg hr
  obtain ⟨N, hN⟩ : ∃ N, N = w.heap.size := ⟨_, rfl⟩
  obtain ⟨x0, y0, z0, b0⟩ := three_new w #[.slice a len cap, .int .i64 t, .int .i64 k] #[.int .i64 3, .int .i64 n, .int .i64 tk, .string b] #[.slice none 0 0, .int .i64 0, .int .i64 0] 24 27 24
  obtain ⟨w0, hw0⟩ : ∃ w0, w0 = ((w.alloc (.cells #[.slice a len cap, .int .i64 t, .int .i64 k] 24)).alloc (.cells #[.int .i64 3, .int .i64 n, .int .i64 tk, .string b] 27)).alloc (.cells #[.slice none 0 0, .int .i64 0, .int .i64 0] 24) := ⟨_, rfl⟩
  rw [← hw0] at x0 y0 z0 b0
  have HS0 := Lib.hid (HS.out.keep b0)
  rw [← hN] at x0 y0 z0 b0
  have HN := Lib.hid hN; have HW0 := Lib.hid hw0; have B0 := Lib.hid b0; have HX := Lib.hid x0; have HF := Lib.hid y0; have HY := Lib.hid z0
  have hz0 : N + 3 ≤ w0.heap.size := z0.lt
  clear hN hw0 b0 x0 y0 z0
  obtain ⟨c0, c1, c2⟩ := agg_cells HX.out
  obtain ⟨p0, p1, p2, p3⟩ := fm_cells HF.out
  have n6 : decide (t < n) = true := decide_eq_true hlt
  rcases hkn with ⟨h1, h2, rfl⟩ | ⟨h1, h2, rfl⟩ | ⟨h1, rfl⟩
  case' inl =>
    have t1 : decide (k < K) = true := decide_eq_true h1
    have t2 : decide (K ≤ (len : Int)) = true := decide_eq_true h2
  case' inr.inl =>
    have t1 : decide (K < tk) = true := decide_eq_true h1
    have t2 : decide (tk ≤ (len : Int)) = false := decide_eq_false h2
  case' inr.inr =>
    have t1 : decide (K < tk) = false := decide_eq_false h1
  all_goals
    go_enter Try.func17, Try.ntmps17
    go_wp2_with fail
    rw [← HN.out, ← HW0.out]
    go_wp2_with (first
      | (go_at_call 13; (with_reducible refine (hg _ HS0.out).mono ?_); rintro e w1 ⟨rfl, hb1⟩; have HB1 := Lib.hid (B0.out.trans (hb1.mono (by omega))); have HX1 := Lib.hid (HX.out.keep hb1); have HF1 := Lib.hid (HF.out.keep hb1); have HY1 := Lib.hid (HY.out.keep hb1); have HS1 := Lib.hid (HS0.out.keep hb1); have hz1 := hb1.size; clear hb1 c0 c1 c2 p0 p1 p2 p3; obtain ⟨c0, c1, c2⟩ := agg_cells HX1.out; obtain ⟨p0, p1, p2, p3⟩ := fm_cells HF1.out)
      | (go_at_call 20; (with_reducible refine (hv _).mono ?_); rintro e w1b ⟨rfl, hb1⟩; have HB1b := Lib.hid (HB1.out.trans (hb1.mono (by omega))); have HX1b := Lib.hid (HX1.out.keep hb1); have HF1b := Lib.hid (HF1.out.keep hb1); have HY1b := Lib.hid (HY1.out.keep hb1); have HS1b := Lib.hid (HS1.out.keep hb1); have hz1b := hb1.size; clear hb1 c0 c1 c2 p0 p1 p2 p3; obtain ⟨c0, c1, c2⟩ := agg_cells HX1b.out; obtain ⟨p0, p1, p2, p3⟩ := fm_cells HF1b.out)
      | (go_at_call 23; (with_reducible refine (hr _ HS1b.out hb256).mono ?_); rintro e w2 ⟨v2, rfl, ho2, hb2⟩; obtain ⟨a2, cap2, rfl, -⟩ := ho2.has; have HB2 := Lib.hid (HB1b.out.trans (hb2.mono (by omega))); have HF2 := Lib.hid (HF1b.out.keep hb2); have HY2 := Lib.hid (HY1b.out.keep hb2); have HO2 := Lib.hid (ho2.low (show N + 3 ≤ w1b.heap.size by omega)); have hz2 := hb2.size; clear hb2 ho2 c0 c1 c2 p0 p1 p2 p3; rw [HL.out]; rw [HL.out] at HO2; obtain ⟨p0, p1, p2, p3⟩ := fm_cells HF2.out; have q0 := fun o : Obj => (fm_cells (HF2.out.keep ((Below.refl w2.heap.size w2).alloc (Nat.le_refl _) o))).1; have q1 := fun o : Obj => (fm_cells (HF2.out.keep ((Below.refl w2.heap.size w2).alloc (Nat.le_refl _) o))).2.1; have q2 := fun o : Obj => (fm_cells (HF2.out.keep ((Below.refl w2.heap.size w2).alloc (Nat.le_refl _) o))).2.2.1; have q3 := fun o : Obj => (fm_cells (HF2.out.keep ((Below.refl w2.heap.size w2).alloc (Nat.le_refl _) o))).2.2.2))
    obtain ⟨w3, hw3⟩ : ∃ w3, w3 = w2.alloc (.cells #[.slice a2 len cap2, .int .i64 t, .int .i64 K] 24) := ⟨_, rfl⟩
    rw [← hw3]
    have hb3 : Below w2.heap.size w2 w3 := by rw [hw3]; exact (Below.refl _ _).alloc (Nat.le_refl _) _
    have HG3 : Hid (Blk w3 w2.heap.size #[.slice a2 len cap2, .int .i64 t, .int .i64 K] 24) := Lib.hid (by rw [hw3]; exact Blk.new _ _ _)
    have hz3 := hb3.size
    obtain ⟨fr, hfr, hf3⟩ : ∃ fr, fr[1]? = some (Value.int .i64 n) ∧ Blk w3 (N + 1) fr 27 := ⟨_, rfl, HF2.out.keep hb3⟩
    have HFR := Lib.hid hfr; have HF3 := Lib.hid hf3
    have HY3 := Lib.hid (HY2.out.keep hb3); have HO3 := Lib.hid (HO2.out.keep hb3); have HB3 := Lib.hid (HB2.out.trans (hb3.mono (by omega)))
    have hzN : N + 3 ≤ w2.heap.size := by omega
    clear hw3 hb3 p0 p1 p2 p3 q0 q1 q2 q3 HF2 HY2 HO2 HB2 HF1b HY1b HX1b HB1b HF1 HY1 HX1 HB1 hfr hf3 hz1 hz1b hz2 hz0
    obtain ⟨k0, k1, k2⟩ := agg_cells HG3.out
    have p1 := (HF3.out.cell 1).trans HFR.out
    have HGD : Hid (Blk w3.drew w2.heap.size #[.slice a2 len cap2, .int .i64 t, .int .i64 K] 24) := Lib.hid HG3.out
    have HFD : Hid (Blk w3.drew (N + 1) fr 27) := Lib.hid HF3.out
    have HK : Hid (∀ wx, Blk wx w2.heap.size #[.slice a2 len cap2, .int .i64 t, .int .i64 K] 24 → Blk wx (N + 1) fr 27 → (wx.cell? ⟨w2.heap.size, 0, none⟩ = some (.slice a2 len cap2) ∧ wx.cell? ⟨w2.heap.size, 1, none⟩ = some (.int .i64 t) ∧ wx.cell? ⟨w2.heap.size, 2, none⟩ = some (.int .i64 K)) ∧ wx.cell? ⟨N + 1, 1, none⟩ = some (.int .i64 n)) := Lib.hid fun wx hb hf => ⟨agg_cells hb, (hf.cell 1).trans HFR.out⟩
    have HNE1 : Hid (N + 2 ≠ w2.heap.size) := Lib.hid (by omega); have HNE2 : Hid (N + 2 ≠ N + 1) := Lib.hid (by omega)
    have i1 : IntKind.i64.wrap (t + 1) = t + 1 := IntWalk.i64_in _ (by omega)
    have HGA : Hid (∀ o, Blk (w3.alloc o).drew w2.heap.size #[.slice a2 len cap2, .int .i64 t, .int .i64 K] 24 ∧ Blk (w3.alloc o).drew (N + 1) fr 27) := Lib.hid fun o => by constructor; exact Blk.keep (W' := w3.alloc o) HG3.out ((Below.refl _ _).alloc (Nat.le_refl _) _); exact Blk.keep (W' := w3.alloc o) HF3.out ((Below.refl _ _).alloc (Nat.le_refl _) _)
    have HGS : Hid (∀ o x y z, Blk (st3 (w3.alloc o) (N + 2) x y z).drew w2.heap.size #[.slice a2 len cap2, .int .i64 t, .int .i64 K] 24 ∧ Blk (st3 (w3.alloc o) (N + 2) x y z).drew (N + 1) fr 27) := Lib.hid fun o x y z => ⟨blk_set3 (HGA.out o).1 HNE1.out x y z, blk_set3 (HGA.out o).2 HNE2.out x y z⟩
    have HGB : Hid (∀ x y z, Blk (st3 w3 (N + 2) x y z).drew w2.heap.size #[.slice a2 len cap2, .int .i64 t, .int .i64 K] 24 ∧ Blk (st3 w3 (N + 2) x y z).drew (N + 1) fr 27) := Lib.hid fun x y z => ⟨blk_set3 HG3.out HNE1.out x y z, blk_set3 HF3.out HNE2.out x y z⟩
    have HGC : Hid (∀ o x y z, Blk ((st3 w3 (N + 2) x y z).alloc o).drew w2.heap.size #[.slice a2 len cap2, .int .i64 t, .int .i64 K] 24 ∧ Blk ((st3 w3 (N + 2) x y z).alloc o).drew (N + 1) fr 27) := Lib.hid fun o x y z => by constructor; exact Blk.keep (W' := (st3 w3 (N + 2) x y z).alloc o) (blk_set3 HG3.out HNE1.out x y z) ((Below.refl _ _).alloc (Nat.le_refl _) _); exact Blk.keep (W' := (st3 w3 (N + 2) x y z).alloc o) (blk_set3 HF3.out HNE2.out x y z) ((Below.refl _ _).alloc (Nat.le_refl _) _)
    have HYA : Hid (∀ o, Blk (w3.alloc o) (N + 2) #[.slice none 0 0, .int .i64 0, .int .i64 0] 24) := Lib.hid fun o => HY3.out.keep ((Below.refl _ _).alloc (Nat.le_refl _) _)
    have d0 := fun o => (agg_cells (HYA.out o)).1
    have d1 := fun o => (agg_cells (HYA.out o)).2.1
    have d2 := fun o => (agg_cells (HYA.out o)).2.2
    obtain ⟨d3, d4, d5⟩ := agg_cells HY3.out
    have f3 := HY3.out.free 0; have f4 := HY3.out.free 1; have f5 := HY3.out.free 2
    have hlt3 := HY3.out.lt
    have f0 := fun o => (HYA.out o).free 0
    have f1 := fun o => (HYA.out o).free 1
    have f2 := fun o => (HYA.out o).free 2
    go_region_held3 (fun wx => (wx.cell? ⟨w2.heap.size, 0, none⟩ = some (.slice a2 len cap2) ∧ wx.cell? ⟨w2.heap.size, 1, none⟩ = some (.int .i64 t) ∧ wx.cell? ⟨w2.heap.size, 2, none⟩ = some (.int .i64 K)) ∧ wx.cell? ⟨N + 1, 1, none⟩ = some (.int .i64 n))
      (first | (with_reducible exact HK.out _ HGD.out HFD.out) | (with_reducible exact HK.out _ HG3.out HF3.out) | (with_reducible exact HK.out _ (HGA.out _).1 (HGA.out _).2) | (with_reducible exact HK.out _ (HGS.out _ _ _ _).1 (HGS.out _ _ _ _).2) | (with_reducible exact HK.out _ (HGB.out _ _ _).1 (HGB.out _ _ _).2) | (with_reducible exact HK.out _ (HGC.out _ _ _ _).1 (HGC.out _ _ _ _).2))
      (fail)
    all_goals
      go_wp2
      have hN := HN.out
      have hov := HO3.out.lt
      obtain ⟨O, hO⟩ : ∃ O : Obj, O = .cells #[.int .i64 2, .int .i64 (t + 1), .int .i64 t, .string { data := #[] }] 27 := ⟨_, rfl⟩
      have hnew : Blk (w3.alloc O) w3.heap.size (fmV ⟨2, t + 1, t, em⟩) 27 := by rw [hO]; exact Blk.new _ _ _
      have hsz : (w3.alloc O).heap.size = w3.heap.size + 1 := World.size_alloc _ _
      have hal : Below w3.heap.size w3 (w3.alloc O) := (Below.refl _ _).alloc (Nat.le_refl _) _
      rw [← hO]
      clear hO
      have FIN : ∃ W, W = (st3 (w3.alloc O) (N + 2) (.slice a2 len cap2) (.int .i64 t) (.int .i64 K)).drew ∧ Blk W (N + 2) #[.slice a2 len cap2, .int .i64 t, .int .i64 K] 24 ∧ Blk W w3.heap.size (fmV ⟨2, t + 1, t, em⟩) 27 ∧ OwnS W (N + 3) (.slice a2 len cap2) S ∧ Below N w W :=
        ⟨_, rfl, (HY3.out.keep hal).set3 _ _ _, blk_set3 hnew (show N + 2 ≠ w3.heap.size by omega) _ _ _, (HO3.out.keep hal).set3 (by omega), Below.drew (below_set3 (HB3.out.trans (hal.mono (by omega))) (show N ≤ N + 2 by omega) _ _ _)⟩
      have FIN2 : ∃ W, W = ((st3 w3 (N + 2) (.slice a2 len cap2) (.int .i64 t) (.int .i64 K)).alloc O).drew ∧ Blk W (N + 2) #[.slice a2 len cap2, .int .i64 t, .int .i64 K] 24 ∧ Blk W w3.heap.size (fmV ⟨2, t + 1, t, em⟩) 27 ∧ OwnS W (N + 3) (.slice a2 len cap2) S ∧ Below N w W := FIN2_of (O := O) (w := w) HY3.out HO3.out HB3.out hnew (by omega)
      first
        | (obtain ⟨W, hW, j1, j2, j3, j4⟩ := FIN
           rw [← hW]
           clear hW FIN2
           refine bodyPost_ret (take_res (x := .string em) (y := .slice (some ⟨w3.heap.size, 0, none⟩) 1 1) (z := .int .i64 0) rfl j1 rfl rfl rfl rfl) rfl ⟨_, _, rfl, j3.low (by omega), ownX_one j2 (by omega), fun r h1 h2 => ?_, ?_⟩
           · have := (hov r h1).2
             have e2 : w3.heap.size = r := Option.some.inj h2
             omega
           · rw [← hN]; exact j4)
        | (obtain ⟨W, hW, j1, j2, j3, j4⟩ := FIN2
           rw [← hW]
           clear hW FIN
           refine bodyPost_ret (take_res (x := .string em) (y := .slice (some ⟨w3.heap.size, 0, none⟩) 1 1) (z := .int .i64 0) rfl j1 rfl rfl rfl rfl) rfl ⟨_, _, rfl, j3.low (by omega), ownX_one j2 (by omega), fun r h1 h2 => ?_, ?_⟩
           · have := (hov r h1).2
             have e2 : w3.heap.size = r := Option.some.inj h2
             omega
           · rw [← hN]; exact j4)
set_option maxRecDepth 100000 in
set_option maxHeartbeats 8000000 in
theorem take_none1 (a : Option Addr) (len cap : Nat) (S : List ByteArray) (t k : Int) (K tk n : Int) (b : ByteArray) (hlt : ¬ t < n) (w : World) (hS : HasS w a S) (hl : S.length = len) (hn : a = none → cap = 0) (hgd : goodB ⟨S, t, k⟩ = true) (hvd : validB ⟨1, n, tk, b⟩ = true) (hkn : KN k tk K len) :
    Calls Try.prog 17 #[.agg #[.slice a len cap, .int .i64 t, .int .i64 k], .agg #[.int .i64 1, .int .i64 n, .int .i64 tk, .string b]] w (TakeIt (⟨S, t, K⟩, em, [], 0) w) := by
  have hg := fun w h => good_any a len cap ⟨S, t, k⟩ w h hl
  have hr := fun w h hb => renewed_any a len cap ⟨S, t, k⟩ w h hl hn hb
  have hv := fun w => valid_any 1 n tk b w
  obtain ⟨gd1, gd2, gd3, gd4⟩ := goodB_iff.1 hgd
  obtain ⟨vd1, vd2, vd3⟩ := validB_iff.1 hvd
  simp only at gd1 gd2 gd3 gd4 vd1 vd2 vd3
  unfold Tells at hg hv
  rw [hgd] at hg
  rw [hvd] at hv
  have hb256 : len ≤ 256 := by omega
  have HS := Lib.hid hS; have HL := Lib.hid hl; have HGD := Lib.hid gd2; clear hS hl hn hgd hvd gd1 gd2 vd3
  simp only at hg hr
  obtain ⟨N, hN⟩ : ∃ N, N = w.heap.size := ⟨_, rfl⟩
  obtain ⟨x0, y0, z0, b0⟩ := three_new w #[.slice a len cap, .int .i64 t, .int .i64 k] #[.int .i64 1, .int .i64 n, .int .i64 tk, .string b] #[.slice none 0 0, .int .i64 0, .int .i64 0] 24 27 24
  obtain ⟨w0, hw0⟩ : ∃ w0, w0 = ((w.alloc (.cells #[.slice a len cap, .int .i64 t, .int .i64 k] 24)).alloc (.cells #[.int .i64 1, .int .i64 n, .int .i64 tk, .string b] 27)).alloc (.cells #[.slice none 0 0, .int .i64 0, .int .i64 0] 24) := ⟨_, rfl⟩
  rw [← hw0] at x0 y0 z0 b0
  have HS0 := Lib.hid (HS.out.keep b0)
  rw [← hN] at x0 y0 z0 b0
  have HN := Lib.hid hN; have HW0 := Lib.hid hw0; have B0 := Lib.hid b0; have HX := Lib.hid x0; have HF := Lib.hid y0; have HY := Lib.hid z0
  have hz0 : N + 3 ≤ w0.heap.size := z0.lt
  clear hN hw0 b0 x0 y0 z0
  obtain ⟨c0, c1, c2⟩ := agg_cells HX.out
  obtain ⟨p0, p1, p2, p3⟩ := fm_cells HF.out
  have n5 : (n == t + 1) = false := by rw [beq_eq_false_iff_ne]; omega
  have n6 : decide (t < n) = false := decide_eq_false hlt
  rcases hkn with ⟨h1, h2, rfl⟩ | ⟨h1, h2, rfl⟩ | ⟨h1, rfl⟩
  case' inl =>
    have t1 : decide (k < K) = true := decide_eq_true h1
    have t2 : decide (K ≤ (len : Int)) = true := decide_eq_true h2
  case' inr.inl =>
    have t1 : decide (K < tk) = true := decide_eq_true h1
    have t2 : decide (tk ≤ (len : Int)) = false := decide_eq_false h2
  case' inr.inr =>
    have t1 : decide (K < tk) = false := decide_eq_false h1
  all_goals
    go_enter Try.func17, Try.ntmps17
    go_wp2_with fail
    rw [← HN.out, ← HW0.out]
    go_wp2_with (first
      | (go_at_call 13; (with_reducible refine (hg _ HS0.out).mono ?_); rintro e w1 ⟨rfl, hb1⟩; have HB1 := Lib.hid (B0.out.trans (hb1.mono (by omega))); have HX1 := Lib.hid (HX.out.keep hb1); have HF1 := Lib.hid (HF.out.keep hb1); have HY1 := Lib.hid (HY.out.keep hb1); have HS1 := Lib.hid (HS0.out.keep hb1); have hz1 := hb1.size; clear hb1 c0 c1 c2 p0 p1 p2 p3; obtain ⟨c0, c1, c2⟩ := agg_cells HX1.out; obtain ⟨p0, p1, p2, p3⟩ := fm_cells HF1.out)
      | (go_at_call 20; (with_reducible refine (hv _).mono ?_); rintro e w1b ⟨rfl, hb1⟩; have HB1b := Lib.hid (HB1.out.trans (hb1.mono (by omega))); have HX1b := Lib.hid (HX1.out.keep hb1); have HF1b := Lib.hid (HF1.out.keep hb1); have HY1b := Lib.hid (HY1.out.keep hb1); have HS1b := Lib.hid (HS1.out.keep hb1); have hz1b := hb1.size; clear hb1 c0 c1 c2 p0 p1 p2 p3; obtain ⟨c0, c1, c2⟩ := agg_cells HX1b.out; obtain ⟨p0, p1, p2, p3⟩ := fm_cells HF1b.out)
      | (go_at_call 23; (with_reducible refine (hr _ HS1b.out hb256).mono ?_); rintro e w2 ⟨v2, rfl, ho2, hb2⟩; obtain ⟨a2, cap2, rfl, -⟩ := ho2.has; have HB2 := Lib.hid (HB1b.out.trans (hb2.mono (by omega))); have HF2 := Lib.hid (HF1b.out.keep hb2); have HY2 := Lib.hid (HY1b.out.keep hb2); have HO2 := Lib.hid (ho2.low (show N + 3 ≤ w1b.heap.size by omega)); have hz2 := hb2.size; clear hb2 ho2 c0 c1 c2 p0 p1 p2 p3; rw [HL.out]; rw [HL.out] at HO2; obtain ⟨p0, p1, p2, p3⟩ := fm_cells HF2.out; have q0 := fun o : Obj => (fm_cells (HF2.out.keep ((Below.refl w2.heap.size w2).alloc (Nat.le_refl _) o))).1; have q1 := fun o : Obj => (fm_cells (HF2.out.keep ((Below.refl w2.heap.size w2).alloc (Nat.le_refl _) o))).2.1; have q2 := fun o : Obj => (fm_cells (HF2.out.keep ((Below.refl w2.heap.size w2).alloc (Nat.le_refl _) o))).2.2.1; have q3 := fun o : Obj => (fm_cells (HF2.out.keep ((Below.refl w2.heap.size w2).alloc (Nat.le_refl _) o))).2.2.2; have d0 := fun o : Obj => (agg_cells (HY2.out.keep ((Below.refl w2.heap.size w2).alloc (Nat.le_refl _) o))).1; have d1 := fun o : Obj => (agg_cells (HY2.out.keep ((Below.refl w2.heap.size w2).alloc (Nat.le_refl _) o))).2.1; have d2 := fun o : Obj => (agg_cells (HY2.out.keep ((Below.refl w2.heap.size w2).alloc (Nat.le_refl _) o))).2.2; have f0 := fun o : Obj => (HY2.out.keep ((Below.refl w2.heap.size w2).alloc (Nat.le_refl _) o)).free 0; have f1 := fun o : Obj => (HY2.out.keep ((Below.refl w2.heap.size w2).alloc (Nat.le_refl _) o)).free 1; have f2 := fun o : Obj => (HY2.out.keep ((Below.refl w2.heap.size w2).alloc (Nat.le_refl _) o)).free 2))
    have hN := HN.out
    obtain ⟨w3, hw3⟩ : ∃ w3, w3 = w2.alloc (.cells #[.slice a2 len cap2, .int .i64 t, .int .i64 K] 24) := ⟨_, rfl⟩
    have hb3 : Below w2.heap.size w2 w3 := by rw [hw3]; exact (Below.refl _ _).alloc (Nat.le_refl _) _
    have FIN : ∃ W, W = (((w3.setCell ⟨N + 2, 0, none⟩ (.slice a2 len cap2)).setCell ⟨N + 2, 1, none⟩ (.int .i64 t)).setCell ⟨N + 2, 2, none⟩ (.int .i64 K)) ∧ Blk W (N + 2) #[.slice a2 len cap2, .int .i64 t, .int .i64 K] 24 ∧ OwnS W (N + 3) (.slice a2 len cap2) S ∧ Below N w W :=
      ⟨_, rfl, (HY2.out.keep hb3).set3 _ _ _, (HO2.out.keep hb3).set3 (by omega), below_set3 (HB2.out.trans (hb3.mono (by omega))) (show N ≤ N + 2 by omega) _ _ _⟩
    rw [← hw3]
    obtain ⟨W, hW, j1, j3, j4⟩ := FIN
    rw [← hW]
    clear hW hw3
    refine bodyPost_ret (take_res (x := .string em) (y := .slice none 0 0) (z := .int .i64 0) rfl j1 rfl rfl rfl rfl) rfl ⟨_, _, rfl, j3.low (by omega), ownX_nil _ _, Apart.nil _, ?_⟩
    rw [← hN]; exact j4
set_option maxRecDepth 100000 in
set_option maxHeartbeats 8000000 in
theorem take_none3 (a : Option Addr) (len cap : Nat) (S : List ByteArray) (t k : Int) (K tk n : Int) (b : ByteArray) (hlt : ¬ t < n) (w : World) (hS : HasS w a S) (hl : S.length = len) (hn : a = none → cap = 0) (hgd : goodB ⟨S, t, k⟩ = true) (hvd : validB ⟨3, n, tk, b⟩ = true) (hkn : KN k tk K len) :
    Calls Try.prog 17 #[.agg #[.slice a len cap, .int .i64 t, .int .i64 k], .agg #[.int .i64 3, .int .i64 n, .int .i64 tk, .string b]] w (TakeIt (⟨S, t, K⟩, em, [], 0) w) := by
  have hg := fun w h => good_any a len cap ⟨S, t, k⟩ w h hl
  have hr := fun w h hb => renewed_any a len cap ⟨S, t, k⟩ w h hl hn hb
  have hv := fun w => valid_any 3 n tk b w
  obtain ⟨gd1, gd2, gd3, gd4⟩ := goodB_iff.1 hgd
  obtain ⟨vd1, vd2, vd3⟩ := validB_iff.1 hvd
  simp only at gd1 gd2 gd3 gd4 vd1 vd2 vd3
  unfold Tells at hg hv
  rw [hgd] at hg
  rw [hvd] at hv
  have hb256 : len ≤ 256 := by omega
  have HS := Lib.hid hS; have HL := Lib.hid hl; have HGD := Lib.hid gd2; clear hS hl hn hgd hvd gd1 gd2 vd3
  simp only at hg hr
  obtain ⟨N, hN⟩ : ∃ N, N = w.heap.size := ⟨_, rfl⟩
  obtain ⟨x0, y0, z0, b0⟩ := three_new w #[.slice a len cap, .int .i64 t, .int .i64 k] #[.int .i64 3, .int .i64 n, .int .i64 tk, .string b] #[.slice none 0 0, .int .i64 0, .int .i64 0] 24 27 24
  obtain ⟨w0, hw0⟩ : ∃ w0, w0 = ((w.alloc (.cells #[.slice a len cap, .int .i64 t, .int .i64 k] 24)).alloc (.cells #[.int .i64 3, .int .i64 n, .int .i64 tk, .string b] 27)).alloc (.cells #[.slice none 0 0, .int .i64 0, .int .i64 0] 24) := ⟨_, rfl⟩
  rw [← hw0] at x0 y0 z0 b0
  have HS0 := Lib.hid (HS.out.keep b0)
  rw [← hN] at x0 y0 z0 b0
  have HN := Lib.hid hN; have HW0 := Lib.hid hw0; have B0 := Lib.hid b0; have HX := Lib.hid x0; have HF := Lib.hid y0; have HY := Lib.hid z0
  have hz0 : N + 3 ≤ w0.heap.size := z0.lt
  clear hN hw0 b0 x0 y0 z0
  obtain ⟨c0, c1, c2⟩ := agg_cells HX.out
  obtain ⟨p0, p1, p2, p3⟩ := fm_cells HF.out
  have n6 : decide (t < n) = false := decide_eq_false hlt
  rcases hkn with ⟨h1, h2, rfl⟩ | ⟨h1, h2, rfl⟩ | ⟨h1, rfl⟩
  case' inl =>
    have t1 : decide (k < K) = true := decide_eq_true h1
    have t2 : decide (K ≤ (len : Int)) = true := decide_eq_true h2
  case' inr.inl =>
    have t1 : decide (K < tk) = true := decide_eq_true h1
    have t2 : decide (tk ≤ (len : Int)) = false := decide_eq_false h2
  case' inr.inr =>
    have t1 : decide (K < tk) = false := decide_eq_false h1
  all_goals
    go_enter Try.func17, Try.ntmps17
    go_wp2_with fail
    rw [← HN.out, ← HW0.out]
    go_wp2_with (first
      | (go_at_call 13; (with_reducible refine (hg _ HS0.out).mono ?_); rintro e w1 ⟨rfl, hb1⟩; have HB1 := Lib.hid (B0.out.trans (hb1.mono (by omega))); have HX1 := Lib.hid (HX.out.keep hb1); have HF1 := Lib.hid (HF.out.keep hb1); have HY1 := Lib.hid (HY.out.keep hb1); have HS1 := Lib.hid (HS0.out.keep hb1); have hz1 := hb1.size; clear hb1 c0 c1 c2 p0 p1 p2 p3; obtain ⟨c0, c1, c2⟩ := agg_cells HX1.out; obtain ⟨p0, p1, p2, p3⟩ := fm_cells HF1.out)
      | (go_at_call 20; (with_reducible refine (hv _).mono ?_); rintro e w1b ⟨rfl, hb1⟩; have HB1b := Lib.hid (HB1.out.trans (hb1.mono (by omega))); have HX1b := Lib.hid (HX1.out.keep hb1); have HF1b := Lib.hid (HF1.out.keep hb1); have HY1b := Lib.hid (HY1.out.keep hb1); have HS1b := Lib.hid (HS1.out.keep hb1); have hz1b := hb1.size; clear hb1 c0 c1 c2 p0 p1 p2 p3; obtain ⟨c0, c1, c2⟩ := agg_cells HX1b.out; obtain ⟨p0, p1, p2, p3⟩ := fm_cells HF1b.out)
      | (go_at_call 23; (with_reducible refine (hr _ HS1b.out hb256).mono ?_); rintro e w2 ⟨v2, rfl, ho2, hb2⟩; obtain ⟨a2, cap2, rfl, -⟩ := ho2.has; have HB2 := Lib.hid (HB1b.out.trans (hb2.mono (by omega))); have HF2 := Lib.hid (HF1b.out.keep hb2); have HY2 := Lib.hid (HY1b.out.keep hb2); have HO2 := Lib.hid (ho2.low (show N + 3 ≤ w1b.heap.size by omega)); have hz2 := hb2.size; clear hb2 ho2 c0 c1 c2 p0 p1 p2 p3; rw [HL.out]; rw [HL.out] at HO2; obtain ⟨p0, p1, p2, p3⟩ := fm_cells HF2.out; have q0 := fun o : Obj => (fm_cells (HF2.out.keep ((Below.refl w2.heap.size w2).alloc (Nat.le_refl _) o))).1; have q1 := fun o : Obj => (fm_cells (HF2.out.keep ((Below.refl w2.heap.size w2).alloc (Nat.le_refl _) o))).2.1; have q2 := fun o : Obj => (fm_cells (HF2.out.keep ((Below.refl w2.heap.size w2).alloc (Nat.le_refl _) o))).2.2.1; have q3 := fun o : Obj => (fm_cells (HF2.out.keep ((Below.refl w2.heap.size w2).alloc (Nat.le_refl _) o))).2.2.2; have d0 := fun o : Obj => (agg_cells (HY2.out.keep ((Below.refl w2.heap.size w2).alloc (Nat.le_refl _) o))).1; have d1 := fun o : Obj => (agg_cells (HY2.out.keep ((Below.refl w2.heap.size w2).alloc (Nat.le_refl _) o))).2.1; have d2 := fun o : Obj => (agg_cells (HY2.out.keep ((Below.refl w2.heap.size w2).alloc (Nat.le_refl _) o))).2.2; have f0 := fun o : Obj => (HY2.out.keep ((Below.refl w2.heap.size w2).alloc (Nat.le_refl _) o)).free 0; have f1 := fun o : Obj => (HY2.out.keep ((Below.refl w2.heap.size w2).alloc (Nat.le_refl _) o)).free 1; have f2 := fun o : Obj => (HY2.out.keep ((Below.refl w2.heap.size w2).alloc (Nat.le_refl _) o)).free 2))
    have hN := HN.out
    obtain ⟨w3, hw3⟩ : ∃ w3, w3 = w2.alloc (.cells #[.slice a2 len cap2, .int .i64 t, .int .i64 K] 24) := ⟨_, rfl⟩
    have hb3 : Below w2.heap.size w2 w3 := by rw [hw3]; exact (Below.refl _ _).alloc (Nat.le_refl _) _
    have FIN : ∃ W, W = (((w3.setCell ⟨N + 2, 0, none⟩ (.slice a2 len cap2)).setCell ⟨N + 2, 1, none⟩ (.int .i64 t)).setCell ⟨N + 2, 2, none⟩ (.int .i64 K)) ∧ Blk W (N + 2) #[.slice a2 len cap2, .int .i64 t, .int .i64 K] 24 ∧ OwnS W (N + 3) (.slice a2 len cap2) S ∧ Below N w W :=
      ⟨_, rfl, (HY2.out.keep hb3).set3 _ _ _, (HO2.out.keep hb3).set3 (by omega), below_set3 (HB2.out.trans (hb3.mono (by omega))) (show N ≤ N + 2 by omega) _ _ _⟩
    rw [← hw3]
    obtain ⟨W, hW, j1, j3, j4⟩ := FIN
    rw [← hW]
    clear hW hw3
    refine bodyPost_ret (take_res (x := .string em) (y := .slice none 0 0) (z := .int .i64 0) rfl j1 rfl rfl rfl rfl) rfl ⟨_, _, rfl, j3.low (by omega), ownX_nil _ _, Apart.nil _, ?_⟩
    rw [← hN]; exact j4
set_option maxRecDepth 100000 in
set_option maxHeartbeats 4000000 in
theorem take_bad (a : Option Addr) (len cap : Nat) (S : List ByteArray) (t k kd n tk : Int) (b : ByteArray) (w : World) (hS : HasS w a S) (hl : S.length = len) (hgd : goodB ⟨S, t, k⟩ = false) :
    Calls Try.prog 17 #[.agg #[.slice a len cap, .int .i64 t, .int .i64 k], .agg #[.int .i64 kd, .int .i64 n, .int .i64 tk, .string b]] w (TakeIt (sd0, em, [], 1) w) := by
  have hg := fun w h => good_any a len cap ⟨S, t, k⟩ w h hl
  have hv := fun w => valid_any kd n tk b w
  unfold Tells at hg hv
  rw [hgd] at hg
  
  have HS := Lib.hid hS; have HL := Lib.hid hl; clear hS hl hgd
  simp only at hg
  obtain ⟨N, hN⟩ : ∃ N, N = w.heap.size := ⟨_, rfl⟩
  obtain ⟨x0, y0, z0, b0⟩ := three_new w #[.slice a len cap, .int .i64 t, .int .i64 k] #[.int .i64 kd, .int .i64 n, .int .i64 tk, .string b] #[.slice none 0 0, .int .i64 0, .int .i64 0] 24 27 24
  obtain ⟨w0, hw0⟩ : ∃ w0, w0 = ((w.alloc (.cells #[.slice a len cap, .int .i64 t, .int .i64 k] 24)).alloc (.cells #[.int .i64 kd, .int .i64 n, .int .i64 tk, .string b] 27)).alloc (.cells #[.slice none 0 0, .int .i64 0, .int .i64 0] 24) := ⟨_, rfl⟩
  rw [← hw0] at x0 y0 z0 b0
  have HS0 := Lib.hid (HS.out.keep b0)
  rw [← hN] at x0 y0 z0 b0
  have HN := Lib.hid hN; have HW0 := Lib.hid hw0; have B0 := Lib.hid b0; have HX := Lib.hid x0; have HF := Lib.hid y0; have HY := Lib.hid z0
  have hz0 : N + 3 ≤ w0.heap.size := z0.lt
  clear hN hw0 b0 x0 y0 z0
  obtain ⟨c0, c1, c2⟩ := agg_cells HX.out
  obtain ⟨p0, p1, p2, p3⟩ := fm_cells HF.out
  go_enter Try.func17, Try.ntmps17
  go_wp2_with fail
  rw [← HN.out, ← HW0.out]
  go_wp2_with (go_at_call 13; (with_reducible refine (hg _ HS0.out).mono ?_); rintro e w1 ⟨rfl, hb1⟩; have HB1 := Lib.hid (B0.out.trans (hb1.mono (by omega))); have HX1 := Lib.hid (HX.out.keep hb1); have HF1 := Lib.hid (HF.out.keep hb1); have HY1 := Lib.hid (HY.out.keep hb1); have HS1 := Lib.hid (HS0.out.keep hb1); have hz1 := hb1.size; clear hb1 c0 c1 c2 p0 p1 p2 p3; obtain ⟨c0, c1, c2⟩ := agg_cells HX1.out; obtain ⟨p0, p1, p2, p3⟩ := fm_cells HF1.out; obtain ⟨d0, d1, d2⟩ := agg_cells HY1.out; have f0 := HY1.out.free 0; have f1 := HY1.out.free 1; have f2 := HY1.out.free 2)
  have hN := HN.out
  have j1 := HY1.out.set3 (.slice none 0 0) (.int .i64 0) (.int .i64 0)
  refine bodyPost_ret (take_res (x := .string em) (y := .slice none 0 0) (z := .int .i64 1) rfl j1 rfl rfl rfl rfl) rfl ⟨_, _, rfl, ownS_nil _ _, ownX_nil _ _, Apart.nil _, ?_⟩
  rw [← hN]
  exact below_set3 HB1.out (by omega) _ _ _
set_option maxRecDepth 100000 in
set_option maxHeartbeats 4000000 in
theorem take_form (a : Option Addr) (len cap : Nat) (S : List ByteArray) (t k kd n tk : Int) (b : ByteArray) (w : World) (hS : HasS w a S) (hl : S.length = len) (hgd : goodB ⟨S, t, k⟩ = true) (hvd : validB ⟨kd, n, tk, b⟩ = false) :
    Calls Try.prog 17 #[.agg #[.slice a len cap, .int .i64 t, .int .i64 k], .agg #[.int .i64 kd, .int .i64 n, .int .i64 tk, .string b]] w (TakeIt (sd0, em, [], 11) w) := by
  have hg := fun w h => good_any a len cap ⟨S, t, k⟩ w h hl
  have hv := fun w => valid_any kd n tk b w
  unfold Tells at hg hv
  rw [hgd] at hg
  rw [hvd] at hv
  have HS := Lib.hid hS; have HL := Lib.hid hl; clear hS hl hgd
  simp only at hg
  obtain ⟨N, hN⟩ : ∃ N, N = w.heap.size := ⟨_, rfl⟩
  obtain ⟨x0, y0, z0, b0⟩ := three_new w #[.slice a len cap, .int .i64 t, .int .i64 k] #[.int .i64 kd, .int .i64 n, .int .i64 tk, .string b] #[.slice none 0 0, .int .i64 0, .int .i64 0] 24 27 24
  obtain ⟨w0, hw0⟩ : ∃ w0, w0 = ((w.alloc (.cells #[.slice a len cap, .int .i64 t, .int .i64 k] 24)).alloc (.cells #[.int .i64 kd, .int .i64 n, .int .i64 tk, .string b] 27)).alloc (.cells #[.slice none 0 0, .int .i64 0, .int .i64 0] 24) := ⟨_, rfl⟩
  rw [← hw0] at x0 y0 z0 b0
  have HS0 := Lib.hid (HS.out.keep b0)
  rw [← hN] at x0 y0 z0 b0
  have HN := Lib.hid hN; have HW0 := Lib.hid hw0; have B0 := Lib.hid b0; have HX := Lib.hid x0; have HF := Lib.hid y0; have HY := Lib.hid z0
  have hz0 : N + 3 ≤ w0.heap.size := z0.lt
  clear hN hw0 b0 x0 y0 z0
  obtain ⟨c0, c1, c2⟩ := agg_cells HX.out
  obtain ⟨p0, p1, p2, p3⟩ := fm_cells HF.out
  go_enter Try.func17, Try.ntmps17
  go_wp2_with fail
  rw [← HN.out, ← HW0.out]
  go_wp2_with (first | (go_at_call 13; (with_reducible refine (hg _ HS0.out).mono ?_); rintro e w1 ⟨rfl, hb1⟩; have HB1 := Lib.hid (B0.out.trans (hb1.mono (by omega))); have HX1 := Lib.hid (HX.out.keep hb1); have HF1 := Lib.hid (HF.out.keep hb1); have HY1 := Lib.hid (HY.out.keep hb1); have HS1 := Lib.hid (HS0.out.keep hb1); have hz1 := hb1.size; clear hb1 c0 c1 c2 p0 p1 p2 p3; obtain ⟨c0, c1, c2⟩ := agg_cells HX1.out; obtain ⟨p0, p1, p2, p3⟩ := fm_cells HF1.out) | (go_at_call 20; (with_reducible refine (hv _).mono ?_); rintro e w1b ⟨rfl, hb1⟩; have HB1b := Lib.hid (HB1.out.trans (hb1.mono (by omega))); have HX1b := Lib.hid (HX1.out.keep hb1); have HF1b := Lib.hid (HF1.out.keep hb1); have HY1b := Lib.hid (HY1.out.keep hb1); have HS1b := Lib.hid (HS1.out.keep hb1); have hz1b := hb1.size; clear hb1 c0 c1 c2 p0 p1 p2 p3; obtain ⟨c0, c1, c2⟩ := agg_cells HX1b.out; obtain ⟨p0, p1, p2, p3⟩ := fm_cells HF1b.out; obtain ⟨d0, d1, d2⟩ := agg_cells HY1b.out; have f0 := HY1b.out.free 0; have f1 := HY1b.out.free 1; have f2 := HY1b.out.free 2))
  have hN := HN.out
  have j1 := HY1b.out.set3 (.slice none 0 0) (.int .i64 0) (.int .i64 0)
  refine bodyPost_ret (take_res (x := .string em) (y := .slice none 0 0) (z := .int .i64 11) rfl j1 rfl rfl rfl rfl) rfl ⟨_, _, rfl, ownS_nil _ _, ownX_nil _ _, Apart.nil _, ?_⟩
  rw [← hN]
  exact below_set3 HB1b.out (by omega) _ _ _
/-- Take, of any end and any frame. -/
theorem take_any (a : Option Addr) (len cap : Nat) (s : Sd) (f : Fm) (w : World) (hS : HasS w a s.S) (hl : s.S.length = len) (hn : a = none → cap = 0) :
    Calls Try.prog 17 #[.agg #[.slice a len cap, .int .i64 s.t, .int .i64 s.k], .agg (fmV f)] w (TakeIt (takeS s f) w) := by
  obtain ⟨S, t, k⟩ := s
  obtain ⟨kd, n, tk, b⟩ := f
  simp only at hS hl ⊢
  cases hg : goodB ⟨S, t, k⟩ with
  | false =>
    have e : takeS ⟨S, t, k⟩ ⟨kd, n, tk, b⟩ = (sd0, em, [], 1) := by unfold takeS; rw [if_pos hg]
    rw [e]
    exact take_bad a len cap S t k kd n tk b w hS hl hg
  | true =>
  cases hv : validB ⟨kd, n, tk, b⟩ with
  | false =>
    have e : takeS ⟨S, t, k⟩ ⟨kd, n, tk, b⟩ = (sd0, em, [], 11) := by unfold takeS; rw [if_neg (by simp [hg]), if_pos hv]
    rw [e]
    exact take_form a len cap S t k kd n tk b w hS hl hg hv
  | true =>
  have hkn := kn_of S t k ⟨kd, n, tk, b⟩ len hl
  simp only at hkn
  obtain ⟨K, hK⟩ : ∃ K, knownS ⟨S, t, k⟩ ⟨kd, n, tk, b⟩ = K := ⟨_, rfl⟩
  rw [hK] at hkn
  obtain ⟨v1, v2, v3⟩ := validB_iff.1 hv
  simp only at v1 v2 v3
  unfold takeS
  rw [if_neg (by simp [hg]), if_neg (by simp [hv]), hK]
  simp only
  by_cases k2 : kd = 2
  · rw [if_pos k2]
    subst k2
    obtain ⟨j, hj⟩ : ∃ j : Nat, n = (j : Int) + 1 := ⟨(n - 1).toNat, by omega⟩
    subst hj
    rw [show ((j : Int) + 1 - 1).toNat = j by omega]
    exact take_ask a len cap S t k K tk j b w hS hl hn hg hv hkn
  rw [if_neg k2]
  by_cases k1 : kd = 1 ∧ n = t + 1
  · rw [if_pos k1]
    obtain ⟨rfl, rfl⟩ := k1
    exact take_data a len cap S t k K tk b w hS hl hn hg hv hkn
  rw [if_neg k1]
  have hk : kd = 1 ∧ n ≠ t + 1 ∨ kd = 3 := by
    rcases v3 with h | h | h
    · exact .inl ⟨h.1, fun e => k1 ⟨h.1, e⟩⟩
    · exact absurd h.1 k2
    · exact .inr h.1
  by_cases hlt : t < n
  · rw [if_pos hlt]
    rcases hk with ⟨rfl, hne⟩ | rfl
    · exact take_gap1 a len cap S t k K tk n b hne hlt w hS hl hn hg hv hkn
    · exact take_gap3 a len cap S t k K tk n b hlt w hS hl hn hg hv hkn
  · rw [if_neg hlt]
    rcases hk with ⟨rfl, hne⟩ | rfl
    · exact take_none1 a len cap S t k K tk n b hlt w hS hl hn hg hv hkn
    · exact take_none3 a len cap S t k K tk n b hlt w hS hl hn hg hv hkn
end Go.Proofs.Ytmecaioklmkdlaa.Ss

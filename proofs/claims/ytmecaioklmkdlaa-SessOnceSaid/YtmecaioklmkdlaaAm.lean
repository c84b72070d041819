/-
  Layer 8: the reference's Send.
-/
import Derived.Test.YtmecaioklmkdlaaAl
import Derived.Test.YtmecaioklmkdlaaAk
import Derived.Deep.DeepMust
namespace Go.Proofs.Ytmecaioklmkdlaa.Ss
open Go.RowKit
set_option linter.unusedVariables false
set_option linter.unusedSimpArgs false

theorem st7_other {W : World} {N g : Nat} {cs : Array Value} {T : TypeId} (h : Blk W g cs T) (h1 : N + 1 ≠ g) (h2 : N + 2 ≠ g) (a b c d e f x : Value) : Blk (st7 W N a b c d e f x) g cs T := blk_set4 (blk_set3 h h1 a b c) h2 d e f x
theorem blk_drew {W : World} {g : Nat} {cs : Array Value} {T : TypeId} (h : Blk W g cs T) : Blk W.drew g cs T := h
theorem ownS_drew {W : World} {base : Nat} {v : Value} {S : List ByteArray} (h : OwnS W base v S) : OwnS W.drew base v S := h
theorem ownX_drew {W : World} {base : Nat} {v : Value} {S : List Fm} (h : OwnX W base v S) : OwnX W.drew base v S := h
theorem st7_other_drew {W : World} {N g : Nat} {cs : Array Value} {T : TypeId} (h : Blk W g cs T) (h1 : N + 1 ≠ g) (h2 : N + 2 ≠ g) (a b c d e f x : Value) : Blk (st7 W N a b c d e f x).drew g cs T := blk_drew (st7_other h h1 h2 a b c d e f x)
theorem st3_other_drew {W : World} {g' g : Nat} {cs : Array Value} {T : TypeId} (h : Blk W g cs T) (h1 : g' ≠ g) (a b c : Value) : Blk (((W.setCell ⟨g', 0, none⟩ a).setCell ⟨g', 1, none⟩ b).setCell ⟨g', 2, none⟩ c).drew g cs T := blk_drew (blk_set3 h h1 a b c)
set_option maxRecDepth 100000 in
set_option maxHeartbeats 4000000 in
theorem rsend_any (a : Option Addr) (len cap : Nat) (s : Sd) (m : ByteArray) (w : World) (hS : HasS w a s.S) (hl : s.S.length = len) (hn : a = none → cap = 0) :
    Calls Try.prog 11 #[.agg #[.slice a len cap, .int .i64 s.t, .int .i64 s.k], .string m] w (SendIt (sendS s m) w) := by
  have hg := fun w h => rgood_any a len cap s w h hl
  have hr := fun w h hb => copied_any a len cap s w h hl hn hb
  have hbd : goodB s = true → len ≤ 256 := fun h => by have := goodB_iff.1 h; rw [hl] at this; omega
  unfold Tells at hg
  unfold sendS
  rw [hl]
  have HS := Lib.hid hS; have HL := Lib.hid hl; clear hS hl hn
  obtain ⟨S, t, k⟩ := s
  simp only at HS hg hbd hr HL ⊢
  obtain ⟨N, hN⟩ : ∃ N, N = w.heap.size := ⟨_, rfl⟩
  obtain ⟨x0, y0, z0, b0⟩ := three_new w #[.slice a len cap, .int .i64 t, .int .i64 k] #[.slice none 0 0, .int .i64 0, .int .i64 0] #[.int .i64 0, .int .i64 0, .int .i64 0, .string em] 24 24 27
  obtain ⟨w0, hw0⟩ : ∃ w0, w0 = ((w.alloc (.cells #[.slice a len cap, .int .i64 t, .int .i64 k] 24)).alloc (.cells #[.slice none 0 0, .int .i64 0, .int .i64 0] 24)).alloc (.cells #[.int .i64 0, .int .i64 0, .int .i64 0, .string em] 27) := ⟨_, rfl⟩
  rw [← hw0] at x0 y0 z0 b0
  have HS0 := Lib.hid (HS.out.keep b0)
  rw [← hN] at x0 y0 z0 b0
  have HN := Lib.hid hN; have HW0 := Lib.hid hw0; have B0 := Lib.hid b0; have HX := Lib.hid x0; have HY := Lib.hid y0; have HZ := Lib.hid z0
  have hz0 : N + 3 ≤ w0.heap.size := z0.lt
  clear hN hw0 b0 x0 y0 z0
  obtain ⟨c0, c1, c2⟩ := agg_cells HX.out
  cases hq : goodB ⟨S, t, k⟩ with
  | false =>
    rw [hq] at hg
    rw [if_pos rfl]
    clear hbd hq hr
    go_enter Try.func11, Try.ntmps11
    go_wp2_with fail
    rw [← HN.out, ← HW0.out]
    go_wp2_with (go_at_call 14; (with_reducible refine (hg _ HS0.out).mono ?_); rintro e w1 ⟨rfl, hb1⟩; have HB1 := Lib.hid (B0.out.trans (hb1.mono (by omega))); have HX1 := Lib.hid (HX.out.keep hb1); have HY1 := Lib.hid (HY.out.keep hb1); have HZ1 := Lib.hid (HZ.out.keep hb1); have HS1 := Lib.hid (HS0.out.keep hb1); have hz1 := hb1.size; clear hb1 c0 c1 c2; obtain ⟨c0, c1, c2⟩ := agg_cells HX1.out; obtain ⟨d0, d1, d2⟩ := agg_cells HY1.out; have f0 := HY1.out.free 0; have f1 := HY1.out.free 1; have f2 := HY1.out.free 2; obtain ⟨e0, e1, e2, e3⟩ := fm_cells HZ1.out; have g0 := HZ1.out.free 0; have g1 := HZ1.out.free 1; have g2 := HZ1.out.free 2; have g3 := HZ1.out.free 3)
    obtain ⟨j1, j2⟩ := st7_blks HY1.out HZ1.out (.slice none 0 0) (.int .i64 0) (.int .i64 0) (.int .i64 0) (.int .i64 0) (.int .i64 0) (.string em)
    have hN := HN.out
    refine bodyPost_ret (send_res (x := .int .i64 1) rfl j1 j2 rfl rfl rfl) rfl ⟨_, rfl, ownS_nil _ _, ?_⟩
    rw [← hN]
    exact st7_below HB1.out _ _ _ _ _ _ _
  | true =>
    have hb256 := hbd hq
    rw [hq] at hg
    rw [if_neg (by simp)]
    clear hbd hq
    cases hm : msgB m with
    | false =>
      rw [if_pos rfl]
      have hm2 : ¬ (1 ≤ m.size ∧ m.size ≤ 4096) := fun h => by rw [msgB_iff.2 h] at hm; cases hm
      clear hm hr
      by_cases hs : m.size < 1
      case' pos =>
        have e8 : decide ((m.size : Int) < 1) = true := by rw [decide_eq_true_eq]; omega
      case' neg =>
        have e8 : decide ((m.size : Int) < 1) = false := by rw [decide_eq_false_iff_not]; omega
        have e9 : decide ((4096 : Int) < (m.size : Int)) = true := by rw [decide_eq_true_eq]; omega
      all_goals clear hm2 hs
      all_goals
        go_enter Try.func11, Try.ntmps11
        go_wp2_with fail
        rw [← HN.out, ← HW0.out]
        go_wp2_with (first
          | (go_at_call 14; (with_reducible refine (hg _ HS0.out).mono ?_); rintro e w1 ⟨rfl, hb1⟩; have HB1 := Lib.hid (B0.out.trans (hb1.mono (by omega))); have HX1 := Lib.hid (HX.out.keep hb1); have HY1 := Lib.hid (HY.out.keep hb1); have HZ1 := Lib.hid (HZ.out.keep hb1); have HS1 := Lib.hid (HS0.out.keep hb1); have hz1 := hb1.size; clear hb1 c0 c1 c2; obtain ⟨c0, c1, c2⟩ := agg_cells HX1.out; obtain ⟨d0, d1, d2⟩ := agg_cells HY1.out; have f0 := HY1.out.free 0; have f1 := HY1.out.free 1; have f2 := HY1.out.free 2; obtain ⟨e0, e1, e2, e3⟩ := fm_cells HZ1.out; have g0 := HZ1.out.free 0; have g1 := HZ1.out.free 1; have g2 := HZ1.out.free 2; have g3 := HZ1.out.free 3))
        obtain ⟨j1, j2⟩ := st7_blks HY1.out HZ1.out (.slice none 0 0) (.int .i64 0) (.int .i64 0) (.int .i64 0) (.int .i64 0) (.int .i64 0) (.string em)
        have hN := HN.out
        refine bodyPost_ret (send_res (x := .int .i64 11) rfl j1 j2 rfl rfl rfl) rfl ⟨_, rfl, ownS_nil _ _, ?_⟩
        rw [← hN]
        exact st7_below HB1.out _ _ _ _ _ _ _
    | true =>
    rw [if_neg (by simp)]
    obtain ⟨hm3, hm4⟩ := msgB_iff.1 hm
    have e8 : decide ((m.size : Int) < 1) = false := by rw [decide_eq_false_iff_not]; omega
    have e9 : decide ((4096 : Int) < (m.size : Int)) = false := by rw [decide_eq_false_iff_not]; omega
    clear hm
    by_cases hfull : len = 256
    · rw [if_pos hfull]
      subst hfull
      clear hr
      go_enter Try.func11, Try.ntmps11
      go_wp2_with fail
      rw [← HN.out, ← HW0.out]
      go_wp2_with (first
        | (go_at_call 14; (with_reducible refine (hg _ HS0.out).mono ?_); rintro e w1 ⟨rfl, hb1⟩; have HB1 := Lib.hid (B0.out.trans (hb1.mono (by omega))); have HX1 := Lib.hid (HX.out.keep hb1); have HY1 := Lib.hid (HY.out.keep hb1); have HZ1 := Lib.hid (HZ.out.keep hb1); have HS1 := Lib.hid (HS0.out.keep hb1); have hz1 := hb1.size; clear hb1 c0 c1 c2; obtain ⟨c0, c1, c2⟩ := agg_cells HX1.out; obtain ⟨d0, d1, d2⟩ := agg_cells HY1.out; have f0 := HY1.out.free 0; have f1 := HY1.out.free 1; have f2 := HY1.out.free 2; obtain ⟨e0, e1, e2, e3⟩ := fm_cells HZ1.out; have g0 := HZ1.out.free 0; have g1 := HZ1.out.free 1; have g2 := HZ1.out.free 2; have g3 := HZ1.out.free 3))
      obtain ⟨j1, j2⟩ := st7_blks HY1.out HZ1.out (.slice none 0 0) (.int .i64 0) (.int .i64 0) (.int .i64 0) (.int .i64 0) (.int .i64 0) (.string em)
      have hN := HN.out
      refine bodyPost_ret (send_res (x := .int .i64 40) rfl j1 j2 rfl rfl rfl) rfl ⟨_, rfl, ownS_nil _ _, ?_⟩
      rw [← hN]
      exact st7_below HB1.out _ _ _ _ _ _ _
    · rw [if_neg hfull]
      have d1 : decide ((256 : Int) ≤ (len : Int)) = false := by rw [decide_eq_false_iff_not]; omega
      clear hfull
      go_enter Try.func11, Try.ntmps11
      go_wp2_with fail
      rw [← HN.out, ← HW0.out]
      go_wp2_with (first
        | (go_at_call 14; (with_reducible refine (hg _ HS0.out).mono ?_); rintro e w1 ⟨rfl, hb1⟩; have HB1 := Lib.hid (B0.out.trans (hb1.mono (by omega))); have HX1 := Lib.hid (HX.out.keep hb1); have HY1 := Lib.hid (HY.out.keep hb1); have HZ1 := Lib.hid (HZ.out.keep hb1); have HS1 := Lib.hid (HS0.out.keep hb1); have hz1 := hb1.size; clear hb1 c0 c1 c2; obtain ⟨c0, c1, c2⟩ := agg_cells HX1.out)
        | (go_at_call 25; (with_reducible refine (hr _ HS1.out hb256).mono ?_); rintro e w2 ⟨v2, rfl, ho2, hb2⟩; obtain ⟨a2, cap2, rfl, -⟩ := ho2.has; have HB2 := Lib.hid (HB1.out.trans (hb2.mono (by omega))); have HX2 := Lib.hid (HX1.out.keep hb2); have HY2 := Lib.hid (HY1.out.keep hb2); have HZ2 := Lib.hid (HZ1.out.keep hb2); have HO2 := Lib.hid (ho2.low (show N + 3 ≤ w1.heap.size by omega)); have hz2 := hb2.size; clear hb2 ho2 c0 c1 c2)
        | (at_builtin; go_must (have hba := ((Below.refl w2.heap.size w2).alloc (Nat.le_refl _) (.cells #[.slice a2 S.length cap2, .int .i64 t, .int .i64 k] 24)); refine wp_apS rfl (.tmp 32) (.tmp 34) rfl (N + 3) _ S rfl (HO2.out.keep (hba.alloc hba.size _)) _ _ _ [m] rfl (lit_oneS _ m _ _ (by rw [World.size_alloc])) rfl (fun h => by cases h) (by rw [HL.out]; omega) (by rw [World.size_alloc, World.size_alloc]; omega) ?_; intro v4 w4 ho4 hg4 hnb4; obtain ⟨a4, cap4, hv4, -⟩ := ho4.has; have hlm : (S ++ [m]).length = len + 1 := (by rw [List.length_append, HL.out]; rfl); rw [hlm] at hv4; subst hv4; have HLM := Lib.hid hlm; clear hlm; have hba2 := hba.alloc hba.size (.cells #[.string m] 9); have hlt := HO2.out.lt; have HB4 := Lib.hid ((HB2.out.trans (hba2.mono (by omega))).grown hg4 (by rw [World.size_alloc, World.size_alloc]; omega) (fun r hr => by have := (hlt r hr).1; omega)); have hnb : ∀ g, g < N + 3 → (Value.slice a2 S.length cap2).ownBlock ≠ some g := (fun g hgl e => by have := (hlt g e).1; omega); have HX4 := Lib.hid ((HX2.out.keep hba2).gone hg4 (hnb _ (by omega))); have HY4 := Lib.hid ((HY2.out.keep hba2).gone hg4 (hnb _ (by omega))); have HZ4 := Lib.hid ((HZ2.out.keep hba2).gone hg4 (hnb _ (by omega))); have HG4 := Lib.hid (((Blk.new w2 #[.slice a2 S.length cap2, .int .i64 t, .int .i64 k] 24).keep ((Below.refl _ _).alloc (Nat.le_refl _) (.cells #[.string m] 9))).gone hg4 (fun e => by have := (hlt _ e).2; omega)); have HNB : Hid ((Value.slice a4 (len + 1) cap4).ownBlock ≠ some w2.heap.size) := Lib.hid (fun e => by rcases hnb4 with h | h; (rw [h] at e; have := (hlt _ e).2; omega); (rw [h, World.size_alloc, World.size_alloc] at e; have := Option.some.inj e; omega)); have HO4 := Lib.hid ho4; have hz4 := hg4.size; rw [World.size_alloc, World.size_alloc] at hz4; clear ho4 hg4 hnb4 hba hba2 hlt hnb; obtain ⟨k0, k1, k2⟩ := agg_cells HG4.out; have l0 := HG4.out.free 0)))
      obtain ⟨w5, hw5⟩ : ∃ w5, w5 = w4.setCell ⟨w2.heap.size, 0, none⟩ (.slice a4 (len + 1) cap4) := ⟨_, rfl⟩
      rw [← hw5]
      have HG5 : Hid (Blk w5 w2.heap.size #[.slice a4 (len + 1) cap4, .int .i64 t, .int .i64 k] 24) := Lib.hid (by rw [hw5]; exact HG4.out.set 0 (.slice a4 (len + 1) cap4))
      have HX5 : Hid (Blk w5 N #[.slice a len cap, .int .i64 t, .int .i64 k] 24) := Lib.hid (by rw [hw5]; exact HX4.out.other 0 _ (by omega))
      have HY5 : Hid (Blk w5 (N + 1) #[.slice none 0 0, .int .i64 0, .int .i64 0] 24) := Lib.hid (by rw [hw5]; exact HY4.out.other 0 _ (by omega))
      have HZ5 : Hid (Blk w5 (N + 2) #[.int .i64 0, .int .i64 0, .int .i64 0, .string em] 27) := Lib.hid (by rw [hw5]; exact HZ4.out.other 0 _ (by omega))
      have HB5 : Hid (Below N w w5) := Lib.hid (by rw [hw5]; exact HB4.out.setCell (p := ⟨w2.heap.size, 0, none⟩) (by simp only; omega) _)
      have HO5 : Hid (OwnS w5 (N + 3) (.slice a4 (len + 1) cap4) (S ++ [m])) := Lib.hid (by
        rw [hw5]
        refine HO4.out.gone (set_grown w4 w2.heap.size 0 (.slice a4 (len + 1) cap4)) fun r hr e => HNB.out (by rw [hr, ← e]))
      have hz5 : w5.heap.size = w4.heap.size := by rw [hw5]; simp [World.setCell]
      clear hw5 HG4 HY4 HZ4 HB4 HO4 k0 k1 k2 l0 HX2 HY2 HZ2 HO2 HB2 HX1 HY1 HZ1 HB1
      obtain ⟨k0, k1, k2⟩ := agg_cells HG5.out
      obtain ⟨c0, c1, c2⟩ := agg_cells HX5.out
      obtain ⟨d0, d1', d2⟩ := agg_cells HY5.out; have f0 := HY5.out.free 0; have f1 := HY5.out.free 1; have f2 := HY5.out.free 2
      obtain ⟨e0, e1, e2, e3⟩ := fm_cells HZ5.out; have g0 := HZ5.out.free 0; have g1 := HZ5.out.free 1; have g2 := HZ5.out.free 2; have g3 := HZ5.out.free 3
      have HK : Hid (∀ wx, Blk wx w2.heap.size #[.slice a4 (len + 1) cap4, .int .i64 t, .int .i64 k] 24 → Blk wx N #[.slice a len cap, .int .i64 t, .int .i64 k] 24 → (wx.cell? ⟨w2.heap.size, 0, none⟩ = some (.slice a4 (len + 1) cap4) ∧ wx.cell? ⟨w2.heap.size, 1, none⟩ = some (.int .i64 t) ∧ wx.cell? ⟨w2.heap.size, 2, none⟩ = some (.int .i64 k)) ∧ wx.cell? ⟨N, 1, none⟩ = some (.int .i64 t)) := Lib.hid fun wx hb hx => ⟨agg_cells hb, hx.cell 1⟩
      have HGD : Hid (Blk w5.drew w2.heap.size #[.slice a4 (len + 1) cap4, .int .i64 t, .int .i64 k] 24) := Lib.hid HG5.out
      have HXD : Hid (Blk w5.drew N #[.slice a len cap, .int .i64 t, .int .i64 k] 24) := Lib.hid HX5.out
      have HG3 : Hid (∀ x y z, Blk (((w5.setCell ⟨N + 1, 0, none⟩ x).setCell ⟨N + 1, 1, none⟩ y).setCell ⟨N + 1, 2, none⟩ z).drew w2.heap.size #[.slice a4 (len + 1) cap4, .int .i64 t, .int .i64 k] 24 ∧ Blk (((w5.setCell ⟨N + 1, 0, none⟩ x).setCell ⟨N + 1, 1, none⟩ y).setCell ⟨N + 1, 2, none⟩ z).drew N #[.slice a len cap, .int .i64 t, .int .i64 k] 24) := Lib.hid fun x y z => ⟨st3_other_drew HG5.out (by omega) x y z, st3_other_drew HX5.out (by omega) x y z⟩
      have HG7 : Hid (∀ x y z p q r s, Blk (st7 w5 N x y z p q r s).drew w2.heap.size #[.slice a4 (len + 1) cap4, .int .i64 t, .int .i64 k] 24 ∧ Blk (st7 w5 N x y z p q r s).drew N #[.slice a len cap, .int .i64 t, .int .i64 k] 24) := Lib.hid fun x y z p q r s => ⟨st7_other_drew HG5.out (by omega) (by omega) x y z p q r s, st7_other_drew HX5.out (by omega) (by omega) x y z p q r s⟩
      go_region_held3 (fun wx => (wx.cell? ⟨w2.heap.size, 0, none⟩ = some (.slice a4 (len + 1) cap4) ∧ wx.cell? ⟨w2.heap.size, 1, none⟩ = some (.int .i64 t) ∧ wx.cell? ⟨w2.heap.size, 2, none⟩ = some (.int .i64 k)) ∧ wx.cell? ⟨N, 1, none⟩ = some (.int .i64 t))
        (first | (with_reducible exact HK.out _ HGD.out HXD.out) | (with_reducible exact HK.out _ HG5.out HX5.out) | (with_reducible exact HK.out _ (HG3.out _ _ _).1 (HG3.out _ _ _).2) | (with_reducible exact HK.out _ (HG7.out _ _ _ _ _ _ _).1 (HG7.out _ _ _ _ _ _ _).2))
        (fail)
      go_wp2
      have hN := HN.out
      obtain ⟨j1, j2⟩ := st7_blks HY5.out HZ5.out (.slice a4 (len + 1) cap4) (.int .i64 t) (.int .i64 k) (.int .i64 1) (.int .i64 ((len : Int) + 1)) (.int .i64 t) (.string m)
      have j3 := st7_own HO5.out (.slice a4 (len + 1) cap4) (.int .i64 t) (.int .i64 k) (.int .i64 1) (.int .i64 ((len : Int) + 1)) (.int .i64 t) (.string m)
      have j4 := st7_below HB5.out (.slice a4 (len + 1) cap4) (.int .i64 t) (.int .i64 k) (.int .i64 1) (.int .i64 ((len : Int) + 1)) (.int .i64 t) (.string m)
      have FIN : ∃ W, W = (st7 w5 N (.slice a4 (len + 1) cap4) (.int .i64 t) (.int .i64 k) (.int .i64 1) (.int .i64 ((len : Int) + 1)) (.int .i64 t) (.string m)).drew ∧ Blk W (N + 1) #[.slice a4 (len + 1) cap4, .int .i64 t, .int .i64 k] 24 ∧ Blk W (N + 2) #[.int .i64 1, .int .i64 ((len : Int) + 1), .int .i64 t, .string m] 27 ∧ OwnS W (N + 3) (.slice a4 (len + 1) cap4) (S ++ [m]) ∧ Below N w W := ⟨_, rfl, blk_drew j1, blk_drew j2, ownS_drew j3, j4.drew⟩
      clear j1 j2 j3 j4
      obtain ⟨W, hW, j1, j2, j3, j4⟩ := FIN
      rw [← hW]
      refine bodyPost_ret (send_res (x := .int .i64 0) rfl j1 j2 rfl rfl rfl) rfl ⟨_, rfl, j3.low (by omega), ?_⟩
      rw [← hN]
      exact j4
end Go.Proofs.Ytmecaioklmkdlaa.Ss

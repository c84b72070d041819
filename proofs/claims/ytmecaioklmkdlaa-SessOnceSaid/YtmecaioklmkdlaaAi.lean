/-
  Layer 8: the program's Send.
-/
import Derived.Test.YtmecaioklmkdlaaAh
import Derived.Deep.DeepMust
import Derived.Deep.RegionHeld3
namespace Go.Proofs.Ytmecaioklmkdlaa.Ss
open Go.RowKit
set_option linter.unusedVariables false
set_option linter.unusedSimpArgs false

theorem below_drew (w : World) : Below w.heap.size w w.drew := ⟨rfl, rfl, rfl, Nat.le_refl _, fun _ _ => rfl⟩
theorem blk_set4 {W : World} {g g' : Nat} {cs : Array Value} {T : TypeId} (h : Blk W g cs T) (hne : g' ≠ g) (a b c d : Value) : Blk ((((W.setCell ⟨g', 0, none⟩ a).setCell ⟨g', 1, none⟩ b).setCell ⟨g', 2, none⟩ c).setCell ⟨g', 3, none⟩ d) g cs T := (blk_set3 h hne a b c).other 3 d hne
/-- What Send answers. -/
def SendIt (R : Sd × Fm × Int) (w : World) (e : Ending) (w' : World) : Prop := ∃ v, e = .returned (.tuple #[.agg (sdV v R.1.t R.1.k), .agg (fmV R.2.1), .int .i64 R.2.2]) ∧ OwnS w' w.heap.size v R.1.S ∧ Below w.heap.size w w'
/-- Seven stores: a box of a side, a box of a frame. -/
abbrev st7 (W : World) (N : Nat) (a b c d e f g : Value) : World := (((((((W.setCell ⟨N + 1, 0, none⟩ a).setCell ⟨N + 1, 1, none⟩ b).setCell ⟨N + 1, 2, none⟩ c).setCell ⟨N + 2, 0, none⟩ d).setCell ⟨N + 2, 1, none⟩ e).setCell ⟨N + 2, 2, none⟩ f).setCell ⟨N + 2, 3, none⟩ g)
theorem st7_blks {W : World} {N : Nat} {a b c d e f g : Value} {T U : TypeId} (h1 : Blk W (N + 1) #[a, b, c] T) (h2 : Blk W (N + 2) #[d, e, f, g] U) (a' b' c' d' e' f' g' : Value) :
    Blk (st7 W N a' b' c' d' e' f' g') (N + 1) #[a', b', c'] T ∧ Blk (st7 W N a' b' c' d' e' f' g') (N + 2) #[d', e', f', g'] U :=
  ⟨blk_set4 (h1.set3 a' b' c') (by omega) _ _ _ _, (blk_set3 h2 (by omega) _ _ _).set4 _ _ _ _⟩
theorem st7_below {w W : World} {N : Nat} (h : Below N w W) (a b c d e f g : Value) : Below N w (st7 W N a b c d e f g) := below_set4 (below_set3 h (by omega) _ _ _) (by omega) _ _ _ _
theorem st7_own {W : World} {N : Nat} {v : Value} {S : List ByteArray} (h : OwnS W (N + 3) v S) (a b c d e f g : Value) : OwnS (st7 W N a b c d e f g) (N + 3) v S := (h.set3 (by omega)).set4 (by omega)
theorem send_res {fn : Func} {tmps : Array Value} {W : World} {N : Nat} {a b c d e f g x : Value} {T U : TypeId} (hr : fn.results = #[.cell 4 24, .cell 5 27, .tmp 6]) (h1 : Blk W (N + 1) #[a, b, c] T) (h2 : Blk W (N + 2) #[d, e, f, g] U)
    (t4 : tmps.getD 4 undef = .pointer (some ⟨N + 1, 0, none⟩)) (t5 : tmps.getD 5 undef = .pointer (some ⟨N + 2, 0, none⟩)) (t6 : tmps.getD 6 undef = x) :
    (results fn tmps).run Try.prog W = .ok (.tuple #[.agg #[a, b, c], .agg #[d, e, f, g], x]) W := by
  obtain ⟨d0, d1, d2⟩ := agg_cells h1
  obtain ⟨e0, e1, e2, e3⟩ := fm_cells h2
  have t4' : tmps[4]?.getD undef = .pointer (some ⟨N + 1, 0, none⟩) := by simpa using t4
  have t5' : tmps[5]?.getD undef = .pointer (some ⟨N + 2, 0, none⟩) := by simpa using t5
  have t6' : tmps[6]?.getD undef = x := by simpa using t6
  simp [results, hr, t4', t5', t6', asAddr, loadVar, go_sem, d0, d1, d2, e0, e1, e2, e3]
set_option maxRecDepth 100000 in
set_option maxHeartbeats 4000000 in
theorem send_any (a : Option Addr) (len cap : Nat) (s : Sd) (m : ByteArray) (w : World) (hS : HasS w a s.S) (hl : s.S.length = len) (hn : a = none → cap = 0) :
    Calls Try.prog 10 #[.agg #[.slice a len cap, .int .i64 s.t, .int .i64 s.k], .string m] w (SendIt (sendS s m) w) := by
  have hg := fun w h => good_any a len cap s w h hl
  have hr := fun w h hb => renewed_any a len cap s w h hl hn hb
  have hf := fun w => fits_any m w
  have hbd : goodB s = true → len ≤ 256 := fun h => by have := goodB_iff.1 h; rw [hl] at this; omega
  unfold Tells at hg
  unfold sendS
  rw [hl]
  have HS := Lib.hid hS; have HL := Lib.hid hl; clear hS hl hn
  obtain ⟨S, t, k⟩ := s
  simp only at HS hg hbd hr HL ⊢
  obtain ⟨N, hN⟩ : ∃ N, N = w.heap.size := ⟨_, rfl⟩
  obtain ⟨x0, y0, z0, b0⟩ := three_new w #[.slice a len cap, .int .i64 t, .int .i64 k] #[.slice none 0 0, .int .i64 0, .int .i64 0] #[.int .i64 0, .int .i64 0, .int .i64 0, .string em] 24 24 27
  obtain ⟨w0, hw0⟩ : ∃ w0, w0 = ((w.alloc (.cells #[.slice a len cap, .int .i64 t, .int .i64 k] 24)).alloc (.cells #[.slice none 0 0, .int .i64 0, .int .i64 0] 24)).alloc (.cells #[.int .i64 0, .int .i64 0, .int .i64 0, .string em] 27) := ⟨_, rfl⟩
  rw [← hw0] at x0 y0 z0 b0
  have HS0 := Lib.hid (HS.out.keep b0)
  rw [← hN] at x0 y0 z0 b0
  have HN := Lib.hid hN; have HW0 := Lib.hid hw0; have B0 := Lib.hid b0; have HX := Lib.hid x0; have HY := Lib.hid y0; have HZ := Lib.hid z0
  have hz0 : N + 3 ≤ w0.heap.size := z0.lt
  clear hN hw0 b0 x0 y0 z0
  obtain ⟨c0, c1, c2⟩ := agg_cells HX.out
  cases hq : goodB ⟨S, t, k⟩ with
  | false =>
    rw [hq] at hg
    rw [if_pos rfl]
    clear hbd hq hr hf
    go_enter Try.func10, Try.ntmps10
    go_wp2_with fail
    rw [← HN.out, ← HW0.out]
    go_wp2_with (go_at_call 13; (with_reducible refine (hg _ HS0.out).mono ?_); rintro e w1 ⟨rfl, hb1⟩; have HB1 := Lib.hid (B0.out.trans (hb1.mono (by omega))); have HX1 := Lib.hid (HX.out.keep hb1); have HY1 := Lib.hid (HY.out.keep hb1); have HZ1 := Lib.hid (HZ.out.keep hb1); have HS1 := Lib.hid (HS0.out.keep hb1); have hz1 := hb1.size; clear hb1 c0 c1 c2; obtain ⟨c0, c1, c2⟩ := agg_cells HX1.out; obtain ⟨d0, d1, d2⟩ := agg_cells HY1.out; have f0 := HY1.out.free 0; have f1 := HY1.out.free 1; have f2 := HY1.out.free 2; obtain ⟨e0, e1, e2, e3⟩ := fm_cells HZ1.out; have g0 := HZ1.out.free 0; have g1 := HZ1.out.free 1; have g2 := HZ1.out.free 2; have g3 := HZ1.out.free 3)
    obtain ⟨j1, j2⟩ := st7_blks HY1.out HZ1.out (.slice none 0 0) (.int .i64 0) (.int .i64 0) (.int .i64 0) (.int .i64 0) (.int .i64 0) (.string em)
    have hN := HN.out
    refine bodyPost_ret (send_res (x := .int .i64 1) rfl j1 j2 rfl rfl rfl) rfl ⟨_, rfl, ownS_nil _ _, ?_⟩
    rw [← hN]
    exact st7_below HB1.out _ _ _ _ _ _ _
  | true =>
    have hb256 := hbd hq
    rw [hq] at hg
    rw [if_neg (by simp)]
    clear hbd hq
    cases hm : msgB m with
    | false =>
      rw [hm] at hf
      rw [if_pos rfl]
      clear hm hr
      go_enter Try.func10, Try.ntmps10
      go_wp2_with fail
      rw [← HN.out, ← HW0.out]
      go_wp2_with (first
        | (go_at_call 13; (with_reducible refine (hg _ HS0.out).mono ?_); rintro e w1 ⟨rfl, hb1⟩; have HB1 := Lib.hid (B0.out.trans (hb1.mono (by omega))); have HX1 := Lib.hid (HX.out.keep hb1); have HY1 := Lib.hid (HY.out.keep hb1); have HZ1 := Lib.hid (HZ.out.keep hb1); have HS1 := Lib.hid (HS0.out.keep hb1); have hz1 := hb1.size; clear hb1 c0 c1 c2; obtain ⟨c0, c1, c2⟩ := agg_cells HX1.out; obtain ⟨d0, d1, d2⟩ := agg_cells HY1.out; have f0 := HY1.out.free 0; have f1 := HY1.out.free 1; have f2 := HY1.out.free 2; obtain ⟨e0, e1, e2, e3⟩ := fm_cells HZ1.out; have g0 := HZ1.out.free 0; have g1 := HZ1.out.free 1; have g2 := HZ1.out.free 2; have g3 := HZ1.out.free 3)
        | (go_at_call 22; (with_reducible refine (hf _).mono ?_); rintro e w' ⟨rfl, rfl⟩))
      obtain ⟨j1, j2⟩ := st7_blks HY1.out HZ1.out (.slice none 0 0) (.int .i64 0) (.int .i64 0) (.int .i64 0) (.int .i64 0) (.int .i64 0) (.string em)
      have hN := HN.out
      refine bodyPost_ret (send_res (x := .int .i64 11) rfl j1 j2 rfl rfl rfl) rfl ⟨_, rfl, ownS_nil _ _, ?_⟩
      rw [← hN]
      exact st7_below HB1.out _ _ _ _ _ _ _
    | true =>
    rw [hm] at hf
    rw [if_neg (by simp)]
    clear hm
    by_cases hfull : len = 256
    · rw [if_pos hfull]
      subst hfull
      clear hr
      go_enter Try.func10, Try.ntmps10
      go_wp2_with fail
      rw [← HN.out, ← HW0.out]
      go_wp2_with (first
        | (go_at_call 13; (with_reducible refine (hg _ HS0.out).mono ?_); rintro e w1 ⟨rfl, hb1⟩; have HB1 := Lib.hid (B0.out.trans (hb1.mono (by omega))); have HX1 := Lib.hid (HX.out.keep hb1); have HY1 := Lib.hid (HY.out.keep hb1); have HZ1 := Lib.hid (HZ.out.keep hb1); have HS1 := Lib.hid (HS0.out.keep hb1); have hz1 := hb1.size; clear hb1 c0 c1 c2; obtain ⟨c0, c1, c2⟩ := agg_cells HX1.out; obtain ⟨d0, d1, d2⟩ := agg_cells HY1.out; have f0 := HY1.out.free 0; have f1 := HY1.out.free 1; have f2 := HY1.out.free 2; obtain ⟨e0, e1, e2, e3⟩ := fm_cells HZ1.out; have g0 := HZ1.out.free 0; have g1 := HZ1.out.free 1; have g2 := HZ1.out.free 2; have g3 := HZ1.out.free 3)
        | (go_at_call 22; (with_reducible refine (hf _).mono ?_); rintro e w' ⟨rfl, rfl⟩))
      obtain ⟨j1, j2⟩ := st7_blks HY1.out HZ1.out (.slice none 0 0) (.int .i64 0) (.int .i64 0) (.int .i64 0) (.int .i64 0) (.int .i64 0) (.string em)
      have hN := HN.out
      refine bodyPost_ret (send_res (x := .int .i64 40) rfl j1 j2 rfl rfl rfl) rfl ⟨_, rfl, ownS_nil _ _, ?_⟩
      rw [← hN]
      exact st7_below HB1.out _ _ _ _ _ _ _
    · rw [if_neg hfull]
      have d1 : ((len : Int) == 256) = false := by rw [beq_eq_false_iff_ne]; omega
      clear hfull
      go_enter Try.func10, Try.ntmps10
      go_wp2_with fail
      rw [← HN.out, ← HW0.out]
      go_wp2_with (first
        | (go_at_call 13; (with_reducible refine (hg _ HS0.out).mono ?_); rintro e w1 ⟨rfl, hb1⟩; have HB1 := Lib.hid (B0.out.trans (hb1.mono (by omega))); have HX1 := Lib.hid (HX.out.keep hb1); have HY1 := Lib.hid (HY.out.keep hb1); have HZ1 := Lib.hid (HZ.out.keep hb1); have HS1 := Lib.hid (HS0.out.keep hb1); have hz1 := hb1.size; clear hb1 c0 c1 c2; obtain ⟨c0, c1, c2⟩ := agg_cells HX1.out)
        | (go_at_call 22; (with_reducible refine (hf _).mono ?_); rintro e w' ⟨rfl, rfl⟩)
        | (go_at_call 23; (with_reducible refine (hr _ HS1.out hb256).mono ?_); rintro e w2 ⟨v2, rfl, ho2, hb2⟩; obtain ⟨a2, cap2, rfl, -⟩ := ho2.has; have HB2 := Lib.hid (HB1.out.trans (hb2.mono (by omega))); have HX2 := Lib.hid (HX1.out.keep hb2); have HY2 := Lib.hid (HY1.out.keep hb2); have HZ2 := Lib.hid (HZ1.out.keep hb2); have HO2 := Lib.hid (ho2.low (show N + 3 ≤ w1.heap.size by omega)); have hz2 := hb2.size; clear hb2 ho2 c0 c1 c2)
        | (at_builtin; go_must (have hba := ((Below.refl w2.heap.size w2).alloc (Nat.le_refl _) (.cells #[.slice a2 S.length cap2, .int .i64 t, .int .i64 k] 24)); refine wp_apS rfl (.tmp 30) (.tmp 32) rfl (N + 3) _ S rfl (HO2.out.keep (hba.alloc hba.size _)) _ _ _ [m] rfl (lit_oneS _ m _ _ (by rw [World.size_alloc])) rfl (fun h => by cases h) (by rw [HL.out]; omega) (by rw [World.size_alloc, World.size_alloc]; omega) ?_; intro v4 w4 ho4 hg4 hnb4; obtain ⟨a4, cap4, hv4, -⟩ := ho4.has; have hlm : (S ++ [m]).length = len + 1 := (by rw [List.length_append, HL.out]; rfl); rw [hlm] at hv4; subst hv4; have HLM := Lib.hid hlm; clear hlm; have hba2 := hba.alloc hba.size (.cells #[.string m] 9); have hlt := HO2.out.lt; have HB4 := Lib.hid ((HB2.out.trans (hba2.mono (by omega))).grown hg4 (by rw [World.size_alloc, World.size_alloc]; omega) (fun r hr => by have := (hlt r hr).1; omega)); have hnb : ∀ g, g < N + 3 → (Value.slice a2 S.length cap2).ownBlock ≠ some g := (fun g hgl e => by have := (hlt g e).1; omega); have HY4 := Lib.hid ((HY2.out.keep hba2).gone hg4 (hnb _ (by omega))); have HZ4 := Lib.hid ((HZ2.out.keep hba2).gone hg4 (hnb _ (by omega))); have HG4 := Lib.hid (((Blk.new w2 #[.slice a2 S.length cap2, .int .i64 t, .int .i64 k] 24).keep ((Below.refl _ _).alloc (Nat.le_refl _) (.cells #[.string m] 9))).gone hg4 (fun e => by have := (hlt _ e).2; omega)); have HNB : Hid ((Value.slice a4 (len + 1) cap4).ownBlock ≠ some w2.heap.size) := Lib.hid (fun e => by rcases hnb4 with h | h; (rw [h] at e; have := (hlt _ e).2; omega); (rw [h, World.size_alloc, World.size_alloc] at e; have := Option.some.inj e; omega)); have HO4 := Lib.hid ho4; have hz4 := hg4.size; rw [World.size_alloc, World.size_alloc] at hz4; clear ho4 hg4 hnb4 hba hba2 hlt hnb; obtain ⟨k0, k1, k2⟩ := agg_cells HG4.out; have l0 := HG4.out.free 0)))
      obtain ⟨w5, hw5⟩ : ∃ w5, w5 = w4.setCell ⟨w2.heap.size, 0, none⟩ (.slice a4 (len + 1) cap4) := ⟨_, rfl⟩
      rw [← hw5]
      have HG5 : Hid (Blk w5 w2.heap.size #[.slice a4 (len + 1) cap4, .int .i64 t, .int .i64 k] 24) := Lib.hid (by rw [hw5]; exact HG4.out.set 0 (.slice a4 (len + 1) cap4))
      have HY5 : Hid (Blk w5 (N + 1) #[.slice none 0 0, .int .i64 0, .int .i64 0] 24) := Lib.hid (by rw [hw5]; exact HY4.out.other 0 _ (by omega))
      have HZ5 : Hid (Blk w5 (N + 2) #[.int .i64 0, .int .i64 0, .int .i64 0, .string em] 27) := Lib.hid (by rw [hw5]; exact HZ4.out.other 0 _ (by omega))
      have HB5 : Hid (Below N w w5) := Lib.hid (by rw [hw5]; exact HB4.out.setCell (p := ⟨w2.heap.size, 0, none⟩) (by simp only; omega) _)
      have HO5 : Hid (OwnS w5 (N + 3) (.slice a4 (len + 1) cap4) (S ++ [m])) := Lib.hid (by
        rw [hw5]
        refine HO4.out.gone (set_grown w4 w2.heap.size 0 (.slice a4 (len + 1) cap4)) fun r hr e => HNB.out (by rw [hr, ← e]))
      have hz5 : w5.heap.size = w4.heap.size := by rw [hw5]; simp [World.setCell]
      clear hw5 HG4 HY4 HZ4 HB4 HO4 k0 k1 k2 l0 HX2 HY2 HZ2 HO2 HB2 HX1 HY1 HZ1 HB1
      obtain ⟨k0, k1, k2⟩ := agg_cells HG5.out
      have HK : Hid (∀ wx, Blk wx w2.heap.size #[.slice a4 (len + 1) cap4, .int .i64 t, .int .i64 k] 24 → wx.cell? ⟨w2.heap.size, 0, none⟩ = some (.slice a4 (len + 1) cap4) ∧ wx.cell? ⟨w2.heap.size, 1, none⟩ = some (.int .i64 t) ∧ wx.cell? ⟨w2.heap.size, 2, none⟩ = some (.int .i64 k)) := Lib.hid fun wx hb => agg_cells hb
      have HGD : Hid (Blk w5.drew w2.heap.size #[.slice a4 (len + 1) cap4, .int .i64 t, .int .i64 k] 24) := Lib.hid HG5.out
      have HM : Hid (∀ wx, Below w5.heap.size w5 wx → Calls Try.prog 24 #[.agg #[.slice a4 (len + 1) cap4, .int .i64 t, .int .i64 k], .int .i64 ((len : Int) + 1)] wx fun e w' => e = .returned (.agg #[.int .i64 1, .int .i64 ((len : Int) + 1), .int .i64 t, .string m]) ∧ Below w5.heap.size w5 w') := Lib.hid fun wx hb => by
        obtain ⟨a5, cap5, e5, h5, -⟩ := HO5.out.has
        have e6 : a4 = a5 := by injection e5
        subst e6
        have := message_any a4 (len + 1) cap4 len ⟨S ++ [m], t, k⟩ wx (h5.keep hb) HLM.out (by omega)
        have hgd : (S ++ [m]).getD len em = m := by have := HL.out; simp [List.getD, ← this]
        simp only [hgd] at this
        exact this.mono fun e w' ⟨h1, h2⟩ => ⟨h1, hb.trans (h2.mono hb.size)⟩
      go_region_held3 (fun wx => wx.cell? ⟨w2.heap.size, 0, none⟩ = some (.slice a4 (len + 1) cap4) ∧ wx.cell? ⟨w2.heap.size, 1, none⟩ = some (.int .i64 t) ∧ wx.cell? ⟨w2.heap.size, 2, none⟩ = some (.int .i64 k))
        (first | (with_reducible exact HK.out _ HGD.out) | (with_reducible exact HK.out _ HG5.out) | (with_reducible exact HK.out _ HG6.out) | (with_reducible exact HK.out _ (blk_set3 HG6.out HNE1.out _ _ _)) | (with_reducible exact HK.out _ (blk_set4 (blk_set3 HG6.out HNE1.out _ _ _) HNE2.out _ _ _ _)))
        (first | (go_at_call 24; (with_reducible refine (HM.out _ (below_drew _)).mono ?_); rintro e w6 ⟨rfl, hb6⟩; have HB6 := Lib.hid hb6; have HY6 := Lib.hid (HY5.out.keep hb6); have HZ6 := Lib.hid (HZ5.out.keep hb6); have HG6 := Lib.hid (HG5.out.keep hb6); have HNE1 : Hid (N + 1 ≠ w2.heap.size) := Lib.hid (by omega); have HNE2 : Hid (N + 2 ≠ w2.heap.size) := Lib.hid (by omega); obtain ⟨d0, d1, d2⟩ := agg_cells HY6.out; have f0 := HY6.out.free 0; have f1 := HY6.out.free 1; have f2 := HY6.out.free 2; obtain ⟨e0, e1, e2, e3⟩ := fm_cells HZ6.out; have g0 := HZ6.out.free 0; have g1 := HZ6.out.free 1; have g2 := HZ6.out.free 2; have g3 := HZ6.out.free 3))
      go_wp2
      obtain ⟨j1, j2⟩ := st7_blks HY6.out HZ6.out (.slice a4 (len + 1) cap4) (.int .i64 t) (.int .i64 k) (.int .i64 1) (.int .i64 ((len : Int) + 1)) (.int .i64 t) (.string m)
      have hN := HN.out
      refine bodyPost_ret (send_res (x := .int .i64 0) rfl j1 j2 rfl rfl rfl) rfl ⟨_, rfl, ?_, ?_⟩
      · exact (st7_own (HO5.out.keep HB6.out) _ _ _ _ _ _ _).low (by omega)
      · rw [← hN]
        exact st7_below (HB5.out.trans (HB6.out.mono (by omega))) _ _ _ _ _ _ _
end Go.Proofs.Ytmecaioklmkdlaa.Ss

/-
  Layer 8: the law on Send, Tick and Left.
-/
import Derived.Test.YtmecaioklmkdlaaAq
import Derived.Test.YtmecaioklmkdlaaAm
import Derived.Test.YtmecaioklmkdlaaAp
import Derived.Test.YtmecaioklmkdlaaAr
import Derived.Deep.RegionHeld3
import Derived.Deep.Cut
namespace Go.Proofs.Ytmecaioklmkdlaa.Ss
open Go.RowKit
set_option linter.unusedVariables false
set_option linter.unusedSimpArgs false

theorem own_read {w : World} {base : Nat} {a : Option Addr} {n cap : Nat} {S : List ByteArray} (h : OwnS w base (.slice a n cap) S) : HasS w a S ∧ S.length = n ∧ (a = none → cap = 0) := by
  obtain ⟨a', c', e, h', hn, _⟩ := h.has
  injection e with e1 e2 e3
  subst e1 e3
  exact ⟨h', e2.symm, hn⟩
theorem own_readX {w : World} {base : Nat} {a : Option Addr} {n cap : Nat} {X : List Fm} (h : OwnX w base (.slice a n cap) X) : HasX w a X ∧ X.length = n ∧ (a = none → cap = 0) := by
  obtain ⟨a', c', e, h', hn, _⟩ := h.has
  injection e with e1 e2 e3
  subst e1 e3
  exact ⟨h', e2.symm, hn⟩
set_option maxRecDepth 100000 in
set_option maxHeartbeats 4000000 in
theorem sends_walk (a : Option Addr) (len cap : Nat) (S : List ByteArray) (t k : Int) (m : ByteArray) (w : World) (hin : InS w a len cap S) (ht1 : -9223372036854775808 ≤ t) (ht2 : t ≤ 9223372036854775807) (hk1 : -9223372036854775808 ≤ k) (hk2 : k ≤ 9223372036854775807) :
    Calls Try.prog 3 #[.agg #[.slice a len cap, .int .i64 t, .int .i64 k], .string m] w fun e w' => e = .returned (.bool true) ∧ Below w.heap.size w w' := by
  obtain ⟨hS, hl, hlc, hn, _⟩ := hin
  have hs := fun w h => send_any a len cap ⟨S, t, k⟩ m w h hl hn
  have hr := fun w h => rsend_any a len cap ⟨S, t, k⟩ m w h hl hn
  have hg := fun w h => good_any a len cap ⟨S, t, k⟩ w h hl
  have hrg := fun w h => rgood_any a len cap ⟨S, t, k⟩ w h hl
  simp only at hs hr hg hrg
  have hti0 : goodB ⟨S, t, k⟩ = false → ∀ w, HasS w a S → Calls Try.prog 15 #[.agg #[.slice a len cap, .int .i64 t, .int .i64 k]] w fun e w' => e = .returned (.tuple #[.agg #[.int .i64 0, .int .i64 0, .int .i64 0, .string em], .int .i64 1]) ∧ Below w.heap.size w w' := fun h w hw => by
    have := tick_any a len cap ⟨S, t, k⟩ w hw hl
    rw [show tickS ⟨S, t, k⟩ = (fm0, 1) by unfold tickS; rw [if_pos h]] at this
    exact this
  have hti1 : goodB ⟨S, t, k⟩ = true → ∀ w, HasS w a S → Calls Try.prog 15 #[.agg #[.slice a len cap, .int .i64 t, .int .i64 k]] w fun e w' => e = .returned (.tuple #[.agg (fmV ⟨3, len, t, em⟩), .int .i64 0]) ∧ Below w.heap.size w w' := fun h w hw => by
    have := tick_any a len cap ⟨S, t, k⟩ w hw hl
    rwa [show tickS ⟨S, t, k⟩ = (⟨3, len, t, em⟩, 0) by unfold tickS; rw [if_neg (by simp [h]), hl]] at this
  have hle0 : goodB ⟨S, t, k⟩ = false → ∀ w, HasS w a S → Calls Try.prog 16 #[.agg #[.slice a len cap, .int .i64 t, .int .i64 k]] w fun e w' => e = .returned (.int .i64 0) ∧ Below w.heap.size w w' := fun h w hw => by
    have := left_any a len cap ⟨S, t, k⟩ w hw hl
    rwa [show leftS ⟨S, t, k⟩ = 0 by unfold leftS; rw [if_pos h]] at this
  have hle1 : goodB ⟨S, t, k⟩ = true → ∀ w, HasS w a S → Calls Try.prog 16 #[.agg #[.slice a len cap, .int .i64 t, .int .i64 k]] w fun e w' => e = .returned (.int .i64 ((len : Int) - k)) ∧ Below w.heap.size w w' := fun h w hw => by
    have := left_any a len cap ⟨S, t, k⟩ w hw hl
    rwa [show leftS ⟨S, t, k⟩ = (len : Int) - k by unfold leftS; rw [if_neg (by simp [h]), hl]] at this
  have hbd : goodB ⟨S, t, k⟩ = true → 0 ≤ k ∧ k ≤ 256 ∧ len ≤ 256 := fun h => by have := goodB_iff.1 h; simp only at this; rw [hl] at this; omega
  generalize sendS ⟨S, t, k⟩ m = R at *
  obtain ⟨⟨S', t', k'⟩, ⟨f1, f2, f3, f4⟩, E⟩ := R
  generalize goodB ⟨S, t, k⟩ = B at *
  unfold SendIt at hs hr
  unfold Tells at hg hrg
  simp only at hs hr
  have HIN := Lib.hid hS; have HL := Lib.hid hl
  have HSE := Lib.hid hs; have HRE := Lib.hid hr; have HG := Lib.hid hg; have HRG := Lib.hid hrg; have HTI0 := Lib.hid hti0; have HTI1 := Lib.hid hti1; have HLE0 := Lib.hid hle0; have HLE1 := Lib.hid hle1; have HBD := Lib.hid hbd
  clear hS hl hn hs hr hg hrg hti0 hti1 hle0 hle1 hbd
  obtain ⟨N, hN⟩ : ∃ N, N = w.heap.size := ⟨_, rfl⟩
  obtain ⟨x0, b0⟩ := box_new w #[.slice a len cap, .int .i64 t, .int .i64 k] 24
  obtain ⟨w0, hw0⟩ : ∃ w0, w0 = w.alloc (.cells #[.slice a len cap, .int .i64 t, .int .i64 k] 24) := ⟨_, rfl⟩
  rw [← hw0] at x0 b0
  have HS0 := Lib.hid (HIN.out.keep b0)
  rw [← hN] at x0 b0
  have HN := Lib.hid hN; have HW0 := Lib.hid hw0; have B0 := Lib.hid b0; have HX0 := Lib.hid x0
  have hz0 : N + 1 ≤ w0.heap.size := x0.lt
  clear hN hw0 b0 x0
  go_enter Try.func3, Try.ntmps3
  go_wp2_with fail
  rw [← HN.out, ← HW0.out]
  refine (wakes_any _).mono ?_
  rintro e w1 ⟨rfl, hb1⟩
  have HX1 := Lib.hid (HX0.out.keep hb1); have HS1 := Lib.hid (HS0.out.keep hb1); have HB1 := Lib.hid (B0.out.trans (hb1.mono (by omega)))
  have hz1 := hb1.size
  obtain ⟨c0, c1, c2⟩ := agg_cells HX1.out
  clear hb1
  go_wp2_with fail
  refine (HSE.out w1 HS1.out).mono ?_
  rintro e w2 ⟨v2, rfl, ho2, hb2⟩
  obtain ⟨a2, cap2, rfl, -⟩ := ho2.has
  obtain ⟨L, hL⟩ : ∃ L, S'.length = L := ⟨_, rfl⟩
  rw [hL] at ho2 ⊢
  -- the two boxes of the program's answer
  obtain ⟨x5, x6, b56⟩ := two_new w2 #[.slice a2 L cap2, .int .i64 t', .int .i64 k'] #[.int .i64 f1, .int .i64 f2, .int .i64 f3, .string f4] 24 27
  obtain ⟨w3, hw3⟩ : ∃ w3, w3 = (w2.alloc (.cells #[.slice a2 L cap2, .int .i64 t', .int .i64 k'] 24)).alloc (.cells #[.int .i64 f1, .int .i64 f2, .int .i64 f3, .string f4] 27) := ⟨_, rfl⟩
  rw [← hw3] at x5 x6 b56
  have hb3 := hb2.trans (b56.mono hb2.size)
  have HX3 := Lib.hid (HX1.out.keep hb3); have HS3 := Lib.hid (HS1.out.keep hb3); have HB3 := Lib.hid (HB1.out.trans (hb3.mono (by omega))); have HO3 := Lib.hid (ho2.keep b56)
  have H5 := Lib.hid x5; have H6 := Lib.hid x6; have HW3 := Lib.hid hw3; have HL2 := Lib.hid hL
  have hz2 := hb2.size
  have hz3 := b56.size
  obtain ⟨g5, hg5⟩ : ∃ g5, g5 = w2.heap.size := ⟨_, rfl⟩
  have HG5 := Lib.hid hg5
  rw [← hg5] at H5 H6
  clear hb2 ho2 x5 x6 b56 hw3 hb3 hL hg5 c0 c1 c2
  obtain ⟨c0, c1, c2⟩ := agg_cells HX3.out
  go_upto_region 4 with (fail)
  rw [← HG5.out, ← HW3.out]
  clear HW3
  go_wp2_with fail
  refine (HRE.out w3 HS3.out).mono ?_
  rintro e w4 ⟨v4, rfl, ho4, hb4⟩
  obtain ⟨a4, cap4, rfl, -⟩ := ho4.has
  rw [HL2.out] at ho4 ⊢
  obtain ⟨x8, x9, b89⟩ := two_new w4 #[.slice a4 L cap4, .int .i64 t', .int .i64 k'] #[.int .i64 f1, .int .i64 f2, .int .i64 f3, .string f4] 24 27
  obtain ⟨w5, hw5⟩ : ∃ w5, w5 = (w4.alloc (.cells #[.slice a4 L cap4, .int .i64 t', .int .i64 k'] 24)).alloc (.cells #[.int .i64 f1, .int .i64 f2, .int .i64 f3, .string f4] 27) := ⟨_, rfl⟩
  rw [← hw5] at x8 x9 b89
  have hb5 := hb4.trans (b89.mono hb4.size)
  have HX5 := Lib.hid (HX3.out.keep hb5); have HS5 := Lib.hid (HS3.out.keep hb5); have HB5 := Lib.hid (HB3.out.trans (hb5.mono (by omega))); have HO5 := Lib.hid (HO3.out.keep hb5); have HP5 := Lib.hid (ho4.keep b89)
  have H55 := Lib.hid (H5.out.keep hb5); have H65 := Lib.hid (H6.out.keep hb5)
  have H8 := Lib.hid x8; have H9 := Lib.hid x9; have HW5 := Lib.hid hw5
  have hz4 := hb4.size
  have hz5 := b89.size
  obtain ⟨g8, hg8⟩ : ∃ g8, g8 = w4.heap.size := ⟨_, rfl⟩
  have HG8 := Lib.hid hg8
  rw [← hg8] at H8 H9
  clear hb4 ho4 x8 x9 b89 hw5 hb5 hg8 c0 c1 c2 H5 H6 HX3 HS3 HB3 HO3 HX1 HS1 HB1
  go_upto_region 5 with (fail)
  rw [← HG8.out, ← HW5.out]
  clear HW5
  have KS : Hid (∀ wx, Below w5.heap.size w5 wx → Below w5.heap.size w5 wx ∧ (wx.cell? ⟨N, 0, none⟩ = some (.slice a len cap) ∧ wx.cell? ⟨N, 1, none⟩ = some (.int .i64 t) ∧ wx.cell? ⟨N, 2, none⟩ = some (.int .i64 k)) ∧ (wx.cell? ⟨g5, 0, none⟩ = some (.slice a2 L cap2) ∧ wx.cell? ⟨g5, 1, none⟩ = some (.int .i64 t') ∧ wx.cell? ⟨g5, 2, none⟩ = some (.int .i64 k')) ∧ (wx.cell? ⟨g8, 0, none⟩ = some (.slice a4 L cap4) ∧ wx.cell? ⟨g8, 1, none⟩ = some (.int .i64 t') ∧ wx.cell? ⟨g8, 2, none⟩ = some (.int .i64 k')) ∧
    (wx.cell? ⟨g5 + 1, 0, none⟩ = some (.int .i64 f1) ∧ wx.cell? ⟨g5 + 1, 1, none⟩ = some (.int .i64 f2) ∧ wx.cell? ⟨g5 + 1, 2, none⟩ = some (.int .i64 f3) ∧ wx.cell? ⟨g5 + 1, 3, none⟩ = some (.string f4)) ∧ (wx.cell? ⟨g8 + 1, 0, none⟩ = some (.int .i64 f1) ∧ wx.cell? ⟨g8 + 1, 1, none⟩ = some (.int .i64 f2) ∧ wx.cell? ⟨g8 + 1, 2, none⟩ = some (.int .i64 f3) ∧ wx.cell? ⟨g8 + 1, 3, none⟩ = some (.string f4))) :=
    Lib.hid fun wx hb => ⟨hb, agg_cells (HX5.out.keep hb), agg_cells (H55.out.keep hb), agg_cells (H8.out.keep hb), fm_cells (H65.out.keep hb), fm_cells (H9.out.keep hb)⟩
  have HSM : Hid (∀ wx, Below w5.heap.size w5 wx → Calls Try.prog 12 #[.agg #[.slice a2 L cap2, .int .i64 t', .int .i64 k'], .agg #[.slice a4 L cap4, .int .i64 t', .int .i64 k']] wx fun e w' => e = .returned (.bool true) ∧ Below w5.heap.size w5 w') := Lib.hid fun wx hb =>
    (same_any a2 a4 L cap2 cap4 S' t' k' wx ((own_read HO5.out).1.keep hb) ((own_read HP5.out).1.keep hb) HL2.out).mono fun e w' ⟨h1, h2⟩ => ⟨h1, hb.trans (h2.mono hb.size)⟩
  have HGM : Hid (∀ wx, Below w5.heap.size w5 wx → Calls Try.prog 13 #[.agg #[.slice a len cap, .int .i64 t, .int .i64 k]] wx fun e w' => e = .returned (.bool B) ∧ Below w5.heap.size w5 w') := Lib.hid fun wx hb =>
    (HG.out wx (HS5.out.keep hb)).mono fun e w' ⟨h1, h2⟩ => ⟨h1, hb.trans (h2.mono hb.size)⟩
  have HRM : Hid (∀ wx, Below w5.heap.size w5 wx → Calls Try.prog 14 #[.agg #[.slice a len cap, .int .i64 t, .int .i64 k]] wx fun e w' => e = .returned (.bool B) ∧ Below w5.heap.size w5 w') := Lib.hid fun wx hb =>
    (HRG.out wx (HS5.out.keep hb)).mono fun e w' ⟨h1, h2⟩ => ⟨h1, hb.trans (h2.mono hb.size)⟩
  have q1 : (E != E) = false := bne_self_eq_false _
  have q2 : (B != B) = false := bne_self_eq_false _
  go_region_held3 (fun wx => Below w5.heap.size w5 wx ∧ (wx.cell? ⟨N, 0, none⟩ = some (.slice a len cap) ∧ wx.cell? ⟨N, 1, none⟩ = some (.int .i64 t) ∧ wx.cell? ⟨N, 2, none⟩ = some (.int .i64 k)) ∧ (wx.cell? ⟨g5, 0, none⟩ = some (.slice a2 L cap2) ∧ wx.cell? ⟨g5, 1, none⟩ = some (.int .i64 t') ∧ wx.cell? ⟨g5, 2, none⟩ = some (.int .i64 k')) ∧ (wx.cell? ⟨g8, 0, none⟩ = some (.slice a4 L cap4) ∧ wx.cell? ⟨g8, 1, none⟩ = some (.int .i64 t') ∧ wx.cell? ⟨g8, 2, none⟩ = some (.int .i64 k')) ∧
    (wx.cell? ⟨g5 + 1, 0, none⟩ = some (.int .i64 f1) ∧ wx.cell? ⟨g5 + 1, 1, none⟩ = some (.int .i64 f2) ∧ wx.cell? ⟨g5 + 1, 2, none⟩ = some (.int .i64 f3) ∧ wx.cell? ⟨g5 + 1, 3, none⟩ = some (.string f4)) ∧ (wx.cell? ⟨g8 + 1, 0, none⟩ = some (.int .i64 f1) ∧ wx.cell? ⟨g8 + 1, 1, none⟩ = some (.int .i64 f2) ∧ wx.cell? ⟨g8 + 1, 2, none⟩ = some (.int .i64 f3) ∧ wx.cell? ⟨g8 + 1, 3, none⟩ = some (.string f4)))
    (first | exact KS.out _ (below_drew _) | exact KS.out _ (Below.refl _ _) | exact KS.out _ (by assumption))
    (first
      | (go_split_ands; go_at_call 12; (with_reducible refine (HSM.out _ (by first | assumption | exact below_drew _)).mono ?_); rintro e w6 ⟨rfl, hb6⟩)
      | (go_split_ands; go_at_call 13; (with_reducible refine (HGM.out _ (by first | assumption | exact below_drew _)).mono ?_); rintro e w7 ⟨rfl, hb7⟩)
      | (go_split_ands; go_at_call 14; (with_reducible refine (HRM.out _ (by first | assumption | exact below_drew _)).mono ?_); rintro e w8 ⟨rfl, hb8⟩))
  have HX8 := Lib.hid (HX5.out.keep hb8); have HS8 := Lib.hid (HS5.out.keep hb8); have HB8 := Lib.hid (HB5.out.trans (hb8.mono (by omega))); have H68 := Lib.hid (H65.out.keep hb8)
  have hz8 := hb8.size
  obtain ⟨wt, hwt⟩ : ∃ wt, wt = w8 := ⟨_, rfl⟩
  rw [← hwt] at HX8 HS8 HB8 H68 hz8 ⊢
  clear hwt KS HSM HGM HRM q1 q2 HX5 HS5 HB5 H55 H65 H8 H9 HO5 HP5
  have hgN : N + 1 ≤ g5 := by have := HG5.out; omega
  have hz9 : g5 + 2 ≤ wt.heap.size := H68.out.lt
  obtain ⟨c0, c1, c2⟩ := agg_cells HX8.out
  cases B with
  | false =>
    go_wp2_with fail
    refine (HTI0.out (by trivial) wt HS8.out).mono ?_
    rintro e w9 ⟨rfl, hb9⟩
    have HB9 := HB8.out.trans (hb9.mono (by omega)); have HX9 := HX8.out.keep hb9; have H69 := H68.out.keep hb9
    obtain ⟨w10, hw10⟩ : ∃ w10, w10 = (((w9.setCell ⟨g5 + 1, 0, none⟩ (.int .i64 0)).setCell ⟨g5 + 1, 1, none⟩ (.int .i64 0)).setCell ⟨g5 + 1, 2, none⟩ (.int .i64 0)).setCell ⟨g5 + 1, 3, none⟩ (.string em) := ⟨_, rfl⟩
    have HB10 : Hid (Below N w w10) := Lib.hid (by rw [hw10]; exact below_set4 HB9 (by omega) _ _ _ _)
    have HX10 : Hid (Blk w10 N #[.slice a len cap, .int .i64 t, .int .i64 k] 24) := Lib.hid (by rw [hw10]; exact blk_set4 HX9 (by omega) _ _ _ _)
    have H610 : Hid (Blk w10 (g5 + 1) #[.int .i64 0, .int .i64 0, .int .i64 0, .string em] 27) := Lib.hid (by rw [hw10]; exact H69.set4 _ _ _ _)
    have HS10 : Hid (HasS w10 a S) := Lib.hid (HIN.out.keep (by rw [← HN.out]; exact HB10.out))
    have HW10 := Lib.hid hw10
    obtain ⟨e0, e1, e2, e3⟩ := fm_cells H69; have j0 := H69.free 0; have j1 := H69.free 1; have j2 := H69.free 2; have j3 := H69.free 3
    clear c0 c1 c2 hb9 HB9 hw10
    obtain ⟨c0, c1, c2⟩ := agg_cells HX9
    clear HX9 H69
    go_upto_region 8 with (fail)
    rw [← HW10.out]
    clear c0 c1 c2 e0 e1 e2 e3 j0 j1 j2 j3 HW10
    obtain ⟨c0, c1, c2⟩ := agg_cells HX10.out
    go_wp2_with fail
    refine (HRG.out w10 HS10.out).mono ?_
    rintro e w11 ⟨rfl, hb11⟩
    have HB11 := Lib.hid (HB10.out.trans (hb11.mono (by have := H610.out.lt; omega))); have HX11 := HX10.out.keep hb11; have H611 := H610.out.keep hb11; have HS11 := HS10.out.keep hb11
    clear c0 c1 c2
    obtain ⟨c0, c1, c2⟩ := agg_cells HX11
    obtain ⟨e0, e1, e2, e3⟩ := fm_cells H611
    have hl11 := HLE0.out (by trivial) w11 HS11
    have hz11 : N ≤ w11.heap.size := by have := H611.lt; omega
    clear hb11 HX11 H611 HS11
    go_wp2_with (go_at_call 16; (with_reducible refine hl11.mono ?_); rintro e w12 ⟨rfl, hb12⟩; have HB12 := Lib.hid (HB11.out.trans (hb12.mono hz11)); clear hb12)
    go_ret
    exact ⟨rfl, by rw [← HN.out]; exact HB12.out⟩
  | true =>
    obtain ⟨bd1, bd2, bd3⟩ := HBD.out (by trivial)
    go_wp2_with fail
    refine (HTI1.out (by trivial) wt HS8.out).mono ?_
    rintro e w9 ⟨rfl, hb9⟩
    have HB9 := HB8.out.trans (hb9.mono (by omega)); have HX9 := HX8.out.keep hb9; have H69 := H68.out.keep hb9
    obtain ⟨w10, hw10⟩ : ∃ w10, w10 = (((w9.setCell ⟨g5 + 1, 0, none⟩ (.int .i64 3)).setCell ⟨g5 + 1, 1, none⟩ (.int .i64 (len : Int))).setCell ⟨g5 + 1, 2, none⟩ (.int .i64 t)).setCell ⟨g5 + 1, 3, none⟩ (.string em) := ⟨_, rfl⟩
    have HB10 : Hid (Below N w w10) := Lib.hid (by rw [hw10]; exact below_set4 HB9 (by omega) _ _ _ _)
    have HX10 : Hid (Blk w10 N #[.slice a len cap, .int .i64 t, .int .i64 k] 24) := Lib.hid (by rw [hw10]; exact blk_set4 HX9 (by omega) _ _ _ _)
    have H610 : Hid (Blk w10 (g5 + 1) #[.int .i64 3, .int .i64 (len : Int), .int .i64 t, .string em] 27) := Lib.hid (by rw [hw10]; exact H69.set4 _ _ _ _)
    have HS10 : Hid (HasS w10 a S) := Lib.hid (HIN.out.keep (by rw [← HN.out]; exact HB10.out))
    have HW10 := Lib.hid hw10
    obtain ⟨e0, e1, e2, e3⟩ := fm_cells H69; have j0 := H69.free 0; have j1 := H69.free 1; have j2 := H69.free 2; have j3 := H69.free 3
    clear c0 c1 c2 hb9 HB9 hw10
    obtain ⟨c0, c1, c2⟩ := agg_cells HX9
    clear HX9 H69
    go_upto_region 8 with (fail)
    rw [← HW10.out]
    clear c0 c1 c2 e0 e1 e2 e3 j0 j1 j2 j3 HW10
    obtain ⟨c0, c1, c2⟩ := agg_cells HX10.out
    go_wp2_with fail
    refine (HRG.out w10 HS10.out).mono ?_
    rintro e w11 ⟨rfl, hb11⟩
    have HB11 := Lib.hid (HB10.out.trans (hb11.mono (by have := H610.out.lt; omega))); have HX11 := Lib.hid (HX10.out.keep hb11); have H611 := Lib.hid (H610.out.keep hb11); have HS11 := Lib.hid (HS10.out.keep hb11)
    clear c0 c1 c2
    obtain ⟨c0, c1, c2⟩ := agg_cells HX11.out
    obtain ⟨e0, e1, e2, e3⟩ := fm_cells H611.out
    have KS : Hid (∀ wx, Below w11.heap.size w11 wx → Below w11.heap.size w11 wx ∧ (wx.cell? ⟨N, 0, none⟩ = some (.slice a len cap) ∧ wx.cell? ⟨N, 1, none⟩ = some (.int .i64 t) ∧ wx.cell? ⟨N, 2, none⟩ = some (.int .i64 k)) ∧ (wx.cell? ⟨g5 + 1, 0, none⟩ = some (.int .i64 3) ∧ wx.cell? ⟨g5 + 1, 1, none⟩ = some (.int .i64 (len : Int)) ∧ wx.cell? ⟨g5 + 1, 2, none⟩ = some (.int .i64 t) ∧ wx.cell? ⟨g5 + 1, 3, none⟩ = some (.string em))) := Lib.hid fun wx hb => ⟨hb, agg_cells (HX11.out.keep hb), fm_cells (H611.out.keep hb)⟩
    have HLM : Hid (∀ wx, Below w11.heap.size w11 wx → Calls Try.prog 16 #[.agg #[.slice a len cap, .int .i64 t, .int .i64 k]] wx fun e w' => e = .returned (.int .i64 ((len : Int) - k)) ∧ Below w11.heap.size w11 w') := Lib.hid fun wx hb =>
      (HLE1.out (by trivial) wx (HS11.out.keep hb)).mono fun e w' ⟨h1, h2⟩ => ⟨h1, hb.trans (h2.mono hb.size)⟩
    have i1 : IntKind.i64.wrap ((len : Int) - k) = (len : Int) - k := IntWalk.i64_in _ (by omega)
    have i2 : ((len : Int) - k == (len : Int) - k) = true := beq_self_eq_true _
    have hz11 : N ≤ w11.heap.size := by have := H611.out.lt; omega
    clear hb11
    go_upto_region 10 with (fail)
    go_region_held3 (fun wx => Below w11.heap.size w11 wx ∧ (wx.cell? ⟨N, 0, none⟩ = some (.slice a len cap) ∧ wx.cell? ⟨N, 1, none⟩ = some (.int .i64 t) ∧ wx.cell? ⟨N, 2, none⟩ = some (.int .i64 k)) ∧ (wx.cell? ⟨g5 + 1, 0, none⟩ = some (.int .i64 3) ∧ wx.cell? ⟨g5 + 1, 1, none⟩ = some (.int .i64 (len : Int)) ∧ wx.cell? ⟨g5 + 1, 2, none⟩ = some (.int .i64 t) ∧ wx.cell? ⟨g5 + 1, 3, none⟩ = some (.string em)))
      (first | exact KS.out _ (below_drew _) | exact KS.out _ (Below.refl _ _) | exact KS.out _ (by assumption))
      (first | (go_split_ands; go_at_call 16; (with_reducible refine (HLM.out _ (by first | assumption | exact below_drew _)).mono ?_); rintro e w12 ⟨rfl, hb12⟩))
    go_wp2
    go_ret
    exact ⟨rfl, by rw [← HN.out]; exact HB11.out.trans (hb12.mono hz11)⟩
end Go.Proofs.Ytmecaioklmkdlaa.Ss

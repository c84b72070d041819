/-
  Layer 8: the law on Take and Valid.
-/
import Derived.Test.YtmecaioklmkdlaaAs
import Derived.Test.YtmecaioklmkdlaaAo
namespace Go.Proofs.Ytmecaioklmkdlaa.Ss
open Go.RowKit
set_option linter.unusedVariables false
set_option linter.unusedSimpArgs false

set_option maxRecDepth 100000 in
set_option maxHeartbeats 4000000 in
theorem takes_walk (a : Option Addr) (len cap : Nat) (S : List ByteArray) (t k : Int) (f : Fm) (w : World) (hin : InS w a len cap S) :
    Calls Try.prog 4 #[.agg #[.slice a len cap, .int .i64 t, .int .i64 k], .agg #[.int .i64 f.kind, .int .i64 f.num, .int .i64 f.taken, .string f.body]] w fun e w' => e = .returned (.bool true) ∧ Below w.heap.size w w' := by
  obtain ⟨hS, hl, hlc, hn, _⟩ := hin
  have hs := fun w h => take_any a len cap ⟨S, t, k⟩ f w h hl hn
  have hr := fun w h => rtake_any a len cap ⟨S, t, k⟩ f w h hl hn
  obtain ⟨x1, x2, x3, x4⟩ := f
  simp only at hs hr ⊢
  have hv := fun w => valid_any x1 x2 x3 x4 w
  have hrv := fun w => rvalid_any x1 x2 x3 x4 w
  generalize takeS ⟨S, t, k⟩ ⟨x1, x2, x3, x4⟩ = R at *
  obtain ⟨⟨S', t', k'⟩, m, X, E⟩ := R
  generalize validB ⟨x1, x2, x3, x4⟩ = B at *
  unfold TakeIt at hs hr
  unfold Tells at hv hrv
  simp only at hs hr
  have HIN := Lib.hid hS; have HL := Lib.hid hl
  have HSE := Lib.hid hs; have HRE := Lib.hid hr; have HV := Lib.hid hv; have HRV := Lib.hid hrv
  clear hS hl hn hs hr hv hrv
  obtain ⟨N, hN⟩ : ∃ N, N = w.heap.size := ⟨_, rfl⟩
  obtain ⟨x0, y0, b0⟩ := two_new w #[.slice a len cap, .int .i64 t, .int .i64 k] #[.int .i64 x1, .int .i64 x2, .int .i64 x3, .string x4] 24 27
  obtain ⟨w0, hw0⟩ : ∃ w0, w0 = (w.alloc (.cells #[.slice a len cap, .int .i64 t, .int .i64 k] 24)).alloc (.cells #[.int .i64 x1, .int .i64 x2, .int .i64 x3, .string x4] 27) := ⟨_, rfl⟩
  rw [← hw0] at x0 y0 b0
  have HS0 := Lib.hid (HIN.out.keep b0)
  rw [← hN] at x0 y0 b0
  have HN := Lib.hid hN; have HW0 := Lib.hid hw0; have B0 := Lib.hid b0; have HX0 := Lib.hid x0; have HF0 := Lib.hid y0
  have hz0 : N + 2 ≤ w0.heap.size := y0.lt
  clear hN hw0 b0 x0 y0
  go_enter Try.func4, Try.ntmps4
  go_wp2_with fail
  rw [← HN.out, ← HW0.out]
  refine (wakes_any _).mono ?_
  rintro e w1 ⟨rfl, hb1⟩
  have HX1 := Lib.hid (HX0.out.keep hb1); have HF1 := Lib.hid (HF0.out.keep hb1); have HS1 := Lib.hid (HS0.out.keep hb1); have HB1 := Lib.hid (B0.out.trans (hb1.mono (by omega)))
  have hz1 := hb1.size
  obtain ⟨c0, c1, c2⟩ := agg_cells HX1.out
  obtain ⟨p0, p1, p2, p3⟩ := fm_cells HF1.out
  clear hb1
  go_wp2_with fail
  refine (HSE.out w1 HS1.out).mono ?_
  rintro e w2 ⟨v2, u2, rfl, ho2, hox2, -, hb2⟩
  obtain ⟨a2, cap2, rfl, -⟩ := ho2.has
  obtain ⟨d2, cd2, rfl, -⟩ := hox2.has
  obtain ⟨L, hL⟩ : ∃ L, S'.length = L := ⟨_, rfl⟩
  obtain ⟨M, hM⟩ : ∃ M, X.length = M := ⟨_, rfl⟩
  rw [hL] at ho2 ⊢
  rw [hM] at hox2 ⊢
  obtain ⟨x5, b5⟩ := box_new w2 #[.slice a2 L cap2, .int .i64 t', .int .i64 k'] 24
  obtain ⟨w3, hw3⟩ : ∃ w3, w3 = w2.alloc (.cells #[.slice a2 L cap2, .int .i64 t', .int .i64 k'] 24) := ⟨_, rfl⟩
  rw [← hw3] at x5 b5
  have hb3 := hb2.trans (b5.mono hb2.size)
  have HX3 := Lib.hid (HX1.out.keep hb3); have HF3 := Lib.hid (HF1.out.keep hb3); have HS3 := Lib.hid (HS1.out.keep hb3); have HB3 := Lib.hid (HB1.out.trans (hb3.mono (by omega))); have HO3 := Lib.hid (ho2.keep b5); have HQ3 := Lib.hid (hox2.keep b5)
  have H5 := Lib.hid x5; have HW3 := Lib.hid hw3; have HL2 := Lib.hid hL; have HM2 := Lib.hid hM
  have hz2 := hb2.size
  have hz3 := b5.size
  obtain ⟨g5, hg5⟩ : ∃ g5, g5 = w2.heap.size := ⟨_, rfl⟩
  have HG5 := Lib.hid hg5
  rw [← hg5] at H5
  clear hb2 ho2 hox2 x5 b5 hw3 hb3 hL hM hg5 c0 c1 c2 p0 p1 p2 p3
  obtain ⟨c0, c1, c2⟩ := agg_cells HX3.out
  obtain ⟨p0, p1, p2, p3⟩ := fm_cells HF3.out
  go_upto_region 4 with (fail)
  rw [← HG5.out, ← HW3.out]
  clear HW3
  go_wp2_with fail
  refine (HRE.out w3 HS3.out).mono ?_
  rintro e w4 ⟨v4, u4, rfl, ho4, hox4, -, hb4⟩
  obtain ⟨a4, cap4, rfl, -⟩ := ho4.has
  obtain ⟨d4, cd4, rfl, -⟩ := hox4.has
  rw [HL2.out] at ho4 ⊢
  rw [HM2.out] at hox4 ⊢
  obtain ⟨x8, b8⟩ := box_new w4 #[.slice a4 L cap4, .int .i64 t', .int .i64 k'] 24
  obtain ⟨w5, hw5⟩ : ∃ w5, w5 = w4.alloc (.cells #[.slice a4 L cap4, .int .i64 t', .int .i64 k'] 24) := ⟨_, rfl⟩
  rw [← hw5] at x8 b8
  have hb5 := hb4.trans (b8.mono hb4.size)
  have HX5 := Lib.hid (HX3.out.keep hb5); have HF5 := Lib.hid (HF3.out.keep hb5); have HB5 := Lib.hid (HB3.out.trans (hb5.mono (by omega))); have HO5 := Lib.hid (HO3.out.keep hb5); have HQ5 := Lib.hid (HQ3.out.keep hb5); have HP5 := Lib.hid (ho4.keep b8); have HR5 := Lib.hid (hox4.keep b8)
  have H55 := Lib.hid (H5.out.keep hb5)
  have H8 := Lib.hid x8; have HW5 := Lib.hid hw5
  have hz4 := hb4.size
  have hz5 := b8.size
  obtain ⟨g8, hg8⟩ : ∃ g8, g8 = w4.heap.size := ⟨_, rfl⟩
  have HG8 := Lib.hid hg8
  rw [← hg8] at H8
  clear hb4 ho4 hox4 x8 b8 hw5 hb5 hg8 c0 c1 c2 p0 p1 p2 p3 H5 HX3 HF3 HS3 HB3 HO3 HQ3 HX1 HF1 HS1 HB1
  go_upto_region 5 with (fail)
  rw [← HG8.out, ← HW5.out]
  clear HW5
  have KS : Hid (∀ wx, Below w5.heap.size w5 wx → Below w5.heap.size w5 wx ∧ (wx.cell? ⟨g5, 0, none⟩ = some (.slice a2 L cap2) ∧ wx.cell? ⟨g5, 1, none⟩ = some (.int .i64 t') ∧ wx.cell? ⟨g5, 2, none⟩ = some (.int .i64 k')) ∧ (wx.cell? ⟨g8, 0, none⟩ = some (.slice a4 L cap4) ∧ wx.cell? ⟨g8, 1, none⟩ = some (.int .i64 t') ∧ wx.cell? ⟨g8, 2, none⟩ = some (.int .i64 k')) ∧
    (wx.cell? ⟨N + 1, 0, none⟩ = some (.int .i64 x1) ∧ wx.cell? ⟨N + 1, 1, none⟩ = some (.int .i64 x2) ∧ wx.cell? ⟨N + 1, 2, none⟩ = some (.int .i64 x3) ∧ wx.cell? ⟨N + 1, 3, none⟩ = some (.string x4))) :=
    Lib.hid fun wx hb => ⟨hb, agg_cells (H55.out.keep hb), agg_cells (H8.out.keep hb), fm_cells (HF5.out.keep hb)⟩
  have HSM : Hid (∀ wx, Below w5.heap.size w5 wx → Calls Try.prog 12 #[.agg #[.slice a2 L cap2, .int .i64 t', .int .i64 k'], .agg #[.slice a4 L cap4, .int .i64 t', .int .i64 k']] wx fun e w' => e = .returned (.bool true) ∧ Below w5.heap.size w5 w') := Lib.hid fun wx hb =>
    (same_any a2 a4 L cap2 cap4 S' t' k' wx ((own_read HO5.out).1.keep hb) ((own_read HP5.out).1.keep hb) HL2.out).mono fun e w' ⟨h1, h2⟩ => ⟨h1, hb.trans (h2.mono hb.size)⟩
  have HFM : Hid (∀ wx, Below w5.heap.size w5 wx → Calls Try.prog 19 #[.slice d2 M cd2, .slice d4 M cd4] wx fun e w' => e = .returned (.bool true) ∧ Below w5.heap.size w5 w') := Lib.hid fun wx hb =>
    (sameF_any d2 d4 M cd2 cd4 X wx ((own_readX HQ5.out).1.keep hb) ((own_readX HR5.out).1.keep hb) HM2.out).mono fun e w' ⟨h1, h2⟩ => ⟨h1, hb.trans (h2.mono hb.size)⟩
  have HVM : Hid (∀ wx, Below w5.heap.size w5 wx → Calls Try.prog 20 #[.agg #[.int .i64 x1, .int .i64 x2, .int .i64 x3, .string x4]] wx fun e w' => e = .returned (.bool B) ∧ Below w5.heap.size w5 w') := Lib.hid fun wx hb =>
    (HV.out wx).mono fun e w' ⟨h1, h2⟩ => ⟨h1, hb.trans (h2.mono hb.size)⟩
  have HRM : Hid (∀ wx, Below w5.heap.size w5 wx → Calls Try.prog 21 #[.agg #[.int .i64 x1, .int .i64 x2, .int .i64 x3, .string x4]] wx fun e w' => e = .returned (.bool B) ∧ Below w5.heap.size w5 w') := Lib.hid fun wx hb =>
    (HRV.out wx).mono fun e w' ⟨h1, h2⟩ => ⟨h1, hb.trans (h2.mono hb.size)⟩
  have q1 : (E == E) = true := beq_self_eq_true _
  have q2 : (B == B) = true := beq_self_eq_true _
  have q3 : (m.toList == m.toList) = true := beq_self_eq_true _
  go_region_held3 (fun wx => Below w5.heap.size w5 wx ∧ (wx.cell? ⟨g5, 0, none⟩ = some (.slice a2 L cap2) ∧ wx.cell? ⟨g5, 1, none⟩ = some (.int .i64 t') ∧ wx.cell? ⟨g5, 2, none⟩ = some (.int .i64 k')) ∧ (wx.cell? ⟨g8, 0, none⟩ = some (.slice a4 L cap4) ∧ wx.cell? ⟨g8, 1, none⟩ = some (.int .i64 t') ∧ wx.cell? ⟨g8, 2, none⟩ = some (.int .i64 k')) ∧
    (wx.cell? ⟨N + 1, 0, none⟩ = some (.int .i64 x1) ∧ wx.cell? ⟨N + 1, 1, none⟩ = some (.int .i64 x2) ∧ wx.cell? ⟨N + 1, 2, none⟩ = some (.int .i64 x3) ∧ wx.cell? ⟨N + 1, 3, none⟩ = some (.string x4)))
    (first | exact KS.out _ (below_drew _) | exact KS.out _ (Below.refl _ _) | exact KS.out _ (by assumption))
    (first
      | (go_split_ands; go_at_call 12; (with_reducible refine (HSM.out _ (by first | assumption | exact below_drew _)).mono ?_); rintro e w6 ⟨rfl, hb6⟩)
      | (go_split_ands; go_at_call 19; (with_reducible refine (HFM.out _ (by first | assumption | exact below_drew _)).mono ?_); rintro e w7 ⟨rfl, hb7⟩)
      | (go_split_ands; go_at_call 20; (with_reducible refine (HVM.out _ (by first | assumption | exact below_drew _)).mono ?_); rintro e w8 ⟨rfl, hb8⟩)
      | (go_split_ands; go_at_call 21; (with_reducible refine (HRM.out _ (by first | assumption | exact below_drew _)).mono ?_); rintro e w9 ⟨rfl, hb9⟩))
  go_wp2
  go_ret
  refine ⟨rfl, ?_⟩
  rw [← HN.out]
  first
    | exact HB5.out.trans (hb9.mono (by omega))
    | exact HB5.out.trans (hb8.mono (by omega))
end Go.Proofs.Ytmecaioklmkdlaa.Ss

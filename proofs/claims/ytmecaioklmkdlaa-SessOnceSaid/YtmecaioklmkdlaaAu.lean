/-
  Layer 8: the law that ends stay ends.
-/
import Derived.Test.YtmecaioklmkdlaaAs
import Derived.Deep.CutBlock
import Derived.Deep.CutRange
import Derived.Deep.DeepCutAuto
import Derived.Deep.LoopGhost
namespace Go.Proofs.Ytmecaioklmkdlaa.Ss
open Go.RowKit
set_option linter.unusedVariables false
set_option linter.unusedSimpArgs false

theorem send_zero {s : Sd} {m : ByteArray} (h : goodB s = true) (he : (sendS s m).2.2 = 0) : goodB (sendS s m).1 = true ∧ validB (sendS s m).2.1 = true := by
  unfold sendS at he ⊢
  rw [if_neg (by simp [h])] at he ⊢
  by_cases hm : msgB m = false
  · rw [if_pos hm] at he; exact absurd he (by decide)
  rw [if_neg hm] at he ⊢
  by_cases hl : s.S.length = 256
  · rw [if_pos hl] at he; exact absurd he (by decide)
  rw [if_neg hl]
  exact send_good h (by simpa using hm) hl
/-- What is true of a good end's answer. -/
structure Stay (S : List ByteArray) (t k : Int) (B : Bool) (R : Sd × ByteArray × List Fm × Int) : Prop where
  no : B = false → R.2.1 = em ∧ R.2.2.1 = [] ∧ (R.2.2.2 == 0) = false ∧ (R.2.2.2 != 0) = true
  yes : B = true → R.2.2.2 = 0 ∧ goodB R.1 = true ∧ (∀ y ∈ R.2.2.1, validB y = true) ∧ R.1.S = S ∧ R.1.t - t ≤ 1 ∧ t ≤ R.1.t ∧ k ≤ R.1.k ∧ (0 < R.2.1.size ↔ t < R.1.t) ∧ R.2.2.1.length ≤ 64
theorem stay_of {S : List ByteArray} {t k : Int} (h : goodB ⟨S, t, k⟩ = true) (f : Fm) : Stay S t k (validB f) (takeS ⟨S, t, k⟩ f) := by
  refine ⟨fun hv => ?_, fun hv => ?_⟩
  · unfold takeS; rw [if_neg (by simp [h]), if_pos hv]; exact ⟨rfl, rfl, rfl, rfl⟩
  · obtain ⟨h1, h2, h3, h4, h5, h6, h7, h8, h9⟩ := take_good h hv
    exact ⟨h1, h2, h3, h4, h5, h6, h7, h8, h9⟩
set_option maxRecDepth 100000 in
set_option maxHeartbeats 8000000 in
theorem stays_walk (a : Option Addr) (len cap : Nat) (S : List ByteArray) (t k : Int) (f : Fm) (m : ByteArray) (w : World) (hin : InS w a len cap S) :
    Calls Try.prog 5 #[.agg #[.slice a len cap, .int .i64 t, .int .i64 k], .agg #[.int .i64 f.kind, .int .i64 f.num, .int .i64 f.taken, .string f.body], .string m] w fun e w' => e = .returned (.bool true) ∧ Below w.heap.size w w' := by
  obtain ⟨hS, hl, hlc, hn, _⟩ := hin
  have hs := fun w h => take_any a len cap ⟨S, t, k⟩ f w h hl hn
  have hse := fun w h => send_any a len cap ⟨S, t, k⟩ m w h hl hn
  have hg := fun w h => good_any a len cap ⟨S, t, k⟩ w h hl
  have hti1 : goodB ⟨S, t, k⟩ = true → ∀ w, HasS w a S → Calls Try.prog 15 #[.agg #[.slice a len cap, .int .i64 t, .int .i64 k]] w fun e w' => e = .returned (.tuple #[.agg #[.int .i64 3, .int .i64 (len : Int), .int .i64 t, .string em], .int .i64 0]) ∧ Below w.heap.size w w' := fun h w hw => by
    have := tick_any a len cap ⟨S, t, k⟩ w hw hl
    rw [show tickS ⟨S, t, k⟩ = (⟨3, len, t, em⟩, 0) by unfold tickS; rw [if_neg (by simp [h]), hl]] at this
    exact this
  have htv : goodB ⟨S, t, k⟩ = true → validB ⟨3, len, t, em⟩ = true := fun h => by rw [← hl]; exact tick_valid h
  have hst := fun h => stay_of (S := S) (t := t) (k := k) h f
  have hsz := fun h => send_zero (s := ⟨S, t, k⟩) (m := m) h
  have hbd : goodB ⟨S, t, k⟩ = true → 0 ≤ t ∧ t ≤ 1099511627776 := fun h => by have := goodB_iff.1 h; simp only at this; exact this.2.2.2
  obtain ⟨x1, x2, x3, x4⟩ := f
  unfold Tells at hg
  simp only at hs hse hst hg hsz ⊢
  generalize sendS ⟨S, t, k⟩ m = R1 at *
  obtain ⟨⟨S1, t1, k1⟩, ⟨f1, f2, f3, f4⟩, E1⟩ := R1
  generalize takeS ⟨S, t, k⟩ ⟨x1, x2, x3, x4⟩ = R at *
  obtain ⟨⟨S', t', k'⟩, mm, X, E⟩ := R
  unfold TakeIt at hs
  unfold SendIt at hse
  simp only at hs hse hsz
  have HIN := Lib.hid hS; have HL := Lib.hid hl
  have HTK := Lib.hid hs; have HSE := Lib.hid hse; have HG := Lib.hid hg; have HTI := Lib.hid hti1; have HTV := Lib.hid htv; have HST := Lib.hid hst; have HSZ := Lib.hid hsz; have HBD := Lib.hid hbd
  clear hS hl hn hs hse hg hti1 htv hst hsz hbd
  obtain ⟨N, hN⟩ : ∃ N, N = w.heap.size := ⟨_, rfl⟩
  obtain ⟨x0, y0, b0⟩ := two_new w #[.slice a len cap, .int .i64 t, .int .i64 k] #[.int .i64 x1, .int .i64 x2, .int .i64 x3, .string x4] 24 27
  obtain ⟨w0, hw0⟩ : ∃ w0, w0 = (w.alloc (.cells #[.slice a len cap, .int .i64 t, .int .i64 k] 24)).alloc (.cells #[.int .i64 x1, .int .i64 x2, .int .i64 x3, .string x4] 27) := ⟨_, rfl⟩
  rw [← hw0] at x0 y0 b0
  have HS0 := Lib.hid (HIN.out.keep b0)
  rw [← hN] at x0 y0 b0
  have HN := Lib.hid hN; have HW0 := Lib.hid hw0; have B0 := Lib.hid b0; have HX0 := Lib.hid x0; have HF0 := Lib.hid y0
  have hz0 : N + 2 ≤ w0.heap.size := y0.lt
  clear hN hw0 b0 x0 y0
  go_enter Try.func5, Try.ntmps5
  go_wp2_with fail
  rw [← HN.out, ← HW0.out]
  refine (wakes_any _).mono ?_
  rintro e w1 ⟨rfl, hb1⟩
  have HX1 := Lib.hid (HX0.out.keep hb1); have HF1 := Lib.hid (HF0.out.keep hb1); have HS1 := Lib.hid (HS0.out.keep hb1); have HB1 := Lib.hid (B0.out.trans (hb1.mono (by omega)))
  have hz1 := hb1.size
  obtain ⟨c0, c1, c2⟩ := agg_cells HX1.out
  clear hb1
  go_wp2_with fail
  refine (HG.out w1 HS1.out).mono ?_
  rintro e w2 ⟨rfl, hb2⟩
  have HX2 := Lib.hid (HX1.out.keep hb2); have HF2 := Lib.hid (HF1.out.keep hb2); have HS2 := Lib.hid (HS1.out.keep hb2); have HB2 := Lib.hid (HB1.out.trans (hb2.mono (by omega)))
  have hz2 := hb2.size
  clear hb2 c0 c1 c2
  obtain ⟨gb, hgb⟩ : ∃ gb, goodB ⟨S, t, k⟩ = gb := ⟨_, rfl⟩
  rw [hgb]
  cases gb with
  | false =>
    clear hgb
    go_wp2
    go_ret
    exact ⟨rfl, by rw [← HN.out]; exact HB2.out⟩
  | true =>
  have htv := HTV.out hgb; have hst := HST.out hgb; have hsz := HSZ.out hgb
  obtain ⟨bd1, bd2⟩ := HBD.out hgb
  have HTI2 := Lib.hid (HTI.out hgb)
  have HGB := Lib.hid hgb; have HTV2 := Lib.hid htv; have HST2 := Lib.hid hst; have HSZ2 := Lib.hid hsz
  clear htv hst hsz hgb HTV HST HSZ HBD HTI HX1 HF1 HS1 HB1
  obtain ⟨c0, c1, c2⟩ := agg_cells HX2.out
  go_wp2_with fail
  refine (HSE.out w2 HS2.out).mono ?_
  rintro e w3 ⟨v2, rfl, ho2, hb2⟩
  obtain ⟨a2, cap2, rfl, -⟩ := ho2.has
  obtain ⟨L, hL⟩ : ∃ L, S1.length = L := ⟨_, rfl⟩
  rw [hL] at ho2 ⊢
  obtain ⟨x5, x6, b56⟩ := two_new w3 #[.slice a2 L cap2, .int .i64 t1, .int .i64 k1] #[.int .i64 f1, .int .i64 f2, .int .i64 f3, .string f4] 24 27
  obtain ⟨w4, hw4⟩ : ∃ w4, w4 = (w3.alloc (.cells #[.slice a2 L cap2, .int .i64 t1, .int .i64 k1] 24)).alloc (.cells #[.int .i64 f1, .int .i64 f2, .int .i64 f3, .string f4] 27) := ⟨_, rfl⟩
  rw [← hw4] at x5 x6 b56
  have hb3 := hb2.trans (b56.mono hb2.size)
  have HX4 := Lib.hid (HX2.out.keep hb3); have HF4 := Lib.hid (HF2.out.keep hb3); have HS4 := Lib.hid (HS2.out.keep hb3); have HB4 := Lib.hid (HB2.out.trans (hb3.mono (by omega))); have HO4 := Lib.hid (ho2.keep b56)
  have H5 := Lib.hid x5; have H6 := Lib.hid x6; have HW4 := Lib.hid hw4; have HL2 := Lib.hid hL
  have hz3 := hb2.size
  have hz4 := b56.size
  obtain ⟨g5, hg5⟩ : ∃ g5, g5 = w3.heap.size := ⟨_, rfl⟩
  have HG5 := Lib.hid hg5
  rw [← hg5] at H5 H6
  clear hb2 ho2 x5 x6 b56 hw4 hb3 hL hg5 c0 c1 c2 HX2 HF2 HS2 HB2
  go_upto_region 6 with (fail)
  rw [← HG5.out, ← HW4.out]
  clear HW4 HG5
  go_cut [39] (fun s wc => s = .bool false ∧ Hid (Below w4.heap.size w4 wc))
  case first =>
    by_cases he : E1 = 0
    · obtain ⟨g1, g2⟩ := HSZ2.out he
      subst he
      have HG1 := Lib.hid (good_any a2 L cap2 ⟨S1, t1, k1⟩ w4 (own_read HO4.out).1 HL2.out)
      have HV1 := Lib.hid (fun w => valid_any f1 f2 f3 f4 w)
      rw [g1] at HG1
      rw [g2] at HV1
      unfold Tells at HG1 HV1
      obtain ⟨d0, d1, d2⟩ := agg_cells H5.out
      clear g1 g2
      go_wp2_with (first
        | (go_at_call 13; (with_reducible refine HG1.out.mono ?_); rintro e w5 ⟨rfl, hb5⟩; have HB5 := Lib.hid hb5; obtain ⟨e0, e1, e2, e3⟩ := fm_cells (H6.out.keep hb5); clear hb5)
        | (go_at_call 20; (with_reducible refine (HV1.out _).mono ?_); rintro e w6 ⟨rfl, hb6⟩; have HB6 := Lib.hid (HB5.out.trans (hb6.mono HB5.out.size)); clear hb6))
      go_meet
      case rel => exact ⟨rfl, HB6⟩
    · have q : (E1 == 0) = false := by rw [beq_eq_false_iff_ne]; exact he
      clear he
      go_wp2_with fail
      go_meet
      case rel => exact ⟨rfl, Lib.hid (Below.refl _ _)⟩
  obtain ⟨rfl, HBC⟩ := hcut
  have HX5 := Lib.hid (HX4.out.keep HBC.out); have HF5 := Lib.hid (HF4.out.keep HBC.out); have HS5 := Lib.hid (HS4.out.keep HBC.out); have HB5 := Lib.hid (HB4.out.trans (HBC.out.mono (by omega)))
  have hz5 := HBC.out.size
  have hzc : N + 2 ≤ wc.heap.size := by omega
  clear H5 H6 HO4 HL2 HSZ2 HSE HX4 HF4 HS4 HB4 HBC hz3 hz4 hz5 hz1 hz2
  obtain ⟨c0, c1, c2⟩ := agg_cells HX5.out
  go_wp2_with fail
  refine (HTI2.out wc HS5.out).mono ?_
  rintro e w6 ⟨rfl, hb6⟩
  have HX6 := HX5.out.keep hb6; have HF6 := HF5.out.keep hb6; have HS6 := HS5.out.keep hb6; have HB6 := HB5.out.trans (hb6.mono (by omega))
  obtain ⟨x7, b7⟩ := box_new w6 #[.int .i64 3, .int .i64 (len : Int), .int .i64 t, .string em] 27
  obtain ⟨w7, hw7⟩ : ∃ w7, w7 = w6.alloc (.cells #[.int .i64 3, .int .i64 (len : Int), .int .i64 t, .string em] 27) := ⟨_, rfl⟩
  rw [← hw7] at x7 b7
  have HX7 := Lib.hid (HX6.keep b7); have HF7 := Lib.hid (HF6.keep b7); have HS7 := Lib.hid (HS6.keep b7); have HB7 := Lib.hid (HB6.trans (b7.mono (by have := hb6.size; omega)))
  have H7 := Lib.hid x7
  have hz7 : N + 2 ≤ w7.heap.size := by have := hb6.size; have := b7.size; omega
  have HW7 := Lib.hid hw7
  have hvb : ∀ w, Calls Try.prog 20 #[.agg #[.int .i64 3, .int .i64 (len : Int), .int .i64 t, .string em]] w fun e w' => e = .returned (.bool true) ∧ Below w.heap.size w w' := fun w => by
    have := valid_any 3 len t em w
    rw [HTV2.out] at this
    exact this
  have HVB := Lib.hid hvb
  obtain ⟨g7, hg7⟩ : ∃ g7, g7 = w6.heap.size := ⟨_, rfl⟩
  have HG7 := Lib.hid hg7
  rw [← hg7] at H7
  clear hb6 HX6 HF6 HS6 HB6 x7 b7 hw7 hvb hg7 c0 c1 c2
  go_upto_region 9 with (fail)
  rw [← HG7.out, ← HW7.out]
  clear HW7
  obtain ⟨p0, p1, p2, p3⟩ := fm_cells H7.out
  go_wp2_with fail
  refine (HVB.out w7).mono ?_
  rintro e w8 ⟨rfl, hb8⟩
  have HX8 := Lib.hid (HX7.out.keep hb8); have HF8 := Lib.hid (HF7.out.keep hb8); have HS8 := Lib.hid (HS7.out.keep hb8); have HB8 := Lib.hid (HB7.out.trans (hb8.mono (by omega)))
  have hz8 : N + 2 ≤ w8.heap.size := by have := hb8.size; omega
  clear hb8 p0 p1 p2 p3 HX7 HF7 HS7 HB7 HX5 HF5 HS5 HB5 H7 HVB HTI2 HTV2
  obtain ⟨c0, c1, c2⟩ := agg_cells HX8.out
  obtain ⟨p0, p1, p2, p3⟩ := fm_cells HF8.out
  go_wp2_with fail
  refine (HTK.out w8 HS8.out).mono ?_
  rintro e w9 ⟨v9, u9, rfl, ho9, hox9, -, hb9⟩
  obtain ⟨a9, cap9, rfl, -⟩ := ho9.has
  obtain ⟨d9, cd9, rfl, -⟩ := hox9.has
  obtain ⟨L, hL⟩ : ∃ L, S'.length = L := ⟨_, rfl⟩
  obtain ⟨M, hM⟩ : ∃ M, X.length = M := ⟨_, rfl⟩
  rw [hL] at ho9 ⊢
  rw [hM] at hox9 ⊢
  have HX9 := HX8.out.keep hb9; have HB9 := HB8.out.trans (hb9.mono (by omega))
  obtain ⟨x10, b10⟩ := box_new w9 #[.slice a9 L cap9, .int .i64 t', .int .i64 k'] 24
  obtain ⟨w10, hw10⟩ : ∃ w10, w10 = w9.alloc (.cells #[.slice a9 L cap9, .int .i64 t', .int .i64 k'] 24) := ⟨_, rfl⟩
  rw [← hw10] at x10 b10
  have HX10 := Lib.hid (HX9.keep b10); have HB10 := Lib.hid (HB9.trans (b10.mono (by have := hb9.size; omega)))
  have HO10 := Lib.hid (ho9.keep b10); have HQ10 := Lib.hid (hox9.keep b10); have H10 := Lib.hid x10
  have hz10 : N + 2 ≤ w10.heap.size := by have := hb9.size; have := b10.size; omega
  obtain ⟨g10, hg10⟩ : ∃ g10, g10 = w9.heap.size := ⟨_, rfl⟩
  have HG10 := Lib.hid hg10
  rw [← hg10] at H10
  have HW10 := Lib.hid hw10; have HL2 := Lib.hid hL; have HM2 := Lib.hid hM
  clear hb9 ho9 hox9 HX9 HB9 x10 b10 hw10 hL hM hg10 c0 c1 c2 p0 p1 p2 p3 HX8 HF8 HS8 HB8
  go_upto_region 12 with (fail)
  rw [← HG10.out, ← HW10.out]
  clear HW10
  have hst := HST2.out
  obtain ⟨B, hB⟩ : ∃ B, validB ⟨x1, x2, x3, x4⟩ = B := ⟨_, rfl⟩
  rw [hB] at hst
  clear hB
  cases B with
  | false =>
    obtain ⟨n1, n2, n3, n4⟩ := hst.no rfl
    simp only at n1 n2 n3 n4
    have hM0 : M = 0 := by rw [← HM2.out, n2]; rfl
    subst n1 hM0
    clear n2 hst
    go_wp2
    go_ret
    exact ⟨rfl, by rw [← HN.out]; exact HB10.out⟩
  | true =>
    obtain ⟨n1, n2, n3, n4, n5, n6, n7, n8, n9⟩ := hst.yes rfl
    simp only at n1 n2 n3 n4 n5 n6 n7 n8 n9
    subst n1 n4
    rw [HM2.out] at n9
    have hLl : L = len := by rw [← HL2.out, HL.out]
    subst hLl
    have N2 := Lib.hid n2; have N3 := Lib.hid n3
    clear n2 n3 hst
    have hm := (own_readX HQ10.out).1.1
    rw [HM2.out] at hm
    go_wp2_with fail
    go_loopg [72] M (fun m i wr => ∃ p : Nat, p + m = M ∧ i = .int .i64 (p : Int) ∧ Hid (Below w10.heap.size w10 wr))
    case atStart => exact ⟨0, by omega, rfl, Lib.hid (Below.refl _ _)⟩
    case round =>
      obtain ⟨p, hp, rfl, HR⟩ := hrel
      have hzr := HR.out.size
      by_cases hlt : p < M
      · have hpX : p < X.length := by rw [HM2.out]; exact hlt
        obtain ⟨bb, off, rfl, e0, e1, e2, e3⟩ := ((own_readX HQ10.out).1.keep HR.out).at hpX
        have hy : validB (X.getD p fm0) = true := by
          have := N3.out (X[p]) (List.getElem_mem hpX)
          simpa [List.getD, hpX] using this
        have i0 : (p : Int) < (M : Int) := by omega
        have i1 : (0 : Int) ≤ (p : Int) := by omega
        generalize X.getD p fm0 = y at *
        obtain ⟨y1, y2, y3, y4⟩ := y
        simp only at e0 e1 e2 e3
        have hv := fun w => valid_any y1 y2 y3 y4 w
        rw [hy] at hv
        unfold Tells at hv
        clear hy hpX
        go_wp2_with (go_at_call 20; (with_reducible refine (hv _).mono ?_); rintro e w11 ⟨rfl, hb11⟩; have HB11 := Lib.hid (HR.out.trans (((below_alloc1 wr (.cells #[.int .i64 y1, .int .i64 y2, .int .i64 y3, .string y4] 27)).trans (hb11.mono (by rw [World.size_alloc]; omega))).mono hzr)); clear hb11)
        go_roundg (M - (p + 1))
        case measure => omega
        case rel => exact ⟨p + 1, by omega, by go_num, HB11⟩
      · obtain rfl : p = M := by omega
        have HX11 := Lib.hid (HX10.out.keep HR.out); have H11 := Lib.hid (H10.out.keep HR.out); have HB11 := Lib.hid (HB10.out.trans (HR.out.mono (by omega))); have HO11 := Lib.hid ((own_read HO10.out).1.keep HR.out)
        have hgd := good_any a9 L cap9 ⟨S', t', k'⟩ wr HO11.out HL2.out
        rw [N2.out] at hgd
        unfold Tells at hgd
        simp only at hgd
        obtain ⟨c0, c1, c2⟩ := agg_cells HX11.out
        obtain ⟨d0, d1, d2⟩ := agg_cells H11.out
        have i1 : IntKind.i64.wrap (t' - t) = t' - t := IntWalk.i64_in _ (by omega)
        have t3 : decide (t' - t ≤ 1) = true := decide_eq_true n5
        have t4 : decide (k ≤ k') = true := decide_eq_true n7
        have t5 : decide ((p : Int) ≤ 64) = true := by rw [decide_eq_true_eq]; omega
        have hzw : N ≤ wr.heap.size := by omega
        by_cases hq : t < t'
        case' pos =>
          have t6 : decide (t < t') = true := decide_eq_true hq
          have hsz := n8.2 hq
          have t7 : decide ((0 : Int) < (mm.size : Int)) = true := by rw [decide_eq_true_eq]; omega
          have t8 : decide (0 < mm.size) = true := decide_eq_true hsz
        case' neg =>
          have t6 : decide (t < t') = false := decide_eq_false hq
          have hsz : ¬ 0 < mm.size := fun h => hq (n8.1 h)
          have t7 : decide ((0 : Int) < (mm.size : Int)) = false := by rw [decide_eq_false_iff_not]; omega
          have t8 : decide (0 < mm.size) = false := decide_eq_false hsz
        all_goals
          clear n5 n6 n7 n8 n9 hq hsz
          go_wp2_with (go_at_call 13; (with_reducible refine hgd.mono ?_); rintro e w12 ⟨rfl, hb12⟩; have HB12 := Lib.hid (HB11.out.trans (hb12.mono hzw)); clear c0 c1 c2 d0 d1 d2; obtain ⟨c0, c1, c2⟩ := agg_cells (HX11.out.keep hb12); obtain ⟨d0, d1, d2⟩ := agg_cells (H11.out.keep hb12); clear hb12)
          go_ret
          exact ⟨rfl, by rw [← HN.out]; exact HB12.out⟩
end Go.Proofs.Ytmecaioklmkdlaa.Ss

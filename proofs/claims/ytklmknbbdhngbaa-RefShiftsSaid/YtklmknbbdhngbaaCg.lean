/-
  Layer 9's laws RefShifts and RefThings: each returns true, for all arguments.
-/
import Derived.Test.YtklmknbbdhngbaaCf
import Derived.Deep.RegionHeld3
import Derived.Deep.LoopGhost
namespace Go.Proofs.Ytklmknbbdhngbaa.Rd
open Go.RowKit
open Go.Proofs.Ytklmknbbdhngbaa.Fx
set_option linter.unusedVariables false
set_option linter.unusedSimpArgs false

theorem two_boxes (w : World) (cs ds : Array Value) (T U : TypeId) : Bk ((w.alloc (.cells cs T)).alloc (.cells ds U)) w.heap.size cs T ∧ Bk ((w.alloc (.cells cs T)).alloc (.cells ds U)) (w.heap.size + 1) ds U ∧ Below w.heap.size w ((w.alloc (.cells cs T)).alloc (.cells ds U)) := by
  refine ⟨(Bk.new w _ _).more _, ?_, two_alloc _ _ _⟩
  have := Bk.new (w.alloc (.cells cs T)) ds U
  rwa [World.size_alloc] at this
theorem bk_set {W : World} {g : Nat} {cs : Array Value} {T : TypeId} (h : Bk W g cs T) (i : Nat) (v : Value) : Bk (W.setCell ⟨g, i, none⟩ v) g (cs.setIfInBounds i v) T := by
  unfold Bk at *
  simp only [World.setCell, Array.getElem?_modify]
  simp [h]
theorem bk_other {W : World} {g g' : Nat} {cs : Array Value} {T : TypeId} (h : Bk W g cs T) (i : Nat) (v : Value) (hne : g' ≠ g) : Bk (W.setCell ⟨g', i, none⟩ v) g cs T := by
  unfold Bk at *
  simp only [World.setCell, Array.getElem?_modify]
  rw [if_neg hne]
  exact h
theorem bk_next {N : Nat} {w w1 w2 : World} (hN : N = w.heap.size) (h : Below N w w1) (h2 : Below w1.heap.size w1 w2) : Below N w w2 := h.trans (h2.mono (hN ▸ h.size))
theorem bk_drew {W : World} {g : Nat} {cs : Array Value} {T : TypeId} (h : Bk W g cs T) : Bk W.drew g cs T := h

set_option maxRecDepth 100000 in
set_option maxHeartbeats 4000000 in
theorem shifts_walk (r h a b m : Int) (w : World) :
    Calls Try.prog 6 #[.agg #[.int .i64 r, .int .i64 h], .agg #[.int .i64 a, .int .i64 b], .int .i64 m] w fun e w' => e = .returned (.bool true) ∧ Below w.heap.size w w' := by
  obtain ⟨x0, y0, b0⟩ := two_boxes w #[.int .i64 r, .int .i64 h] #[.int .i64 a, .int .i64 b] 23 39
  obtain ⟨N, hN⟩ : ∃ N, N = w.heap.size := ⟨_, rfl⟩
  obtain ⟨w0, hw0⟩ : ∃ w0, w0 = (w.alloc (.cells #[.int .i64 r, .int .i64 h] 23)).alloc (.cells #[.int .i64 a, .int .i64 b] 39) := ⟨_, rfl⟩
  rw [← hw0] at x0 y0 b0
  rw [← hN] at x0 y0 b0
  have HN := Lib.hid hN; have HW0 := Lib.hid hw0; have HB := Lib.hid b0; have HX := Lib.hid x0; have HY := Lib.hid y0
  clear hN hw0 b0 x0 y0
  obtain ⟨x, e0, ex⟩ : ∃ x e, worthS r h m = (x, e) := ⟨_, _, rfl⟩
  obtain ⟨y, f0', ey⟩ : ∃ x e, worthS (r + a) h m = (x, e) := ⟨_, _, rfl⟩
  obtain ⟨z, g0, ez⟩ : ∃ x e, worthS r (h + b) m = (x, e) := ⟨_, _, rfl⟩
  have cx := fun w => worth_any r h m w
  rw [ex] at cx; simp only at cx
  have cy := fun w => worth_any (r + a) h m w
  rw [ey] at cy; simp only at cy
  have cz := fun w => worth_any r (h + b) m w
  rw [ez] at cz; simp only at cz
  have SR0 : 0 ≤ a → e0 = 0 → f0' = 0 → (0 ≤ m → x ≤ y) ∧ (m < 0 → y ≤ x) := fun ha h1 h2 => shifts_rate (h1 ▸ ex) (h2 ▸ ey) ha
  have SH0 : 0 ≤ b → e0 = 0 → g0 = 0 → z ≤ x := fun hb h1 h2 => shifts_hair (h1 ▸ ex) (h2 ▸ ez) hb
  have SR1 := Lib.hid SR0; have SH1 := Lib.hid SH0
  clear SR0 SH0 ex ey ez
  go_enter Try.func6, Try.ntmps6
  rw [← HN.out]
  go_upto_region 2 with (fail)
  rw [← HN.out, ← HW0.out]
  go_upto_region 3 with ((go_at_call 7; refine (wakes_any _).mono ?_; rintro e w1 ⟨rfl, hb1⟩; have HB := Lib.hid (bk_next HN.out HB.out hb1); have HX := Lib.hid (HX.out.keep hb1); have HY := Lib.hid (HY.out.keep hb1); clear hb1))
  clear HW0
  have KS : Hid (∀ wx, Below w1.heap.size w1 wx → wx.cell? ⟨N, 0, none⟩ = some (.int .i64 r) ∧ wx.cell? ⟨N, 1, none⟩ = some (.int .i64 h)) := Lib.hid fun wx hb => (HX.out.keep hb).two
  obtain ⟨m0, m1, bm⟩ := two_boxes w1 #[.int .i64 r, .int .i64 h] #[.int .i64 r, .int .i64 h] 23 23
  obtain ⟨w2, hw2⟩ : ∃ w2, w2 = ((w1.alloc (.cells #[.int .i64 r, .int .i64 h] 23)).alloc (.cells #[.int .i64 r, .int .i64 h] 23)).drew := ⟨_, rfl⟩
  obtain ⟨M, hM⟩ : ∃ M, M = w1.heap.size := ⟨_, rfl⟩
  have HM0 : Hid (Bk w2 M #[.int .i64 r, .int .i64 h] 23) := Lib.hid (by rw [hw2, hM]; exact bk_drew m0)
  have HM1 : Hid (Bk w2 (M + 1) #[.int .i64 r, .int .i64 h] 23) := Lib.hid (by rw [hw2, hM]; exact bk_drew m1)
  have b2 : Below w1.heap.size w1 w2 := by rw [hw2]; exact bm.drew
  have hNM : N + 1 < M := by rw [hM]; exact HY.out.lt
  have HB2 := Lib.hid (bk_next HN.out HB.out b2); have HX2 := Lib.hid (HX.out.keep b2); have HY2 := Lib.hid (HY.out.keep b2)
  have HW2 := Lib.hid hw2; have HM := Lib.hid hM
  clear m0 m1 bm hw2 hM b2
  go_region_held3 (fun wx => wx.cell? ⟨N, 0, none⟩ = some (.int .i64 r) ∧ wx.cell? ⟨N, 1, none⟩ = some (.int .i64 h))
    (focus (refine KS.out _ ?_; (repeat' (first | exact Below.refl _ _ | refine Below.drew ?_ | refine Below.setCell ?_ (by simp) _ | refine Below.alloc ?_ (by simp) _))))
    (fail)
  · rename_i hHeld
    clear hHeld HB HX HY
    have HB := HB2; have HX := HX2; have HY := HY2
    clear HB2 HX2 HY2
    rw [← HW2.out, ← HM.out]
    clear HW2 HM
    have SR : ∀ _ : 0 ≤ a, Hid (e0 = 0 → f0' = 0 → (0 ≤ m → x ≤ y) ∧ (m < 0 → y ≤ x)) := fun ha => Lib.hid (SR1.out ha)
    have SH : ∀ _ : 0 ≤ b, Hid (e0 = 0 → g0 = 0 → z ≤ x) := fun ha => Lib.hid (SH1.out ha)
    have HD := HM0; have HE := HM1
    have hDE : M ≠ M + 1 := by omega
    clear HM0 HM1 KS
    obtain ⟨c0, c1⟩ := HX.out.two; obtain ⟨d0, d1⟩ := HY.out.two
    by_cases h0 : a < 0
    · go_wp2_with (first | (go_at_call 8; refine (cur_any _ _ _ _).mono ?_; rintro e w3 ⟨rfl, hb3⟩; have HB := Lib.hid (bk_next HN.out HB.out hb3); have HX := Lib.hid (HX.out.keep hb3); have HY := Lib.hid (HY.out.keep hb3); have HD := Lib.hid (HD.out.keep hb3); have HE := Lib.hid (HE.out.keep hb3); clear hb3 c0 c1 d0 d1; obtain ⟨c0, c1⟩ := HX.out.two; obtain ⟨d0, d1⟩ := HY.out.two; obtain ⟨p0, p1⟩ := HD.out.two; have f0 := HD.out.free 0))
      go_ret
      exact ⟨rfl, HB.out⟩
    by_cases h1 : 1000000000000 < a
    · go_wp2_with (first | (go_at_call 8; refine (cur_any _ _ _ _).mono ?_; rintro e w3 ⟨rfl, hb3⟩; have HB := Lib.hid (bk_next HN.out HB.out hb3); have HX := Lib.hid (HX.out.keep hb3); have HY := Lib.hid (HY.out.keep hb3); have HD := Lib.hid (HD.out.keep hb3); have HE := Lib.hid (HE.out.keep hb3); clear hb3 c0 c1 d0 d1; obtain ⟨c0, c1⟩ := HX.out.two; obtain ⟨d0, d1⟩ := HY.out.two; obtain ⟨p0, p1⟩ := HD.out.two; have f0 := HD.out.free 0))
      go_ret
      exact ⟨rfl, HB.out⟩
    by_cases h2 : b < 0
    · go_wp2_with (first | (go_at_call 8; refine (cur_any _ _ _ _).mono ?_; rintro e w3 ⟨rfl, hb3⟩; have HB := Lib.hid (bk_next HN.out HB.out hb3); have HX := Lib.hid (HX.out.keep hb3); have HY := Lib.hid (HY.out.keep hb3); have HD := Lib.hid (HD.out.keep hb3); have HE := Lib.hid (HE.out.keep hb3); clear hb3 c0 c1 d0 d1; obtain ⟨c0, c1⟩ := HX.out.two; obtain ⟨d0, d1⟩ := HY.out.two; obtain ⟨p0, p1⟩ := HD.out.two; have f0 := HD.out.free 0))
      go_ret
      exact ⟨rfl, HB.out⟩
    by_cases h3 : 10000 < b
    · go_wp2_with (first | (go_at_call 8; refine (cur_any _ _ _ _).mono ?_; rintro e w3 ⟨rfl, hb3⟩; have HB := Lib.hid (bk_next HN.out HB.out hb3); have HX := Lib.hid (HX.out.keep hb3); have HY := Lib.hid (HY.out.keep hb3); have HD := Lib.hid (HD.out.keep hb3); have HE := Lib.hid (HE.out.keep hb3); clear hb3 c0 c1 d0 d1; obtain ⟨c0, c1⟩ := HX.out.two; obtain ⟨d0, d1⟩ := HY.out.two; obtain ⟨p0, p1⟩ := HD.out.two; have f0 := HD.out.free 0))
      go_ret
      exact ⟨rfl, HB.out⟩
    cases hc : curB r h 1
    · go_wp2_with (first | (go_at_call 8; refine (cur_any _ _ _ _).mono ?_; rintro e w3 ⟨rfl, hb3⟩; have HB := Lib.hid (bk_next HN.out HB.out hb3); have HX := Lib.hid (HX.out.keep hb3); have HY := Lib.hid (HY.out.keep hb3); have HD := Lib.hid (HD.out.keep hb3); have HE := Lib.hid (HE.out.keep hb3); clear hb3 c0 c1 d0 d1; obtain ⟨c0, c1⟩ := HX.out.two; obtain ⟨d0, d1⟩ := HY.out.two; obtain ⟨p0, p1⟩ := HD.out.two; have f0 := HD.out.free 0))
      go_ret
      exact ⟨rfl, HB.out⟩
    have gc := curB_iff.1 hc
    have gr := gc.2.1; have gh := gc.2.2; clear gc
    go_upto_region 6 with (first | (go_at_call 8; refine (cur_any _ _ _ _).mono ?_; rintro e w3 ⟨rfl, hb3⟩; have HB := Lib.hid (bk_next HN.out HB.out hb3); have HX := Lib.hid (HX.out.keep hb3); have HY := Lib.hid (HY.out.keep hb3); have HD := Lib.hid (HD.out.keep hb3); have HE := Lib.hid (HE.out.keep hb3); clear hb3 c0 c1 d0 d1; obtain ⟨c0, c1⟩ := HX.out.two; obtain ⟨d0, d1⟩ := HY.out.two; obtain ⟨p0, p1⟩ := HD.out.two; have f0 := HD.out.free 0))
    go_upto_region 7 with (fail)
    obtain ⟨w4, hw4⟩ : ∃ w4, w4 = w3.setCell ⟨M, 0, none⟩ (.int .i64 (r + a)) := ⟨_, rfl⟩
    have HB := Lib.hid (show Below N w w4 by rw [hw4]; exact HB.out.setCell (by have := HY.out.lt; simp; omega) _)
    have HX := Lib.hid (show Bk w4 N #[.int .i64 r, .int .i64 h] 23 by rw [hw4]; exact bk_other HX.out _ _ (by omega))
    have HY := Lib.hid (show Bk w4 (N + 1) #[.int .i64 a, .int .i64 b] 39 by rw [hw4]; exact bk_other HY.out _ _ (by omega))
    have HD := Lib.hid (show Bk w4 (M) #[.int .i64 (r + a), .int .i64 h] 23 by rw [hw4]; exact bk_set HD.out 0 _)
    have HE := Lib.hid (show Bk w4 (M + 1) #[.int .i64 r, .int .i64 h] 23 by rw [hw4]; exact bk_other HE.out _ _ (by omega))
    rw [← hw4]
    clear hw4 c0 c1 d0 d1 p0 p1 f0
    obtain ⟨d0, d1⟩ := HY.out.two; obtain ⟨p0, p1⟩ := HE.out.two; have f1 := HE.out.free 1
    go_upto_region 8 with (fail)
    obtain ⟨w5, hw5⟩ : ∃ w5, w5 = w4.setCell ⟨M + 1, 1, none⟩ (.int .i64 (h + b)) := ⟨_, rfl⟩
    have HB := Lib.hid (show Below N w w5 by rw [hw5]; exact HB.out.setCell (by have := HY.out.lt; simp; omega) _)
    have HX := Lib.hid (show Bk w5 N #[.int .i64 r, .int .i64 h] 23 by rw [hw5]; exact bk_other HX.out _ _ (by omega))
    have HD := Lib.hid (show Bk w5 (M) #[.int .i64 (r + a), .int .i64 h] 23 by rw [hw5]; exact bk_other HD.out _ _ (by omega))
    have HE := Lib.hid (show Bk w5 (M + 1) #[.int .i64 r, .int .i64 (h + b)] 23 by rw [hw5]; exact bk_set HE.out 1 _)
    rw [← hw5]
    clear hw5 d0 d1 p0 p1 f1
    obtain ⟨c0, c1⟩ := HX.out.two
    go_upto_region 9 with ((go_at_call 18; (with_reducible refine (cx _).mono ?_); rintro e w6 ⟨rfl, hb6⟩; have HB := Lib.hid (bk_next HN.out HB.out hb6); have HD := Lib.hid (HD.out.keep hb6); have HE := Lib.hid (HE.out.keep hb6); obtain ⟨c0, c1⟩ := HD.out.two; clear hb6))
    go_upto_region 10 with ((go_at_call 18; (with_reducible refine (cy _).mono ?_); rintro e w6 ⟨rfl, hb6⟩; have HB := Lib.hid (bk_next HN.out HB.out hb6); have HE := Lib.hid (HE.out.keep hb6); obtain ⟨c0, c1⟩ := HE.out.two; clear hb6))
    go_upto_region 11 with ((go_at_call 18; (with_reducible refine (cz _).mono ?_); rintro e w6 ⟨rfl, hb6⟩; have HB := Lib.hid (bk_next HN.out HB.out hb6);  clear hb6))
    have SR0 := SR (by omega); have SH0 := SH (by omega)
    clear c0 c1 gr gh h0 h1 h2 h3 hDE hNM SR SH
    by_cases he : e0 = 0
    · subst he
      by_cases hf : f0' = 0
      · subst hf
        by_cases hm : 0 ≤ m
        · have o1 : decide (0 ≤ m) = true := decide_eq_true hm
          have o2 : decide (y < x) = false := decide_eq_false (by have := ((SR0).out rfl rfl).1 hm; omega)
          have o3 : decide (m < 0) = false := decide_eq_false (by omega)
          clear hm
          by_cases hg : g0 = 0
          · subst hg
            have o5 : decide (z ≤ x) = true := decide_eq_true ((SH0).out rfl rfl)
            go_wp2_with (fail)
            go_ret
            exact ⟨rfl, HB.out⟩
          · have t3 : (g0 != 0) = true := by rw [bne_iff_ne]; exact hg
            clear hg
            go_wp2_with (fail)
            go_ret
            exact ⟨rfl, HB.out⟩
        · have o1 : decide (0 ≤ m) = false := decide_eq_false hm
          have o2 : decide (x < y) = false := decide_eq_false (by have := ((SR0).out rfl rfl).2 (by omega); omega)
          have o3 : decide (m < 0) = true := decide_eq_true (by omega)
          clear hm
          by_cases hg : g0 = 0
          · subst hg
            have o5 : decide (z ≤ x) = true := decide_eq_true ((SH0).out rfl rfl)
            go_wp2_with (fail)
            go_ret
            exact ⟨rfl, HB.out⟩
          · have t3 : (g0 != 0) = true := by rw [bne_iff_ne]; exact hg
            clear hg
            go_wp2_with (fail)
            go_ret
            exact ⟨rfl, HB.out⟩
      · have t2 : (f0' == 0) = false := by rw [beq_eq_false_iff_ne]; exact hf
        clear hf
        by_cases hg : g0 = 0
        · subst hg
          have o5 : decide (z ≤ x) = true := decide_eq_true ((SH0).out rfl rfl)
          go_wp2_with (fail)
          go_ret
          exact ⟨rfl, HB.out⟩
        · have t3 : (g0 != 0) = true := by rw [bne_iff_ne]; exact hg
          clear hg
          go_wp2_with (fail)
          go_ret
          exact ⟨rfl, HB.out⟩
    · have t1 : (e0 != 0) = true := by rw [bne_iff_ne]; exact he
      clear he
      go_wp2_with (fail)
      go_ret
      exact ⟨rfl, HB.out⟩
  · rename_i hHeld
    clear hHeld HB HX HY
    have HB := HB2; have HX := HX2; have HY := HY2
    clear HB2 HX2 HY2
    rw [← HW2.out, ← HM.out]
    clear HW2 HM
    have SR : ∀ _ : 0 ≤ a, Hid (e0 = 0 → f0' = 0 → (0 ≤ m → x ≤ y) ∧ (m < 0 → y ≤ x)) := fun ha => Lib.hid (SR1.out ha)
    have SH : ∀ _ : 0 ≤ b, Hid (e0 = 0 → g0 = 0 → z ≤ x) := fun ha => Lib.hid (SH1.out ha)
    have HD := HM1; have HE := HM0
    have hDE : M + 1 ≠ M := by omega
    clear HM0 HM1 KS
    obtain ⟨c0, c1⟩ := HX.out.two; obtain ⟨d0, d1⟩ := HY.out.two
    by_cases h0 : a < 0
    · go_wp2_with (first | (go_at_call 8; refine (cur_any _ _ _ _).mono ?_; rintro e w3 ⟨rfl, hb3⟩; have HB := Lib.hid (bk_next HN.out HB.out hb3); have HX := Lib.hid (HX.out.keep hb3); have HY := Lib.hid (HY.out.keep hb3); have HD := Lib.hid (HD.out.keep hb3); have HE := Lib.hid (HE.out.keep hb3); clear hb3 c0 c1 d0 d1; obtain ⟨c0, c1⟩ := HX.out.two; obtain ⟨d0, d1⟩ := HY.out.two; obtain ⟨p0, p1⟩ := HD.out.two; have f0 := HD.out.free 0))
      go_ret
      exact ⟨rfl, HB.out⟩
    by_cases h1 : 1000000000000 < a
    · go_wp2_with (first | (go_at_call 8; refine (cur_any _ _ _ _).mono ?_; rintro e w3 ⟨rfl, hb3⟩; have HB := Lib.hid (bk_next HN.out HB.out hb3); have HX := Lib.hid (HX.out.keep hb3); have HY := Lib.hid (HY.out.keep hb3); have HD := Lib.hid (HD.out.keep hb3); have HE := Lib.hid (HE.out.keep hb3); clear hb3 c0 c1 d0 d1; obtain ⟨c0, c1⟩ := HX.out.two; obtain ⟨d0, d1⟩ := HY.out.two; obtain ⟨p0, p1⟩ := HD.out.two; have f0 := HD.out.free 0))
      go_ret
      exact ⟨rfl, HB.out⟩
    by_cases h2 : b < 0
    · go_wp2_with (first | (go_at_call 8; refine (cur_any _ _ _ _).mono ?_; rintro e w3 ⟨rfl, hb3⟩; have HB := Lib.hid (bk_next HN.out HB.out hb3); have HX := Lib.hid (HX.out.keep hb3); have HY := Lib.hid (HY.out.keep hb3); have HD := Lib.hid (HD.out.keep hb3); have HE := Lib.hid (HE.out.keep hb3); clear hb3 c0 c1 d0 d1; obtain ⟨c0, c1⟩ := HX.out.two; obtain ⟨d0, d1⟩ := HY.out.two; obtain ⟨p0, p1⟩ := HD.out.two; have f0 := HD.out.free 0))
      go_ret
      exact ⟨rfl, HB.out⟩
    by_cases h3 : 10000 < b
    · go_wp2_with (first | (go_at_call 8; refine (cur_any _ _ _ _).mono ?_; rintro e w3 ⟨rfl, hb3⟩; have HB := Lib.hid (bk_next HN.out HB.out hb3); have HX := Lib.hid (HX.out.keep hb3); have HY := Lib.hid (HY.out.keep hb3); have HD := Lib.hid (HD.out.keep hb3); have HE := Lib.hid (HE.out.keep hb3); clear hb3 c0 c1 d0 d1; obtain ⟨c0, c1⟩ := HX.out.two; obtain ⟨d0, d1⟩ := HY.out.two; obtain ⟨p0, p1⟩ := HD.out.two; have f0 := HD.out.free 0))
      go_ret
      exact ⟨rfl, HB.out⟩
    cases hc : curB r h 1
    · go_wp2_with (first | (go_at_call 8; refine (cur_any _ _ _ _).mono ?_; rintro e w3 ⟨rfl, hb3⟩; have HB := Lib.hid (bk_next HN.out HB.out hb3); have HX := Lib.hid (HX.out.keep hb3); have HY := Lib.hid (HY.out.keep hb3); have HD := Lib.hid (HD.out.keep hb3); have HE := Lib.hid (HE.out.keep hb3); clear hb3 c0 c1 d0 d1; obtain ⟨c0, c1⟩ := HX.out.two; obtain ⟨d0, d1⟩ := HY.out.two; obtain ⟨p0, p1⟩ := HD.out.two; have f0 := HD.out.free 0))
      go_ret
      exact ⟨rfl, HB.out⟩
    have gc := curB_iff.1 hc
    have gr := gc.2.1; have gh := gc.2.2; clear gc
    go_upto_region 6 with (first | (go_at_call 8; refine (cur_any _ _ _ _).mono ?_; rintro e w3 ⟨rfl, hb3⟩; have HB := Lib.hid (bk_next HN.out HB.out hb3); have HX := Lib.hid (HX.out.keep hb3); have HY := Lib.hid (HY.out.keep hb3); have HD := Lib.hid (HD.out.keep hb3); have HE := Lib.hid (HE.out.keep hb3); clear hb3 c0 c1 d0 d1; obtain ⟨c0, c1⟩ := HX.out.two; obtain ⟨d0, d1⟩ := HY.out.two; obtain ⟨p0, p1⟩ := HD.out.two; have f0 := HD.out.free 0))
    go_upto_region 7 with (fail)
    obtain ⟨w4, hw4⟩ : ∃ w4, w4 = w3.setCell ⟨M + 1, 0, none⟩ (.int .i64 (r + a)) := ⟨_, rfl⟩
    have HB := Lib.hid (show Below N w w4 by rw [hw4]; exact HB.out.setCell (by have := HY.out.lt; simp; omega) _)
    have HX := Lib.hid (show Bk w4 N #[.int .i64 r, .int .i64 h] 23 by rw [hw4]; exact bk_other HX.out _ _ (by omega))
    have HY := Lib.hid (show Bk w4 (N + 1) #[.int .i64 a, .int .i64 b] 39 by rw [hw4]; exact bk_other HY.out _ _ (by omega))
    have HD := Lib.hid (show Bk w4 (M + 1) #[.int .i64 (r + a), .int .i64 h] 23 by rw [hw4]; exact bk_set HD.out 0 _)
    have HE := Lib.hid (show Bk w4 (M) #[.int .i64 r, .int .i64 h] 23 by rw [hw4]; exact bk_other HE.out _ _ (by omega))
    rw [← hw4]
    clear hw4 c0 c1 d0 d1 p0 p1 f0
    obtain ⟨d0, d1⟩ := HY.out.two; obtain ⟨p0, p1⟩ := HE.out.two; have f1 := HE.out.free 1
    go_upto_region 8 with (fail)
    obtain ⟨w5, hw5⟩ : ∃ w5, w5 = w4.setCell ⟨M, 1, none⟩ (.int .i64 (h + b)) := ⟨_, rfl⟩
    have HB := Lib.hid (show Below N w w5 by rw [hw5]; exact HB.out.setCell (by have := HY.out.lt; simp; omega) _)
    have HX := Lib.hid (show Bk w5 N #[.int .i64 r, .int .i64 h] 23 by rw [hw5]; exact bk_other HX.out _ _ (by omega))
    have HD := Lib.hid (show Bk w5 (M + 1) #[.int .i64 (r + a), .int .i64 h] 23 by rw [hw5]; exact bk_other HD.out _ _ (by omega))
    have HE := Lib.hid (show Bk w5 (M) #[.int .i64 r, .int .i64 (h + b)] 23 by rw [hw5]; exact bk_set HE.out 1 _)
    rw [← hw5]
    clear hw5 d0 d1 p0 p1 f1
    obtain ⟨c0, c1⟩ := HX.out.two
    go_upto_region 9 with ((go_at_call 18; (with_reducible refine (cx _).mono ?_); rintro e w6 ⟨rfl, hb6⟩; have HB := Lib.hid (bk_next HN.out HB.out hb6); have HD := Lib.hid (HD.out.keep hb6); have HE := Lib.hid (HE.out.keep hb6); obtain ⟨c0, c1⟩ := HD.out.two; clear hb6))
    go_upto_region 10 with ((go_at_call 18; (with_reducible refine (cy _).mono ?_); rintro e w6 ⟨rfl, hb6⟩; have HB := Lib.hid (bk_next HN.out HB.out hb6); have HE := Lib.hid (HE.out.keep hb6); obtain ⟨c0, c1⟩ := HE.out.two; clear hb6))
    go_upto_region 11 with ((go_at_call 18; (with_reducible refine (cz _).mono ?_); rintro e w6 ⟨rfl, hb6⟩; have HB := Lib.hid (bk_next HN.out HB.out hb6);  clear hb6))
    have SR0 := SR (by omega); have SH0 := SH (by omega)
    clear c0 c1 gr gh h0 h1 h2 h3 hDE hNM SR SH
    by_cases he : e0 = 0
    · subst he
      by_cases hf : f0' = 0
      · subst hf
        by_cases hm : 0 ≤ m
        · have o1 : decide (0 ≤ m) = true := decide_eq_true hm
          have o2 : decide (y < x) = false := decide_eq_false (by have := ((SR0).out rfl rfl).1 hm; omega)
          have o3 : decide (m < 0) = false := decide_eq_false (by omega)
          clear hm
          by_cases hg : g0 = 0
          · subst hg
            have o5 : decide (z ≤ x) = true := decide_eq_true ((SH0).out rfl rfl)
            go_wp2_with (fail)
            go_ret
            exact ⟨rfl, HB.out⟩
          · have t3 : (g0 != 0) = true := by rw [bne_iff_ne]; exact hg
            clear hg
            go_wp2_with (fail)
            go_ret
            exact ⟨rfl, HB.out⟩
        · have o1 : decide (0 ≤ m) = false := decide_eq_false hm
          have o2 : decide (x < y) = false := decide_eq_false (by have := ((SR0).out rfl rfl).2 (by omega); omega)
          have o3 : decide (m < 0) = true := decide_eq_true (by omega)
          clear hm
          by_cases hg : g0 = 0
          · subst hg
            have o5 : decide (z ≤ x) = true := decide_eq_true ((SH0).out rfl rfl)
            go_wp2_with (fail)
            go_ret
            exact ⟨rfl, HB.out⟩
          · have t3 : (g0 != 0) = true := by rw [bne_iff_ne]; exact hg
            clear hg
            go_wp2_with (fail)
            go_ret
            exact ⟨rfl, HB.out⟩
      · have t2 : (f0' == 0) = false := by rw [beq_eq_false_iff_ne]; exact hf
        clear hf
        by_cases hg : g0 = 0
        · subst hg
          have o5 : decide (z ≤ x) = true := decide_eq_true ((SH0).out rfl rfl)
          go_wp2_with (fail)
          go_ret
          exact ⟨rfl, HB.out⟩
        · have t3 : (g0 != 0) = true := by rw [bne_iff_ne]; exact hg
          clear hg
          go_wp2_with (fail)
          go_ret
          exact ⟨rfl, HB.out⟩
    · have t1 : (e0 != 0) = true := by rw [bne_iff_ne]; exact he
      clear he
      go_wp2_with (fail)
      go_ret
      exact ⟨rfl, HB.out⟩

theorem three_boxes (w : World) (cs ds es : Array Value) (T U V : TypeId) : Bk (((w.alloc (.cells cs T)).alloc (.cells ds U)).alloc (.cells es V)) w.heap.size cs T ∧ Bk (((w.alloc (.cells cs T)).alloc (.cells ds U)).alloc (.cells es V)) (w.heap.size + 1) ds U ∧ Bk (((w.alloc (.cells cs T)).alloc (.cells ds U)).alloc (.cells es V)) (w.heap.size + 1 + 1) es V ∧ Below w.heap.size w (((w.alloc (.cells cs T)).alloc (.cells ds U)).alloc (.cells es V)) := by
  obtain ⟨h1, h2, h3⟩ := two_boxes w cs ds T U
  refine ⟨h1.more _, h2.more _, ?_, h3.alloc h3.size _⟩
  have := Bk.new ((w.alloc (.cells cs T)).alloc (.cells ds U)) es V
  rwa [World.size_alloc, World.size_alloc] at this
set_option maxRecDepth 100000 in
set_option maxHeartbeats 4000000 in
theorem things_walk (r h : Int) (u : Un) (i : Ins) (w : World) (hu : u.name.size ≤ 9223372036854775807) :
    Calls Try.prog 3 #[.agg #[.int .i64 r, .int .i64 h], .agg #[.string u.name, .int .i64 u.cur, .int .i64 u.price, .int .i64 u.vol], .agg #[.int .i64 i.kind, .int .i64 i.under, .int .i64 i.mult, .int .i64 i.strike, .int .i64 i.expiry, .bool i.call, .int .i64 i.mark]] w fun e w' => e = .returned (.bool true) ∧ Below w.heap.size w w' := by
  obtain ⟨x0, y0, z0, b0⟩ := three_boxes w #[.int .i64 r, .int .i64 h] #[.string u.name, .int .i64 u.cur, .int .i64 u.price, .int .i64 u.vol] #[.int .i64 i.kind, .int .i64 i.under, .int .i64 i.mult, .int .i64 i.strike, .int .i64 i.expiry, .bool i.call, .int .i64 i.mark] 23 25 27
  obtain ⟨N, hN⟩ : ∃ N, N = w.heap.size := ⟨_, rfl⟩
  obtain ⟨w0, hw0⟩ : ∃ w0, w0 = ((w.alloc (.cells #[.int .i64 r, .int .i64 h] 23)).alloc (.cells #[.string u.name, .int .i64 u.cur, .int .i64 u.price, .int .i64 u.vol] 25)).alloc (.cells #[.int .i64 i.kind, .int .i64 i.under, .int .i64 i.mult, .int .i64 i.strike, .int .i64 i.expiry, .bool i.call, .int .i64 i.mark] 27) := ⟨_, rfl⟩
  rw [← hw0] at x0 y0 z0 b0
  rw [← hN] at x0 y0 z0 b0
  have HN := Lib.hid hN; have HW0 := Lib.hid hw0; have HB := Lib.hid b0; have HX := Lib.hid x0; have HY := Lib.hid y0; have HZ := Lib.hid z0
  clear hN hw0 b0 x0 y0 z0
  go_enter Try.func3, Try.ntmps3
  rw [← HN.out]
  go_upto_region 3 with (fail)
  rw [← HN.out, ← HW0.out]
  clear HW0
  go_wp2_with ((go_at_call 7; refine (wakes_any _).mono ?_; rintro e w1 ⟨rfl, hb1⟩; have HB := Lib.hid (bk_next HN.out HB.out hb1); have HX := Lib.hid (HX.out.keep hb1); have HY := Lib.hid (HY.out.keep hb1); have HZ := Lib.hid (HZ.out.keep hb1); clear hb1))
  go_loopg [7] 7 (fun m v wr => ∃ k : Int, k + (m : Int) = 6 ∧ -1 ≤ k ∧ v = .int .i64 k ∧ Hid (Below N w wr) ∧ Hid (Bk wr N #[.int .i64 r, .int .i64 h] 23) ∧ Hid (Bk wr (N + 1) #[.string u.name, .int .i64 u.cur, .int .i64 u.price, .int .i64 u.vol] 25) ∧ Hid (Bk wr (N + 1 + 1) #[.int .i64 i.kind, .int .i64 i.under, .int .i64 i.mult, .int .i64 i.strike, .int .i64 i.expiry, .bool i.call, .int .i64 i.mark] 27))
  case atStart => exact ⟨-1, by omega, by omega, rfl, HB, HX, HY, HZ⟩
  case round =>
    clear HB HX HY HZ
    obtain ⟨k, hkm, hk1, rfl, HB, HX, HY, HZ⟩ := hrel
    have HT := Lib.hid hu
    by_cases hk : k ≤ 5
    · obtain ⟨m, rfl⟩ : ∃ m, gk = m + 1 := ⟨gk - 1, by omega⟩
      obtain ⟨B1, hB1⟩ : ∃ B, curB r h k = B := ⟨_, rfl⟩
      obtain ⟨B2, hB2⟩ : ∃ B, underB u k = B := ⟨_, rfl⟩
      obtain ⟨B3, hB3⟩ : ∃ B, instrB i k = B := ⟨_, rfl⟩
      have H1 : Hid (∀ wx, Below wr.heap.size wr wx → Calls Try.prog 8 #[.agg #[.int .i64 r, .int .i64 h], .int .i64 k] wx fun e w' => e = .returned (.bool B1) ∧ Below wr.heap.size wr w') := Lib.hid fun wx hb => (cur_any r h k wx).mono fun e w' ⟨h1, h2⟩ => ⟨by rw [h1, hB1], hb.trans (h2.mono hb.size)⟩
      have H2 : Hid (∀ wx, Below wr.heap.size wr wx → Calls Try.prog 9 #[.agg #[.int .i64 r, .int .i64 h], .int .i64 k] wx fun e w' => e = .returned (.bool B1) ∧ Below wr.heap.size wr w') := Lib.hid fun wx hb => (rcur_any r h k wx).mono fun e w' ⟨h1, h2⟩ => ⟨by rw [h1, hB1], hb.trans (h2.mono hb.size)⟩
      have H3 : Hid (∀ wx, Below wr.heap.size wr wx → Calls Try.prog 10 #[.agg #[.string u.name, .int .i64 u.cur, .int .i64 u.price, .int .i64 u.vol], .int .i64 k] wx fun e w' => e = .returned (.bool B2) ∧ Below wr.heap.size wr w') := Lib.hid fun wx hb => (under_any u k wx hu).mono fun e w' ⟨h1, h2⟩ => ⟨by rw [h1, hB2], hb.trans (h2.mono hb.size)⟩
      have H4 : Hid (∀ wx, Below wr.heap.size wr wx → Calls Try.prog 11 #[.agg #[.string u.name, .int .i64 u.cur, .int .i64 u.price, .int .i64 u.vol], .int .i64 k] wx fun e w' => e = .returned (.bool B2) ∧ Below wr.heap.size wr w') := Lib.hid fun wx hb => (runder_any u k wx hu).mono fun e w' ⟨h1, h2⟩ => ⟨by rw [h1, hB2], hb.trans (h2.mono hb.size)⟩
      have H5 : Hid (∀ wx, Below wr.heap.size wr wx → Calls Try.prog 12 #[.agg #[.int .i64 i.kind, .int .i64 i.under, .int .i64 i.mult, .int .i64 i.strike, .int .i64 i.expiry, .bool i.call, .int .i64 i.mark], .int .i64 k] wx fun e w' => e = .returned (.bool B3) ∧ Below wr.heap.size wr w') := Lib.hid fun wx hb => (instr_any i k wx).mono fun e w' ⟨h1, h2⟩ => ⟨by rw [h1, hB3], hb.trans (h2.mono hb.size)⟩
      have H6 : Hid (∀ wx, Below wr.heap.size wr wx → Calls Try.prog 13 #[.agg #[.int .i64 i.kind, .int .i64 i.under, .int .i64 i.mult, .int .i64 i.strike, .int .i64 i.expiry, .bool i.call, .int .i64 i.mark], .int .i64 k] wx fun e w' => e = .returned (.bool B3) ∧ Below wr.heap.size wr w') := Lib.hid fun wx hb => (rinstr_any i k wx).mono fun e w' ⟨h1, h2⟩ => ⟨by rw [h1, hB3], hb.trans (h2.mono hb.size)⟩
      clear hB1 hB2 hB3
      have KS : Hid (∀ wx, Below wr.heap.size wr wx → Below wr.heap.size wr wx ∧ (wx.cell? ⟨N, 0, none⟩ = some (.int .i64 r) ∧ wx.cell? ⟨N, 1, none⟩ = some (.int .i64 h)) ∧ (wx.cell? ⟨N + 1, 0, none⟩ = some (.string u.name) ∧ wx.cell? ⟨N + 1, 1, none⟩ = some (.int .i64 u.cur) ∧ wx.cell? ⟨N + 1, 2, none⟩ = some (.int .i64 u.price) ∧ wx.cell? ⟨N + 1, 3, none⟩ = some (.int .i64 u.vol)) ∧ (wx.cell? ⟨N + 1 + 1, 0, none⟩ = some (.int .i64 i.kind) ∧ wx.cell? ⟨N + 1 + 1, 1, none⟩ = some (.int .i64 i.under) ∧ wx.cell? ⟨N + 1 + 1, 2, none⟩ = some (.int .i64 i.mult) ∧ wx.cell? ⟨N + 1 + 1, 3, none⟩ = some (.int .i64 i.strike) ∧ wx.cell? ⟨N + 1 + 1, 4, none⟩ = some (.int .i64 i.expiry) ∧ wx.cell? ⟨N + 1 + 1, 5, none⟩ = some (.bool i.call) ∧ wx.cell? ⟨N + 1 + 1, 6, none⟩ = some (.int .i64 i.mark))) := Lib.hid fun wx hb => ⟨hb, (HX.out.keep hb).two, (HY.out.keep hb).four, (HZ.out.keep hb).seven⟩
      have q1 : (B1 != B1) = false := bne_self_eq_false _
      have q2 : (B2 != B2) = false := bne_self_eq_false _
      have q3 : (B3 != B3) = false := bne_self_eq_false _
      go_upto_region 6 with (fail)
      go_region_held3 (fun wx => Below wr.heap.size wr wx ∧ (wx.cell? ⟨N, 0, none⟩ = some (.int .i64 r) ∧ wx.cell? ⟨N, 1, none⟩ = some (.int .i64 h)) ∧ (wx.cell? ⟨N + 1, 0, none⟩ = some (.string u.name) ∧ wx.cell? ⟨N + 1, 1, none⟩ = some (.int .i64 u.cur) ∧ wx.cell? ⟨N + 1, 2, none⟩ = some (.int .i64 u.price) ∧ wx.cell? ⟨N + 1, 3, none⟩ = some (.int .i64 u.vol)) ∧ (wx.cell? ⟨N + 1 + 1, 0, none⟩ = some (.int .i64 i.kind) ∧ wx.cell? ⟨N + 1 + 1, 1, none⟩ = some (.int .i64 i.under) ∧ wx.cell? ⟨N + 1 + 1, 2, none⟩ = some (.int .i64 i.mult) ∧ wx.cell? ⟨N + 1 + 1, 3, none⟩ = some (.int .i64 i.strike) ∧ wx.cell? ⟨N + 1 + 1, 4, none⟩ = some (.int .i64 i.expiry) ∧ wx.cell? ⟨N + 1 + 1, 5, none⟩ = some (.bool i.call) ∧ wx.cell? ⟨N + 1 + 1, 6, none⟩ = some (.int .i64 i.mark)))
        (first | exact KS.out _ (Below.drew (Below.refl _ _)) | exact KS.out _ (Below.refl _ _) | exact KS.out _ (by assumption))
        (first | (go_split_ands; go_at_call 8; (with_reducible refine (H1.out _ (by first | assumption | exact Below.drew (Below.refl _ _))).mono ?_); rintro e v1 ⟨rfl, hv1⟩) | (go_split_ands; go_at_call 9; (with_reducible refine (H2.out _ (by first | assumption | exact Below.drew (Below.refl _ _))).mono ?_); rintro e v2 ⟨rfl, hv2⟩) | (go_split_ands; go_at_call 10; (with_reducible refine (H3.out _ (by first | assumption | exact Below.drew (Below.refl _ _))).mono ?_); rintro e v3 ⟨rfl, hv3⟩) | (go_split_ands; go_at_call 11; (with_reducible refine (H4.out _ (by first | assumption | exact Below.drew (Below.refl _ _))).mono ?_); rintro e v4 ⟨rfl, hv4⟩) | (go_split_ands; go_at_call 12; (with_reducible refine (H5.out _ (by first | assumption | exact Below.drew (Below.refl _ _))).mono ?_); rintro e v5 ⟨rfl, hv5⟩) | (go_split_ands; go_at_call 13; (with_reducible refine (H6.out _ (by first | assumption | exact Below.drew (Below.refl _ _))).mono ?_); rintro e v6 ⟨rfl, hv6⟩))
      go_wp2
      go_roundg m
      case measure => omega
      case rel => exact ⟨k + 1, by omega, by omega, rfl, Lib.hid (bk_next HN.out HB.out hv6), Lib.hid (HX.out.keep hv6), Lib.hid (HY.out.keep hv6), Lib.hid (HZ.out.keep hv6)⟩
    · clear hkm hk1
      obtain ⟨B1, hB1⟩ : ∃ B, nameB u.name = B := ⟨_, rfl⟩
      have H1 : Hid (∀ wx, Below wr.heap.size wr wx → Calls Try.prog 14 #[.string u.name] wx fun e w' => e = .returned (.bool B1) ∧ Below wr.heap.size wr w') := Lib.hid fun wx hb => (name_any u.name wx hu).mono fun e w' ⟨h1, h2⟩ => ⟨by rw [h1, hB1], hb.trans (h2.mono hb.size)⟩
      have H2 : Hid (∀ wx, Below wr.heap.size wr wx → Calls Try.prog 15 #[.string u.name] wx fun e w' => e = .returned (.bool B1) ∧ Below wr.heap.size wr w') := Lib.hid fun wx hb => (rname_any u.name wx hu).mono fun e w' ⟨h1, h2⟩ => ⟨by rw [h1, hB1], h2 ▸ hb⟩
      clear hB1
      have KS : Hid (∀ wx, Below wr.heap.size wr wx → Below wr.heap.size wr wx ∧ wx.cell? ⟨N + 1, 0, none⟩ = some (.string u.name)) := Lib.hid fun wx hb => ⟨hb, (HY.out.keep hb).four.1⟩
      go_upto_region 8 with (fail)
      go_region_held3 (fun wx => Below wr.heap.size wr wx ∧ wx.cell? ⟨N + 1, 0, none⟩ = some (.string u.name))
        (first | exact KS.out _ (Below.drew (Below.refl _ _)) | exact KS.out _ (Below.refl _ _) | exact KS.out _ (by assumption))
        (first | (go_split_ands; go_at_call 14; (with_reducible refine (H1.out _ (by first | assumption | exact Below.drew (Below.refl _ _))).mono ?_); rintro e v1 ⟨rfl, hv1⟩) | (go_split_ands; go_at_call 15; (with_reducible refine (H2.out _ (by first | assumption | exact Below.drew (Below.refl _ _))).mono ?_); rintro e v2 ⟨rfl, hv2⟩))
      go_wp2
      go_ret
      exact ⟨rfl, bk_next HN.out HB.out hv2⟩

end Go.Proofs.Ytklmknbbdhngbaa.Rd

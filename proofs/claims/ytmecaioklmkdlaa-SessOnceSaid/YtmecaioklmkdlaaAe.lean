/-
  Layer 8: the program's Valid, Left.
-/
import Derived.Test.YtmecaioklmkdlaaAd
namespace Go.Proofs.Ytmecaioklmkdlaa.Ss
open Go.RowKit
set_option linter.unusedVariables false
set_option linter.unusedSimpArgs false

theorem em_list {b : ByteArray} (h : b = em) : b.toList = [] := by subst h; rw [ByteArray.toList_eq]
theorem ne_list {b : ByteArray} (h : b ≠ em) : b.toList ≠ [] := by
  intro e
  apply h
  rw [ByteArray.toList_eq] at e
  exact ByteArray.ext (by simpa using e)
theorem em_beq {b : ByteArray} (h : b = em) : (b.toList == []) = true := by rw [em_list h]; rfl
theorem ne_beq {b : ByteArray} (h : b ≠ em) : (b.toList == []) = false := by rw [beq_eq_false_iff_ne]; exact ne_list h
theorem em_isE {b : ByteArray} (h : b = em) : b.toList.isEmpty = true := by rw [em_list h]; rfl
theorem ne_isE {b : ByteArray} (h : b ≠ em) : b.toList.isEmpty = false := by
  cases hb : b.toList with
  | nil => exact absurd hb (ne_list h)
  | cons x l => rfl

section
variable {kd n t : Int} {b : ByteArray}
theorem v_no (h : ¬ ((0 ≤ n ∧ n ≤ 1099511627776) ∧ (0 ≤ t ∧ t ≤ 1099511627776) ∧ ((kd = 1 ∧ 1 ≤ n ∧ msgB b = true) ∨ (kd = 2 ∧ 1 ≤ n ∧ b = em) ∨ (kd = 3 ∧ b = em)))) : validB ⟨kd, n, t, b⟩ = false := by
  rw [Bool.eq_false_iff]; intro h1; exact h (validB_iff.1 h1)
end
theorem cntB_no {n m : Int} (h : cntB n m = false) : ¬ (0 ≤ n ∧ n ≤ m) := fun h1 => by rw [cntB_iff.2 h1] at h; cases h
set_option maxRecDepth 100000 in
set_option maxHeartbeats 2000000 in
theorem valid_any (kd n t : Int) (b : ByteArray) (w : World) :
    Calls Try.prog 20 #[.agg #[.int .i64 kd, .int .i64 n, .int .i64 t, .string b]] w (Tells (validB ⟨kd, n, t, b⟩) w) := by
  unfold Tells
  have hal : Below w.heap.size w (w.alloc (.cells #[.int .i64 kd, .int .i64 n, .int .i64 t, .string b] 27)) := (Below.refl _ _).alloc (Nat.le_refl _) _
  have HAL := Lib.hid hal; clear hal
  cases h1 : cntB n 1099511627776 with
  | false =>
    have e : validB ⟨kd, n, t, b⟩ = false := v_no fun h => cntB_no h1 h.1
    rw [e]; clear e
    have hf := fun w => counts_any n 1099511627776 w
    rw [h1] at hf
    clear h1
    go_enter Try.func20, Try.ntmps20
    go_wp2_with (first | (go_at_call 26; (with_reducible refine (hf _).mono ?_); rintro e w' ⟨rfl, rfl⟩))
    go_ret
    exact ⟨rfl, HAL.out⟩
  | true =>
  cases h2 : cntB t 1099511627776 with
  | false =>
    have e : validB ⟨kd, n, t, b⟩ = false := v_no fun h => cntB_no h2 h.2.1
    rw [e]; clear e
    have hf := fun w => counts_any n 1099511627776 w
    rw [h1] at hf
    have hf2 := fun w => counts_any t 1099511627776 w
    rw [h2] at hf2
    clear h1 h2
    go_enter Try.func20, Try.ntmps20
    go_wp2_with (first | (go_at_call 26; (with_reducible refine (hf _).mono ?_); rintro e w' ⟨rfl, rfl⟩) | (go_at_call 26; (with_reducible refine (hf2 _).mono ?_); rintro e w' ⟨rfl, rfl⟩))
    go_ret
    exact ⟨rfl, HAL.out⟩
  | true =>
  have g1 := cntB_iff.1 h1
  have g2 := cntB_iff.1 h2
  by_cases k1 : kd = 1
  · subst k1
    by_cases h3 : 1 ≤ n
    · have d3 : decide ((1 : Int) ≤ n) = true := by rw [decide_eq_true_eq]; exact h3
      cases h4 : msgB b with
      | false =>
        have e : validB ⟨1, n, t, b⟩ = false := v_no fun h => by rcases h.2.2 with h | h | h <;> first | omega | (have := h.2.2; rw [h4] at this; cases this)
        rw [e]; clear e
        have hf := fun w => counts_any n 1099511627776 w
        rw [h1] at hf
        have hf2 := fun w => counts_any t 1099511627776 w
        rw [h2] at hf2
        have hf3 := fun w => fits_any b w
        rw [h4] at hf3
        clear h1 h2 h4 g1 g2 h3
        go_enter Try.func20, Try.ntmps20
        go_wp2_with (first | (go_at_call 26; (with_reducible refine (hf _).mono ?_); rintro e w' ⟨rfl, rfl⟩) | (go_at_call 26; (with_reducible refine (hf2 _).mono ?_); rintro e w' ⟨rfl, rfl⟩) | (go_at_call 22; (with_reducible refine (hf3 _).mono ?_); rintro e w' ⟨rfl, rfl⟩))
        go_ret
        exact ⟨rfl, HAL.out⟩
      | true =>
        have e : validB ⟨1, n, t, b⟩ = true := validB_iff.2 ⟨g1, g2, .inl ⟨rfl, h3, h4⟩⟩
        rw [e]; clear e
        have hf := fun w => counts_any n 1099511627776 w
        rw [h1] at hf
        have hf2 := fun w => counts_any t 1099511627776 w
        rw [h2] at hf2
        have hf3 := fun w => fits_any b w
        rw [h4] at hf3
        clear h1 h2 h4 g1 g2 h3
        go_enter Try.func20, Try.ntmps20
        go_wp2_with (first | (go_at_call 26; (with_reducible refine (hf _).mono ?_); rintro e w' ⟨rfl, rfl⟩) | (go_at_call 26; (with_reducible refine (hf2 _).mono ?_); rintro e w' ⟨rfl, rfl⟩) | (go_at_call 22; (with_reducible refine (hf3 _).mono ?_); rintro e w' ⟨rfl, rfl⟩))
        go_ret
        exact ⟨rfl, HAL.out⟩
    · have d3 : decide ((1 : Int) ≤ n) = false := by rw [decide_eq_false_iff_not]; exact h3
      have e : validB ⟨1, n, t, b⟩ = false := v_no fun h => by rcases h.2.2 with h | h | h <;> omega
      rw [e]; clear e
      have hf := fun w => counts_any n 1099511627776 w
      rw [h1] at hf
      have hf2 := fun w => counts_any t 1099511627776 w
      rw [h2] at hf2
      clear h1 h2 g1 g2 h3
      go_enter Try.func20, Try.ntmps20
      go_wp2_with (first | (go_at_call 26; (with_reducible refine (hf _).mono ?_); rintro e w' ⟨rfl, rfl⟩) | (go_at_call 26; (with_reducible refine (hf2 _).mono ?_); rintro e w' ⟨rfl, rfl⟩))
      go_ret
      exact ⟨rfl, HAL.out⟩
  have n1 : (kd == 1) = false := by rw [beq_eq_false_iff_ne]; exact k1
  by_cases k2 : kd = 2
  · subst k2
    by_cases h3 : 1 ≤ n
    · have d3 : decide ((1 : Int) ≤ n) = true := by rw [decide_eq_true_eq]; exact h3
      by_cases h4 : b = em
      · have q1 := em_list h4; have q2 := em_beq h4
        have e : validB ⟨2, n, t, b⟩ = true := validB_iff.2 ⟨g1, g2, .inr (.inl ⟨rfl, h3, h4⟩)⟩
        rw [e]; clear e
        have hf := fun w => counts_any n 1099511627776 w
        rw [h1] at hf
        have hf2 := fun w => counts_any t 1099511627776 w
        rw [h2] at hf2
        clear h1 h2 h4 g1 g2 h3 n1 k1
        go_enter Try.func20, Try.ntmps20
        go_wp2_with (first | (go_at_call 26; (with_reducible refine (hf _).mono ?_); rintro e w' ⟨rfl, rfl⟩) | (go_at_call 26; (with_reducible refine (hf2 _).mono ?_); rintro e w' ⟨rfl, rfl⟩))
        go_ret
        exact ⟨rfl, HAL.out⟩
      · have q1 := ne_beq h4; have q2 := ne_isE h4
        have e : validB ⟨2, n, t, b⟩ = false := v_no fun h => by rcases h.2.2 with h | h | h <;> first | omega | exact h4 h.2.2
        rw [e]; clear e
        have hf := fun w => counts_any n 1099511627776 w
        rw [h1] at hf
        have hf2 := fun w => counts_any t 1099511627776 w
        rw [h2] at hf2
        clear h1 h2 h4 g1 g2 h3 n1 k1
        go_enter Try.func20, Try.ntmps20
        go_wp2_with (first | (go_at_call 26; (with_reducible refine (hf _).mono ?_); rintro e w' ⟨rfl, rfl⟩) | (go_at_call 26; (with_reducible refine (hf2 _).mono ?_); rintro e w' ⟨rfl, rfl⟩))
        go_ret
        exact ⟨rfl, HAL.out⟩
    · have d3 : decide ((1 : Int) ≤ n) = false := by rw [decide_eq_false_iff_not]; exact h3
      have e : validB ⟨2, n, t, b⟩ = false := v_no fun h => by rcases h.2.2 with h | h | h <;> omega
      rw [e]; clear e
      have hf := fun w => counts_any n 1099511627776 w
      rw [h1] at hf
      have hf2 := fun w => counts_any t 1099511627776 w
      rw [h2] at hf2
      clear h1 h2 g1 g2 h3 n1 k1
      go_enter Try.func20, Try.ntmps20
      go_wp2_with (first | (go_at_call 26; (with_reducible refine (hf _).mono ?_); rintro e w' ⟨rfl, rfl⟩) | (go_at_call 26; (with_reducible refine (hf2 _).mono ?_); rintro e w' ⟨rfl, rfl⟩))
      go_ret
      exact ⟨rfl, HAL.out⟩
  have n2 : (kd == 2) = false := by rw [beq_eq_false_iff_ne]; exact k2
  by_cases k3 : kd = 3
  · subst k3
    by_cases h4 : b = em
    · have q1 := em_list h4; have q2 := em_beq h4
      have e : validB ⟨3, n, t, b⟩ = true := validB_iff.2 ⟨g1, g2, .inr (.inr ⟨rfl, h4⟩)⟩
      rw [e]; clear e
      have hf := fun w => counts_any n 1099511627776 w
      rw [h1] at hf
      have hf2 := fun w => counts_any t 1099511627776 w
      rw [h2] at hf2
      clear h1 h2 h4 g1 g2 n1 n2 k1 k2
      go_enter Try.func20, Try.ntmps20
      go_wp2_with (first | (go_at_call 26; (with_reducible refine (hf _).mono ?_); rintro e w' ⟨rfl, rfl⟩) | (go_at_call 26; (with_reducible refine (hf2 _).mono ?_); rintro e w' ⟨rfl, rfl⟩))
      go_ret
      exact ⟨rfl, HAL.out⟩
    · have q1 := ne_beq h4; have q2 := ne_isE h4
      have e : validB ⟨3, n, t, b⟩ = false := v_no fun h => by rcases h.2.2 with h | h | h <;> first | omega | exact h4 h.2
      rw [e]; clear e
      have hf := fun w => counts_any n 1099511627776 w
      rw [h1] at hf
      have hf2 := fun w => counts_any t 1099511627776 w
      rw [h2] at hf2
      clear h1 h2 h4 g1 g2 n1 n2 k1 k2
      go_enter Try.func20, Try.ntmps20
      go_wp2_with (first | (go_at_call 26; (with_reducible refine (hf _).mono ?_); rintro e w' ⟨rfl, rfl⟩) | (go_at_call 26; (with_reducible refine (hf2 _).mono ?_); rintro e w' ⟨rfl, rfl⟩))
      go_ret
      exact ⟨rfl, HAL.out⟩
  have n3 : (kd == 3) = false := by rw [beq_eq_false_iff_ne]; exact k3
  have e : validB ⟨kd, n, t, b⟩ = false := v_no fun h => by rcases h.2.2 with h | h | h <;> omega
  rw [e]; clear e
  have hf := fun w => counts_any n 1099511627776 w
  rw [h1] at hf
  have hf2 := fun w => counts_any t 1099511627776 w
  rw [h2] at hf2
  clear h1 h2 g1 g2 k1 k2 k3
  go_enter Try.func20, Try.ntmps20
  go_wp2_with (first | (go_at_call 26; (with_reducible refine (hf _).mono ?_); rintro e w' ⟨rfl, rfl⟩) | (go_at_call 26; (with_reducible refine (hf2 _).mono ?_); rintro e w' ⟨rfl, rfl⟩))
  go_ret
  exact ⟨rfl, HAL.out⟩

/-- One box, its cells by name. -/
theorem agg_cells {w : World} {g : Nat} {a b c : Value} {T : TypeId} (h : Blk w g #[a, b, c] T) : w.cell? ⟨g, 0, none⟩ = some a ∧ w.cell? ⟨g, 1, none⟩ = some b ∧ w.cell? ⟨g, 2, none⟩ = some c := ⟨h.cell 0, h.cell 1, h.cell 2⟩
def SideIt (base : Nat) (s : Sd) (w : World) (e : Ending) (w' : World) : Prop := ∃ v, e = .returned (.agg #[v, .int .i64 s.t, .int .i64 s.k]) ∧ OwnS w' base v s.S ∧ Below w.heap.size w w'
set_option maxRecDepth 100000 in
set_option maxHeartbeats 2000000 in
theorem left_any (a : Option Addr) (len cap : Nat) (s : Sd) (w : World) (hS : HasS w a s.S) (hl : s.S.length = len) :
    Calls Try.prog 16 #[.agg #[.slice a len cap, .int .i64 s.t, .int .i64 s.k]] w fun e w' => e = .returned (.int .i64 (leftS s)) ∧ Below w.heap.size w w' := by
  have hg := fun w h => good_any a len cap s w h hl
  have hbd : goodB s = true → 0 ≤ s.k ∧ s.k ≤ 256 ∧ len ≤ 256 := fun h => by have := goodB_iff.1 h; rw [hl] at this; omega
  unfold Tells at hg
  unfold leftS
  rw [hl]
  have HS := Lib.hid hS; clear hS hl
  obtain ⟨S, t, k⟩ := s
  simp only at HS hg hbd ⊢
  have hbx := box_new w #[.slice a len cap, .int .i64 t, .int .i64 k] 24
  obtain ⟨w0, hw0⟩ : ∃ w0, w0 = w.alloc (.cells #[.slice a len cap, .int .i64 t, .int .i64 k] 24) := ⟨_, rfl⟩
  rw [← hw0] at hbx
  have HB := Lib.hid hbx.2; have HX := Lib.hid hbx.1
  have HS0 := Lib.hid (HS.out.keep HB.out)
  have HW0 := Lib.hid hw0; clear hw0 hbx
  obtain ⟨c0, c1, c2⟩ := agg_cells HX.out
  cases hq : goodB ⟨S, t, k⟩ with
  | false =>
    rw [hq] at hg
    rw [if_pos rfl]
    clear hbd hq
    go_enter Try.func16, Try.ntmps16
    go_wp2_with fail
    rw [← HW0.out]
    go_wp2_with (go_at_call 13; (with_reducible refine (hg _ HS0.out).mono ?_); rintro e w1 ⟨rfl, hb1⟩; have HB1 := Lib.hid (HB.out.trans (hb1.mono HB.out.size)); clear hb1)
    go_ret
    exact ⟨rfl, HB1.out⟩
  | true =>
    obtain ⟨q1, q2, q3⟩ := hbd hq
    rw [hq] at hg
    rw [if_neg (by simp)]
    clear hbd hq
    go_enter Try.func16, Try.ntmps16
    go_wp2_with fail
    rw [← HW0.out]
    go_wp2_with (go_at_call 13; (with_reducible refine (hg _ HS0.out).mono ?_); rintro e w1 ⟨rfl, hb1⟩; have HB1 := Lib.hid (HB.out.trans (hb1.mono HB.out.size)); clear c0 c1 c2; obtain ⟨c0, c1, c2⟩ := agg_cells (HX.out.keep hb1); clear hb1)
    go_ret
    exact ⟨rfl, HB1.out⟩
end Go.Proofs.Ytmecaioklmkdlaa.Ss

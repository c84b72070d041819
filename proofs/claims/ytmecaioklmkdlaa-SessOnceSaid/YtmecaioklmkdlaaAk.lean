/-
  Layer 8: the reference's Good, Valid.
-/
import Derived.Test.YtmecaioklmkdlaaAf
namespace Go.Proofs.Ytmecaioklmkdlaa.Ss
open Go.RowKit
set_option linter.unusedVariables false
set_option linter.unusedSimpArgs false

theorem good_not {s : Sd} (h : ¬ (s.S.length ≤ 256 ∧ (∀ m ∈ s.S, msgB m = true) ∧ (0 ≤ s.k ∧ s.k ≤ s.S.length) ∧ (0 ≤ s.t ∧ s.t ≤ 1099511627776))) : goodB s = false := by
  rw [Bool.eq_false_iff]; intro h1; exact h (goodB_iff.1 h1)
set_option maxRecDepth 100000 in
set_option maxHeartbeats 4000000 in
theorem rgood_any (a : Option Addr) (len cap : Nat) (s : Sd) (w : World) (hS : HasS w a s.S) (hl : s.S.length = len) :
    Calls Try.prog 14 #[.agg #[.slice a len cap, .int .i64 s.t, .int .i64 s.k]] w (Tells (goodB s) w) := by
  have hm := hS.1
  rw [hl] at hm
  have HS := Lib.hid hS; have HL := Lib.hid hl
  clear hS hl
  unfold Tells
  obtain ⟨S, t, k0⟩ := s
  simp only at HS HL ⊢
  have hbx := box_new w #[.slice a len cap, .int .i64 t, .int .i64 k0] 24
  obtain ⟨w0, hw0⟩ : ∃ w0, w0 = w.alloc (.cells #[.slice a len cap, .int .i64 t, .int .i64 k0] 24) := ⟨_, rfl⟩
  rw [← hw0] at hbx
  have HB := Lib.hid hbx.2; obtain ⟨c0, c1, c2⟩ := agg_cells hbx.1
  have HS0 := Lib.hid (HS.out.keep HB.out)
  have HW0 := Lib.hid hw0; clear hw0 hbx
  by_cases hb1 : 256 < len
  · have b1 : decide ((256 : Int) < (len : Int)) = true := by rw [decide_eq_true_eq]; omega
    have e : goodB ⟨S, t, k0⟩ = false := good_not fun h => by have hh := HL.out; simp only at h; omega
    rw [e]; clear e
    go_enter Try.func14, Try.ntmps14
    go_wp2_with fail
    go_ret
    exact ⟨rfl, by rw [← HW0.out]; exact HB.out⟩
  have b1 : decide ((256 : Int) < (len : Int)) = false := by rw [decide_eq_false_iff_not]; omega
  by_cases hb2 : k0 < 0
  · have b2 : decide (k0 < 0) = true := by rw [decide_eq_true_eq]; omega
    have e : goodB ⟨S, t, k0⟩ = false := good_not fun h => by have hh := HL.out; simp only at h; omega
    rw [e]; clear e
    go_enter Try.func14, Try.ntmps14
    go_wp2_with fail
    go_ret
    exact ⟨rfl, by rw [← HW0.out]; exact HB.out⟩
  have b2 : decide (k0 < 0) = false := by rw [decide_eq_false_iff_not]; omega
  by_cases hb3 : (len : Int) < k0
  · have b3 : decide ((len : Int) < k0) = true := by rw [decide_eq_true_eq]; omega
    have e : goodB ⟨S, t, k0⟩ = false := good_not fun h => by have hh := HL.out; simp only at h; omega
    rw [e]; clear e
    go_enter Try.func14, Try.ntmps14
    go_wp2_with fail
    go_ret
    exact ⟨rfl, by rw [← HW0.out]; exact HB.out⟩
  have b3 : decide ((len : Int) < k0) = false := by rw [decide_eq_false_iff_not]; omega
  by_cases hb4 : t < 0
  · have b4 : decide (t < 0) = true := by rw [decide_eq_true_eq]; omega
    have e : goodB ⟨S, t, k0⟩ = false := good_not fun h => by have hh := HL.out; simp only at h; omega
    rw [e]; clear e
    go_enter Try.func14, Try.ntmps14
    go_wp2_with fail
    go_ret
    exact ⟨rfl, by rw [← HW0.out]; exact HB.out⟩
  have b4 : decide (t < 0) = false := by rw [decide_eq_false_iff_not]; omega
  by_cases hb5 : 1099511627776 < t
  · have b5 : decide (1099511627776 < t) = true := by rw [decide_eq_true_eq]; omega
    have e : goodB ⟨S, t, k0⟩ = false := good_not fun h => by have hh := HL.out; simp only at h; omega
    rw [e]; clear e
    go_enter Try.func14, Try.ntmps14
    go_wp2_with fail
    go_ret
    exact ⟨rfl, by rw [← HW0.out]; exact HB.out⟩
  have b5 : decide (1099511627776 < t) = false := by rw [decide_eq_false_iff_not]; omega
  have HB1 := Lib.hid (show len ≤ 256 ∧ (0 ≤ k0 ∧ k0 ≤ (len : Int)) ∧ (0 ≤ t ∧ t ≤ 1099511627776) by omega)
  clear hb1 hb2 hb3 hb4 hb5
  go_enter Try.func14, Try.ntmps14
  go_wp2
  rw [← HW0.out]
  clear b1 b2 b3 b4 b5
  go_loop [35] (fun i => ∃ k : Nat, k ≤ len ∧ i = .int .i64 (k : Int) ∧ Hid (∀ j, j < k → msgB (S.getD j em) = true)) (fun i => len - (intOf i).toNat)
  case atStart => exact ⟨0, by omega, rfl, Lib.hid fun j hj => absurd hj (Nat.not_lt_zero _)⟩
  case round =>
    obtain ⟨k, hk, rfl, HA⟩ := hrel
    by_cases hlt : k < len
    · obtain ⟨bb, off, rfl, c⟩ := HS0.out.at (show k < S.length by rw [HL.out]; exact hlt)
      cases hq : msgB (S.getD k em) with
      | true =>
        have HA2 : Hid (∀ j, j < k + 1 → msgB (S.getD j em) = true) := Lib.hid fun j hj => by
          rcases Nat.lt_or_ge j k with h | h
          · exact HA.out j h
          · obtain rfl : j = k := by omega
            exact hq
        obtain ⟨q1, q2⟩ := msgB_iff.1 hq
        generalize S.getD k em = m at *
        have e1 : decide ((m.size : Int) < 1) = false := by rw [decide_eq_false_iff_not]; omega
        have e2 : decide ((4096 : Int) < (m.size : Int)) = false := by rw [decide_eq_false_iff_not]; omega
        clear hq
        go_wp2
        go_round
        case measure => simp [intOf]; omega
        case rel => exact ⟨k + 1, by omega, by go_num, HA2⟩
      | false =>
        have e : goodB ⟨S, t, k0⟩ = false := good_not fun h => by
          rw [msg_at h.2.1 (by rw [HL.out]; exact hlt)] at hq
          cases hq
        have E := Lib.hid e; clear e
        have hq' : ¬ (1 ≤ (S.getD k em).size ∧ (S.getD k em).size ≤ 4096) := fun h => by rw [msgB_iff.2 h] at hq; cases hq
        generalize S.getD k em = m at *
        clear hq
        by_cases hs : m.size < 1
        · have e1 : decide ((m.size : Int) < 1) = true := by rw [decide_eq_true_eq]; omega
          clear hq' hs
          go_wp2
          go_ret
          exact ⟨by rw [E.out] <;> rfl, HB.out⟩
        · have e1 : decide ((m.size : Int) < 1) = false := by rw [decide_eq_false_iff_not]; omega
          have e2 : decide ((4096 : Int) < (m.size : Int)) = true := by rw [decide_eq_true_eq]; omega
          clear hq' hs
          go_wp2
          go_ret
          exact ⟨by rw [E.out] <;> rfl, HB.out⟩
    · obtain rfl : k = len := by omega
      have hall : ∀ m ∈ S, msgB m = true := fun m hm' => by
        obtain ⟨j, hj, rfl⟩ := List.getElem_of_mem hm'
        have := HA.out j (by rw [HL.out] at hj; exact hj)
        simpa [List.getD, hj] using this
      have e : goodB ⟨S, t, k0⟩ = true := goodB_iff.2 ⟨by rw [HL.out]; exact HB1.out.1, hall, by simp only; rw [HL.out]; exact HB1.out.2.1, HB1.out.2.2⟩
      have E := Lib.hid e; clear e hall
      go_wp2
      go_ret
      exact ⟨by rw [E.out] <;> rfl, HB.out⟩
section
variable {kd n t : Int} {b : ByteArray}
theorem v_no2 (h : ¬ ((0 ≤ n ∧ n ≤ 1099511627776) ∧ (0 ≤ t ∧ t ≤ 1099511627776) ∧ ((kd = 1 ∧ 1 ≤ n ∧ 1 ≤ b.size ∧ b.size ≤ 4096) ∨ (kd = 2 ∧ 1 ≤ n ∧ b.size = 0) ∨ (kd = 3 ∧ b.size = 0)))) : validB ⟨kd, n, t, b⟩ = false := by
  rw [Bool.eq_false_iff]; intro h1
  obtain ⟨h2, h3, h4⟩ := validB_iff.1 h1
  refine h ⟨h2, h3, ?_⟩
  rcases h4 with ⟨h5, h6, h7⟩ | ⟨h5, h6, h7⟩ | ⟨h5, h7⟩
  · exact .inl ⟨h5, h6, msgB_iff.1 h7⟩
  · exact .inr (.inl ⟨h5, h6, by simp only at h7; rw [h7]; rfl⟩)
  · exact .inr (.inr ⟨h5, by simp only at h7; rw [h7]; rfl⟩)
theorem size_em {b : ByteArray} (h : b.size = 0) : b = em := ByteArray.ext (Array.eq_empty_of_size_eq_zero h)
theorem v_yes2 (h : (0 ≤ n ∧ n ≤ 1099511627776) ∧ (0 ≤ t ∧ t ≤ 1099511627776) ∧ ((kd = 1 ∧ 1 ≤ n ∧ 1 ≤ b.size ∧ b.size ≤ 4096) ∨ (kd = 2 ∧ 1 ≤ n ∧ b.size = 0) ∨ (kd = 3 ∧ b.size = 0))) : validB ⟨kd, n, t, b⟩ = true := by
  obtain ⟨h2, h3, h4⟩ := h
  refine validB_iff.2 ⟨h2, h3, ?_⟩
  rcases h4 with ⟨h5, h6, h7⟩ | ⟨h5, h6, h7⟩ | ⟨h5, h7⟩
  · exact .inl ⟨h5, h6, msgB_iff.2 h7⟩
  · exact .inr (.inl ⟨h5, h6, size_em h7⟩)
  · exact .inr (.inr ⟨h5, size_em h7⟩)
end
set_option maxRecDepth 100000 in
set_option maxHeartbeats 4000000 in
theorem rvalid_any (kd n t : Int) (b : ByteArray) (w : World) :
    Calls Try.prog 21 #[.agg #[.int .i64 kd, .int .i64 n, .int .i64 t, .string b]] w (Tells (validB ⟨kd, n, t, b⟩) w) := by
  unfold Tells
  have hal : Below w.heap.size w (w.alloc (.cells #[.int .i64 kd, .int .i64 n, .int .i64 t, .string b] 27)) := (Below.refl _ _).alloc (Nat.le_refl _) _
  have HAL := Lib.hid hal; clear hal
  by_cases hb1 : n < 0
  · have b1 : decide (n < 0) = true := decide_eq_true hb1
    have e : validB ⟨kd, n, t, b⟩ = false := v_no2 fun h => by omega
    rw [e]; clear e
    go_enter Try.func21, Try.ntmps21
    go_wp2
    go_ret
    exact ⟨rfl, HAL.out⟩
  have b1 : decide (n < 0) = false := decide_eq_false hb1
  by_cases hb2 : 1099511627776 < n
  · have b2 : decide (1099511627776 < n) = true := decide_eq_true hb2
    have e : validB ⟨kd, n, t, b⟩ = false := v_no2 fun h => by omega
    rw [e]; clear e
    go_enter Try.func21, Try.ntmps21
    go_wp2
    go_ret
    exact ⟨rfl, HAL.out⟩
  have b2 : decide (1099511627776 < n) = false := decide_eq_false hb2
  by_cases hb3 : t < 0
  · have b3 : decide (t < 0) = true := decide_eq_true hb3
    have e : validB ⟨kd, n, t, b⟩ = false := v_no2 fun h => by omega
    rw [e]; clear e
    go_enter Try.func21, Try.ntmps21
    go_wp2
    go_ret
    exact ⟨rfl, HAL.out⟩
  have b3 : decide (t < 0) = false := decide_eq_false hb3
  by_cases hb4 : 1099511627776 < t
  · have b4 : decide (1099511627776 < t) = true := decide_eq_true hb4
    have e : validB ⟨kd, n, t, b⟩ = false := v_no2 fun h => by omega
    rw [e]; clear e
    go_enter Try.func21, Try.ntmps21
    go_wp2
    go_ret
    exact ⟨rfl, HAL.out⟩
  have b4 : decide (1099511627776 < t) = false := decide_eq_false hb4
  by_cases hb5 : kd < 1
  · have b5 : decide (kd < 1) = true := decide_eq_true hb5
    have e : validB ⟨kd, n, t, b⟩ = false := v_no2 fun h => by omega
    rw [e]; clear e
    go_enter Try.func21, Try.ntmps21
    go_wp2
    go_ret
    exact ⟨rfl, HAL.out⟩
  have b5 : decide (kd < 1) = false := decide_eq_false hb5
  by_cases hb6 : 3 < kd
  · have b6 : decide (3 < kd) = true := decide_eq_true hb6
    have e : validB ⟨kd, n, t, b⟩ = false := v_no2 fun h => by omega
    rw [e]; clear e
    go_enter Try.func21, Try.ntmps21
    go_wp2
    go_ret
    exact ⟨rfl, HAL.out⟩
  have b6 : decide (3 < kd) = false := decide_eq_false hb6
  by_cases k1 : kd = 1
  · subst k1
    by_cases h7 : 0 < n
    · have b7 : decide (0 < n) = true := decide_eq_true h7
      by_cases h8 : 0 < b.size
      · have b8 : decide ((0 : Int) < (b.size : Int)) = true := by rw [decide_eq_true_eq]; omega
        have b8n : decide (0 < b.size) = true := decide_eq_true h8
        by_cases h9 : b.size ≤ 4096
        · have b9 : decide ((b.size : Int) ≤ 4096) = true := by rw [decide_eq_true_eq]; omega
          have e : validB ⟨1, n, t, b⟩ = true := v_yes2 (by omega)
          rw [e]; clear e
          go_enter Try.func21, Try.ntmps21
          go_wp2
          go_ret
          exact ⟨rfl, HAL.out⟩
        · have b9 : decide ((b.size : Int) ≤ 4096) = false := by rw [decide_eq_false_iff_not]; omega
          have e : validB ⟨1, n, t, b⟩ = false := v_no2 fun h => by omega
          rw [e]; clear e
          go_enter Try.func21, Try.ntmps21
          go_wp2
          go_ret
          exact ⟨rfl, HAL.out⟩
      · have b8 : decide ((0 : Int) < (b.size : Int)) = false := by rw [decide_eq_false_iff_not]; omega
        have b8n : decide (0 < b.size) = false := decide_eq_false h8
        have e : validB ⟨1, n, t, b⟩ = false := v_no2 fun h => by omega
        rw [e]; clear e
        go_enter Try.func21, Try.ntmps21
        go_wp2
        go_ret
        exact ⟨rfl, HAL.out⟩
    · have b7 : decide (0 < n) = false := decide_eq_false h7
      have e : validB ⟨1, n, t, b⟩ = false := v_no2 fun h => by omega
      rw [e]; clear e
      go_enter Try.func21, Try.ntmps21
      go_wp2
      go_ret
      exact ⟨rfl, HAL.out⟩
  have n1 : (kd == 1) = false := by rw [beq_eq_false_iff_ne]; exact k1
  by_cases h8 : b.size = 0
  · have b8 : ((b.size : Int) == 0) = true := by rw [beq_iff_eq]; omega
    have b8n : (b.size == 0) = true := by rw [beq_iff_eq]; exact h8
    have B8 := Lib.hid h8
    by_cases k3 : kd = 3
    · subst k3
      have e : validB ⟨3, n, t, b⟩ = true := v_yes2 (by have := B8.out; omega)
      rw [e]; clear e
      go_enter Try.func21, Try.ntmps21
      go_wp2
      go_ret
      exact ⟨rfl, HAL.out⟩
    · have n3 : (kd == 3) = false := by rw [beq_eq_false_iff_ne]; exact k3
      have hkd : kd = 2 := by omega
      by_cases h7 : 0 < n
      · have b7 : decide (0 < n) = true := decide_eq_true h7
        have B9 := Lib.hid hkd
        clear hkd
        have e : validB ⟨kd, n, t, b⟩ = true := v_yes2 (by have := B8.out; have := B9.out; omega)
        rw [e]; clear e
        go_enter Try.func21, Try.ntmps21
        go_wp2
        go_ret
        exact ⟨rfl, HAL.out⟩
      · have b7 : decide (0 < n) = false := decide_eq_false h7
        clear hkd
        have e : validB ⟨kd, n, t, b⟩ = false := v_no2 fun h => by omega
        rw [e]; clear e
        go_enter Try.func21, Try.ntmps21
        go_wp2
        go_ret
        exact ⟨rfl, HAL.out⟩
  · have b8 : ((b.size : Int) == 0) = false := by rw [beq_eq_false_iff_ne]; omega
    have b8n : (b.size == 0) = false := by rw [beq_eq_false_iff_ne]; exact h8
    have e : validB ⟨kd, n, t, b⟩ = false := v_no2 fun h => by omega
    rw [e]; clear e
    go_enter Try.func21, Try.ntmps21
    go_wp2
    go_ret
    exact ⟨rfl, HAL.out⟩
end Go.Proofs.Ytmecaioklmkdlaa.Ss

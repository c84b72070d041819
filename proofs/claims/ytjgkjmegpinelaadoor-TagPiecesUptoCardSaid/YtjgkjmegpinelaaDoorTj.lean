/-
  Layer 7: the reference's right, Body, Valid, whole, Encode.
-/
import Derived.Test.YtjgkjmegpinelaaDoorTi
namespace Go.Proofs.YtjgkjmegpinelaaDoor.Tg
open Go.RowKit Go.Sort Dx Sx
set_option linter.unusedVariables false
set_option linter.unusedSimpArgs false

theorem byte_at (v : List UInt8) {k : Nat} (h : k < v.length) : ∀ h', ((bs v)[k]'h').toNat = (v.getD k 0).toNat := fun h' => by
  show (v[k]'h).toNat = _
  simp [List.getD, h]
theorem fit_empty {t : Int} : fitB (t, []) = false := by unfold fitB; simp
theorem right_cases (t : Int) (v : List UInt8) : t < 1 ∨ (1 ≤ t ∧ 9999 < t) ∨ t = 8 ∨ t = 9 ∨ t = 10 ∨ (1 ≤ t ∧ t ≤ 9999 ∧ t ≠ 8 ∧ t ≠ 9 ∧ t ≠ 10) := by omega
set_option maxRecDepth 100000 in
set_option maxHeartbeats 1000000 in
theorem right_no (t : Int) (v : List UInt8) (w : World) (h : ¬ (1 ≤ t ∧ t ≤ 9999 ∧ t ≠ 8 ∧ t ≠ 9 ∧ t ≠ 10)) :
    Calls Tryd.prog 27 #[.agg #[.int .i64 t, .string (bs v)]] w (FitIt (t, v) w) := by
  have e : fitB (t, v) = false := fit_no h
  unfold FitIt; rw [e]
  rcases right_cases t v with h1 | h1 | h1 | h1 | h1 | h1
  · have g1 : decide (t < 1) = true := by simpa using h1
    clear e h h1
    go_enter Tryd.func27, Tryd.ntmps27
    go_wp2
    go_ret
    exact ⟨rfl, (Below.refl _ _).alloc (Nat.le_refl _) _⟩
  · obtain ⟨h0, h1⟩ := h1
    have g0 : decide (t < 1) = false := by rw [decide_eq_false_iff_not]; omega
    have g1 : decide (9999 < t) = true := by simpa using h1
    clear e h h1 h0
    go_enter Tryd.func27, Tryd.ntmps27
    go_wp2
    go_ret
    exact ⟨rfl, (Below.refl _ _).alloc (Nat.le_refl _) _⟩
  · subst h1
    clear e h
    go_enter Tryd.func27, Tryd.ntmps27
    go_wp2
    go_ret
    exact ⟨rfl, (Below.refl _ _).alloc (Nat.le_refl _) _⟩
  · subst h1
    clear e h
    go_enter Tryd.func27, Tryd.ntmps27
    go_wp2
    go_ret
    exact ⟨rfl, (Below.refl _ _).alloc (Nat.le_refl _) _⟩
  · subst h1
    clear e h
    go_enter Tryd.func27, Tryd.ntmps27
    go_wp2
    go_ret
    exact ⟨rfl, (Below.refl _ _).alloc (Nat.le_refl _) _⟩
  · exact absurd h1 h
theorem contains_take {v : List UInt8} {k : Nat} (h : k < v.length) (hc : (v.take k).contains 1 = false) : (v.take (k + 1)).contains 1 = (v.getD k 0 == 1) := by
  rw [List.take_succ_eq_append_getElem h]
  have : (v.take k ++ [v[k]]).contains 1 = ((v.take k).contains 1 || [v[k]].contains 1) := by
    rw [Bool.eq_iff_iff]; simp only [List.contains_iff_mem, List.mem_append, Bool.or_eq_true]
  rw [this, hc]
  have e : v.getD k 0 = v[k] := by simp [List.getD, h]
  rw [e, Bool.false_or, Bool.eq_iff_iff]
  simp
  exact eq_comm
theorem contains_at {v : List UInt8} {k : Nat} (h : k < v.length) (hc : v.getD k 0 = 1) : v.contains 1 = true := by
  rw [List.contains_iff_mem]
  have e : v.getD k 0 = v[k] := by simp [List.getD, h]
  rw [← hc, e]
  exact List.getElem_mem h
set_option maxRecDepth 100000 in
set_option maxHeartbeats 2000000 in
theorem right_yes (t : Int) (v : List UInt8) (w : World) (h : 1 ≤ t ∧ t ≤ 9999 ∧ t ≠ 8 ∧ t ≠ 9 ∧ t ≠ 10) (hvl : v.length ≤ 9223372036854775806) :
    Calls Tryd.prog 27 #[.agg #[.int .i64 t, .string (bs v)]] w (FitIt (t, v) w) := by
  have e : fitB (t, v) = (!v.isEmpty && !v.contains 1) := by
    unfold fitB
    rw [decide_eq_true (show (1 ≤ (t, v).1 ∧ (t, v).1 ≤ 9999 ∧ (t, v).1 ≠ 8 ∧ (t, v).1 ≠ 9 ∧ (t, v).1 ≠ 10) from h)]; rfl
  obtain ⟨h1, h2, h3, h4, h5⟩ := h
  have g0 : decide (t < 1) = false := by rw [decide_eq_false_iff_not]; omega
  have g1 : decide (9999 < t) = false := by rw [decide_eq_false_iff_not]; omega
  have g8 : (t == 8) = false := by simpa using h3
  have g9 : (t == 9) = false := by simpa using h4
  have g10 : (t == 10) = false := by simpa using h5
  have hsz : (bs v).size = v.length := rfl
  unfold FitIt
  rw [e]
  clear e h1 h2 h3 h4 h5
  cases hv : v with
  | nil =>
    have e0 : bs [] = ByteArray.empty := rfl
    rw [e0]
    subst hv
    clear hsz hvl
    go_enter Tryd.func27, Tryd.ntmps27
    go_wp2
    go_ret
    exact ⟨rfl, (Below.refl _ _).alloc (Nat.le_refl _) _⟩
  | cons c r =>
    rw [← hv]
    have e3 : (!v.isEmpty && !v.contains 1) = !v.contains 1 := by rw [hv]; rfl
    have hpos : 0 < v.length := by rw [hv]; simp
    have hz0 : ((v.length : Int) == 0) = false := by rw [beq_eq_false_iff_ne]; omega
    rw [e3]
    clear hv e3
    have hcon : ∀ b, v.contains 1 = b → Hid (v.contains 1 = b) := fun b h => Lib.hid h
    have HC := Lib.hid hcon; clear hcon
    have hidx := fun k (h : k < v.length) => byte_at v h
    have HI := Lib.hid hidx; clear hidx
    generalize bs v = V at *
    obtain ⟨N, hN⟩ : ∃ N, v.length = N := ⟨_, rfl⟩
    have HN := Lib.hid hN
    rw [hN] at hsz hvl hz0 hpos
    clear hN
    go_enter Tryd.func27, Tryd.ntmps27
    go_wp2
    go_loopg [3] N (fun m i wr => ∃ (k : Nat), k + m = N ∧ i = .int .i64 (k : Int) ∧ Hid ((v.take k).contains 1 = false) ∧ wr = w.alloc (.cells #[.int .i64 t, .string V] 50))
    case atStart => exact ⟨0, by omega, rfl, Lib.hid (by simp), rfl⟩
    case round =>
      obtain ⟨k, hk, rfl, HA, rfl⟩ := hrel
      by_cases hlt : k < N
      · have hlt' : k < v.length := by rw [HN.out]; exact hlt
        have hx := HI.out k hlt'
        have hnx := contains_take hlt' HA.out
        have hat := fun h => contains_at hlt' h
        have HX := Lib.hid hnx; have HAT := Lib.hid hat
        clear hnx hat hlt'
        obtain ⟨b, hb⟩ : ∃ b, v.getD k 0 = b := ⟨_, rfl⟩
        rw [hb] at hx HX HAT
        have hb0 := b.toNat_lt
        clear hb
        by_cases hb1 : b = 1
        · subst hb1
          have HF := Lib.hid (HAT.out rfl)
          clear HX HAT hb0
          have hx' : ∀ h', (V[k]'h').toNat = 1 := hx
          clear hx
          go_wp2
          go_ret
          exact ⟨by rw [HF.out] <;> rfl, (Below.refl _ _).alloc (Nat.le_refl _) _⟩
        · have hne : ((b.toNat : Int) == 1) = false := by
            rw [beq_eq_false_iff_ne]
            intro e
            exact hb1 (UInt8.toNat_inj.1 (by show b.toNat = 1; omega))
          have HF : Hid ((v.take (k + 1)).contains 1 = false) := Lib.hid (by rw [HX.out]; simpa using hb1)
          clear HX HAT hb1
          generalize b.toNat = B at *
          go_wp2
          go_roundg (N - (k + 1))
          case measure => omega
          case rel => exact ⟨k + 1, by omega, by go_num, HF, rfl⟩
      · have hkl : k = N := by omega
        have h1 : v.contains 1 = false := by
          have := HA.out
          rwa [List.take_of_length_le (by rw [HN.out]; omega)] at this
        have HF := Lib.hid h1
        clear h1
        go_wp2
        go_ret
        exact ⟨by rw [HF.out] <;> rfl, (Below.refl _ _).alloc (Nat.le_refl _) _⟩
theorem right_any (t : Int) (v : List UInt8) (w : World) (hvl : v.length ≤ 9223372036854775806) :
    Calls Tryd.prog 27 #[.agg #[.int .i64 t, .string (bs v)]] w (FitIt (t, v) w) := by
  by_cases h : 1 ≤ t ∧ t ≤ 9999 ∧ t ≠ 8 ∧ t ≠ 9 ∧ t ≠ 10
  · exact right_yes t v w h hvl
  · exact right_no t v w h
end Go.Proofs.YtjgkjmegpinelaaDoor.Tg

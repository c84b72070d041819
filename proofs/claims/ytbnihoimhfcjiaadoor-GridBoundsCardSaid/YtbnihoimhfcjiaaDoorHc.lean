/-
  Layer 12: the reference's shifts and points.
-/
import Derived.Test.YtbnihoimhfcjiaaDoorHb
namespace Go.Proofs.YtbnihoimhfcjiaaDoor.Gr
open Go.RowKit
open Go.Proofs.YtbnihoimhfcjiaaDoor.Fx Ot Ao
set_option linter.unusedVariables false
set_option linter.unusedSimpArgs false

theorem div_sh {x m : Int} (hx : 0 ≤ x) (hx' : x ≤ 1000000000000) (hm : 0 ≤ m) (hm' : m ≤ 12500) : divS x m 10000 0 = (x * m / 10000, 0) := by
  obtain ⟨hq, hq'⟩ := mul_range hx hx' hm hm'
  have hn : negB x m 10000 = false := by
    unfold negB
    rw [decide_eq_false (show ¬ x < 0 by omega), decide_eq_false (show ¬ m < 0 by omega), decide_eq_false (show ¬ (10000 : Int) < 0 by omega)]
    rfl
  have hr := round_at x m 10000 0
  rw [out0, hn, show absN 10000 = 10000 from rfl] at hr
  have hp : (absN x * absN m : Nat) = (x * m).natAbs := by unfold absN; exact (Int.natAbs_mul x m).symm
  rw [hp] at hr
  simp only [Bool.false_eq_true, and_false, if_false] at hr
  generalize hP : x * m = p at *
  have := divS_yes (a := x) (b := m) (c := 10000) (m := 0) (fitB_mk (by omega) (by omega)) (fitB_mk (by omega) (by omega)) rfl (by omega) (by omega)
  rw [this, hn, hr]
  simp only [Bool.false_eq_true, if_false]
  congr 1
  omega
theorem shV_at (s : Nat) : shV s = ((s : Int) % 3 - 1) * 2500 := by
  unfold shV tabV
  have : s % 3 < 3 := Nat.mod_lt _ (by decide)
  rcases (show s % 3 = 0 ∨ s % 3 = 1 ∨ s % 3 = 2 by omega) with h | h | h <;> rw [h, show (s : Int) % 3 = ((s % 3 : Nat) : Int) from rfl, h] <;> rfl

set_option maxRecDepth 100000 in
theorem rfits_grid (p v : Int) (w : World) :
    Calls Tryd.prog 20 #[.int .i64 p, .int .i64 v] w fun e w' => e = .returned (.bool (quB p v)) ∧ w = w' := by
  by_cases h1 : 0 ≤ p
  · by_cases h2 : p ≤ 1000000000000
    · by_cases h3 : 0 ≤ v
      · cases h4 : decide (v ≤ 50000)
        · have EE := Lib.hid (quB_no (p := p) (v := v).2 (by have := of_decide_eq_false h4; omega))
          go_enter Tryd.func20, Tryd.ntmps20
          go_wp2
          go_ret
          exact ⟨by rw [EE.out] <;> rfl, rfl⟩
        · have EE := Lib.hid (quB_iff (p := p) (v := v).2 ⟨h1, h2, h3, of_decide_eq_true h4⟩)
          go_enter Tryd.func20, Tryd.ntmps20
          go_wp2
          go_ret
          exact ⟨by rw [EE.out] <;> rfl, rfl⟩
      · have EE := Lib.hid (quB_no (p := p) (v := v).2 (by omega))
        go_enter Tryd.func20, Tryd.ntmps20
        go_wp2
        go_ret
        exact ⟨by rw [EE.out] <;> rfl, rfl⟩
    · have EE := Lib.hid (quB_no (p := p) (v := v).2 (by omega))
      go_enter Tryd.func20, Tryd.ntmps20
      go_wp2
      go_ret
      exact ⟨by rw [EE.out] <;> rfl, rfl⟩
  · have EE := Lib.hid (quB_no (p := p) (v := v).2 (by omega))
    go_enter Tryd.func20, Tryd.ntmps20
    go_wp2
    go_ret
    exact ⟨by rw [EE.out] <;> rfl, rfl⟩
set_option maxRecDepth 100000 in
theorem rshift_any (s : Nat) (hs : s < 21) (w : World) :
    Calls Tryd.prog 12 #[.int .i64 (s : Int)] w fun e w' => e = .returned (.agg #[.int .i64 (shP s), .int .i64 (shV s)]) ∧ Below w.heap.size w w' := by
  have hv := shV_at s
  have hq : s / 3 < 7 := by omega
  obtain ⟨q, hq2⟩ : ∃ q, q = s / 3 := ⟨_, rfl⟩
  have hz : (s : Int) / 3 = (q : Int) := by omega
  have hp : shP s = tabP.getD q 0 := by rw [hq2]; rfl
  rw [← hq2] at hq
  rw [hv, hp]
  clear hv hp hq2
  match q, hq with
  | 0, _ =>
    go_enter Tryd.func12, Tryd.ntmps12
    go_wp2
    refine bodyPost_ret (v := .agg #[.int .i64 (tabP.getD 0 0), .int .i64 (((s : Int) % 3 - 1) * 2500)]) ?_ rfl ⟨rfl, ?_⟩
    · simp [results, Tryd.results12, go_sem, tabP]
    · exact one_alloc _ _
  | 1, _ =>
    go_enter Tryd.func12, Tryd.ntmps12
    go_wp2
    refine bodyPost_ret (v := .agg #[.int .i64 (tabP.getD 1 0), .int .i64 (((s : Int) % 3 - 1) * 2500)]) ?_ rfl ⟨rfl, ?_⟩
    · simp [results, Tryd.results12, go_sem, tabP]
    · exact one_alloc _ _
  | 2, _ =>
    go_enter Tryd.func12, Tryd.ntmps12
    go_wp2
    refine bodyPost_ret (v := .agg #[.int .i64 (tabP.getD 2 0), .int .i64 (((s : Int) % 3 - 1) * 2500)]) ?_ rfl ⟨rfl, ?_⟩
    · simp [results, Tryd.results12, go_sem, tabP]
    · exact one_alloc _ _
  | 3, _ =>
    go_enter Tryd.func12, Tryd.ntmps12
    go_wp2
    refine bodyPost_ret (v := .agg #[.int .i64 (tabP.getD 3 0), .int .i64 (((s : Int) % 3 - 1) * 2500)]) ?_ rfl ⟨rfl, ?_⟩
    · simp [results, Tryd.results12, go_sem, tabP]
    · exact one_alloc _ _
  | 4, _ =>
    go_enter Tryd.func12, Tryd.ntmps12
    go_wp2
    refine bodyPost_ret (v := .agg #[.int .i64 (tabP.getD 4 0), .int .i64 (((s : Int) % 3 - 1) * 2500)]) ?_ rfl ⟨rfl, ?_⟩
    · simp [results, Tryd.results12, go_sem, tabP]
    · exact one_alloc _ _
  | 5, _ =>
    go_enter Tryd.func12, Tryd.ntmps12
    go_wp2
    refine bodyPost_ret (v := .agg #[.int .i64 (tabP.getD 5 0), .int .i64 (((s : Int) % 3 - 1) * 2500)]) ?_ rfl ⟨rfl, ?_⟩
    · simp [results, Tryd.results12, go_sem, tabP]
    · exact one_alloc _ _
  | 6, _ =>
    go_enter Tryd.func12, Tryd.ntmps12
    go_wp2
    refine bodyPost_ret (v := .agg #[.int .i64 (tabP.getD 6 0), .int .i64 (((s : Int) % 3 - 1) * 2500)]) ?_ rfl ⟨rfl, ?_⟩
    · simp [results, Tryd.results12, go_sem, tabP]
    · exact one_alloc _ _
  | q + 7, h => exact absurd h (by omega)
set_option maxRecDepth 100000 in
theorem rpoint_any (p v s : Int) (w : World) :
    Calls Tryd.prog 10 #[.int .i64 p, .int .i64 v, .int .i64 s] w fun e w' => e = .returned (.tuple #[.int .i64 (pntS p v s).1, .int .i64 (pntS p v s).2.1, .int .i64 (pntS p v s).2.2]) ∧ Below w.heap.size w w' := by
  by_cases h1 : s < 0
  · have HS := Lib.hid (pnt_no (p := p) (v := v) (s := s) (by omega))
    go_enter Tryd.func10, Tryd.ntmps10
    go_wp2
    go_ret3
    exact ⟨by rw [HS.out] <;> rfl, Below.refl _ _⟩
  by_cases h2 : 20 < s
  · have HS := Lib.hid (pnt_no (p := p) (v := v) (s := s) (by omega))
    go_enter Tryd.func10, Tryd.ntmps10
    go_wp2
    go_ret3
    exact ⟨by rw [HS.out] <;> rfl, Below.refl _ _⟩
  obtain ⟨n, rfl⟩ : ∃ n : Nat, s = (n : Int) := ⟨s.toNat, by omega⟩
  cases hq : quB p v
  · have HS := Lib.hid (pnt_no (p := p) (v := v) (s := (n : Int)) (by rw [hq]; simp))
    go_enter Tryd.func10, Tryd.ntmps10
    go_wp2_with (go_at_call 20; refine (rfits_grid _ _ _).mono ?_; rintro e w' ⟨rfl, rfl⟩)
    go_ret3
    exact ⟨by rw [HS.out] <;> rfl, Below.refl _ _⟩
  · have HS := Lib.hid (pnt_ok (p := p) (v := v) (s := n) (by omega) hq)
    have HQ := Lib.hid (rfits_grid p v)
    rw [hq] at HQ
    obtain ⟨q1, q2, q3, q4⟩ := quB_iff.1 hq
    have SP := shP_range n
    have SV := shV_range n
    have M1 : Hid (∀ w, Calls Tryd.prog 21 #[.int .i64 p, .int .i64 (10000 + shP n), .int .i64 10000, .int .i64 0] w fun e w' => e = .returned (.tuple #[.int .i64 (shS p (shP n)), .int .i64 0]) ∧ Below w.heap.size w w') := Lib.hid fun w => by
      have := rmuldiv_any p (10000 + shP n) 10000 0 w
      rwa [div_sh q1 q2 (by omega) (by omega)] at this
    have M2 : Hid (∀ w, Calls Tryd.prog 21 #[.int .i64 v, .int .i64 (10000 + shV n), .int .i64 10000, .int .i64 0] w fun e w' => e = .returned (.tuple #[.int .i64 (shS v (shV n)), .int .i64 0]) ∧ Below w.heap.size w w') := Lib.hid fun w => by
      have := rmuldiv_any v (10000 + shV n) 10000 0 w
      rwa [div_sh q3 (by omega) (by omega) (by omega)] at this
    have SH := Lib.hid fun w => rshift_any n (by omega) w
    clear hq q1 q2 q3 q4
    generalize shS p (shP n) = P2 at *
    generalize shS v (shV n) = V2 at *
    generalize shP n = P at *
    generalize shV n = V at *
    go_enter Tryd.func10, Tryd.ntmps10
    go_wp2_with (first | (go_at_call 20; (with_reducible refine (HQ.out _).mono ?_); rintro e w' ⟨rfl, rfl⟩) | (go_at_call 12; (with_reducible refine (SH.out _).mono ?_); rintro e w1 ⟨rfl, hb⟩; have HB := Lib.hid (below_next hb (one_alloc w1 (.cells #[.int .i64 P, .int .i64 V] 29))); have HX := Lib.hid (Bk.new w1 #[.int .i64 P, .int .i64 V] 29); obtain ⟨b0, b1⟩ := Bk.two HX.out; clear hb) | (go_at_call 21; (with_reducible refine (M1.out _).mono ?_); rintro e w2 ⟨rfl, hb⟩; have HB := Lib.hid (below_next HB.out hb); have HX := Lib.hid (Bk.keep HX.out hb); obtain ⟨b0, b1⟩ := Bk.two HX.out; clear hb) | (go_at_call 21; (with_reducible refine (M2.out _).mono ?_); rintro e w2 ⟨rfl, hb⟩; have HB := Lib.hid (below_next HB.out hb); clear hb))
    go_ret3
    exact ⟨by rw [HS.out] <;> rfl, HB.out⟩
end Go.Proofs.YtbnihoimhfcjiaaDoor.Gr

/-
  Layer 8: the program's fits, counts, Good, Valid.
-/
import Derived.Test.YtmecaioklmkdlaaAc
import Derived.Deep.LoopGhost
import Derived.IntWalk
import Derived.BigQuiet
import Derived.Deep.QuietTactic
namespace Go.Proofs.Ytmecaioklmkdlaa.Ss
open Go.RowKit
set_option linter.unusedVariables false
set_option linter.unusedSimpArgs false

theorem fits_any (m : ByteArray) (w : World) : Calls Try.prog 22 #[.string m] w fun e w' => e = .returned (.bool (msgB m)) ∧ w = w' := by
  by_cases h1 : 1 ≤ m.size
  · by_cases h2 : m.size ≤ 4096
    · have e : msgB m = true := msgB_iff.2 ⟨h1, h2⟩
      have d : decide ((m.size : Int) ≤ 4096) = true := by rw [decide_eq_true_eq]; omega
      rw [e]; clear e
      go_enter Try.func22, Try.ntmps22
      go_wp2
      go_ret
      exact ⟨rfl, rfl⟩
    · have e : msgB m = false := by rw [Bool.eq_false_iff]; intro h; exact h2 (msgB_iff.1 h).2
      have d : decide ((m.size : Int) ≤ 4096) = false := by rw [decide_eq_false_iff_not]; omega
      rw [e]; clear e
      go_enter Try.func22, Try.ntmps22
      go_wp2
      go_ret
      exact ⟨rfl, rfl⟩
  · have e : msgB m = false := by rw [Bool.eq_false_iff]; intro h; exact h1 (msgB_iff.1 h).1
    have d : decide ((1 : Int) ≤ (m.size : Int)) = false := by rw [decide_eq_false_iff_not]; omega
    rw [e]; clear e
    go_enter Try.func22, Try.ntmps22
    go_wp2
    go_ret
    exact ⟨rfl, rfl⟩
theorem counts_any (n m : Int) (w : World) : Calls Try.prog 26 #[.int .i64 n, .int .i64 m] w fun e w' => e = .returned (.bool (cntB n m)) ∧ w = w' := by
  by_cases h1 : 0 ≤ n
  · by_cases h2 : n ≤ m
    · have e : cntB n m = true := cntB_iff.2 ⟨h1, h2⟩
      have d : decide (n ≤ m) = true := by rw [decide_eq_true_eq]; omega
      rw [e]; clear e
      go_enter Try.func26, Try.ntmps26
      go_wp2
      go_ret
      exact ⟨rfl, rfl⟩
    · have e : cntB n m = false := by rw [Bool.eq_false_iff]; intro h; exact h2 (cntB_iff.1 h).2
      have d : decide (n ≤ m) = false := by rw [decide_eq_false_iff_not]; omega
      rw [e]; clear e
      go_enter Try.func26, Try.ntmps26
      go_wp2
      go_ret
      exact ⟨rfl, rfl⟩
  · have e : cntB n m = false := by rw [Bool.eq_false_iff]; intro h; exact h1 (cntB_iff.1 h).1
    have d : decide ((0 : Int) ≤ n) = false := by rw [decide_eq_false_iff_not]; omega
    rw [e]; clear e
    go_enter Try.func26, Try.ntmps26
    go_wp2
    go_ret
    exact ⟨rfl, rfl⟩
/-- What a test of an end or a frame answers. -/
def Tells (b : Bool) (w : World) (e : Ending) (w' : World) : Prop := e = .returned (.bool b) ∧ Below w.heap.size w w'
theorem good_no {s : Sd} {b : Bool} (h : b = false) (himp : goodB s = true → b = true) : goodB s = false := by
  rw [Bool.eq_false_iff]; intro hg; rw [himp hg] at h; cases h
theorem box_new (w : World) (cs : Array Value) (T : TypeId) : Blk (w.alloc (.cells cs T)) w.heap.size cs T ∧ Below w.heap.size w (w.alloc (.cells cs T)) := ⟨Blk.new w cs T, (Below.refl _ _).alloc (Nat.le_refl _) _⟩
set_option maxRecDepth 100000 in
set_option maxHeartbeats 1000000 in
theorem good_any (a : Option Addr) (len cap : Nat) (s : Sd) (w : World) (hS : HasS w a s.S) (hl : s.S.length = len) :
    Calls Try.prog 13 #[.agg #[.slice a len cap, .int .i64 s.t, .int .i64 s.k]] w (Tells (goodB s) w) := by
  have hm := hS.1
  rw [hl] at hm
  have HS := Lib.hid hS; have HL := Lib.hid hl
  clear hS hl
  unfold Tells
  by_cases hbig : 256 < len
  · have e : goodB s = false := by rw [Bool.eq_false_iff]; intro h; have := (goodB_iff.1 h).1; have := HL.out; omega
    rw [e]; clear e
    have d : decide ((256 : Int) < (len : Int)) = true := by rw [decide_eq_true_eq]; omega
    go_enter Try.func13, Try.ntmps13
    go_wp2
    go_ret
    exact ⟨rfl, (Below.refl _ _).alloc (Nat.le_refl _) _⟩
  · obtain ⟨N, hN⟩ : ∃ N, N = w.heap.size := ⟨_, rfl⟩
    obtain ⟨t, ht⟩ : ∃ t, t = s.t := ⟨_, rfl⟩
    obtain ⟨k0, hk0⟩ : ∃ k, k = s.k := ⟨_, rfl⟩
    have hbx := box_new w #[.slice a len cap, .int .i64 s.t, .int .i64 s.k] 24
    rw [← ht, ← hk0] at hbx ⊢
    have HT := Lib.hid ht; have HK := Lib.hid hk0; clear ht hk0
    obtain ⟨w0, hw0⟩ : ∃ w0, w0 = w.alloc (.cells #[.slice a len cap, .int .i64 t, .int .i64 k0] 24) := ⟨_, rfl⟩
    rw [← hw0] at hbx
    have HB := Lib.hid hbx.2; have c0 := hbx.1.cell 0; have c1 := hbx.1.cell 1; have c2 := hbx.1.cell 2
    simp only [List.getElem?_toArray, List.getElem?_cons_zero, List.getElem?_cons_succ] at c0 c1 c2
    have HS0 := Lib.hid (HS.out.keep HB.out)
    have HW0 := Lib.hid hw0; clear hw0 hbx hN N
    have d : decide ((256 : Int) < (len : Int)) = false := by rw [decide_eq_false_iff_not]; omega
    go_enter Try.func13, Try.ntmps13
    go_wp2
    rw [← HW0.out]
    clear d
    go_loop [12] (fun i => ∃ k : Nat, k ≤ len ∧ i = .int .i64 (k : Int) ∧ Hid (∀ j, j < k → msgB (s.S.getD j em) = true)) (fun i => len - (intOf i).toNat)
    case atStart => exact ⟨0, by omega, rfl, Lib.hid fun j hj => absurd hj (Nat.not_lt_zero _)⟩
    case round =>
      obtain ⟨k, hk, rfl, HA⟩ := hrel
      by_cases hlt : k < len
      · obtain ⟨bb, off, rfl, c⟩ := HS0.out.at (show k < s.S.length by rw [HL.out]; exact hlt)
        cases hq : msgB (s.S.getD k em) with
        | true =>
          have HA2 : Hid (∀ j, j < k + 1 → msgB (s.S.getD j em) = true) := Lib.hid fun j hj => by
            rcases Nat.lt_or_ge j k with h | h
            · exact HA.out j h
            · obtain rfl : j = k := by omega
              exact hq
          generalize s.S.getD k em = m at *
          have hf := fun w => fits_any m w
          rw [hq] at hf
          clear hq
          go_wp2_with (go_at_call 22; (with_reducible refine (hf _).mono ?_); rintro e w' ⟨rfl, rfl⟩)
          go_round
          case measure => simp [intOf]; omega
          case rel => exact ⟨k + 1, by omega, by go_num, HA2⟩
        | false =>
          have e : goodB s = false := by
            rw [Bool.eq_false_iff]; intro h
            rw [msg_at (goodB_iff.1 h).2.1 (by rw [HL.out]; exact hlt)] at hq
            cases hq
          have E := Lib.hid e; clear e
          generalize s.S.getD k em = m at *
          have hf := fun w => fits_any m w
          rw [hq] at hf
          clear hq
          go_wp2_with (go_at_call 22; (with_reducible refine (hf _).mono ?_); rintro e w' ⟨rfl, rfl⟩)
          go_ret
          exact ⟨by rw [E.out] <;> rfl, HB.out⟩
      · obtain rfl : k = len := by omega
        have hall : ∀ m ∈ s.S, msgB m = true := fun m hm' => by
          obtain ⟨j, hj, rfl⟩ := List.getElem_of_mem hm'
          have := HA.out j (by rw [HL.out] at hj; exact hj)
          simpa [List.getD, hj] using this
        cases hq : cntB k0 (k : Int) with
        | true =>
          cases hq2 : cntB t 1099511627776 with
          | true =>
            have e : goodB s = true := goodB_iff.2 ⟨by rw [HL.out]; omega, hall, by rw [← HK.out, HL.out]; exact cntB_iff.1 hq, by rw [← HT.out]; exact cntB_iff.1 hq2⟩
            have E := Lib.hid e; clear e hall
            have hf := fun w => counts_any k0 (k : Int) w
            have hf2 := fun w => counts_any t 1099511627776 w
            rw [hq] at hf
            rw [hq2] at hf2
            clear hq hq2
            go_wp2_with (first
              | (go_at_call 26; (with_reducible refine (hf _).mono ?_); rintro e w' ⟨rfl, rfl⟩)
              | (go_at_call 26; (with_reducible refine (hf2 _).mono ?_); rintro e w' ⟨rfl, rfl⟩))
            go_ret
            exact ⟨by rw [E.out] <;> rfl, HB.out⟩
          | false =>
            have e : goodB s = false := by
              rw [Bool.eq_false_iff]; intro h
              have := cntB_iff.2 (goodB_iff.1 h).2.2.2
              rw [← HT.out, hq2] at this; cases this
            have E := Lib.hid e; clear e hall
            have hf := fun w => counts_any k0 (k : Int) w
            have hf2 := fun w => counts_any t 1099511627776 w
            rw [hq] at hf
            rw [hq2] at hf2
            clear hq hq2
            go_wp2_with (first
              | (go_at_call 26; (with_reducible refine (hf _).mono ?_); rintro e w' ⟨rfl, rfl⟩)
              | (go_at_call 26; (with_reducible refine (hf2 _).mono ?_); rintro e w' ⟨rfl, rfl⟩))
            go_ret
            exact ⟨by rw [E.out] <;> rfl, HB.out⟩
        | false =>
          have e : goodB s = false := by
            rw [Bool.eq_false_iff]; intro h
            have := cntB_iff.2 (goodB_iff.1 h).2.2.1
            rw [← HK.out, HL.out, hq] at this; cases this
          have E := Lib.hid e; clear e hall
          have hf := fun w => counts_any k0 (k : Int) w
          rw [hq] at hf
          clear hq
          go_wp2_with (go_at_call 26; (with_reducible refine (hf _).mono ?_); rintro e w' ⟨rfl, rfl⟩)
          go_ret
          exact ⟨by rw [E.out] <;> rfl, HB.out⟩
end Go.Proofs.Ytmecaioklmkdlaa.Ss

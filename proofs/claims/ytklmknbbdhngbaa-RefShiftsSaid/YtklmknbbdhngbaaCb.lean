/-
  Layer 9: validity: what the functions of package ref and of its reference report.
-/
import Derived.Test.YtklmknbbdhngbaaCa
import Derived.Test.YtklmknbbdhngbaaChecked
import Derived.Lib.Hide
import Derived.WalkKit
import Derived.ProofKit
import Derived.Handy
import Derived.Below
namespace Go.Proofs.Ytklmknbbdhngbaa.Rd
open Go.RowKit
open Go.Proofs.Ytklmknbbdhngbaa.Fx
set_option linter.unusedVariables false

def cntB (x n : Int) : Bool := decide (0 ≤ x ∧ x < n)
theorem cntB_iff {x n : Int} : cntB x n = true ↔ 0 ≤ x ∧ x < n := by unfold cntB; exact decide_eq_true_iff
theorem cntB_no {x n : Int} : cntB x n = false ↔ ¬ (0 ≤ x ∧ x < n) := by unfold cntB; exact decide_eq_false_iff_not

theorem within_any (x l m : Int) (w : World) :
    Calls Try.prog 20 #[.int .i64 x, .int .i64 l, .int .i64 m] w fun e w' => e = .returned (.bool (withB x l m)) ∧ w = w' := by
  by_cases h1 : l ≤ x
  · by_cases h2 : x ≤ m
    · have E : withB x l m = true := by
        have f0 := h1
        have f1 := h2
        exact withB_iff.2 (by omega)
      have EE := Lib.hid E; clear E
      go_enter Try.func20, Try.ntmps20
      go_wp2
      go_ret
      exact ⟨by rw [EE.out] <;> rfl, rfl⟩
    · have E : withB x l m = false := by
        have f0 := h1
        have f1 := h2
        exact withB_no.2 (by omega)
      have EE := Lib.hid E; clear E
      go_enter Try.func20, Try.ntmps20
      go_wp2
      go_ret
      exact ⟨by rw [EE.out] <;> rfl, rfl⟩
  · have E : withB x l m = false := by
      have f0 := h1
      exact withB_no.2 (by omega)
    have EE := Lib.hid E; clear E
    go_enter Try.func20, Try.ntmps20
    go_wp2
    go_ret
    exact ⟨by rw [EE.out] <;> rfl, rfl⟩

theorem counted_any (x n : Int) (w : World) :
    Calls Try.prog 21 #[.int .i64 x, .int .i64 n] w fun e w' => e = .returned (.bool (cntB x n)) ∧ w = w' := by
  by_cases h1 : 0 ≤ x
  · by_cases h2 : x < n
    · have E : cntB x n = true := by
        have f0 := h1
        have f1 := h2
        exact cntB_iff.2 (by omega)
      have EE := Lib.hid E; clear E
      go_enter Try.func21, Try.ntmps21
      go_wp2
      go_ret
      exact ⟨by rw [EE.out] <;> rfl, rfl⟩
    · have E : cntB x n = false := by
        have f0 := h1
        have f1 := h2
        exact cntB_no.2 (by omega)
      have EE := Lib.hid E; clear E
      go_enter Try.func21, Try.ntmps21
      go_wp2
      go_ret
      exact ⟨by rw [EE.out] <;> rfl, rfl⟩
  · have E : cntB x n = false := by
      have f0 := h1
      exact cntB_no.2 (by omega)
    have EE := Lib.hid E; clear E
    go_enter Try.func21, Try.ntmps21
    go_wp2
    go_ret
    exact ⟨by rw [EE.out] <;> rfl, rfl⟩

theorem cur_any (r h n : Int) (w : World) :
    Calls Try.prog 8 #[.agg #[.int .i64 r, .int .i64 h], .int .i64 n] w fun e w' => e = .returned (.bool (curB r h n)) ∧ Below w.heap.size w w' := by
  cases t1 : (n == 0)
  · cases g1 : withB r 1 1000000000000
    · have E : curB r h n = false := by
        have f0 := beq_eq_false_iff_ne.1 t1
        have f1 := withB_no.1 g1
        exact curB_no.2 (by omega)
      have EE := Lib.hid E; clear E
      go_enter Try.func8, Try.ntmps8
      go_wp2_with (first | (go_at_call 20; refine (within_any _ _ _ _).mono ?_; rintro e w' ⟨rfl, rfl⟩))
      go_ret
      exact ⟨by rw [EE.out] <;> rfl, (Below.refl _ _).alloc (Nat.le_refl _) _⟩
    · cases g2 : withB h 0 10000
      · have E : curB r h n = false := by
          have f0 := beq_eq_false_iff_ne.1 t1
          have f1 := withB_iff.1 g1
          have f2 := withB_no.1 g2
          exact curB_no.2 (by omega)
        have EE := Lib.hid E; clear E
        go_enter Try.func8, Try.ntmps8
        go_wp2_with (first | (go_at_call 20; refine (within_any _ _ _ _).mono ?_; rintro e w' ⟨rfl, rfl⟩))
        go_ret
        exact ⟨by rw [EE.out] <;> rfl, (Below.refl _ _).alloc (Nat.le_refl _) _⟩
      · have E : curB r h n = true := by
          have f0 := beq_eq_false_iff_ne.1 t1
          have f1 := withB_iff.1 g1
          have f2 := withB_iff.1 g2
          exact curB_iff.2 (by omega)
        have EE := Lib.hid E; clear E
        go_enter Try.func8, Try.ntmps8
        go_wp2_with (first | (go_at_call 20; refine (within_any _ _ _ _).mono ?_; rintro e w' ⟨rfl, rfl⟩))
        go_ret
        exact ⟨by rw [EE.out] <;> rfl, (Below.refl _ _).alloc (Nat.le_refl _) _⟩
  · cases t2 : (r != 1000000)
    · cases g1 : withB r 1 1000000000000
      · have E : curB r h n = false := by
          have f0 := beq_iff_eq.1 t1
          have f1 := bne_eq_false_iff_eq.1 t2
          have f2 := withB_no.1 g1
          exact curB_no.2 (by omega)
        have EE := Lib.hid E; clear E
        go_enter Try.func8, Try.ntmps8
        go_wp2_with (first | (go_at_call 20; refine (within_any _ _ _ _).mono ?_; rintro e w' ⟨rfl, rfl⟩))
        go_ret
        exact ⟨by rw [EE.out] <;> rfl, (Below.refl _ _).alloc (Nat.le_refl _) _⟩
      · cases g2 : withB h 0 10000
        · have E : curB r h n = false := by
            have f0 := beq_iff_eq.1 t1
            have f1 := bne_eq_false_iff_eq.1 t2
            have f2 := withB_iff.1 g1
            have f3 := withB_no.1 g2
            exact curB_no.2 (by omega)
          have EE := Lib.hid E; clear E
          go_enter Try.func8, Try.ntmps8
          go_wp2_with (first | (go_at_call 20; refine (within_any _ _ _ _).mono ?_; rintro e w' ⟨rfl, rfl⟩))
          go_ret
          exact ⟨by rw [EE.out] <;> rfl, (Below.refl _ _).alloc (Nat.le_refl _) _⟩
        · have E : curB r h n = true := by
            have f0 := beq_iff_eq.1 t1
            have f1 := bne_eq_false_iff_eq.1 t2
            have f2 := withB_iff.1 g1
            have f3 := withB_iff.1 g2
            exact curB_iff.2 (by omega)
          have EE := Lib.hid E; clear E
          go_enter Try.func8, Try.ntmps8
          go_wp2_with (first | (go_at_call 20; refine (within_any _ _ _ _).mono ?_; rintro e w' ⟨rfl, rfl⟩))
          go_ret
          exact ⟨by rw [EE.out] <;> rfl, (Below.refl _ _).alloc (Nat.le_refl _) _⟩
    · have E : curB r h n = false := by
        have f0 := beq_iff_eq.1 t1
        have f1 := bne_iff_ne.1 t2
        exact curB_no.2 (by omega)
      have EE := Lib.hid E; clear E
      go_enter Try.func8, Try.ntmps8
      go_wp2_with (first | (go_at_call 20; refine (within_any _ _ _ _).mono ?_; rintro e w' ⟨rfl, rfl⟩))
      go_ret
      exact ⟨by rw [EE.out] <;> rfl, (Below.refl _ _).alloc (Nat.le_refl _) _⟩

theorem rcur_any (r h n : Int) (w : World) :
    Calls Try.prog 9 #[.agg #[.int .i64 r, .int .i64 h], .int .i64 n] w fun e w' => e = .returned (.bool (curB r h n)) ∧ Below w.heap.size w w' := by
  by_cases h1 : r < 1
  · have E : curB r h n = false := by
      have f0 := h1
      exact curB_no.2 (by omega)
    have EE := Lib.hid E; clear E
    go_enter Try.func9, Try.ntmps9
    go_wp2
    go_ret
    exact ⟨by rw [EE.out] <;> rfl, (Below.refl _ _).alloc (Nat.le_refl _) _⟩
  · by_cases h2 : 1000000000000 < r
    · have E : curB r h n = false := by
        have f0 := h1
        have f1 := h2
        exact curB_no.2 (by omega)
      have EE := Lib.hid E; clear E
      go_enter Try.func9, Try.ntmps9
      go_wp2
      go_ret
      exact ⟨by rw [EE.out] <;> rfl, (Below.refl _ _).alloc (Nat.le_refl _) _⟩
    · by_cases h3 : h < 0
      · have E : curB r h n = false := by
          have f0 := h1
          have f1 := h2
          have f2 := h3
          exact curB_no.2 (by omega)
        have EE := Lib.hid E; clear E
        go_enter Try.func9, Try.ntmps9
        go_wp2
        go_ret
        exact ⟨by rw [EE.out] <;> rfl, (Below.refl _ _).alloc (Nat.le_refl _) _⟩
      · by_cases h4 : 10000 < h
        · have E : curB r h n = false := by
            have f0 := h1
            have f1 := h2
            have f2 := h3
            have f3 := h4
            exact curB_no.2 (by omega)
          have EE := Lib.hid E; clear E
          go_enter Try.func9, Try.ntmps9
          go_wp2
          go_ret
          exact ⟨by rw [EE.out] <;> rfl, (Below.refl _ _).alloc (Nat.le_refl _) _⟩
        · cases t1 : (n != 0)
          · cases t2 : (r == 1000000)
            · have E : curB r h n = false := by
                have f0 := h1
                have f1 := h2
                have f2 := h3
                have f3 := h4
                have f4 := bne_eq_false_iff_eq.1 t1
                have f5 := beq_eq_false_iff_ne.1 t2
                exact curB_no.2 (by omega)
              have EE := Lib.hid E; clear E
              go_enter Try.func9, Try.ntmps9
              go_wp2
              go_ret
              exact ⟨by rw [EE.out] <;> rfl, (Below.refl _ _).alloc (Nat.le_refl _) _⟩
            · have E : curB r h n = true := by
                have f0 := h1
                have f1 := h2
                have f2 := h3
                have f3 := h4
                have f4 := bne_eq_false_iff_eq.1 t1
                have f5 := beq_iff_eq.1 t2
                exact curB_iff.2 (by omega)
              have EE := Lib.hid E; clear E
              go_enter Try.func9, Try.ntmps9
              go_wp2
              go_ret
              exact ⟨by rw [EE.out] <;> rfl, (Below.refl _ _).alloc (Nat.le_refl _) _⟩
          · have E : curB r h n = true := by
              have f0 := h1
              have f1 := h2
              have f2 := h3
              have f3 := h4
              have f4 := bne_iff_ne.1 t1
              exact curB_iff.2 (by omega)
            have EE := Lib.hid E; clear E
            go_enter Try.func9, Try.ntmps9
            go_wp2
            go_ret
            exact ⟨by rw [EE.out] <;> rfl, (Below.refl _ _).alloc (Nat.le_refl _) _⟩

end Go.Proofs.Ytklmknbbdhngbaa.Rd

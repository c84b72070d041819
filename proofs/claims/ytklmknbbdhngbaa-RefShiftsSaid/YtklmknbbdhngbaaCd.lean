/-
  Layer 9: Under, Instr, Base and Worth, in the program and in its reference.
-/
import Derived.Test.YtklmknbbdhngbaaCc
import Derived.Test.YtklmknbbdhngbaaFx5
import Derived.Test.YtklmknbbdhngbaaFx9
namespace Go.Proofs.Ytklmknbbdhngbaa.Rd
open Go.RowKit
open Go.Proofs.Ytklmknbbdhngbaa.Fx
set_option linter.unusedVariables false
set_option linter.unusedSimpArgs false

theorem below_drewN {B : Nat} {a w : World} (h : Below B a w) (n : Nat) : Below B a (w.drewN n) := h.trans ⟨rfl, rfl, rfl, Nat.le_refl _, fun _ _ => rfl⟩
theorem two_alloc (w : World) (o p : Obj) : Below w.heap.size w ((w.alloc o).alloc p) := ((Below.refl _ _).alloc (Nat.le_refl _) _).alloc (by simp) _
theorem below_in {w w' : World} {o : Obj} (h : Below (w.alloc o).heap.size (w.alloc o) w') : Below w.heap.size w w' := ((Below.refl _ _).alloc (Nat.le_refl _) _).trans (h.mono (by simp))

theorem under_any (u : Un) (n : Int) (w : World) (hs : u.name.size ≤ 9223372036854775807) :
    Calls Try.prog 10 #[.agg #[.string u.name, .int .i64 u.cur, .int .i64 u.price, .int .i64 u.vol], .int .i64 n] w fun e w' => e = .returned (.bool (underB u n)) ∧ Below w.heap.size w w' := by
  cases gn : nameB u.name
  · have E : underB u n = false := by
      have f0 := gn
      rw [underB_no]; rintro ⟨h0, h1, h2, h3⟩; first | omega | (rw [h0] at gn; cases gn)
    have EE := Lib.hid E; clear E
    go_enter Try.func10, Try.ntmps10
    go_wp2_with (first | (go_at_call 14; refine (name_no _ _ hs gn).mono ?_; rintro e w' ⟨rfl, hb1⟩))
    go_ret
    exact ⟨by rw [EE.out] <;> rfl, below_in hb1⟩
  · cases g1 : cntB u.cur n
    · have E : underB u n = false := by
        have f0 := gn
        have f1 := cntB_no.1 g1
        rw [underB_no]; rintro ⟨h0, h1, h2, h3⟩; first | omega | (rw [h0] at gn; cases gn)
      have EE := Lib.hid E; clear E
      go_enter Try.func10, Try.ntmps10
      go_wp2_with (first | (go_at_call 14; refine (name_yes _ _ hs gn).mono ?_; rintro e w' ⟨rfl, o, rfl⟩) | (go_at_call 20; refine (within_any _ _ _ _).mono ?_; rintro e w' ⟨rfl, rfl⟩) | (go_at_call 21; refine (counted_any _ _ _).mono ?_; rintro e w' ⟨rfl, rfl⟩))
      go_ret
      exact ⟨by rw [EE.out] <;> rfl, two_alloc _ _ _⟩
    · cases g2 : withB u.price 1 1000000000000
      · have E : underB u n = false := by
          have f0 := gn
          have f1 := cntB_iff.1 g1
          have f2 := withB_no.1 g2
          rw [underB_no]; rintro ⟨h0, h1, h2, h3⟩; first | omega | (rw [h0] at gn; cases gn)
        have EE := Lib.hid E; clear E
        go_enter Try.func10, Try.ntmps10
        go_wp2_with (first | (go_at_call 14; refine (name_yes _ _ hs gn).mono ?_; rintro e w' ⟨rfl, o, rfl⟩) | (go_at_call 20; refine (within_any _ _ _ _).mono ?_; rintro e w' ⟨rfl, rfl⟩) | (go_at_call 21; refine (counted_any _ _ _).mono ?_; rintro e w' ⟨rfl, rfl⟩))
        go_ret
        exact ⟨by rw [EE.out] <;> rfl, two_alloc _ _ _⟩
      · cases g3 : withB u.vol 0 50000
        · have E : underB u n = false := by
            have f0 := gn
            have f1 := cntB_iff.1 g1
            have f2 := withB_iff.1 g2
            have f3 := withB_no.1 g3
            rw [underB_no]; rintro ⟨h0, h1, h2, h3⟩; first | omega | (rw [h0] at gn; cases gn)
          have EE := Lib.hid E; clear E
          go_enter Try.func10, Try.ntmps10
          go_wp2_with (first | (go_at_call 14; refine (name_yes _ _ hs gn).mono ?_; rintro e w' ⟨rfl, o, rfl⟩) | (go_at_call 20; refine (within_any _ _ _ _).mono ?_; rintro e w' ⟨rfl, rfl⟩) | (go_at_call 21; refine (counted_any _ _ _).mono ?_; rintro e w' ⟨rfl, rfl⟩))
          go_ret
          exact ⟨by rw [EE.out] <;> rfl, two_alloc _ _ _⟩
        · have E : underB u n = true := by
            have f0 := gn
            have f1 := cntB_iff.1 g1
            have f2 := withB_iff.1 g2
            have f3 := withB_iff.1 g3
            exact underB_iff.2 ⟨f0, f1, f2, f3⟩
          have EE := Lib.hid E; clear E
          go_enter Try.func10, Try.ntmps10
          go_wp2_with (first | (go_at_call 14; refine (name_yes _ _ hs gn).mono ?_; rintro e w' ⟨rfl, o, rfl⟩) | (go_at_call 20; refine (within_any _ _ _ _).mono ?_; rintro e w' ⟨rfl, rfl⟩) | (go_at_call 21; refine (counted_any _ _ _).mono ?_; rintro e w' ⟨rfl, rfl⟩))
          go_ret
          exact ⟨by rw [EE.out] <;> rfl, two_alloc _ _ _⟩

theorem runder_any (u : Un) (n : Int) (w : World) (hs : u.name.size ≤ 9223372036854775807) :
    Calls Try.prog 11 #[.agg #[.string u.name, .int .i64 u.cur, .int .i64 u.price, .int .i64 u.vol], .int .i64 n] w fun e w' => e = .returned (.bool (underB u n)) ∧ Below w.heap.size w w' := by
  cases gn : nameB u.name
  · have E : underB u n = false := by
      have f0 := gn
      rw [underB_no]; rintro ⟨h0, h1, h2, h3⟩; first | omega | (rw [h0] at gn; cases gn)
    have EE := Lib.hid E; clear E
    go_enter Try.func11, Try.ntmps11
    go_wp2_with (first | (go_at_call 15; refine (rname_any _ _ hs).mono ?_; rintro e w' ⟨rfl, rfl⟩))
    go_ret
    exact ⟨by rw [EE.out] <;> rfl, (Below.refl _ _).alloc (Nat.le_refl _) _⟩
  · by_cases h1 : 0 ≤ u.cur
    · by_cases h2 : u.cur < n
      · by_cases h3 : 0 < u.price
        · by_cases h4 : u.price ≤ 1000000000000
          · by_cases h5 : 0 ≤ u.vol
            · cases h6 : decide (u.vol ≤ 50000)
              · have E : underB u n = false := by
                  have f0 := gn
                  have f1 := h1
                  have f2 := h2
                  have f3 := h3
                  have f4 := h4
                  have f5 := h5
                  have f6 := of_decide_eq_false h6
                  rw [underB_no]; rintro ⟨h0, h1, h2, h3⟩; first | omega | (rw [h0] at gn; cases gn)
                have EE := Lib.hid E; clear E
                go_enter Try.func11, Try.ntmps11
                go_wp2_with (first | (go_at_call 15; refine (rname_any _ _ hs).mono ?_; rintro e w' ⟨rfl, rfl⟩))
                go_ret
                exact ⟨by rw [EE.out] <;> rfl, (Below.refl _ _).alloc (Nat.le_refl _) _⟩
              · have E : underB u n = true := by
                  have f0 := gn
                  have f1 := h1
                  have f2 := h2
                  have f3 := h3
                  have f4 := h4
                  have f5 := h5
                  have f6 := of_decide_eq_true h6
                  exact underB_iff.2 ⟨f0, ⟨by omega, by omega⟩, ⟨by omega, by omega⟩, ⟨by omega, by omega⟩⟩
                have EE := Lib.hid E; clear E
                go_enter Try.func11, Try.ntmps11
                go_wp2_with (first | (go_at_call 15; refine (rname_any _ _ hs).mono ?_; rintro e w' ⟨rfl, rfl⟩))
                go_ret
                exact ⟨by rw [EE.out] <;> rfl, (Below.refl _ _).alloc (Nat.le_refl _) _⟩
            · have E : underB u n = false := by
                have f0 := gn
                have f1 := h1
                have f2 := h2
                have f3 := h3
                have f4 := h4
                have f5 := h5
                rw [underB_no]; rintro ⟨h0, h1, h2, h3⟩; first | omega | (rw [h0] at gn; cases gn)
              have EE := Lib.hid E; clear E
              go_enter Try.func11, Try.ntmps11
              go_wp2_with (first | (go_at_call 15; refine (rname_any _ _ hs).mono ?_; rintro e w' ⟨rfl, rfl⟩))
              go_ret
              exact ⟨by rw [EE.out] <;> rfl, (Below.refl _ _).alloc (Nat.le_refl _) _⟩
          · have E : underB u n = false := by
              have f0 := gn
              have f1 := h1
              have f2 := h2
              have f3 := h3
              have f4 := h4
              rw [underB_no]; rintro ⟨h0, h1, h2, h3⟩; first | omega | (rw [h0] at gn; cases gn)
            have EE := Lib.hid E; clear E
            go_enter Try.func11, Try.ntmps11
            go_wp2_with (first | (go_at_call 15; refine (rname_any _ _ hs).mono ?_; rintro e w' ⟨rfl, rfl⟩))
            go_ret
            exact ⟨by rw [EE.out] <;> rfl, (Below.refl _ _).alloc (Nat.le_refl _) _⟩
        · have E : underB u n = false := by
            have f0 := gn
            have f1 := h1
            have f2 := h2
            have f3 := h3
            rw [underB_no]; rintro ⟨h0, h1, h2, h3⟩; first | omega | (rw [h0] at gn; cases gn)
          have EE := Lib.hid E; clear E
          go_enter Try.func11, Try.ntmps11
          go_wp2_with (first | (go_at_call 15; refine (rname_any _ _ hs).mono ?_; rintro e w' ⟨rfl, rfl⟩))
          go_ret
          exact ⟨by rw [EE.out] <;> rfl, (Below.refl _ _).alloc (Nat.le_refl _) _⟩
      · have E : underB u n = false := by
          have f0 := gn
          have f1 := h1
          have f2 := h2
          rw [underB_no]; rintro ⟨h0, h1, h2, h3⟩; first | omega | (rw [h0] at gn; cases gn)
        have EE := Lib.hid E; clear E
        go_enter Try.func11, Try.ntmps11
        go_wp2_with (first | (go_at_call 15; refine (rname_any _ _ hs).mono ?_; rintro e w' ⟨rfl, rfl⟩))
        go_ret
        exact ⟨by rw [EE.out] <;> rfl, (Below.refl _ _).alloc (Nat.le_refl _) _⟩
    · have E : underB u n = false := by
        have f0 := gn
        have f1 := h1
        rw [underB_no]; rintro ⟨h0, h1, h2, h3⟩; first | omega | (rw [h0] at gn; cases gn)
      have EE := Lib.hid E; clear E
      go_enter Try.func11, Try.ntmps11
      go_wp2_with (first | (go_at_call 15; refine (rname_any _ _ hs).mono ?_; rintro e w' ⟨rfl, rfl⟩))
      go_ret
      exact ⟨by rw [EE.out] <;> rfl, (Below.refl _ _).alloc (Nat.le_refl _) _⟩

theorem kind_any (i : Ins) (w : World) :
    Calls Try.prog 22 #[.agg #[.int .i64 i.kind, .int .i64 i.under, .int .i64 i.mult, .int .i64 i.strike, .int .i64 i.expiry, .bool i.call, .int .i64 i.mark]] w fun e w' => e = .returned (.bool (kindB i)) ∧ Below w.heap.size w w' := by
  cases k1 : (i.kind == 1)
  · cases k2 : (i.kind == 2)
    · cases k3 : (i.kind == 3)
      · have E : kindB i = false := by
          have f0 := beq_eq_false_iff_ne.1 k1
          have f1 := beq_eq_false_iff_ne.1 k2
          have f2 := beq_eq_false_iff_ne.1 k3
          rw [kindB_no]; rintro (⟨h1, h2, h3, h4⟩ | ⟨h1, h2, h3, h4⟩ | ⟨h1, h2, h3⟩) <;> first | omega | (rw [tc] at h4; cases h4)
        have EE := Lib.hid E; clear E
        go_enter Try.func22, Try.ntmps22
        go_wp2_with (first | (go_at_call 20; refine (within_any _ _ _ _).mono ?_; rintro e w' ⟨rfl, rfl⟩))
        go_ret
        exact ⟨by rw [EE.out] <;> rfl, (Below.refl _ _).alloc (Nat.le_refl _) _⟩
      · cases g2 : withB i.strike 1 1000000000000
        · have E : kindB i = false := by
            have f0 := beq_eq_false_iff_ne.1 k1
            have f1 := beq_eq_false_iff_ne.1 k2
            have f2 := beq_iff_eq.1 k3
            have f3 := withB_no.1 g2
            rw [kindB_no]; rintro (⟨h1, h2, h3, h4⟩ | ⟨h1, h2, h3, h4⟩ | ⟨h1, h2, h3⟩) <;> first | omega | (rw [tc] at h4; cases h4)
          have EE := Lib.hid E; clear E
          go_enter Try.func22, Try.ntmps22
          go_wp2_with (first | (go_at_call 20; refine (within_any _ _ _ _).mono ?_; rintro e w' ⟨rfl, rfl⟩))
          go_ret
          exact ⟨by rw [EE.out] <;> rfl, (Below.refl _ _).alloc (Nat.le_refl _) _⟩
        · cases g3 : withB i.expiry 1 100000
          · have E : kindB i = false := by
              have f0 := beq_eq_false_iff_ne.1 k1
              have f1 := beq_eq_false_iff_ne.1 k2
              have f2 := beq_iff_eq.1 k3
              have f3 := withB_iff.1 g2
              have f4 := withB_no.1 g3
              rw [kindB_no]; rintro (⟨h1, h2, h3, h4⟩ | ⟨h1, h2, h3, h4⟩ | ⟨h1, h2, h3⟩) <;> first | omega | (rw [tc] at h4; cases h4)
            have EE := Lib.hid E; clear E
            go_enter Try.func22, Try.ntmps22
            go_wp2_with (first | (go_at_call 20; refine (within_any _ _ _ _).mono ?_; rintro e w' ⟨rfl, rfl⟩))
            go_ret
            exact ⟨by rw [EE.out] <;> rfl, (Below.refl _ _).alloc (Nat.le_refl _) _⟩
          · have E : kindB i = true := by
              have f0 := beq_eq_false_iff_ne.1 k1
              have f1 := beq_eq_false_iff_ne.1 k2
              have f2 := beq_iff_eq.1 k3
              have f3 := withB_iff.1 g2
              have f4 := withB_iff.1 g3
              rw [kindB_iff]; first | (refine .inl ⟨?_, ?_, ?_, tc⟩ <;> omega) | (refine .inr (.inl ⟨?_, ?_, ?_, tc⟩) <;> omega) | (refine .inr (.inr ⟨?_, ?_, ?_⟩) <;> omega)
            have EE := Lib.hid E; clear E
            go_enter Try.func22, Try.ntmps22
            go_wp2_with (first | (go_at_call 20; refine (within_any _ _ _ _).mono ?_; rintro e w' ⟨rfl, rfl⟩))
            go_ret
            exact ⟨by rw [EE.out] <;> rfl, (Below.refl _ _).alloc (Nat.le_refl _) _⟩
    · cases t2 : (i.strike == 0)
      · have E : kindB i = false := by
          have f0 := beq_eq_false_iff_ne.1 k1
          have f1 := beq_iff_eq.1 k2
          have f2 := beq_eq_false_iff_ne.1 t2
          rw [kindB_no]; rintro (⟨h1, h2, h3, h4⟩ | ⟨h1, h2, h3, h4⟩ | ⟨h1, h2, h3⟩) <;> first | omega | (rw [tc] at h4; cases h4)
        have EE := Lib.hid E; clear E
        go_enter Try.func22, Try.ntmps22
        go_wp2_with (first | (go_at_call 20; refine (within_any _ _ _ _).mono ?_; rintro e w' ⟨rfl, rfl⟩))
        go_ret
        exact ⟨by rw [EE.out] <;> rfl, (Below.refl _ _).alloc (Nat.le_refl _) _⟩
      · cases g3 : withB i.expiry 1 100000
        · have E : kindB i = false := by
            have f0 := beq_eq_false_iff_ne.1 k1
            have f1 := beq_iff_eq.1 k2
            have f2 := beq_iff_eq.1 t2
            have f3 := withB_no.1 g3
            rw [kindB_no]; rintro (⟨h1, h2, h3, h4⟩ | ⟨h1, h2, h3, h4⟩ | ⟨h1, h2, h3⟩) <;> first | omega | (rw [tc] at h4; cases h4)
          have EE := Lib.hid E; clear E
          go_enter Try.func22, Try.ntmps22
          go_wp2_with (first | (go_at_call 20; refine (within_any _ _ _ _).mono ?_; rintro e w' ⟨rfl, rfl⟩))
          go_ret
          exact ⟨by rw [EE.out] <;> rfl, (Below.refl _ _).alloc (Nat.le_refl _) _⟩
        · cases tc : i.call
          · have E : kindB i = true := by
              have f0 := beq_eq_false_iff_ne.1 k1
              have f1 := beq_iff_eq.1 k2
              have f2 := beq_iff_eq.1 t2
              have f3 := withB_iff.1 g3
              have f4 := tc
              rw [kindB_iff]; first | (refine .inl ⟨?_, ?_, ?_, tc⟩ <;> omega) | (refine .inr (.inl ⟨?_, ?_, ?_, tc⟩) <;> omega) | (refine .inr (.inr ⟨?_, ?_, ?_⟩) <;> omega)
            have EE := Lib.hid E; clear E
            go_enter Try.func22, Try.ntmps22
            go_wp2_with (first | (go_at_call 20; refine (within_any _ _ _ _).mono ?_; rintro e w' ⟨rfl, rfl⟩))
            go_ret
            exact ⟨by rw [EE.out] <;> rfl, (Below.refl _ _).alloc (Nat.le_refl _) _⟩
          · have E : kindB i = false := by
              have f0 := beq_eq_false_iff_ne.1 k1
              have f1 := beq_iff_eq.1 k2
              have f2 := beq_iff_eq.1 t2
              have f3 := withB_iff.1 g3
              have f4 := tc
              rw [kindB_no]; rintro (⟨h1, h2, h3, h4⟩ | ⟨h1, h2, h3, h4⟩ | ⟨h1, h2, h3⟩) <;> first | omega | (rw [tc] at h4; cases h4)
            have EE := Lib.hid E; clear E
            go_enter Try.func22, Try.ntmps22
            go_wp2_with (first | (go_at_call 20; refine (within_any _ _ _ _).mono ?_; rintro e w' ⟨rfl, rfl⟩))
            go_ret
            exact ⟨by rw [EE.out] <;> rfl, (Below.refl _ _).alloc (Nat.le_refl _) _⟩
  · cases t2 : (i.strike == 0)
    · have E : kindB i = false := by
        have f0 := beq_iff_eq.1 k1
        have f1 := beq_eq_false_iff_ne.1 t2
        rw [kindB_no]; rintro (⟨h1, h2, h3, h4⟩ | ⟨h1, h2, h3, h4⟩ | ⟨h1, h2, h3⟩) <;> first | omega | (rw [tc] at h4; cases h4)
      have EE := Lib.hid E; clear E
      go_enter Try.func22, Try.ntmps22
      go_wp2_with (first | (go_at_call 20; refine (within_any _ _ _ _).mono ?_; rintro e w' ⟨rfl, rfl⟩))
      go_ret
      exact ⟨by rw [EE.out] <;> rfl, (Below.refl _ _).alloc (Nat.le_refl _) _⟩
    · cases t3 : (i.expiry == 0)
      · have E : kindB i = false := by
          have f0 := beq_iff_eq.1 k1
          have f1 := beq_iff_eq.1 t2
          have f2 := beq_eq_false_iff_ne.1 t3
          rw [kindB_no]; rintro (⟨h1, h2, h3, h4⟩ | ⟨h1, h2, h3, h4⟩ | ⟨h1, h2, h3⟩) <;> first | omega | (rw [tc] at h4; cases h4)
        have EE := Lib.hid E; clear E
        go_enter Try.func22, Try.ntmps22
        go_wp2_with (first | (go_at_call 20; refine (within_any _ _ _ _).mono ?_; rintro e w' ⟨rfl, rfl⟩))
        go_ret
        exact ⟨by rw [EE.out] <;> rfl, (Below.refl _ _).alloc (Nat.le_refl _) _⟩
      · cases tc : i.call
        · have E : kindB i = true := by
            have f0 := beq_iff_eq.1 k1
            have f1 := beq_iff_eq.1 t2
            have f2 := beq_iff_eq.1 t3
            have f3 := tc
            rw [kindB_iff]; first | (refine .inl ⟨?_, ?_, ?_, tc⟩ <;> omega) | (refine .inr (.inl ⟨?_, ?_, ?_, tc⟩) <;> omega) | (refine .inr (.inr ⟨?_, ?_, ?_⟩) <;> omega)
          have EE := Lib.hid E; clear E
          go_enter Try.func22, Try.ntmps22
          go_wp2_with (first | (go_at_call 20; refine (within_any _ _ _ _).mono ?_; rintro e w' ⟨rfl, rfl⟩))
          go_ret
          exact ⟨by rw [EE.out] <;> rfl, (Below.refl _ _).alloc (Nat.le_refl _) _⟩
        · have E : kindB i = false := by
            have f0 := beq_iff_eq.1 k1
            have f1 := beq_iff_eq.1 t2
            have f2 := beq_iff_eq.1 t3
            have f3 := tc
            rw [kindB_no]; rintro (⟨h1, h2, h3, h4⟩ | ⟨h1, h2, h3, h4⟩ | ⟨h1, h2, h3⟩) <;> first | omega | (rw [tc] at h4; cases h4)
          have EE := Lib.hid E; clear E
          go_enter Try.func22, Try.ntmps22
          go_wp2_with (first | (go_at_call 20; refine (within_any _ _ _ _).mono ?_; rintro e w' ⟨rfl, rfl⟩))
          go_ret
          exact ⟨by rw [EE.out] <;> rfl, (Below.refl _ _).alloc (Nat.le_refl _) _⟩

theorem instr_any (i : Ins) (n : Int) (w : World) :
    Calls Try.prog 12 #[.agg #[.int .i64 i.kind, .int .i64 i.under, .int .i64 i.mult, .int .i64 i.strike, .int .i64 i.expiry, .bool i.call, .int .i64 i.mark], .int .i64 n] w fun e w' => e = .returned (.bool (instrB i n)) ∧ Below w.heap.size w w' := by
  cases g1 : cntB i.under n
  · have E : instrB i n = false := by
      have f0 := cntB_no.1 g1
      rw [instrB_no]; rintro ⟨h0, h1, h2, h3⟩; first | omega | (rw [h3] at gk; cases gk)
    have EE := Lib.hid E; clear E
    go_enter Try.func12, Try.ntmps12
    go_wp2_with (first | (go_at_call 20; refine (within_any _ _ _ _).mono ?_; rintro e w' ⟨rfl, rfl⟩) | (go_at_call 21; refine (counted_any _ _ _).mono ?_; rintro e w' ⟨rfl, rfl⟩))
    go_ret
    exact ⟨by rw [EE.out] <;> rfl, (Below.refl _ _).alloc (Nat.le_refl _) _⟩
  · cases g2 : withB i.mult 1 1000000
    · have E : instrB i n = false := by
        have f0 := cntB_iff.1 g1
        have f1 := withB_no.1 g2
        rw [instrB_no]; rintro ⟨h0, h1, h2, h3⟩; first | omega | (rw [h3] at gk; cases gk)
      have EE := Lib.hid E; clear E
      go_enter Try.func12, Try.ntmps12
      go_wp2_with (first | (go_at_call 20; refine (within_any _ _ _ _).mono ?_; rintro e w' ⟨rfl, rfl⟩) | (go_at_call 21; refine (counted_any _ _ _).mono ?_; rintro e w' ⟨rfl, rfl⟩))
      go_ret
      exact ⟨by rw [EE.out] <;> rfl, (Below.refl _ _).alloc (Nat.le_refl _) _⟩
    · cases g3 : withB i.mark 0 100000000000000
      · have E : instrB i n = false := by
          have f0 := cntB_iff.1 g1
          have f1 := withB_iff.1 g2
          have f2 := withB_no.1 g3
          rw [instrB_no]; rintro ⟨h0, h1, h2, h3⟩; first | omega | (rw [h3] at gk; cases gk)
        have EE := Lib.hid E; clear E
        go_enter Try.func12, Try.ntmps12
        go_wp2_with (first | (go_at_call 20; refine (within_any _ _ _ _).mono ?_; rintro e w' ⟨rfl, rfl⟩) | (go_at_call 21; refine (counted_any _ _ _).mono ?_; rintro e w' ⟨rfl, rfl⟩))
        go_ret
        exact ⟨by rw [EE.out] <;> rfl, (Below.refl _ _).alloc (Nat.le_refl _) _⟩
      · cases gk : kindB i
        · have E : instrB i n = false := by
            have f0 := cntB_iff.1 g1
            have f1 := withB_iff.1 g2
            have f2 := withB_iff.1 g3
            have f3 := gk
            rw [instrB_no]; rintro ⟨h0, h1, h2, h3⟩; first | omega | (rw [h3] at gk; cases gk)
          have EE := Lib.hid E; clear E
          go_enter Try.func12, Try.ntmps12
          go_wp2_with (first | (go_at_call 20; refine (within_any _ _ _ _).mono ?_; rintro e w' ⟨rfl, rfl⟩) | (go_at_call 21; refine (counted_any _ _ _).mono ?_; rintro e w' ⟨rfl, rfl⟩) | (go_at_call 22; refine (kind_any _ _).mono ?_; rintro e w' ⟨rfl, hb1⟩))
          go_ret
          exact ⟨by rw [EE.out] <;> rfl, below_in hb1⟩
        · have E : instrB i n = true := by
            have f0 := cntB_iff.1 g1
            have f1 := withB_iff.1 g2
            have f2 := withB_iff.1 g3
            have f3 := gk
            exact instrB_iff.2 ⟨f0, f1, f2, f3⟩
          have EE := Lib.hid E; clear E
          go_enter Try.func12, Try.ntmps12
          go_wp2_with (first | (go_at_call 20; refine (within_any _ _ _ _).mono ?_; rintro e w' ⟨rfl, rfl⟩) | (go_at_call 21; refine (counted_any _ _ _).mono ?_; rintro e w' ⟨rfl, rfl⟩) | (go_at_call 22; refine (kind_any _ _).mono ?_; rintro e w' ⟨rfl, hb1⟩))
          go_ret
          exact ⟨by rw [EE.out] <;> rfl, below_in hb1⟩

set_option maxRecDepth 100000 in
set_option maxHeartbeats 2000000 in
theorem rinstr_any (i : Ins) (n : Int) (w : World) :
    Calls Try.prog 13 #[.agg #[.int .i64 i.kind, .int .i64 i.under, .int .i64 i.mult, .int .i64 i.strike, .int .i64 i.expiry, .bool i.call, .int .i64 i.mark], .int .i64 n] w fun e w' => e = .returned (.bool (instrB i n)) ∧ Below w.heap.size w w' := by
  by_cases h1 : i.kind < 1
  · have E : instrB i n = false := by
      have f0 := h1
      rw [instrB_no, kindB_iff]; rintro ⟨h0, h00, h000, (⟨h1, h2, h3, h4⟩ | ⟨h1, h2, h3, h4⟩ | ⟨h1, h2, h3⟩)⟩ <;> first | omega | (rw [tc] at h4; cases h4)
    have EE := Lib.hid E; clear E
    go_enter Try.func13, Try.ntmps13
    go_wp2
    go_ret
    exact ⟨by rw [EE.out] <;> rfl, (Below.refl _ _).alloc (Nat.le_refl _) _⟩
  · by_cases h2 : 3 < i.kind
    · have E : instrB i n = false := by
        have f0 := h1
        have f1 := h2
        rw [instrB_no, kindB_iff]; rintro ⟨h0, h00, h000, (⟨h1, h2, h3, h4⟩ | ⟨h1, h2, h3, h4⟩ | ⟨h1, h2, h3⟩)⟩ <;> first | omega | (rw [tc] at h4; cases h4)
      have EE := Lib.hid E; clear E
      go_enter Try.func13, Try.ntmps13
      go_wp2
      go_ret
      exact ⟨by rw [EE.out] <;> rfl, (Below.refl _ _).alloc (Nat.le_refl _) _⟩
    · by_cases h3 : i.under < 0
      · have E : instrB i n = false := by
          have f0 := h1
          have f1 := h2
          have f2 := h3
          rw [instrB_no, kindB_iff]; rintro ⟨h0, h00, h000, (⟨h1, h2, h3, h4⟩ | ⟨h1, h2, h3, h4⟩ | ⟨h1, h2, h3⟩)⟩ <;> first | omega | (rw [tc] at h4; cases h4)
        have EE := Lib.hid E; clear E
        go_enter Try.func13, Try.ntmps13
        go_wp2
        go_ret
        exact ⟨by rw [EE.out] <;> rfl, (Below.refl _ _).alloc (Nat.le_refl _) _⟩
      · by_cases h4 : n ≤ i.under
        · have E : instrB i n = false := by
            have f0 := h1
            have f1 := h2
            have f2 := h3
            have f3 := h4
            rw [instrB_no, kindB_iff]; rintro ⟨h0, h00, h000, (⟨h1, h2, h3, h4⟩ | ⟨h1, h2, h3, h4⟩ | ⟨h1, h2, h3⟩)⟩ <;> first | omega | (rw [tc] at h4; cases h4)
          have EE := Lib.hid E; clear E
          go_enter Try.func13, Try.ntmps13
          go_wp2
          go_ret
          exact ⟨by rw [EE.out] <;> rfl, (Below.refl _ _).alloc (Nat.le_refl _) _⟩
        · by_cases h5 : i.mult < 1
          · have E : instrB i n = false := by
              have f0 := h1
              have f1 := h2
              have f2 := h3
              have f3 := h4
              have f4 := h5
              rw [instrB_no, kindB_iff]; rintro ⟨h0, h00, h000, (⟨h1, h2, h3, h4⟩ | ⟨h1, h2, h3, h4⟩ | ⟨h1, h2, h3⟩)⟩ <;> first | omega | (rw [tc] at h4; cases h4)
            have EE := Lib.hid E; clear E
            go_enter Try.func13, Try.ntmps13
            go_wp2
            go_ret
            exact ⟨by rw [EE.out] <;> rfl, (Below.refl _ _).alloc (Nat.le_refl _) _⟩
          · by_cases h6 : 1000000 < i.mult
            · have E : instrB i n = false := by
                have f0 := h1
                have f1 := h2
                have f2 := h3
                have f3 := h4
                have f4 := h5
                have f5 := h6
                rw [instrB_no, kindB_iff]; rintro ⟨h0, h00, h000, (⟨h1, h2, h3, h4⟩ | ⟨h1, h2, h3, h4⟩ | ⟨h1, h2, h3⟩)⟩ <;> first | omega | (rw [tc] at h4; cases h4)
              have EE := Lib.hid E; clear E
              go_enter Try.func13, Try.ntmps13
              go_wp2
              go_ret
              exact ⟨by rw [EE.out] <;> rfl, (Below.refl _ _).alloc (Nat.le_refl _) _⟩
            · by_cases h7 : i.mark < 0
              · have E : instrB i n = false := by
                  have f0 := h1
                  have f1 := h2
                  have f2 := h3
                  have f3 := h4
                  have f4 := h5
                  have f5 := h6
                  have f6 := h7
                  rw [instrB_no, kindB_iff]; rintro ⟨h0, h00, h000, (⟨h1, h2, h3, h4⟩ | ⟨h1, h2, h3, h4⟩ | ⟨h1, h2, h3⟩)⟩ <;> first | omega | (rw [tc] at h4; cases h4)
                have EE := Lib.hid E; clear E
                go_enter Try.func13, Try.ntmps13
                go_wp2
                go_ret
                exact ⟨by rw [EE.out] <;> rfl, (Below.refl _ _).alloc (Nat.le_refl _) _⟩
              · by_cases h8 : 100000000000000 < i.mark
                · have E : instrB i n = false := by
                    have f0 := h1
                    have f1 := h2
                    have f2 := h3
                    have f3 := h4
                    have f4 := h5
                    have f5 := h6
                    have f6 := h7
                    have f7 := h8
                    rw [instrB_no, kindB_iff]; rintro ⟨h0, h00, h000, (⟨h1, h2, h3, h4⟩ | ⟨h1, h2, h3, h4⟩ | ⟨h1, h2, h3⟩)⟩ <;> first | omega | (rw [tc] at h4; cases h4)
                  have EE := Lib.hid E; clear E
                  go_enter Try.func13, Try.ntmps13
                  go_wp2
                  go_ret
                  exact ⟨by rw [EE.out] <;> rfl, (Below.refl _ _).alloc (Nat.le_refl _) _⟩
                · cases k3 : (i.kind == 3)
                  · cases s0 : (i.strike != 0)
                    · cases tc : i.call
                      · cases k1 : (i.kind == 1)
                        · by_cases e1 : 1 ≤ i.expiry
                          · cases e2 : decide (i.expiry ≤ 100000)
                            · have E : instrB i n = false := by
                                have f0 := h1
                                have f1 := h2
                                have f2 := h3
                                have f3 := h4
                                have f4 := h5
                                have f5 := h6
                                have f6 := h7
                                have f7 := h8
                                have f8 := beq_eq_false_iff_ne.1 k3
                                have f9 := bne_eq_false_iff_eq.1 s0
                                have f10 := tc
                                have f11 := beq_eq_false_iff_ne.1 k1
                                have f12 := e1
                                have f13 := of_decide_eq_false e2
                                rw [instrB_no, kindB_iff]; rintro ⟨h0, h00, h000, (⟨h1, h2, h3, h4⟩ | ⟨h1, h2, h3, h4⟩ | ⟨h1, h2, h3⟩)⟩ <;> first | omega | (rw [tc] at h4; cases h4)
                              have EE := Lib.hid E; clear E
                              go_enter Try.func13, Try.ntmps13
                              go_wp2
                              go_ret
                              exact ⟨by rw [EE.out] <;> rfl, (Below.refl _ _).alloc (Nat.le_refl _) _⟩
                            · have E : instrB i n = true := by
                                have f0 := h1
                                have f1 := h2
                                have f2 := h3
                                have f3 := h4
                                have f4 := h5
                                have f5 := h6
                                have f6 := h7
                                have f7 := h8
                                have f8 := beq_eq_false_iff_ne.1 k3
                                have f9 := bne_eq_false_iff_eq.1 s0
                                have f10 := tc
                                have f11 := beq_eq_false_iff_ne.1 k1
                                have f12 := e1
                                have f13 := of_decide_eq_true e2
                                rw [instrB_iff, kindB_iff]; refine ⟨⟨by omega, by omega⟩, ⟨by omega, by omega⟩, ⟨by omega, by omega⟩, ?_⟩; first | (refine .inl ⟨?_, ?_, ?_, tc⟩ <;> omega) | (refine .inr (.inl ⟨?_, ?_, ?_, tc⟩) <;> omega) | (refine .inr (.inr ⟨?_, ?_, ?_⟩) <;> omega)
                              have EE := Lib.hid E; clear E
                              go_enter Try.func13, Try.ntmps13
                              go_wp2
                              go_ret
                              exact ⟨by rw [EE.out] <;> rfl, (Below.refl _ _).alloc (Nat.le_refl _) _⟩
                          · have E : instrB i n = false := by
                              have f0 := h1
                              have f1 := h2
                              have f2 := h3
                              have f3 := h4
                              have f4 := h5
                              have f5 := h6
                              have f6 := h7
                              have f7 := h8
                              have f8 := beq_eq_false_iff_ne.1 k3
                              have f9 := bne_eq_false_iff_eq.1 s0
                              have f10 := tc
                              have f11 := beq_eq_false_iff_ne.1 k1
                              have f12 := e1
                              rw [instrB_no, kindB_iff]; rintro ⟨h0, h00, h000, (⟨h1, h2, h3, h4⟩ | ⟨h1, h2, h3, h4⟩ | ⟨h1, h2, h3⟩)⟩ <;> first | omega | (rw [tc] at h4; cases h4)
                            have EE := Lib.hid E; clear E
                            go_enter Try.func13, Try.ntmps13
                            go_wp2
                            go_ret
                            exact ⟨by rw [EE.out] <;> rfl, (Below.refl _ _).alloc (Nat.le_refl _) _⟩
                        · cases e0 : (i.expiry == 0)
                          · have E : instrB i n = false := by
                              have f0 := h1
                              have f1 := h2
                              have f2 := h3
                              have f3 := h4
                              have f4 := h5
                              have f5 := h6
                              have f6 := h7
                              have f7 := h8
                              have f8 := beq_eq_false_iff_ne.1 k3
                              have f9 := bne_eq_false_iff_eq.1 s0
                              have f10 := tc
                              have f11 := beq_iff_eq.1 k1
                              have f12 := beq_eq_false_iff_ne.1 e0
                              rw [instrB_no, kindB_iff]; rintro ⟨h0, h00, h000, (⟨h1, h2, h3, h4⟩ | ⟨h1, h2, h3, h4⟩ | ⟨h1, h2, h3⟩)⟩ <;> first | omega | (rw [tc] at h4; cases h4)
                            have EE := Lib.hid E; clear E
                            go_enter Try.func13, Try.ntmps13
                            go_wp2
                            go_ret
                            exact ⟨by rw [EE.out] <;> rfl, (Below.refl _ _).alloc (Nat.le_refl _) _⟩
                          · have E : instrB i n = true := by
                              have f0 := h1
                              have f1 := h2
                              have f2 := h3
                              have f3 := h4
                              have f4 := h5
                              have f5 := h6
                              have f6 := h7
                              have f7 := h8
                              have f8 := beq_eq_false_iff_ne.1 k3
                              have f9 := bne_eq_false_iff_eq.1 s0
                              have f10 := tc
                              have f11 := beq_iff_eq.1 k1
                              have f12 := beq_iff_eq.1 e0
                              rw [instrB_iff, kindB_iff]; refine ⟨⟨by omega, by omega⟩, ⟨by omega, by omega⟩, ⟨by omega, by omega⟩, ?_⟩; first | (refine .inl ⟨?_, ?_, ?_, tc⟩ <;> omega) | (refine .inr (.inl ⟨?_, ?_, ?_, tc⟩) <;> omega) | (refine .inr (.inr ⟨?_, ?_, ?_⟩) <;> omega)
                            have EE := Lib.hid E; clear E
                            go_enter Try.func13, Try.ntmps13
                            go_wp2
                            go_ret
                            exact ⟨by rw [EE.out] <;> rfl, (Below.refl _ _).alloc (Nat.le_refl _) _⟩
                      · have E : instrB i n = false := by
                          have f0 := h1
                          have f1 := h2
                          have f2 := h3
                          have f3 := h4
                          have f4 := h5
                          have f5 := h6
                          have f6 := h7
                          have f7 := h8
                          have f8 := beq_eq_false_iff_ne.1 k3
                          have f9 := bne_eq_false_iff_eq.1 s0
                          have f10 := tc
                          rw [instrB_no, kindB_iff]; rintro ⟨h0, h00, h000, (⟨h1, h2, h3, h4⟩ | ⟨h1, h2, h3, h4⟩ | ⟨h1, h2, h3⟩)⟩ <;> first | omega | (rw [tc] at h4; cases h4)
                        have EE := Lib.hid E; clear E
                        go_enter Try.func13, Try.ntmps13
                        go_wp2
                        go_ret
                        exact ⟨by rw [EE.out] <;> rfl, (Below.refl _ _).alloc (Nat.le_refl _) _⟩
                    · have E : instrB i n = false := by
                        have f0 := h1
                        have f1 := h2
                        have f2 := h3
                        have f3 := h4
                        have f4 := h5
                        have f5 := h6
                        have f6 := h7
                        have f7 := h8
                        have f8 := beq_eq_false_iff_ne.1 k3
                        have f9 := bne_iff_ne.1 s0
                        rw [instrB_no, kindB_iff]; rintro ⟨h0, h00, h000, (⟨h1, h2, h3, h4⟩ | ⟨h1, h2, h3, h4⟩ | ⟨h1, h2, h3⟩)⟩ <;> first | omega | (rw [tc] at h4; cases h4)
                      have EE := Lib.hid E; clear E
                      go_enter Try.func13, Try.ntmps13
                      go_wp2
                      go_ret
                      exact ⟨by rw [EE.out] <;> rfl, (Below.refl _ _).alloc (Nat.le_refl _) _⟩
                  · have k1 : (i.kind == 1) = false := by rw [beq_eq_false_iff_ne]; have := beq_iff_eq.1 k3; omega
                    by_cases s1 : i.strike < 1
                    · have E : instrB i n = false := by
                        have f0 := h1
                        have f1 := h2
                        have f2 := h3
                        have f3 := h4
                        have f4 := h5
                        have f5 := h6
                        have f6 := h7
                        have f7 := h8
                        have f8 := beq_iff_eq.1 k3
                        have f9 := beq_eq_false_iff_ne.1 k1
                        have f10 := s1
                        rw [instrB_no, kindB_iff]; rintro ⟨h0, h00, h000, (⟨h1, h2, h3, h4⟩ | ⟨h1, h2, h3, h4⟩ | ⟨h1, h2, h3⟩)⟩ <;> first | omega | (rw [tc] at h4; cases h4)
                      have EE := Lib.hid E; clear E
                      go_enter Try.func13, Try.ntmps13
                      go_wp2
                      go_ret
                      exact ⟨by rw [EE.out] <;> rfl, (Below.refl _ _).alloc (Nat.le_refl _) _⟩
                    · by_cases s2 : 1000000000000 < i.strike
                      · have E : instrB i n = false := by
                          have f0 := h1
                          have f1 := h2
                          have f2 := h3
                          have f3 := h4
                          have f4 := h5
                          have f5 := h6
                          have f6 := h7
                          have f7 := h8
                          have f8 := beq_iff_eq.1 k3
                          have f9 := beq_eq_false_iff_ne.1 k1
                          have f10 := s1
                          have f11 := s2
                          rw [instrB_no, kindB_iff]; rintro ⟨h0, h00, h000, (⟨h1, h2, h3, h4⟩ | ⟨h1, h2, h3, h4⟩ | ⟨h1, h2, h3⟩)⟩ <;> first | omega | (rw [tc] at h4; cases h4)
                        have EE := Lib.hid E; clear E
                        go_enter Try.func13, Try.ntmps13
                        go_wp2
                        go_ret
                        exact ⟨by rw [EE.out] <;> rfl, (Below.refl _ _).alloc (Nat.le_refl _) _⟩
                      · by_cases e1 : 1 ≤ i.expiry
                        · cases e2 : decide (i.expiry ≤ 100000)
                          · have E : instrB i n = false := by
                              have f0 := h1
                              have f1 := h2
                              have f2 := h3
                              have f3 := h4
                              have f4 := h5
                              have f5 := h6
                              have f6 := h7
                              have f7 := h8
                              have f8 := beq_iff_eq.1 k3
                              have f9 := beq_eq_false_iff_ne.1 k1
                              have f10 := s1
                              have f11 := s2
                              have f12 := e1
                              have f13 := of_decide_eq_false e2
                              rw [instrB_no, kindB_iff]; rintro ⟨h0, h00, h000, (⟨h1, h2, h3, h4⟩ | ⟨h1, h2, h3, h4⟩ | ⟨h1, h2, h3⟩)⟩ <;> first | omega | (rw [tc] at h4; cases h4)
                            have EE := Lib.hid E; clear E
                            go_enter Try.func13, Try.ntmps13
                            go_wp2
                            go_ret
                            exact ⟨by rw [EE.out] <;> rfl, (Below.refl _ _).alloc (Nat.le_refl _) _⟩
                          · have E : instrB i n = true := by
                              have f0 := h1
                              have f1 := h2
                              have f2 := h3
                              have f3 := h4
                              have f4 := h5
                              have f5 := h6
                              have f6 := h7
                              have f7 := h8
                              have f8 := beq_iff_eq.1 k3
                              have f9 := beq_eq_false_iff_ne.1 k1
                              have f10 := s1
                              have f11 := s2
                              have f12 := e1
                              have f13 := of_decide_eq_true e2
                              rw [instrB_iff, kindB_iff]; refine ⟨⟨by omega, by omega⟩, ⟨by omega, by omega⟩, ⟨by omega, by omega⟩, ?_⟩; first | (refine .inl ⟨?_, ?_, ?_, tc⟩ <;> omega) | (refine .inr (.inl ⟨?_, ?_, ?_, tc⟩) <;> omega) | (refine .inr (.inr ⟨?_, ?_, ?_⟩) <;> omega)
                            have EE := Lib.hid E; clear E
                            go_enter Try.func13, Try.ntmps13
                            go_wp2
                            go_ret
                            exact ⟨by rw [EE.out] <;> rfl, (Below.refl _ _).alloc (Nat.le_refl _) _⟩
                        · have E : instrB i n = false := by
                            have f0 := h1
                            have f1 := h2
                            have f2 := h3
                            have f3 := h4
                            have f4 := h5
                            have f5 := h6
                            have f6 := h7
                            have f7 := h8
                            have f8 := beq_iff_eq.1 k3
                            have f9 := beq_eq_false_iff_ne.1 k1
                            have f10 := s1
                            have f11 := s2
                            have f12 := e1
                            rw [instrB_no, kindB_iff]; rintro ⟨h0, h00, h000, (⟨h1, h2, h3, h4⟩ | ⟨h1, h2, h3, h4⟩ | ⟨h1, h2, h3⟩)⟩ <;> first | omega | (rw [tc] at h4; cases h4)
                          have EE := Lib.hid E; clear E
                          go_enter Try.func13, Try.ntmps13
                          go_wp2
                          go_ret
                          exact ⟨by rw [EE.out] <;> rfl, (Below.refl _ _).alloc (Nat.le_refl _) _⟩

theorem cur_cells (w : World) (r h : Int) : (w.alloc (.cells #[.int .i64 r, .int .i64 h] 23)).cell? ⟨w.heap.size, 0, none⟩ = some (.int .i64 r) ∧ (w.alloc (.cells #[.int .i64 r, .int .i64 h] 23)).cell? ⟨w.heap.size, 1, none⟩ = some (.int .i64 h) := by
  unfold World.cell?
  rw [(MapKept.heap_alloc w _).1]
  exact ⟨rfl, rfl⟩
theorem worth_neg {r h a p : Int} (hb : baseS r h a 0 = (p, 0)) (hp : p < 0) : worthS r h a = divS p (10000 + h) 10000 0 := by
  unfold worthS partS; rw [hb]; simp [hp]
theorem worth_pos {r h a p : Int} (hb : baseS r h a 0 = (p, 0)) (hp : ¬ p < 0) : worthS r h a = divS p (10000 - h) 10000 0 := by
  unfold worthS partS; rw [hb]; simp [hp]
theorem worth_err {r h a p f : Int} (hb : baseS r h a 0 = (p, f)) (hf : f ≠ 0) : worthS r h a = (0, f) := by
  unfold worthS; rw [hb]; simp [hf]

set_option maxRecDepth 100000 in
theorem base_any (r h a m : Int) (w : World) :
    Calls Try.prog 16 #[.agg #[.int .i64 r, .int .i64 h], .int .i64 a, .int .i64 m] w fun e w' => e = .returned (.tuple #[.int .i64 (baseS r h a m).1, .int .i64 (baseS r h a m).2]) ∧ Below w.heap.size w w' := by
  obtain ⟨bx0, bx1⟩ := cur_cells w r h
  cases hc : curB r h 1
  · have EE := Lib.hid (baseS_no (a := a) (m := m) hc)
    go_enter Try.func16, Try.ntmps16
    go_wp2_with (first | (go_at_call 8; refine (cur_any _ _ _ _).mono ?_; rintro e w1 ⟨rfl, hb1⟩; have c0 := hb1.cell (p := ⟨w.heap.size, 0, none⟩) (by simp); have c1 := hb1.cell (p := ⟨w.heap.size, 1, none⟩) (by simp); rw [bx0] at c0; rw [bx1] at c1))
    go_ret2
    exact ⟨by rw [EE.out] <;> rfl, below_in hb1⟩
  · have EE := Lib.hid (baseS_yes (a := a) (m := m) hc)
    go_enter Try.func16, Try.ntmps16
    go_wp2_with (first | (go_at_call 8; refine (cur_any _ _ _ _).mono ?_; rintro e w1 ⟨rfl, hb1⟩; have c0 := hb1.cell (p := ⟨w.heap.size, 0, none⟩) (by simp); have c1 := hb1.cell (p := ⟨w.heap.size, 1, none⟩) (by simp); rw [bx0] at c0; rw [bx1] at c1) | (go_at_call 23; refine (muldiv_any _ _ _ _ _).mono ?_; rintro e w' ⟨rfl, nn, rfl⟩))
    go_ret2
    exact ⟨by rw [EE.out] <;> rfl, below_drewN (below_in hb1) _⟩

set_option maxRecDepth 100000 in
theorem worth_any (r h a : Int) (w : World) :
    Calls Try.prog 18 #[.agg #[.int .i64 r, .int .i64 h], .int .i64 a] w fun e w' => e = .returned (.tuple #[.int .i64 (worthS r h a).1, .int .i64 (worthS r h a).2]) ∧ Below w.heap.size w w' := by
  obtain ⟨bx0, bx1⟩ := cur_cells w r h
  obtain ⟨p, f, hb⟩ : ∃ p f, baseS r h a 0 = (p, f) := ⟨_, _, rfl⟩
  have hB := fun w => base_any r h a 0 w
  rw [hb] at hB
  simp only at hB
  by_cases hf : f = 0
  · subst hf
    have hc : curB r h 1 = true := by
      cases hc : curB r h 1
      · rw [baseS_no hc] at hb; cases hb
      · rfl
    obtain ⟨_, _, b1, b2⟩ := curB_iff.1 hc
    by_cases hp : p < 0
    · have EE := Lib.hid (worth_neg hb hp)
      clear hb hc
      go_enter Try.func18, Try.ntmps18
      go_wp2_with (first | (go_at_call 16; refine (hB _).mono ?_; rintro e w1 ⟨rfl, hb1⟩; have c0 := hb1.cell (p := ⟨w.heap.size, 0, none⟩) (by simp); have c1 := hb1.cell (p := ⟨w.heap.size, 1, none⟩) (by simp); rw [bx0] at c0; rw [bx1] at c1) | (go_at_call 23; refine (muldiv_any _ _ _ _ _).mono ?_; rintro e w' ⟨rfl, nn, rfl⟩))
      go_ret2
      exact ⟨by rw [EE.out] <;> rfl, below_drewN (below_in hb1) _⟩
    · have EE := Lib.hid (worth_pos hb hp)
      clear hb hc
      go_enter Try.func18, Try.ntmps18
      go_wp2_with (first | (go_at_call 16; refine (hB _).mono ?_; rintro e w1 ⟨rfl, hb1⟩; have c0 := hb1.cell (p := ⟨w.heap.size, 0, none⟩) (by simp); have c1 := hb1.cell (p := ⟨w.heap.size, 1, none⟩) (by simp); rw [bx0] at c0; rw [bx1] at c1) | (go_at_call 23; refine (muldiv_any _ _ _ _ _).mono ?_; rintro e w' ⟨rfl, nn, rfl⟩))
      go_ret2
      exact ⟨by rw [EE.out] <;> rfl, below_drewN (below_in hb1) _⟩
  · have EE := Lib.hid (worth_err hb hf)
    have t1 : (f != 0) = true := by rw [bne_iff_ne]; exact hf
    clear hb hf
    go_enter Try.func18, Try.ntmps18
    go_wp2_with (first | (go_at_call 16; refine (hB _).mono ?_; rintro e w1 ⟨rfl, hb1⟩; have c0 := hb1.cell (p := ⟨w.heap.size, 0, none⟩) (by simp); have c1 := hb1.cell (p := ⟨w.heap.size, 1, none⟩) (by simp); rw [bx0] at c0; rw [bx1] at c1) | (go_at_call 23; refine (muldiv_any _ _ _ _ _).mono ?_; rintro e w' ⟨rfl, nn, rfl⟩))
    go_ret2
    exact ⟨by rw [EE.out] <;> rfl, below_in hb1⟩

set_option maxRecDepth 100000 in
theorem rbase_any (r h a m : Int) (w : World) :
    Calls Try.prog 17 #[.agg #[.int .i64 r, .int .i64 h], .int .i64 a, .int .i64 m] w fun e w' => e = .returned (.tuple #[.int .i64 (baseS r h a m).1, .int .i64 (baseS r h a m).2]) ∧ Below w.heap.size w w' := by
  obtain ⟨bx0, bx1⟩ := cur_cells w r h
  cases hc : curB r h 1
  · have EE := Lib.hid (baseS_no (a := a) (m := m) hc)
    go_enter Try.func17, Try.ntmps17
    go_wp2_with (first | (go_at_call 9; refine (rcur_any _ _ _ _).mono ?_; rintro e w1 ⟨rfl, hb1⟩; have c0 := hb1.cell (p := ⟨w.heap.size, 0, none⟩) (by simp); have c1 := hb1.cell (p := ⟨w.heap.size, 1, none⟩) (by simp); rw [bx0] at c0; rw [bx1] at c1))
    go_ret2
    exact ⟨by rw [EE.out] <;> rfl, below_in hb1⟩
  · have EE := Lib.hid (baseS_yes (a := a) (m := m) hc)
    go_enter Try.func17, Try.ntmps17
    go_wp2_with (first | (go_at_call 9; refine (rcur_any _ _ _ _).mono ?_; rintro e w1 ⟨rfl, hb1⟩; have c0 := hb1.cell (p := ⟨w.heap.size, 0, none⟩) (by simp); have c1 := hb1.cell (p := ⟨w.heap.size, 1, none⟩) (by simp); rw [bx0] at c0; rw [bx1] at c1) | (go_at_call 24; refine (rmuldiv_any _ _ _ _ _).mono ?_; rintro e w' ⟨rfl, hb2⟩))
    go_ret2
    exact ⟨by rw [EE.out] <;> rfl, (below_in hb1).trans (hb2.mono (below_in hb1).size)⟩

set_option maxRecDepth 100000 in
theorem rworth_any (r h a : Int) (w : World) :
    Calls Try.prog 19 #[.agg #[.int .i64 r, .int .i64 h], .int .i64 a] w fun e w' => e = .returned (.tuple #[.int .i64 (worthS r h a).1, .int .i64 (worthS r h a).2]) ∧ Below w.heap.size w w' := by
  obtain ⟨bx0, bx1⟩ := cur_cells w r h
  obtain ⟨p, f, hb⟩ : ∃ p f, baseS r h a 0 = (p, f) := ⟨_, _, rfl⟩
  have hB := fun w => rbase_any r h a 0 w
  rw [hb] at hB
  simp only at hB
  by_cases hf : f = 0
  · subst hf
    have hc : curB r h 1 = true := by
      cases hc : curB r h 1
      · rw [baseS_no hc] at hb; cases hb
      · rfl
    obtain ⟨_, _, b1, b2⟩ := curB_iff.1 hc
    by_cases hp : p < 0
    · have EE := Lib.hid (worth_neg hb hp)
      clear hb hc
      go_enter Try.func19, Try.ntmps19
      go_wp2_with (first | (go_at_call 17; refine (hB _).mono ?_; rintro e w1 ⟨rfl, hb1⟩; have c0 := hb1.cell (p := ⟨w.heap.size, 0, none⟩) (by simp); have c1 := hb1.cell (p := ⟨w.heap.size, 1, none⟩) (by simp); rw [bx0] at c0; rw [bx1] at c1) | (go_at_call 24; refine (rmuldiv_any _ _ _ _ _).mono ?_; rintro e w' ⟨rfl, hb2⟩))
      go_ret2
      exact ⟨by rw [EE.out] <;> rfl, (below_in hb1).trans (hb2.mono (below_in hb1).size)⟩
    · have EE := Lib.hid (worth_pos hb hp)
      clear hb hc
      go_enter Try.func19, Try.ntmps19
      go_wp2_with (first | (go_at_call 17; refine (hB _).mono ?_; rintro e w1 ⟨rfl, hb1⟩; have c0 := hb1.cell (p := ⟨w.heap.size, 0, none⟩) (by simp); have c1 := hb1.cell (p := ⟨w.heap.size, 1, none⟩) (by simp); rw [bx0] at c0; rw [bx1] at c1) | (go_at_call 24; refine (rmuldiv_any _ _ _ _ _).mono ?_; rintro e w' ⟨rfl, hb2⟩))
      go_ret2
      exact ⟨by rw [EE.out] <;> rfl, (below_in hb1).trans (hb2.mono (below_in hb1).size)⟩
  · have EE := Lib.hid (worth_err hb hf)
    have t1 : (f != 0) = true := by rw [bne_iff_ne]; exact hf
    clear hb hf
    go_enter Try.func19, Try.ntmps19
    go_wp2_with (first | (go_at_call 17; refine (hB _).mono ?_; rintro e w1 ⟨rfl, hb1⟩; have c0 := hb1.cell (p := ⟨w.heap.size, 0, none⟩) (by simp); have c1 := hb1.cell (p := ⟨w.heap.size, 1, none⟩) (by simp); rw [bx0] at c0; rw [bx1] at c1) | (go_at_call 24; refine (rmuldiv_any _ _ _ _ _).mono ?_; rintro e w' ⟨rfl, hb2⟩))
    go_ret2
    exact ⟨by rw [EE.out] <;> rfl, below_in hb1⟩

end Go.Proofs.Ytklmknbbdhngbaa.Rd

/-
  Layer 1: what Sum and Prod return, of every list; and its law FixpSums.
-/
import Derived.Test.YtghnhdooedmpjaaFxC
import Derived.Test.YtghnhdooedmpjaaFr
import Derived.Deep.LoopGhost
namespace Go.Proofs.Ytghnhdooedmpjaa.Fx
open Go.RowKit
set_option linter.unusedVariables false

/-- One step more, unless one before it failed. -/
def stepS (f : Int → Int → Int × Int) (p : Int × Int) (x : Int) : Int × Int := if p.2 = 0 then f p.1 x else p
def accS (f : Int → Int → Int × Int) (p : Int × Int) (xs : List Int) : Int × Int := xs.foldl (stepS f) p
theorem acc_stuck {f : Int → Int → Int × Int} {p : Int × Int} (h : p.2 ≠ 0) : ∀ xs : List Int, accS f p xs = p
  | [] => rfl
  | x :: xs => by
    show accS f (stepS f p x) xs = p
    rw [show stepS f p x = p from if_neg h]
    exact acc_stuck h xs
theorem acc_snoc (f : Int → Int → Int × Int) (p : Int × Int) (xs : List Int) (x : Int) : accS f p (xs ++ [x]) = stepS f (accS f p xs) x := by
  unfold accS; rw [List.foldl_append]; rfl
theorem acc_append (f : Int → Int → Int × Int) (p : Int × Int) (xs ys : List Int) : accS f p (xs ++ ys) = accS f (accS f p xs) ys := by
  unfold accS; rw [List.foldl_append]
theorem take_next {zs : List Int} {k : Nat} (h : k < zs.length) : zs.take (k + 1) = zs.take k ++ [zs.getD k 0] := by
  rw [List.take_succ_eq_append_getElem h]; simp [List.getD, h]
theorem acc_next (f : Int → Int → Int × Int) (p : Int × Int) {zs : List Int} {k : Nat} (h : k < zs.length) : accS f p (zs.take (k + 1)) = stepS f (accS f p (zs.take k)) (zs.getD k 0) := by
  rw [take_next h, acc_snoc]
/-- Where the step after k elements fails, the whole fails so. -/
theorem acc_fail (f : Int → Int → Int × Int) (p : Int × Int) {zs : List Int} {k n : Nat} (h : k < zs.length) (hn : k < n) (r : Int × Int) (hr : accS f p (zs.take (k + 1)) = r) (h2 : r.2 ≠ 0) : accS f p (zs.take n) = r := by
  have e : zs.take n = zs.take (k + 1) ++ (zs.take n).drop (k + 1) := by
    have := List.take_append_drop (k + 1) (zs.take n)
    rw [List.take_take, Nat.min_eq_left (by omega)] at this
    exact this.symm
  rw [e, acc_append, hr, acc_stuck h2]
theorem addS_zero {a b : Int} (h : (addS a b).2 ≠ 0) : (addS a b).1 = 0 := by
  cases ha : fitB a
  · rw [addS_no1 ha]
  · cases hb : fitB b
    · rw [addS_no2 hb]
    · rw [addS_fit ha hb] at h ⊢
      cases hc : fitB (a + b)
      · rw [chkS_no hc]
      · rw [chkS_fit hc] at h; exact absurd rfl h
theorem mulS_zero {a b : Int} (h : (mulS a b).2 ≠ 0) : (mulS a b).1 = 0 := by
  unfold mulS at *
  cases ha : fitB a
  · rw [divS_no1 ha]
  · cases hb : fitB b
    · rw [divS_no2 hb]
    · rw [divS_go ha hb rfl (by decide)] at h ⊢
      by_cases hl : roundN a b 1 2 ≤ 4611686018427387904
      · unfold signed at h; rw [if_pos hl] at h; exact absurd rfl h
      · rw [signed_over (by omega)]


set_option maxRecDepth 100000 in
set_option maxHeartbeats 1000000 in
theorem fold_add (t : Int) (a : Option Addr) (len cap : Nat) (zs : List Int) (w : World) (hrow : Fr.HasRow .i64 w a len zs) :
    Calls Try.prog 31 #[.int .i64 t, .slice a len cap, .func (.func 10) #[] #[]] w fun e w' =>
      e = .returned (.tuple #[.int .i64 (accS addS (t, 0) (zs.take len)).1, .int .i64 (accS addS (t, 0) (zs.take len)).2]) ∧ ∃ n, w' = w.drewN n := by
  obtain ⟨hl, hm, hc⟩ := hrow
  have HC := Lib.hid hc; clear hc
  go_enter Try.func31, Try.ntmps31
  go_wp2
  go_loopg [0, 14] len (fun m s i wr => ∃ (k : Nat) (T : Int), k + m = len ∧ s = .int .i64 T ∧ i = .int .i64 (k : Int) ∧ accS addS (t, 0) (zs.take k) = (T, 0) ∧ ∃ n, wr = w.drewN n)
  case atStart => exact ⟨0, t, by omega, rfl, rfl, rfl, 0, rfl⟩
  case round =>
    obtain ⟨k, T, hk, rfl, rfl, hacc, n, rfl⟩ := hrel
    have HA := Lib.hid hacc; clear hacc
    by_cases hlt : k < len
    · obtain ⟨b, off, rfl, hcell⟩ := HC.out (by omega)
      have hck : w.cell? ⟨b, off + k, none⟩ = some (.int .i64 (zs.getD k 0)) := hcell k (by omega)
      clear hcell
      have hnx := acc_next addS (t, 0) (show k < zs.length by omega)
      rw [HA.out] at hnx
      obtain ⟨x, hx⟩ : ∃ x, zs.getD k 0 = x := ⟨_, rfl⟩
      rw [hx] at hck hnx
      obtain ⟨y, e, r1⟩ : ∃ y e, addS T x = (y, e) := ⟨_, _, rfl⟩
      have hst : stepS addS (T, 0) x = (y, e) := r1
      rw [hst] at hnx
      have HX := Lib.hid hx; have HN := Lib.hid hnx; clear hx hnx hst
      by_cases he : e = 0
      · subst he
        go_wp2_with (go_at_call 10; refine (add_any _ _ _).mono ?_; rintro e w' ⟨rfl, rfl⟩)
        go_roundg (gk - 1)
        case measure => omega
        case rel => exact ⟨k + 1, y, by omega, rfl, by go_num, HN.out, _, rfl⟩
      · have t1 : (e != 0) = true := by rw [bne_iff_ne]; exact he
        have hz := addS_zero (a := T) (b := x) (by rw [r1]; exact he)
        rw [r1] at hz
        simp only at hz
        subst hz
        have hf := acc_fail addS (t, 0) (n := len) (show k < zs.length by omega) hlt (0, e) HN.out he
        have HF := Lib.hid hf; clear hf he
        go_wp2_with (go_at_call 10; refine (add_any _ _ _).mono ?_; rintro e w' ⟨rfl, rfl⟩)
        go_ret2
        exact ⟨by rw [HF.out] <;> rfl, _, rfl⟩
    · have hkl : k = len := by omega
      have hacc := HA.out
      rw [hkl] at hacc
      have HA2 := Lib.hid hacc; clear hacc hkl
      go_wp2
      go_ret2
      exact ⟨by rw [HA2.out] <;> rfl, _, rfl⟩

set_option maxRecDepth 100000 in
set_option maxHeartbeats 1000000 in
theorem fold_mul (t : Int) (a : Option Addr) (len cap : Nat) (zs : List Int) (w : World) (hrow : Fr.HasRow .i64 w a len zs) :
    Calls Try.prog 31 #[.int .i64 t, .slice a len cap, .func (.func 16) #[] #[]] w fun e w' =>
      e = .returned (.tuple #[.int .i64 (accS mulS (t, 0) (zs.take len)).1, .int .i64 (accS mulS (t, 0) (zs.take len)).2]) ∧ ∃ n, w' = w.drewN n := by
  obtain ⟨hl, hm, hc⟩ := hrow
  have HC := Lib.hid hc; clear hc
  go_enter Try.func31, Try.ntmps31
  go_wp2
  go_loopg [0, 14] len (fun m s i wr => ∃ (k : Nat) (T : Int), k + m = len ∧ s = .int .i64 T ∧ i = .int .i64 (k : Int) ∧ accS mulS (t, 0) (zs.take k) = (T, 0) ∧ ∃ n, wr = w.drewN n)
  case atStart => exact ⟨0, t, by omega, rfl, rfl, rfl, 0, rfl⟩
  case round =>
    obtain ⟨k, T, hk, rfl, rfl, hacc, n, rfl⟩ := hrel
    have HA := Lib.hid hacc; clear hacc
    by_cases hlt : k < len
    · obtain ⟨b, off, rfl, hcell⟩ := HC.out (by omega)
      have hck : w.cell? ⟨b, off + k, none⟩ = some (.int .i64 (zs.getD k 0)) := hcell k (by omega)
      clear hcell
      have hnx := acc_next mulS (t, 0) (show k < zs.length by omega)
      rw [HA.out] at hnx
      obtain ⟨x, hx⟩ : ∃ x, zs.getD k 0 = x := ⟨_, rfl⟩
      rw [hx] at hck hnx
      obtain ⟨y, e, r1⟩ : ∃ y e, mulS T x = (y, e) := ⟨_, _, rfl⟩
      have hst : stepS mulS (T, 0) x = (y, e) := r1
      rw [hst] at hnx
      have HX := Lib.hid hx; have HN := Lib.hid hnx; clear hx hnx hst
      by_cases he : e = 0
      · subst he
        go_wp2_with (go_at_call 16; refine (mul_any _ _ _).mono ?_; rintro e w' ⟨rfl, n2, rfl⟩)
        go_roundg (gk - 1)
        case measure => omega
        case rel => exact ⟨k + 1, y, by omega, rfl, by go_num, HN.out, _, rfl⟩
      · have t1 : (e != 0) = true := by rw [bne_iff_ne]; exact he
        have hz := mulS_zero (a := T) (b := x) (by rw [r1]; exact he)
        rw [r1] at hz
        simp only at hz
        subst hz
        have hf := acc_fail mulS (t, 0) (n := len) (show k < zs.length by omega) hlt (0, e) HN.out he
        have HF := Lib.hid hf; clear hf he
        go_wp2_with (go_at_call 16; refine (mul_any _ _ _).mono ?_; rintro e w' ⟨rfl, n2, rfl⟩)
        go_ret2
        exact ⟨by rw [HF.out] <;> rfl, _, rfl⟩
    · have hkl : k = len := by omega
      have hacc := HA.out
      rw [hkl] at hacc
      have HA2 := Lib.hid hacc; clear hacc hkl
      go_wp2
      go_ret2
      exact ⟨by rw [HA2.out] <;> rfl, _, rfl⟩


theorem row_drew {k : IntKind} {w : World} {a : Option Addr} {len : Nat} {zs : List Int} (h : Fr.HasRow k w a len zs) (n : Nat) : Fr.HasRow k (w.drewN n) a len zs := h

theorem sum_any (a : Option Addr) (len cap : Nat) (zs : List Int) (w : World) (hrow : Fr.HasRow .i64 w a len zs) :
    Calls Try.prog 20 #[.slice a len cap] w fun e w' =>
      e = .returned (.tuple #[.int .i64 (accS addS (0, 0) (zs.take len)).1, .int .i64 (accS addS (0, 0) (zs.take len)).2]) ∧ ∃ n, w' = w.drewN n := by
  have HR := Lib.hid hrow; clear hrow
  go_enter Try.func20, Try.ntmps20
  go_wp2_with (go_at_call 31; refine (fold_add _ _ _ _ _ _ HR.out).mono ?_; rintro e w' ⟨rfl, n, rfl⟩)
  go_ret2
  exact ⟨rfl, n, rfl⟩
theorem prod_any (a : Option Addr) (len cap : Nat) (zs : List Int) (w : World) (hrow : Fr.HasRow .i64 w a len zs) :
    Calls Try.prog 21 #[.slice a len cap] w fun e w' =>
      e = .returned (.tuple #[.int .i64 (accS mulS (1, 0) (zs.take len)).1, .int .i64 (accS mulS (1, 0) (zs.take len)).2]) ∧ ∃ n, w' = w.drewN n := by
  have HR := Lib.hid hrow; clear hrow
  go_enter Try.func21, Try.ntmps21
  go_wp2_with (go_at_call 31; refine (fold_mul _ _ _ _ _ _ HR.out).mono ?_; rintro e w' ⟨rfl, n, rfl⟩)
  go_ret2
  exact ⟨rfl, n, rfl⟩

set_option maxRecDepth 100000 in
set_option maxHeartbeats 2000000 in
theorem sums_walk (a : Option Addr) (len cap : Nat) (zs : List Int) (w : World) (hrow : Fr.IsRow .i64 w a len cap zs) :
    Calls Try.prog 5 #[.slice a len cap] w fun e w' => e = .returned (.bool true) ∧ Below w.heap.size w w' := by
  have hrow := hrow.has
  obtain ⟨hl, hm, hc⟩ := id hrow
  have HC := Lib.hid hc; have HR := Lib.hid hrow; clear hc hrow
  go_enter Try.func5, Try.ntmps5
  go_wp2_with (go_at_call 9; refine (wakes_any _).mono ?_; rintro e w' ⟨rfl, n, rfl⟩)
  go_loopg [3, 4, 5, 6, 17] len (fun m s p e f i wr => ∃ (k : Nat) (S E Q F : Int), k + m = len ∧ s = .int .i64 S ∧ e = .int .i64 E ∧ p = .int .i64 Q ∧ f = .int .i64 F ∧ i = .int .i64 (k : Int) ∧
    accS addS (0, 0) (zs.take k) = (S, E) ∧ accS mulS (1, 0) (zs.take k) = (Q, F) ∧ Below w.heap.size w wr)
  case atStart => exact ⟨0, 0, 0, 1, 0, by omega, rfl, rfl, rfl, rfl, rfl, rfl, rfl, below_drewN (Below.refl _ _) _⟩
  case round =>
    obtain ⟨k, S, E, Q, F, hk, rfl, rfl, rfl, rfl, rfl, h1, h2, hb⟩ := hrel
    by_cases hlt : k < len
    · obtain ⟨b, off, rfl, hcell⟩ := HC.out (by omega)
      have hck0 : w.cell? ⟨b, off + k, none⟩ = some (.int .i64 (zs.getD k 0)) := hcell k (by omega)
      have hck : wr.cell? ⟨b, off + k, none⟩ = some (.int .i64 (zs.getD k 0)) := by
        rw [hb.cell (Fr.lt_of_cell hck0)]; exact hck0
      clear hcell hck0
      have n1 := acc_next addS (0, 0) (show k < zs.length by omega)
      have n2 := acc_next mulS (1, 0) (show k < zs.length by omega)
      rw [h1] at n1
      rw [h2] at n2
      obtain ⟨x, hx⟩ : ∃ x, zs.getD k 0 = x := ⟨_, rfl⟩
      rw [hx] at hck n1 n2
      clear hx h1 h2
      by_cases he : E = 0
      · subst he
        obtain ⟨y, e, r1⟩ : ∃ y e, addS S x = (y, e) := ⟨_, _, rfl⟩
        have q1 : stepS addS (S, 0) x = (y, e) := r1
        rw [q1] at n1
        have N1 := Lib.hid n1; clear n1 q1
        by_cases hf : F = 0
        · subst hf
          obtain ⟨y2, e2, r2⟩ : ∃ y e, mulS Q x = (y, e) := ⟨_, _, rfl⟩
          have q2 : stepS mulS (Q, 0) x = (y2, e2) := r2
          rw [q2] at n2
          have N2 := Lib.hid n2; clear n2 q2
          go_wp2_with (first | (go_at_call 11; refine (radd_any _ _ _).mono ?_; rintro e w' ⟨rfl, rfl⟩) | (go_at_call 17; refine (rmul_any _ _ _).mono ?_; rintro e w1 ⟨rfl, hb1⟩))
          go_roundg (gk - 1)
          case measure => omega
          case rel => exact ⟨k + 1, y, e, y2, e2, by omega, rfl, rfl, rfl, rfl, by go_num, N1.out, N2.out, below_next hb hb1⟩
        · have t2 : (F == 0) = false := beq_eq_false_iff_ne.2 hf
          have q2 : stepS mulS (Q, F) x = (Q, F) := if_neg hf
          rw [q2] at n2
          have N2 := Lib.hid n2; clear n2 q2 hf
          go_wp2_with (first | (go_at_call 11; refine (radd_any _ _ _).mono ?_; rintro e w' ⟨rfl, rfl⟩) | (go_at_call 17; refine (rmul_any _ _ _).mono ?_; rintro e w1 ⟨rfl, hb1⟩))
          go_roundg (gk - 1)
          case measure => omega
          case rel => exact ⟨k + 1, y, e, Q, F, by omega, rfl, rfl, rfl, rfl, by go_num, N1.out, N2.out, hb⟩
      · have t1 : (E == 0) = false := beq_eq_false_iff_ne.2 he
        have q1 : stepS addS (S, E) x = (S, E) := if_neg he
        rw [q1] at n1
        have N1 := Lib.hid n1; clear n1 q1 he
        by_cases hf : F = 0
        · subst hf
          obtain ⟨y2, e2, r2⟩ : ∃ y e, mulS Q x = (y, e) := ⟨_, _, rfl⟩
          have q2 : stepS mulS (Q, 0) x = (y2, e2) := r2
          rw [q2] at n2
          have N2 := Lib.hid n2; clear n2 q2
          go_wp2_with (first | (go_at_call 11; refine (radd_any _ _ _).mono ?_; rintro e w' ⟨rfl, rfl⟩) | (go_at_call 17; refine (rmul_any _ _ _).mono ?_; rintro e w1 ⟨rfl, hb1⟩))
          go_roundg (gk - 1)
          case measure => omega
          case rel => exact ⟨k + 1, S, E, y2, e2, by omega, rfl, rfl, rfl, rfl, by go_num, N1.out, N2.out, below_next hb hb1⟩
        · have t2 : (F == 0) = false := beq_eq_false_iff_ne.2 hf
          have q2 : stepS mulS (Q, F) x = (Q, F) := if_neg hf
          rw [q2] at n2
          have N2 := Lib.hid n2; clear n2 q2 hf
          go_wp2_with (first | (go_at_call 11; refine (radd_any _ _ _).mono ?_; rintro e w' ⟨rfl, rfl⟩) | (go_at_call 17; refine (rmul_any _ _ _).mono ?_; rintro e w1 ⟨rfl, hb1⟩))
          go_roundg (gk - 1)
          case measure => omega
          case rel => exact ⟨k + 1, S, E, Q, F, by omega, rfl, rfl, rfl, rfl, by go_num, N1.out, N2.out, hb⟩
    · have hkl : k = len := by omega
      rw [hkl] at h1 h2
      clear hkl
      have HB := Lib.hid (HR.out.keep hb)
      go_wp2_with (first | (go_at_call 20; refine (sum_any _ _ _ _ _ HB.out).mono ?_; rintro e w' ⟨rfl, n3, rfl⟩) | (go_at_call 21; refine (prod_any _ _ _ _ _ (row_drew HB.out _)).mono ?_; rintro e w' ⟨rfl, n4, rfl⟩))
      go_ret
      exact ⟨rfl, hb.trans ⟨rfl, rfl, rfl, Nat.le_refl _, fun _ _ => rfl⟩⟩
end Go.Proofs.Ytghnhdooedmpjaa.Fx

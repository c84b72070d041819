/-
  Layer 8: the reference's Same and SameFrames, of the same.
-/
import Derived.Test.YtmecaioklmkdlaaAi
import Derived.BigQuiet
import Derived.Deep.QuietTactic
namespace Go.Proofs.Ytmecaioklmkdlaa.Ss
open Go.RowKit
set_option linter.unusedVariables false
set_option linter.unusedSimpArgs false

set_option maxRecDepth 100000 in
set_option maxHeartbeats 2000000 in
theorem same_any (a b : Option Addr) (len c c2 : Nat) (S : List ByteArray) (t k : Int) (w : World) (hA : HasS w a S) (hB : HasS w b S) (hl : S.length = len) :
    Calls Try.prog 12 #[.agg #[.slice a len c, .int .i64 t, .int .i64 k], .agg #[.slice b len c2, .int .i64 t, .int .i64 k]] w (Tells true w) := by
  have hm := hA.1
  rw [hl] at hm
  unfold Tells
  obtain ⟨N, hN⟩ : ∃ N, N = w.heap.size := ⟨_, rfl⟩
  obtain ⟨x0, y0, b0⟩ := two_new w #[.slice a len c, .int .i64 t, .int .i64 k] #[.slice b len c2, .int .i64 t, .int .i64 k] 24 24
  obtain ⟨w0, hw0⟩ : ∃ w0, w0 = (w.alloc (.cells #[.slice a len c, .int .i64 t, .int .i64 k] 24)).alloc (.cells #[.slice b len c2, .int .i64 t, .int .i64 k] 24) := ⟨_, rfl⟩
  rw [← hw0] at x0 y0 b0
  have HA := Lib.hid (hA.keep b0); have HB := Lib.hid (hB.keep b0)
  rw [← hN] at x0 y0 b0
  have HN := Lib.hid hN; have HW0 := Lib.hid hw0; have B0 := Lib.hid b0; have HX := Lib.hid x0; have HY := Lib.hid y0; have HL := Lib.hid hl
  have hz0 : N + 2 ≤ w0.heap.size := y0.lt
  clear hN hw0 b0 x0 y0 hl hA hB
  obtain ⟨c0, c1, c2'⟩ := agg_cells HX.out
  obtain ⟨d0, d1, d2⟩ := agg_cells HY.out
  go_enter Try.func12, Try.ntmps12
  rw [← HN.out]
  go_wp2_with fail
  rw [← HN.out, ← HW0.out]
  go_wp2
  clear c0 c1 c2' d0 d1 d2
  go_loopg [30] len (fun m i wr => ∃ p : Nat, p + m = len ∧ i = .int .i64 (p : Int) ∧ Hid (Below w0.heap.size w0 wr))
  case atStart => exact ⟨0, by omega, rfl, Lib.hid (Below.refl _ _)⟩
  case round =>
    obtain ⟨p, hp, rfl, HR⟩ := hrel
    by_cases hlt : p < len
    · obtain ⟨bb, off, rfl, e0⟩ := (HA.out.keep HR.out).at (show p < S.length by rw [HL.out]; exact hlt)
      obtain ⟨bb2, off2, rfl, e1⟩ := (HB.out.keep HR.out).at (show p < S.length by rw [HL.out]; exact hlt)
      obtain ⟨c0, c1, c2'⟩ := agg_cells (HX.out.keep HR.out)
      obtain ⟨d0, d1, d2⟩ := agg_cells (HY.out.keep HR.out)
      have i0 : (p : Int) < (len : Int) := by omega
      have i1 : (0 : Int) ≤ (p : Int) := by omega
      generalize S.getD p em = m0 at *
      go_wp2
      go_quiet (fail)
      go_wp2
      go_roundg (len - (p + 1))
      case measure => omega
      case rel => exact ⟨p + 1, by omega, by go_num, Lib.hid (HR.out.trans ⟨rfl, rfl, rfl, Nat.le_refl _, fun _ _ => rfl⟩)⟩
    · have hpl : p = len := by omega
      go_wp2
      go_ret
      exact ⟨rfl, B0.out.trans (HR.out.mono (by omega))⟩
set_option maxRecDepth 100000 in
set_option maxHeartbeats 2000000 in
theorem sameF_any (a b : Option Addr) (len c c2 : Nat) (X : List Fm) (w : World) (hA : HasX w a X) (hB : HasX w b X) (hl : X.length = len) :
    Calls Try.prog 19 #[.slice a len c, .slice b len c2] w (Tells true w) := by
  have hm := hA.1
  rw [hl] at hm
  unfold Tells
  have HA := Lib.hid hA; have HB := Lib.hid hB; have HL := Lib.hid hl
  clear hl hA hB
  go_enter Try.func19, Try.ntmps19
  go_wp2
  go_loopg [13] len (fun m i wr => ∃ p : Nat, p + m = len ∧ i = .int .i64 (p : Int) ∧ Hid (Below w.heap.size w wr))
  case atStart => exact ⟨0, by omega, rfl, Lib.hid (Below.refl _ _)⟩
  case round =>
    obtain ⟨p, hp, rfl, HR⟩ := hrel
    by_cases hlt : p < len
    · obtain ⟨bb, off, rfl, e0, e1, e2, e3⟩ := (HA.out.keep HR.out).at (show p < X.length by rw [HL.out]; exact hlt)
      obtain ⟨bb2, off2, rfl, k0, k1, k2, k3⟩ := (HB.out.keep HR.out).at (show p < X.length by rw [HL.out]; exact hlt)
      have i0 : (p : Int) < (len : Int) := by omega
      have i1 : (0 : Int) ≤ (p : Int) := by omega
      generalize X.getD p fm0 = f at *
      obtain ⟨f1, f2, f3, f4⟩ := f
      simp only at e0 e1 e2 e3 k0 k1 k2 k3
      go_wp2
      go_quiet (fail)
      go_wp2
      go_roundg (len - (p + 1))
      case measure => omega
      case rel => exact ⟨p + 1, by omega, by go_num, Lib.hid (HR.out.trans ⟨rfl, rfl, rfl, Nat.le_refl _, fun _ _ => rfl⟩)⟩
    · have hpl : p = len := by omega
      go_wp2
      go_ret
      exact ⟨rfl, HR.out⟩
end Go.Proofs.Ytmecaioklmkdlaa.Ss

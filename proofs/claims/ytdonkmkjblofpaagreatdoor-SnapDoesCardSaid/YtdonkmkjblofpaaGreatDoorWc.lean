/-
  Layer 5: a number of four bytes, the record at the head of bytes.
-/
import Derived.Test.YtdonkmkjblofpaaGreatDoorWb
namespace Go.Proofs.YtdonkmkjblofpaaGreatDoor.Wl
open Go.RowKit Go.Sort Dx Sx
set_option linter.unusedVariables false
set_option linter.unusedSimpArgs false
theorem or_at (X Y k : Nat) (hx : X < 2 ^ k) (hy : Y ≤ 255) (hk : k ≤ 24) : bits .or .u32 (X : Int) ((Y * 2 ^ k : Nat) : Int) = ((X + Y * 2 ^ k : Nat) : Int) := by
  have h1 : 2 ^ k ≤ 2 ^ 24 := Nat.pow_le_pow_right (by omega) hk
  have h2 : Y * 2 ^ k ≤ 255 * 2 ^ 24 := Nat.mul_le_mul hy h1
  rw [u32_or_nat _ _ (by omega) (by omega)]
  congr 1
  have := Nat.two_pow_add_eq_or_of_lt hx Y
  rw [Nat.mul_comm (2 ^ k) Y] at this
  rw [Nat.or_comm, ← this, Nat.add_comm]
theorem or_four (z0 z1 z2 z3 : Int) (h0 : 0 ≤ z0 ∧ z0 ≤ 255) (h1 : 0 ≤ z1 ∧ z1 ≤ 255) (h2 : 0 ≤ z2 ∧ z2 ≤ 255) (h3 : 0 ≤ z3 ∧ z3 ≤ 255) :
    bits .or .u32 (bits .or .u32 (bits .or .u32 z0 (z1 * 256)) (z2 * 65536)) (z3 * 16777216) = z0 + z1 * 256 + z2 * 65536 + z3 * 16777216 := by
  obtain ⟨n0, rfl⟩ := Int.eq_ofNat_of_zero_le h0.1
  obtain ⟨n1, rfl⟩ := Int.eq_ofNat_of_zero_le h1.1
  obtain ⟨n2, rfl⟩ := Int.eq_ofNat_of_zero_le h2.1
  obtain ⟨n3, rfl⟩ := Int.eq_ofNat_of_zero_le h3.1
  have e1 := or_at n0 n1 8 (by omega) (by omega) (by omega)
  have e2 := or_at (n0 + n1 * 2 ^ 8) n2 16 (by omega) (by omega) (by omega)
  have e3 := or_at (n0 + n1 * 2 ^ 8 + n2 * 2 ^ 16) n3 24 (by omega) (by omega) (by omega)
  rw [show (n1 : Int) * 256 = ((n1 * 2 ^ 8 : Nat) : Int) by omega, e1, show (n2 : Int) * 65536 = ((n2 * 2 ^ 16 : Nat) : Int) by omega, e2, show (n3 : Int) * 16777216 = ((n3 * 2 ^ 24 : Nat) : Int) by omega, e3]
  omega
set_option maxRecDepth 100000 in
set_option maxHeartbeats 400000 in
theorem number_any (b off len cap : Nat) (z0 z1 z2 z3 : Int) (w : World) (h4 : 4 ≤ len) (h0 : 0 ≤ z0 ∧ z0 ≤ 255) (h1 : 0 ≤ z1 ∧ z1 ≤ 255) (h2 : 0 ≤ z2 ∧ z2 ≤ 255) (h3 : 0 ≤ z3 ∧ z3 ≤ 255)
    (c0 : w.cell? ⟨b, off, none⟩ = some (.int .u8 z0)) (c1 : w.cell? ⟨b, off + 1, none⟩ = some (.int .u8 z1)) (c2 : w.cell? ⟨b, off + 2, none⟩ = some (.int .u8 z2)) (c3 : w.cell? ⟨b, off + 3, none⟩ = some (.int .u8 z3)) :
    Calls Tryz.prog 51 #[.slice (some ⟨b, off, none⟩) len cap] w fun e w' => e = .returned (.int .u32 (z0 + z1 * 256 + z2 * 65536 + z3 * 16777216)) ∧ ∃ n, w' = w.drewN n := by
  have OR := Lib.hid (or_four z0 z1 z2 z3 h0 h1 h2 h3)
  obtain ⟨a0, b0⟩ := h0; obtain ⟨a1, b1⟩ := h1; obtain ⟨a2, b2⟩ := h2; obtain ⟨a3, b3⟩ := h3
  have l0 : (0 : Int) < (len : Int) := by omega
  have l1 : (1 : Int) < (len : Int) := by omega
  have l2 : (2 : Int) < (len : Int) := by omega
  have l3 : (3 : Int) < (len : Int) := by omega
  go_enter Tryz.func51, Tryz.ntmps51
  go_wp2
  go_quiet (fail)
  go_wp2
  go_ret
  exact ⟨by rw [OR.out] <;> rfl, _, rfl⟩
theorem num4_get {l : List Int} (hb : Bytes l) (h : 4 ≤ l.length) : (num4 l : Int) = l.getD 0 0 + l.getD 1 0 * 256 + l.getD 2 0 * 65536 + l.getD 3 0 * 16777216 := by
  have h0 := hb 0 (by omega); have h1 := hb 1 (by omega); have h2 := hb 2 (by omega); have h3 := hb 3 (by omega)
  unfold num4
  omega
theorem num4_lt {l : List Int} (hb : Bytes l) : num4 l < 4294967296 := by
  have g : ∀ j, (l.getD j 0).toNat ≤ 255 := fun j => by
    by_cases h : j < l.length
    · have := hb j h; omega
    · simp [List.getD, List.getElem?_eq_none (Nat.le_of_not_lt h)]
  have h0 := g 0; have h1 := g 1; have h2 := g 2; have h3 := g 3
  unfold num4
  omega
theorem number_row (a : Option Addr) (len cap : Nat) (zs : List Int) (w : World) (hb : Bytes zs) (hrow : Fr.HasRow .u8 w a len zs) (h4 : 4 ≤ len) :
    Calls Tryz.prog 51 #[.slice a len cap] w fun e w' => e = .returned (.int .u32 (num4 zs : Int)) ∧ ∃ n, w' = w.drewN n := by
  obtain ⟨x1, x2, x3⟩ := hrow
  obtain ⟨b, off, rfl, hc⟩ := x3 (by omega)
  rw [num4_get hb (by omega)]
  exact number_any b off len cap _ _ _ _ w h4 (hb 0 (by omega)) (hb 1 (by omega)) (hb 2 (by omega)) (hb 3 (by omega)) (hc 0 (by omega)) (hc 1 (by omega)) (hc 2 (by omega)) (hc 3 (by omega))
end Go.Proofs.YtdonkmkjblofpaaGreatDoor.Wl

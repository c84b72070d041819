/-
  Layer 3: what the functions of package sum, and the document's own, return for every list of bytes.
-/
import Derived.Test.YtjgkjmegpinelaaDoorChecked
import Derived.Test.YtjgkjmegpinelaaDoorSa
import Derived.Test.YtjgkjmegpinelaaDoorFr
import Derived.Deep.LoopGhost
import Derived.Lib.LaidTab
import Derived.Lib.Hide
import Derived.IntWalk
namespace Go.Proofs.YtjgkjmegpinelaaDoor.Sx
open Go.RowKit
set_option linter.unusedVariables false

abbrev Tab (w : World) : Prop := Lib.TabIs Tryd.prog w "bulwark/sum.nibbleCrcs" .u32 nibTab
theorem ofInt_of (z : Int) (h0 : 0 ≤ z) (h1 : z ≤ 255) : ∃ n : Nat, z = (n : Int) ∧ n ≤ 255 ∧ (BitVec.ofInt 32 z).toNat = n :=
  ⟨z.toNat, by omega, by omega, (ofInt_byte h0 h1).1⟩

set_option maxRecDepth 100000 in
set_option maxHeartbeats 1000000 in
theorem small_any (a : Option Addr) (len cap : Nat) (zs : List Int) (w : World) (hb : Bytes zs) (hrow : Fr.HasRow .u8 w a len zs) :
    Calls Tryd.prog 43 #[.slice a len cap] w fun e w' => e = .returned (.int .i64 (smallS (zs.take len))) ∧ w = w' := by
  obtain ⟨hl, hm, hc⟩ := hrow
  have HC := Lib.hid hc; have HB := Lib.hid hb; clear hc hb
  go_enter Tryd.func43, Tryd.ntmps43
  go_wp2
  go_loopg [3, 8] len (fun m s i wr => ∃ (k : Nat) (S : Int), k + m = len ∧ s = .int .u8 S ∧ i = .int .i64 (k : Int) ∧ Hid (smallS (zs.take k) = S) ∧ wr = w)
  case atStart => exact ⟨0, 0, by omega, rfl, rfl, Lib.hid rfl, rfl⟩
  case round =>
    obtain ⟨k, S, hk, rfl, rfl, HR, rfl⟩ := hrel
    have hbd := small_bd (zs.take k)
    rw [HR.out] at hbd
    obtain ⟨b0, b1⟩ := hbd
    by_cases hlt : k < len
    · obtain ⟨b, off, rfl, hcell⟩ := HC.out (by omega)
      have ck := hcell k hlt
      clear hcell
      obtain ⟨z0, z1⟩ := HB.out k (by omega)
      have hnx := small_next (show k < zs.length by omega)
      rw [HR.out] at hnx
      generalize zs.getD k 0 = z at *
      have e1 : IntKind.u8.wrap (S + z) = (S + z) % 256 := IntKind.wrap_u8' _
      have HN := Lib.hid hnx; clear hnx
      have HE := Lib.hid e1; clear e1
      go_wp2
      go_roundg (gk - 1)
      case measure => omega
      case rel => exact ⟨k + 1, _, by omega, rfl, by go_num, Lib.hid (by rw [HN.out] <;> first | rfl | rw [HE.out]), rfl⟩
    · have hkl : k = len := by omega
      have h1 := HR.out
      rw [hkl] at h1
      have HE := Lib.hid h1; clear h1 hkl
      go_wp2
      go_ret
      exact ⟨by rw [HE.out] <;> rfl, rfl⟩

set_option maxRecDepth 100000 in
set_option maxHeartbeats 1000000 in
theorem rsmall_any (a : Option Addr) (len cap : Nat) (zs : List Int) (w : World) (hb : Bytes zs) (hrow : Fr.HasRow .u8 w a len zs) :
    Calls Tryd.prog 44 #[.slice a len cap] w fun e w' => e = .returned (.int .i64 (smallS (zs.take len))) ∧ w = w' := by
  obtain ⟨hl, hm, hc⟩ := hrow
  have HC := Lib.hid hc; have HB := Lib.hid hb; clear hc hb
  go_enter Tryd.func44, Tryd.ntmps44
  go_wp2
  go_loopg [3, 4] len (fun m s i wr => ∃ (k : Nat) (S : Int), k + m = len ∧ s = .int .i64 S ∧ i = .int .i64 (k : Int) ∧ Hid (smallS (zs.take k) = S) ∧ wr = w)
  case atStart => exact ⟨0, 0, by omega, rfl, rfl, Lib.hid rfl, rfl⟩
  case round =>
    obtain ⟨k, S, hk, rfl, rfl, HR, rfl⟩ := hrel
    have hbd := small_bd (zs.take k)
    rw [HR.out] at hbd
    obtain ⟨b0, b1⟩ := hbd
    by_cases hlt : k < len
    · obtain ⟨b, off, rfl, hcell⟩ := HC.out (by omega)
      have ck := hcell k hlt
      clear hcell
      obtain ⟨z0, z1⟩ := HB.out k (by omega)
      have hnx := small_next (show k < zs.length by omega)
      rw [HR.out] at hnx
      generalize zs.getD k 0 = z at *
      have HN := Lib.hid hnx; clear hnx
      go_wp2
      go_roundg (gk - 1)
      case measure => omega
      case rel => exact ⟨k + 1, _, by omega, rfl, by go_num, Lib.hid (by rw [HN.out] <;> rfl), rfl⟩
    · have hkl : k = len := by omega
      have h1 := HR.out
      rw [hkl] at h1
      have HE := Lib.hid h1; clear h1 hkl
      go_wp2
      go_ret
      exact ⟨by rw [HE.out] <;> rfl, rfl⟩
end Go.Proofs.YtjgkjmegpinelaaDoor.Sx

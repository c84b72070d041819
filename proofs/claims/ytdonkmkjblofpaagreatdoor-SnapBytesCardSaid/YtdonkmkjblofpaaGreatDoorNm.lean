/-
  Layer 6: the law on what an encoding is read as, walked.
-/
import Derived.Test.YtdonkmkjblofpaaGreatDoorNQ
import Derived.Test.YtdonkmkjblofpaaGreatDoorSd
namespace Go.Proofs.YtdonkmkjblofpaaGreatDoor.Sn
open Go.RowKit Go.Sort Dx Sx Dk Wl
set_option linter.unusedVariables false
set_option linter.unusedSimpArgs false
theorem bytes_row {w : World} {a : Option Addr} {len cap : Nat} {zs : List Int} (h : Fr.IsRow .u8 w a len cap zs) : Bytes zs := by
  intro j hj
  rcases h with ⟨_, _, _, rfl⟩ | ⟨_, _, _, _, _, _, h⟩
  · exact absurd hj (Nat.not_lt_zero _)
  · exact bounds_u8 (h (zs.getD j 0) (by simp [List.getD, hj]))
theorem bytes_zero : Bytes [0] := fun j hj => by
  match j, hj with
  | 0, _ => exact ⟨by decide, by decide⟩
end Go.Proofs.YtdonkmkjblofpaaGreatDoor.Sn

/-
  Layer 4: a call out of a script, kind by kind; calls of no disk. (Written by gen_kr.py.)
-/
import Derived.Test.YtdonkmkjblofpaaGreatDoorKq
namespace Go.Proofs.YtdonkmkjblofpaaGreatDoor.Dk
open Go.RowKit Fo
set_option linter.unusedVariables false

section
variable {w : World} {O : Nat → Prop} {d : Nat} {S : St}
end
end Go.Proofs.YtdonkmkjblofpaaGreatDoor.Dk

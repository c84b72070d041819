/-
  Layer 4: a call out of a script, kind by kind; calls of no disk. (Written by gen_kr.py.)
-/
import Derived.Test.YtdonkmkjblofpaaDoorKq
namespace Go.Proofs.YtdonkmkjblofpaaDoor.Dk
open Go.RowKit Fo
set_option linter.unusedVariables false

section
variable {w : World} {O : Nat → Prop} {d : Nat} {S : St}
end
end Go.Proofs.YtdonkmkjblofpaaDoor.Dk

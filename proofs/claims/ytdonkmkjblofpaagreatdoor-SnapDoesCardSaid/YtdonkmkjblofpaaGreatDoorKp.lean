/-
  Layer 4: a script that came in, opened.
-/
import Derived.Test.YtdonkmkjblofpaaGreatDoorChecked
import Derived.Test.YtdonkmkjblofpaaGreatDoorKn
namespace Go.Proofs.YtdonkmkjblofpaaGreatDoor.Fo
open Go.ChangeShapes Go.WideShapes Go.ChangeAt Go.RowKit Go.Deep
set_option linter.unusedVariables false

structure Opv where
  kind : Int
  f : ByteArray
  g : ByteArray
  n : Int
  k : Int
  b : Rw
def opCells (x : Opv) : Array Value := #[.int .i64 x.kind, .string x.f, .string x.g, .int .i64 x.n, .int .i64 x.k, .slice x.b.a x.b.len x.b.cap]
structure OpOk (w : World) (x : Opv) : Prop where
  row : RowOk w x.b
  f : x.f.size ≤ maxLen
  g : x.g.size ≤ maxLen
  n : x.n ≤ 9223372036854775807
  n0 : -9223372036854775808 ≤ x.n
def HasOps (w : World) (a : Option Addr) (len : Nat) (X : Nat → Opv) : Prop := len ≤ 9223372036854775807 ∧ (0 < len → ∃ b off, a = some ⟨b, off, none⟩ ∧ ∀ j, j < len → ∀ i, i < 6 → w.cell? ⟨b, off + (j * 6 + i), none⟩ = (opCells (X j))[i]?) ∧ ∀ j, j < len → OpOk w (X j)
theorem OpOk.keep {w w' : World} {x : Opv} (h : OpOk w x) (hb : Below w.heap.size w w') : OpOk w' x := ⟨h.row.keep hb, h.f, h.g, h.n, h.n0⟩
theorem HasOps.keep {w w' : World} {a : Option Addr} {len : Nat} {X : Nat → Opv} (h : HasOps w a len X) (hb : Below w.heap.size w w') : HasOps w' a len X :=
  ⟨h.1, fun h0 => by
    obtain ⟨b, off, e, hj⟩ := h.2.1 h0
    refine ⟨b, off, e, fun j hj' i hi => ?_⟩
    have hc := hj j hj' i hi
    have hs : ∃ v, (opCells (X j))[i]? = some v := ⟨(opCells (X j))[i]'(by simpa [opCells] using hi), Array.getElem?_eq_getElem _⟩
    obtain ⟨v, hv⟩ := hs
    rw [hv] at hc ⊢
    exact (hb.cell (p := ⟨b, off + (j * 6 + i), none⟩) (Fr.lt_of_cell hc)).trans hc, fun j hj => (h.2.2 j hj).keep hb⟩

section
variable {H : Type} {enc : TypeId × Value → H} {W : World} {d : DataW H} {p : List MemPlace}
end
end Go.Proofs.YtdonkmkjblofpaaGreatDoor.Fo

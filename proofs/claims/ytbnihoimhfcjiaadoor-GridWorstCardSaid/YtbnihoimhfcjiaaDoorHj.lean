/-
  Layer 12: an array of 21 integers among a law's arguments, opened.
-/
import Derived.Test.YtbnihoimhfcjiaaDoorHd
namespace Go.Proofs.YtbnihoimhfcjiaaDoor.Gr
open Go.ChangeShapes Go.WideShapes Go.ChangeAt Go.RowKit Go.Joins
open Go.Proofs.YtbnihoimhfcjiaaDoor.Fx Ot Ao
set_option linter.unusedVariables false

theorem arr21_at {H : Type} {enc : TypeId × Value → H} {W : World} {d : DataW H} {p : List MemPlace} {v : Value} {r : Reach} {b0 : Nat} (hv : Value.okWide Tryd.prog W r b0 36 v) (h : DataW.Trod enc Tryd.prog W 0 (fun _ => true) true 36 v d p) :
    ∃ (f : Nat → Int) (R : Array Value), v = .agg R ∧ Row21 f 21 R := by
  have hE : Tryd.prog.cellsOf 3 = 1 := by kernel_rfl
  have hC : Tryd.prog.cellsOf 36 = 21 := by kernel_rfl
  simp only [Value.okWide, Tryd.underlying36] at hv
  obtain ⟨cs, rfl, hsz, _⟩ := hv
  obtain ⟨fuel, hf⟩ := h
  obtain ⟨xs, m, _, _, _, hl, hx⟩ := DataW.trod_array Tryd.underlying36 hf
  have hc : ∀ j, ∃ x : Int, j < 21 → cs[j]? = some (.int .i64 x) := fun j => by
    by_cases hj : j < 21
    · have h0 := hx j hj
      rw [List.getElem?_eq_getElem (show j < xs.length by rw [hl]; exact hj), hE] at h0
      obtain ⟨a, e0, _, _⟩ := DataW.trod_int Tryd.underlying3 h0
      refine ⟨a, fun _ => ?_⟩
      have := congrArg (·[0]?) e0
      simpa [Value.cells, List.getElem?_take, List.getElem?_drop] using this
    · exact ⟨0, fun h => absurd h hj⟩
  exact ⟨fun j => (hc j).choose, cs, rfl, hsz.trans hC, fun j hj => (hc j).choose_spec hj⟩
end Go.Proofs.YtbnihoimhfcjiaaDoor.Gr

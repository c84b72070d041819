/-
  Openers of slices of slices of bytes that stand inside a struct.
-/
import Derived.Test.YtdonkmkjblofpaaDoorKn
import Derived.Test.YtdonkmkjblofpaaDoorSa
import Derived.Deep.Matrix
import Derived.Deep.Grids
namespace Go.Proofs.YtdonkmkjblofpaaDoor.Fo
open Go.ChangeShapes Go.WideShapes Go.ChangeAt Go.RowKit Go.Deep
set_option linter.unusedVariables false
theorem wf_byte {Z : List Int} (h : ∀ n ∈ Z, (Lit.int .u8 n).wf = true) {j : Nat} (hj : j < Z.length) : 0 ≤ Z.getD j 0 ∧ Z.getD j 0 ≤ 255 := by
  have := bounds_u8 (h Z[j] (List.getElem_mem hj))
  simp only [List.getD, List.getElem?_eq_getElem hj, Option.getD_some]
  omega
section
variable {H : Type} {enc : TypeId × Value → H} {P : Program} {W : World} {d : DataW H} {p : List MemPlace}
theorem rowsE_of {t e q : TypeId} {a : Option Addr} {len cap : Nat} (ht : P.underlying t = some (.slice e)) (he : P.underlying e = some (.slice q)) (hq : P.underlying q = some (.int .u8)) (ce : P.cellsOf e = 1) (cq : P.cellsOf q = 1) (hby : P.bytesOf q = 1)
    (hsz : ∀ n, n ∈ d.weights P t → n ≤ reachBytes)
    (h : DataW.Trod enc P W 0 (fun _ => true) true t (.slice a len cap) d p) : ∃ R, HasRows W a len R ∧ (∀ j, j < len → Sx.Bytes (R j).zs) ∧ len ≤ cap := by
  obtain ⟨fuel, hf⟩ := h
  rcases open_int_rows ht he hq ce cq hf with ⟨hcs, _⟩ | ⟨x, l, c, A, L, C, Z, hcs, _, hl, hm, hd, hrow⟩
  · simp [Value.cells] at hcs
    obtain ⟨rfl, rfl, rfl⟩ := hcs
    exact ⟨fun _ => ⟨none, 0, 0, []⟩, ⟨by decide, (fun h => absurd h (by decide)), fun j hj => absurd hj (Nat.not_lt_zero _)⟩, (fun j hj => absurd hj (Nat.not_lt_zero _)), Nat.le_refl _⟩
  · simp [Value.cells] at hcs
    obtain ⟨rfl, rfl, rfl⟩ := hcs
    have hm' := hm
    unfold maxLen at hm
    refine ⟨fun r => ⟨A r, L r, C r, Z r⟩, ⟨by omega, fun h0 => ?_, fun r hr => ?_⟩, (fun r hr j hj => wf_byte ((hrow r (by omega)).2.2.2.2.1) hj), by omega⟩
    · obtain ⟨b, off, rfl, hj⟩ := plain_at (V := fun r => .slice (A r) (L r) (C r)) (n := cap) (fun i hi => (hrow i hi).1) (by omega)
      exact ⟨b, off, rfl, fun j hj' => hj j (by omega)⟩
    · obtain ⟨_, x1, x2, x3, x4, x5, x6⟩ := hrow r (by omega)
      have hd1 := congrArg Prod.fst hd
      simp only at hd1
      have hw : C r ≤ 140737488351232 := by
        cases hA : A r with
        | none => rw [x5 hA]; decide
        | some a' =>
          have hmem : intRow IntKind.u8 (A r) (L r) (Z r) ∈ (List.range len).map fun r => intRow (H := H) IntKind.u8 (A r) (L r) (Z r) := List.mem_map.2 ⟨r, List.mem_range.2 hr, rfl⟩
          have hwt : C r * 1 ∈ (intRow (H := H) IntKind.u8 (A r) (L r) (Z r)).weights P e := by
            rw [hA]
            simp only [intRow, DataW.weights, he, hby, lits, List.length_map, List.length_take, List.length_drop, x3]
            refine List.mem_cons.2 (.inl ?_)
            omega
          have h3 : C r * 1 ≤ reachBytes := hsz _ (by
            rw [hd1]
            simp only [DataW.weights, ht]
            exact List.mem_cons_of_mem _ (List.mem_append_left _ (weight_all hmem hwt)))
          have h4 : reachBytes = 140737488351232 := by decide
          omega
      refine ⟨⟨by show L r ≤ (Z r).length; omega, by show L r ≤ _; omega, fun h0 => ?_⟩, x5, x1, hw⟩
      have h0' : 0 < L r := h0
      cases hA : A r with
      | none => have := x5 hA; omega
      | some a' =>
        obtain ⟨b, off, rfl, hj⟩ := plain_at (V := fun i => .int .u8 ((Z r).getD i 0)) (n := C r) (x6 a' hA).2 (by omega)
        exact ⟨b, off, by show A r = _; rw [hA], fun j hj' => hj j (by have : j < L r := hj'; omega)⟩
end
section
variable {H : Type} {enc : TypeId × Value → H} {W : World} {d : DataW H} {p : List MemPlace}
theorem shape_slice {P : Program} {t e : TypeId} {fuel : Nat} {cs : List Value} {y : DataW H × List MemPlace} (ht : P.underlying t = some (.slice e)) (h : DataW.trod enc P W 0 (fun _ => true) true fuel t cs = some y) : ∃ a len cap, cs = [.slice a len cap] := by
  rcases open_slice ht h with ⟨hcs, _⟩ | ⟨x, l, c, m, n, D, Pl, hcs, _⟩
  · exact ⟨_, _, _, hcs⟩
  · exact ⟨_, _, _, hcs⟩
end
end Go.Proofs.YtdonkmkjblofpaaDoor.Fo

/-
  Arguments of a law, opened: slices of bools, slices of slices of bytes. No program is imported.
-/
import Derived.Test.YtjgkjmegpinelaaDoorFr
import Derived.Deep.Matrix
import Derived.Deep.Grids
namespace Go.Proofs.YtjgkjmegpinelaaDoor.Fo
open Go.ChangeShapes Go.WideShapes Go.ChangeAt Go.RowKit Go.Deep
set_option linter.unusedVariables false

def HasBools (w : World) (a : Option Addr) (len : Nat) (B : Nat → Bool) : Prop := len ≤ 9223372036854775807 ∧ (0 < len → ∃ b off, a = some ⟨b, off, none⟩ ∧ ∀ j, j < len → w.cell? ⟨b, off + j, none⟩ = some (.bool (B j)))
theorem plain_at {w : World} {a : Addr} {n : Nat} {V : Nat → Value} (h : ∀ i, i < n → w.cell? (a.add i) = some (V i)) (hn : 0 < n) : ∃ b off, a = ⟨b, off, none⟩ ∧ ∀ j, j < n → w.cell? ⟨b, off + j, none⟩ = some (V j) := by
  obtain ⟨b, off, spot⟩ := a
  have hspot : spot = none := by simpa [Addr.add] using World.cell?_spot (h 0 hn)
  subst hspot
  exact ⟨b, off, rfl, fun j hj => by rw [← Go.WideShapes.add_plain]; exact h j hj⟩
theorem HasBools.keep {w w' : World} {a : Option Addr} {len : Nat} {B : Nat → Bool} (h : HasBools w a len B) (hb : Below w.heap.size w w') : HasBools w' a len B :=
  ⟨h.1, fun h0 => by
    obtain ⟨b, off, e, hj⟩ := h.2 h0
    exact ⟨b, off, e, fun j hj' => (hb.cell (p := ⟨b, off + j, none⟩) (Fr.lt_of_cell (hj j hj'))).trans (hj j hj')⟩⟩

/-- A slice of slices of bytes: of each row its slice and what it holds. -/
structure Rw where
  a : Option Addr
  len : Nat
  cap : Nat
  zs : List Int
def Rw.val (r : Rw) : Value := .slice r.a r.len r.cap
structure RowOk (w : World) (r : Rw) : Prop where
  row : Fr.HasRow .u8 w r.a r.len r.zs
  nil : r.a = none → r.cap = 0
  le : r.len ≤ r.cap
  cap : r.cap ≤ 140737488351232
def HasRows (w : World) (a : Option Addr) (len : Nat) (R : Nat → Rw) : Prop := len ≤ 9223372036854775807 ∧ (0 < len → ∃ b off, a = some ⟨b, off, none⟩ ∧ ∀ j, j < len → w.cell? ⟨b, off + j, none⟩ = some (.slice (R j).a (R j).len (R j).cap)) ∧ ∀ j, j < len → RowOk w (R j)
theorem RowOk.keep {w w' : World} {r : Rw} (h : RowOk w r) (hb : Below w.heap.size w w') : RowOk w' r := ⟨h.row.keep hb, h.nil, h.le, h.cap⟩
theorem HasRows.keep {w w' : World} {a : Option Addr} {len : Nat} {R : Nat → Rw} (h : HasRows w a len R) (hb : Below w.heap.size w w') : HasRows w' a len R :=
  ⟨h.1, fun h0 => by
    obtain ⟨b, off, e, hj⟩ := h.2.1 h0
    exact ⟨b, off, e, fun j hj' => (hb.cell (p := ⟨b, off + j, none⟩) (Fr.lt_of_cell (hj j hj'))).trans (hj j hj')⟩, fun j hj => (h.2.2 j hj).keep hb⟩

section
variable {H : Type} {enc : TypeId × Value → H} {P : Program} {W : World} {d : DataW H} {p : List MemPlace}
theorem bools_of {t e : TypeId} {a : Option Addr} {len cap : Nat} (ht : P.underlying t = some (.slice e)) (he : P.underlying e = some .bool) (hc : P.cellsOf e = 1)
    (h : DataW.Trod enc P W 0 (fun _ => true) true t (.slice a len cap) d p) : ∃ B, HasBools W a len B := by
  obtain ⟨fuel, hf⟩ := h
  rcases open_bools ht he hc hf with ⟨hcs, _⟩ | ⟨x, l, c, B, hcs, _, hl, hm, _, hcell⟩
  · simp [Value.cells] at hcs
    obtain ⟨rfl, rfl, rfl⟩ := hcs
    exact ⟨fun _ => false, by decide, fun h => absurd h (by decide)⟩
  · simp [Value.cells] at hcs
    obtain ⟨rfl, rfl, rfl⟩ := hcs
    unfold maxLen at hm
    refine ⟨B, by omega, fun h0 => ?_⟩
    obtain ⟨b, off, rfl, hj⟩ := plain_at (V := fun i => .bool (B i)) (n := cap) hcell (by omega)
    exact ⟨b, off, rfl, fun j hj' => hj j (by omega)⟩
theorem weight_all {e : TypeId} : ∀ {ds : List (DataW H)} {d : DataW H} {n : Nat}, d ∈ ds → n ∈ d.weights P e → n ∈ DataW.weightsAll P e ds
  | x :: r, d, n, hd, hn => by
    unfold DataW.weightsAll
    rcases List.mem_cons.1 hd with rfl | hd
    · exact List.mem_append_left _ hn
    · exact List.mem_append_right _ (weight_all hd hn)
theorem rows_of {t e q : TypeId} {a : Option Addr} {len cap : Nat} (ht : P.underlying t = some (.slice e)) (he : P.underlying e = some (.slice q)) (hq : P.underlying q = some (.int .u8)) (ce : P.cellsOf e = 1) (cq : P.cellsOf q = 1) (hby : P.bytesOf q = 1)
    {ts : List TypeId} {ds : List (DataW H)} {j : Nat} (hsz : (DataW.weightsEach P ts ds).all (· ≤ reachBytes) = true) (htj : ts[j]? = some t) (hdj : ds[j]? = some d)
    (h : DataW.Trod enc P W 0 (fun _ => true) true t (.slice a len cap) d p) : ∃ R, HasRows W a len R := by
  obtain ⟨fuel, hf⟩ := h
  rcases open_int_rows ht he hq ce cq hf with ⟨hcs, _⟩ | ⟨x, l, c, A, L, C, Z, hcs, _, hl, hm, hd, hrow⟩
  · simp [Value.cells] at hcs
    obtain ⟨rfl, rfl, rfl⟩ := hcs
    exact ⟨fun _ => ⟨none, 0, 0, []⟩, by decide, (fun h => absurd h (by decide)), fun j hj => absurd hj (Nat.not_lt_zero _)⟩
  · simp [Value.cells] at hcs
    obtain ⟨rfl, rfl, rfl⟩ := hcs
    have hm' := hm
    unfold maxLen at hm
    refine ⟨fun r => ⟨A r, L r, C r, Z r⟩, by omega, fun h0 => ?_, fun r hr => ?_⟩
    · obtain ⟨b, off, rfl, hj⟩ := plain_at (V := fun r => .slice (A r) (L r) (C r)) (n := cap) (fun i hi => (hrow i hi).1) (by omega)
      exact ⟨b, off, rfl, fun j hj' => hj j (by omega)⟩
    · obtain ⟨_, x1, x2, x3, x4, x5, x6⟩ := hrow r (by omega)
      have hd1 := congrArg Prod.fst hd
      simp only at hd1
      have hw : C r ≤ 140737488351232 := by
        cases hA : A r with
        | none => rw [x5 hA]; decide
        | some a' =>
          have hmem : intRow IntKind.u8 (A r) (L r) (Z r) ∈ (List.range len).map fun r => intRow (H := H) IntKind.u8 (A r) (L r) (Z r) := List.mem_map.2 ⟨r, List.mem_range.2 hr, rfl⟩
          have hwt : C r * 1 ∈ (intRow (H := H) IntKind.u8 (A r) (L r) (Z r)).weights P e := by
            rw [hA]
            simp only [intRow, DataW.weights, he, hby, lits, List.length_map, List.length_take, List.length_drop, x3]
            refine List.mem_cons.2 (.inl ?_)
            omega
          have := List.all_eq_true.1 hsz _ (DataW.weights_mem_each htj hdj (C r * 1) (by
            rw [hd1]
            simp only [DataW.weights, ht]
            exact List.mem_cons_of_mem _ (List.mem_append_left _ (weight_all hmem hwt))))
          have h3 : C r * 1 ≤ reachBytes := by simpa using this
          have h4 : reachBytes = 140737488351232 := by decide
          omega
      refine ⟨⟨by show L r ≤ (Z r).length; omega, by show L r ≤ _; omega, fun h0 => ?_⟩, x5, x1, hw⟩
      have h0' : 0 < L r := h0
      cases hA : A r with
      | none => have := x5 hA; omega
      | some a' =>
        obtain ⟨b, off, rfl, hj⟩ := plain_at (V := fun i => .int .u8 ((Z r).getD i 0)) (n := C r) (x6 a' hA).2 (by omega)
        exact ⟨b, off, by show A r = _; rw [hA], fun j hj' => hj j (by have : j < L r := hj'; omega)⟩
end
end Go.Proofs.YtjgkjmegpinelaaDoor.Fo

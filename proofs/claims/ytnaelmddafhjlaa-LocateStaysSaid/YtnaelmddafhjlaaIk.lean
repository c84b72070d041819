/-
  Layer 13: what a loop has laid that puts an element (or none) in a pair's place.
-/
import Derived.Test.YtnaelmddafhjlaaIa
namespace Go.Proofs.Ytnaelmddafhjlaa.Bo
set_option linter.unusedVariables false
set_option linter.unusedSimpArgs false

section
variable {α : Type} {key : α → K2}
/-- j elements were looked at; A stands in the place of 'ol' elements behind L. -/
def outS (X L A : List α) (ol j : Nat) : List α := if j ≤ L.length then X.take j else L ++ (A ++ (X.take j).drop (L.length + ol))
theorem outS_zero (X L A : List α) (ol : Nat) : outS X L A ol 0 = [] := by simp [outS]
theorem outS_lo {X L A : List α} {ol j : Nat} (d : α) (hj : j < L.length) (hx : j < X.length) : outS X L A ol (j + 1) = outS X L A ol j ++ [X.getD j d] := by
  unfold outS
  rw [if_pos (by omega), if_pos (by omega), take_getD d hx]
theorem outS_at {X L A O R : List α} {ol : Nat} (hX : X = L ++ (O ++ R)) : outS X L A ol L.length = L := by
  unfold outS
  rw [if_pos (Nat.le_refl _), hX, List.take_left]
theorem outS_mid0 {X L A R : List α} (d : α) (hX : X = L ++ R) (hx : L.length < X.length) : outS X L A 0 (L.length + 1) = L ++ (A ++ [X.getD L.length d]) := by
  unfold outS
  rw [if_neg (by omega), take_getD d hx, Nat.add_zero]
  congr 2
  rw [List.drop_append_of_le_length (by rw [List.length_take]; omega), List.drop_of_length_le (by rw [List.length_take]; omega)]
  rfl
theorem outS_mid1 {X L A R : List α} {y : α} (hX : X = L ++ (y :: R)) : outS X L A 1 (L.length + 1) = L ++ A := by
  unfold outS
  rw [if_neg (by omega), List.drop_of_length_le (by rw [List.length_take]; omega), List.append_nil]
theorem outS_hi {X L A : List α} {ol j : Nat} (d : α) (hj : L.length < j) (ho : ol ≤ 1) (hx : j < X.length) : outS X L A ol (j + 1) = outS X L A ol j ++ [X.getD j d] := by
  unfold outS
  rw [if_neg (by omega), if_neg (by omega), take_getD d hx, List.drop_append_of_le_length (by rw [List.length_take]; omega)]
  simp only [List.append_assoc]
theorem outS_end {X L A O R : List α} (hX : X = L ++ (O ++ R)) (hl : L.length < X.length) : outS X L A O.length X.length = L ++ (A ++ R) := by
  unfold outS
  rw [if_neg (by omega), List.take_length, hX]
  congr 2
  rw [← List.append_assoc, ← List.length_append, List.drop_left]
theorem outS_le {X L A : List α} {ol j : Nat} (hl : L.length ≤ X.length) (ha : A.length ≤ 1) : (outS X L A ol j).length ≤ X.length + 1 := by
  unfold outS
  split
  · rw [List.length_take]; omega
  · rw [List.length_append, List.length_append, List.length_drop, List.length_take]; omega
theorem Dec.lt_lo {X : List α} {p : K2} {L : List α} {o : Option α} {R : List α} (h : Dec key X p L o R) {d : α} {j : Nat} (hj : j < L.length) : (key (X.getD j d)).1 < p.1 ∨ ((key (X.getD j d)).1 = p.1 ∧ (key (X.getD j d)).2 < p.2) := ltK_iff.1 (h.at_lo hj)
theorem Dec.lt_hi {X : List α} {p : K2} {L : List α} {o : Option α} {R : List α} (h : Dec key X p L o R) {d : α} {j : Nat} (hj : L.length + o.toList.length ≤ j) (hx : j < X.length) : p.1 < (key (X.getD j d)).1 ∨ (p.1 = (key (X.getD j d)).1 ∧ p.2 < (key (X.getD j d)).2) := by
  refine ltK_iff.1 (h.hi _ ?_)
  have e : X = (L ++ o.toList) ++ R := by rw [h.eq, List.append_assoc]
  have hl : (L ++ o.toList).length ≤ j := by rw [List.length_append]; exact hj
  have h1 : j - (L ++ o.toList).length < R.length := by rw [e, List.length_append] at hx; omega
  rw [e, List.getD_eq_getElem?_getD, List.getElem?_append_right hl, List.getElem?_eq_getElem h1]
  exact List.getElem_mem h1
theorem Dec.at_key {X : List α} {p : K2} {L : List α} {y : α} {R : List α} (h : Dec key X p L (some y) R) {d : α} : X.getD L.length d = y ∧ (key y).1 = p.1 ∧ (key y).2 = p.2 := by
  have e := h.mid y rfl
  refine ⟨?_, by rw [e], by rw [e]⟩
  rw [h.eq]
  simp [List.getD]
end
end Go.Proofs.Ytnaelmddafhjlaa.Bo

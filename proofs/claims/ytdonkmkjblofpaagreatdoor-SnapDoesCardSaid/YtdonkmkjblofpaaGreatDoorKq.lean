/-
  Layer 4: long; a call out of a script; calls of no disk.
-/
import Derived.Test.YtdonkmkjblofpaaGreatDoorKp
import Derived.Test.YtdonkmkjblofpaaGreatDoorKo
namespace Go.Proofs.YtdonkmkjblofpaaGreatDoor.Dk
open Go.RowKit Fo
set_option linter.unusedVariables false

/-! ### long -/
def costL (X : Nat → Opv) : Nat → Nat
  | 0 => 0
  | k + 1 => costL X k + ((X k).b.len + 64)
theorem costL_le (X : Nat → Opv) {k n : Nat} (h : k ≤ n) : costL X k ≤ costL X n := by
  induction n with
  | zero => have : k = 0 := by omega
            subst this; exact Nat.le_refl _
  | succ n ih =>
    rcases Nat.lt_or_ge k (n + 1) with h1 | h1
    · have := ih (by omega); simp only [costL]; omega
    · have : k = n + 1 := by omega
      subst this; exact Nat.le_refl _
theorem costL_len (X : Nat → Opv) : ∀ n, n * 64 ≤ costL X n
  | 0 => Nat.zero_le _
  | n + 1 => by have := costL_len X n; simp only [costL]; omega
theorem costL_one (X : Nat → Opv) {k n : Nat} (h : k < n) : (X k).b.len ≤ costL X n := by
  have := costL_le X (show k + 1 ≤ n from h); simp only [costL] at this; omega
def longB (X : Nat → Opv) (n : Nat) : Bool := decide (4194304 < costL X n)
theorem op_cells {w : World} {b off j : Nat} {x : Opv} (h : ∀ i, i < 6 → w.cell? ⟨b, off + (j * 6 + i), none⟩ = (opCells x)[i]?) :
    w.cell? ⟨b, off + j * 6, none⟩ = some (.int .i64 x.kind) ∧ w.cell? ⟨b, off + j * 6 + 1, none⟩ = some (.string x.f) ∧ w.cell? ⟨b, off + j * 6 + 2, none⟩ = some (.string x.g) ∧ w.cell? ⟨b, off + j * 6 + 3, none⟩ = some (.int .i64 x.n) ∧ w.cell? ⟨b, off + j * 6 + 4, none⟩ = some (.int .i64 x.k) ∧
      w.cell? ⟨b, off + j * 6 + 5, none⟩ = some (.slice x.b.a x.b.len x.b.cap) :=
  ⟨h 0 (by decide), by have := h 1 (by decide); rwa [← Nat.add_assoc] at this, by have := h 2 (by decide); rwa [← Nat.add_assoc] at this, by have := h 3 (by decide); rwa [← Nat.add_assoc] at this, by have := h 4 (by decide); rwa [← Nat.add_assoc] at this, by have := h 5 (by decide); rwa [← Nat.add_assoc] at this⟩
/-! ### a call out of a script -/
/-- What a call answers (bytes, an error), and what it leaves. -/
def doesS (x : Opv) (S : St) : (List Int × Int) × St :=
  if x.kind = 0 then (([], (appendS x.f.data.toList (x.b.zs.take x.b.len) S).1), (appendS x.f.data.toList (x.b.zs.take x.b.len) S).2)
  else if x.kind = 1 then (([], (syncS x.f.data.toList S).1), (syncS x.f.data.toList S).2)
  else if x.kind = 2 then (([], (truncS x.f.data.toList x.n S).1), (truncS x.f.data.toList x.n S).2)
  else if x.kind = 3 then (([], (renameS x.f.data.toList x.g.data.toList S).1), (renameS x.f.data.toList x.g.data.toList S).2)
  else if x.kind = 4 then (([], (removeS x.f.data.toList S).1), (removeS x.f.data.toList S).2)
  else if x.kind = 5 then ((readL x.f.data.toList S, there x.f.data.toList S), S)
  else if x.kind = 6 then (([], 0), { S with room := x.n })
  else if x.kind = 7 then (([], 0), armS x.n x.k S)
  else if x.kind = 8 then (([], 0), off x.k S)
  else if x.kind = 9 then (([], 0), { S with down := false })
  else (([], 0), S)
def DoesIt (w : World) (O : Nat → Prop) (d : Nat) (r : (List Int × Int) × St) (e : Ending) (w' : World) : Prop :=
  ∃ ad cap O', e = .returned (.tuple #[.slice ad r.1.1.length cap, .int .i64 r.1.2]) ∧ Fr.HasRow .u8 w' ad r.1.1.length r.1.1 ∧ (ad = none → cap = 0) ∧ r.1.1.length ≤ cap ∧ Step w O w' O' ∧ IsDisk w' O' d r.2
def argOf (x : Opv) : Value := .agg #[.int .i64 x.kind, .string x.f, .string x.g, .int .i64 x.n, .int .i64 x.k, .slice x.b.a x.b.len x.b.cap]
theorem none_row (w : World) : Fr.HasRow .u8 w none 0 [] := ⟨Nat.le_refl _, by decide, fun h => absurd h (by decide)⟩
theorem does_nil {w wa w' : World} {O : Nat → Prop} {d : Nat} {c : Int} {S' : St} (hb : Below w.heap.size w wa) (h : Has wa O d S' w') {r : (List Int × Int) × St} (e1 : r = (([], c), S')) : DoesIt w O d r (.returned (.tuple #[.slice none 0 0, .int .i64 c])) w' := by
  obtain ⟨O', h1, h2⟩ := h
  subst e1
  exact ⟨none, 0, O', rfl, none_row _, (fun _ => rfl), Nat.le_refl _, (Step.of (Turned.of_below hb)).trans h1, h2⟩
end Go.Proofs.YtdonkmkjblofpaaGreatDoor.Dk

/-
  Layer 8: slices of texts and of frames in memory; those of the call's own.
-/
import Derived.Test.YtmecaioklmkdlaaChecked
import Derived.Test.YtmecaioklmkdlaaAa
import Derived.Test.YtmecaioklmkdlaaFr
import Derived.Deep.Grids
import Derived.SliceStrings
import Derived.Laws.AppendOwnNone
import Derived.OwnWalk
import Derived.Maps.OwnIn
import Derived.Lib.SmallJoins
import Derived.WalkSmall
import Derived.Outline
namespace Go.Proofs.Ytmecaioklmkdlaa.Ss
open Go.RowKit
set_option linter.unusedVariables false
set_option linter.unusedSimpArgs false

/-! ### Slices that are read -/
def HasS (w : World) (a : Option Addr) (S : List ByteArray) : Prop := S.length ≤ 9223372036854775807 ∧ (0 < S.length → ∃ b off, a = some ⟨b, off, none⟩ ∧ ∀ j, j < S.length → w.cell? ⟨b, off + j, none⟩ = some (.string (S.getD j em)))
def HasX (w : World) (a : Option Addr) (X : List Fm) : Prop := X.length ≤ 9223372036854775807 ∧ (0 < X.length → ∃ b off, a = some ⟨b, off, none⟩ ∧ ∀ j, j < X.length →
  w.cell? ⟨b, off + j * 4, none⟩ = some (.int .i64 (X.getD j fm0).kind) ∧ w.cell? ⟨b, off + j * 4 + 1, none⟩ = some (.int .i64 (X.getD j fm0).num) ∧ w.cell? ⟨b, off + j * 4 + 2, none⟩ = some (.int .i64 (X.getD j fm0).taken) ∧ w.cell? ⟨b, off + j * 4 + 3, none⟩ = some (.string (X.getD j fm0).body))
theorem HasS.nil (w : World) (a : Option Addr) : HasS w a [] := ⟨by simp, fun h => absurd h (by decide)⟩
theorem HasX.nil (w : World) (a : Option Addr) : HasX w a [] := ⟨by simp, fun h => absurd h (by decide)⟩
theorem HasS.keep {w w' : World} {a : Option Addr} {S : List ByteArray} (h : HasS w a S) (hb : Below w.heap.size w w') : HasS w' a S :=
  ⟨h.1, fun h0 => by
    obtain ⟨b, off, e, hj⟩ := h.2 h0
    exact ⟨b, off, e, fun j hj' => (hb.cell (p := ⟨b, off + j, none⟩) (Fr.lt_of_cell (hj j hj'))).trans (hj j hj')⟩⟩
theorem HasX.keep {w w' : World} {a : Option Addr} {X : List Fm} (h : HasX w a X) (hb : Below w.heap.size w w') : HasX w' a X :=
  ⟨h.1, fun h0 => by
    obtain ⟨b, off, e, hj⟩ := h.2 h0
    refine ⟨b, off, e, fun j hj' => ?_⟩
    obtain ⟨c0, c1, c2, c3⟩ := hj j hj'
    exact ⟨(hb.cell (p := ⟨b, off + j * 4, none⟩) (Fr.lt_of_cell c0)).trans c0, (hb.cell (p := ⟨b, off + j * 4 + 1, none⟩) (Fr.lt_of_cell c1)).trans c1, (hb.cell (p := ⟨b, off + j * 4 + 2, none⟩) (Fr.lt_of_cell c2)).trans c2, (hb.cell (p := ⟨b, off + j * 4 + 3, none⟩) (Fr.lt_of_cell c3)).trans c3⟩⟩
theorem HasS.at {w : World} {a : Option Addr} {S : List ByteArray} (h : HasS w a S) {j : Nat} (hj : j < S.length) : ∃ b off, a = some ⟨b, off, none⟩ ∧ w.cell? ⟨b, off + j, none⟩ = some (.string (S.getD j em)) := by
  obtain ⟨b, off, e, hc⟩ := h.2 (by omega)
  exact ⟨b, off, e, hc j hj⟩
theorem HasX.at {w : World} {a : Option Addr} {X : List Fm} (h : HasX w a X) {j : Nat} (hj : j < X.length) : ∃ b off, a = some ⟨b, off, none⟩ ∧ w.cell? ⟨b, off + j * 4, none⟩ = some (.int .i64 (X.getD j fm0).kind) ∧ w.cell? ⟨b, off + j * 4 + 1, none⟩ = some (.int .i64 (X.getD j fm0).num) ∧ w.cell? ⟨b, off + j * 4 + 2, none⟩ = some (.int .i64 (X.getD j fm0).taken) ∧ w.cell? ⟨b, off + j * 4 + 3, none⟩ = some (.string (X.getD j fm0).body) := by
  obtain ⟨b, off, e, hc⟩ := h.2 (by omega)
  exact ⟨b, off, e, hc j hj⟩
/-! ### Slices of the call's own -/
def cells4 (f : Fm) : List Value := [.int .i64 f.kind, .int .i64 f.num, .int .i64 f.taken, .string f.body]
def OwnS (w : World) (base : Nat) (v : Value) (S : List ByteArray) : Prop := w.ownsRow base 9 1 v S.length (S.map Value.string)
def OwnX (w : World) (base : Nat) (v : Value) (X : List Fm) : Prop := w.ownsRow base 27 4 v X.length (X.flatMap cells4)
theorem infoS : (Try.prog.info? 9).map (fun i => (i.zero, i.size, i.bytes)) = some (some (.string ByteArray.empty), 1, 16) := by kernel_rfl
theorem infoX : (Try.prog.info? 27).map (fun i => (i.zero, i.size, i.bytes)) = some (some (.agg #[.int .i64 0, .int .i64 0, .int .i64 0, .string ByteArray.empty]), 4, 40) := by kernel_rfl
theorem flat4 : ∀ (X : List Fm) (j i : Nat) (f : Fm), i < 4 → X[j]? = some f → (X.flatMap cells4)[j * 4 + i]? = (cells4 f)[i]?
  | [], j, i, f, _, h => by simp at h
  | g :: F, 0, i, f, hi, h => by
    simp at h; subst h
    rw [List.flatMap_cons, List.getElem?_append_left (by simp [cells4]; omega), Nat.zero_mul, Nat.zero_add]
  | g :: F, j + 1, i, f, hi, h => by
    rw [List.flatMap_cons, List.getElem?_append_right (by simp [cells4]; omega), ← flat4 F j i f hi (by simpa using h)]
    congr 1
    simp [cells4]; omega
theorem cells4_len : ∀ (X : List Fm), (X.flatMap cells4).length = X.length * 4
  | [] => rfl
  | f :: F => by rw [List.flatMap_cons, List.length_append, cells4_len F]; simp [cells4]; omega
theorem OwnS.has {w : World} {base : Nat} {v : Value} {S : List ByteArray} (h : OwnS w base v S) : ∃ a cap, v = .slice a S.length cap ∧ HasS w a S ∧ (a = none → cap = 0) ∧ S.length ≤ cap ∧ cap ≤ maxLen := by
  have h' := h
  rcases h.2 with ⟨rfl, h0⟩ | ⟨g, cap, cur, rfl, hb, hh, h1, h2, h3, h4⟩
  · have e : S = [] := List.eq_nil_of_length_eq_zero h0
    subst e
    exact ⟨none, 0, rfl, HasS.nil _ _, fun _ => rfl, Nat.le_refl _, by decide⟩
  · refine ⟨some ⟨g, 0, none⟩, cap, rfl, ⟨by unfold maxLen at h2; omega, fun _ => ⟨g, 0, rfl, fun j hj => ?_⟩⟩, (fun h => by cases h), h1, h2⟩
    rw [Nat.zero_add, World.ownsRow.cellAt h' j (by omega)]
    simp [List.getD, hj]
theorem OwnX.has {w : World} {base : Nat} {v : Value} {X : List Fm} (h : OwnX w base v X) : ∃ a cap, v = .slice a X.length cap ∧ HasX w a X ∧ (a = none → cap = 0) ∧ X.length ≤ cap ∧ cap ≤ maxLen := by
  have h' := h
  rcases h.2 with ⟨rfl, h0⟩ | ⟨g, cap, cur, rfl, hb, hh, h1, h2, h3, h4⟩
  · have e : X = [] := List.eq_nil_of_length_eq_zero h0
    subst e
    exact ⟨none, 0, rfl, HasX.nil _ _, fun _ => rfl, Nat.le_refl _, by decide⟩
  · refine ⟨some ⟨g, 0, none⟩, cap, rfl, ⟨by unfold maxLen at h2; omega, fun _ => ⟨g, 0, rfl, fun j hj => ?_⟩⟩, (fun h => by cases h), h1, h2⟩
    have hf : X[j]? = some (X.getD j fm0) := by simp [List.getD, hj]
    have e0 := flat4 X j 0 _ (by decide) hf
    have e1 := flat4 X j 1 _ (by decide) hf
    have e2 := flat4 X j 2 _ (by decide) hf
    have e3 := flat4 X j 3 _ (by decide) hf
    rw [Nat.zero_add]
    refine ⟨?_, ?_, ?_, ?_⟩
    · rw [World.ownsRow.cellAt h' (j * 4) (by omega)]
      rw [Nat.add_zero] at e0
      rw [e0]; rfl
    · rw [World.ownsRow.cellAt h' (j * 4 + 1) (by omega), e1]; rfl
    · rw [World.ownsRow.cellAt h' (j * 4 + 2) (by omega), e2]; rfl
    · rw [World.ownsRow.cellAt h' (j * 4 + 3) (by omega), e3]; rfl
theorem ownS_nil (w : World) (base : Nat) : OwnS w base (.slice none 0 0) [] := World.ownsRow_nil _ _ _ _
theorem ownX_nil (w : World) (base : Nat) : OwnX w base (.slice none 0 0) [] := World.ownsRow_nil _ _ _ _
theorem OwnS.gone {A B : World} {base : Nat} {v : Value} {S : List ByteArray} {row : Option Nat} (h : OwnS A base v S) (hg : A.grownBy B row) (hr : ∀ k, v.ownBlock = some k → row ≠ some k) : OwnS B base v S := by
  refine World.ownsRow.kept h hg ?_
  cases hv : v.ownBlock with
  | none => exact .inl rfl
  | some k => exact .inr (fun e => hr k hv e.symm)
theorem OwnX.gone {A B : World} {base : Nat} {v : Value} {X : List Fm} {row : Option Nat} (h : OwnX A base v X) (hg : A.grownBy B row) (hr : ∀ k, v.ownBlock = some k → row ≠ some k) : OwnX B base v X := by
  refine World.ownsRow.kept h hg ?_
  cases hv : v.ownBlock with
  | none => exact .inl rfl
  | some k => exact .inr (fun e => hr k hv e.symm)
theorem OwnS.keep {w w' : World} {base : Nat} {v : Value} {S : List ByteArray} (h : OwnS w base v S) (hb : Below w.heap.size w w') : OwnS w' base v S :=
  h.gone (row := none) ⟨hb.os, hb.tape, hb.output, hb.size, fun k hk _ => hb.block k hk⟩ (fun r _ e => by cases e)
theorem OwnX.keep {w w' : World} {base : Nat} {v : Value} {X : List Fm} (h : OwnX w base v X) (hb : Below w.heap.size w w') : OwnX w' base v X :=
  h.gone (row := none) ⟨hb.os, hb.tape, hb.output, hb.size, fun k hk _ => hb.block k hk⟩ (fun r _ e => by cases e)
theorem OwnS.low {w : World} {base base' : Nat} {v : Value} {S : List ByteArray} (h : OwnS w base v S) (hb : base' ≤ base) : OwnS w base' v S := by
  refine ⟨h.1, ?_⟩
  rcases h.2 with h0 | ⟨g, cap, cur, hv, h1, rest⟩
  · exact .inl h0
  · exact .inr ⟨g, cap, cur, hv, by omega, rest⟩
theorem OwnX.low {w : World} {base base' : Nat} {v : Value} {X : List Fm} (h : OwnX w base v X) (hb : base' ≤ base) : OwnX w base' v X := by
  refine ⟨h.1, ?_⟩
  rcases h.2 with h0 | ⟨g, cap, cur, hv, h1, rest⟩
  · exact .inl h0
  · exact .inr ⟨g, cap, cur, hv, by omega, rest⟩
theorem texts_cells {w : World} {ad : Addr} {S : List ByteArray} (h : HasS w (some ad) S) : ∀ j u, (S.map Value.string)[j]? = some u → w.cell? (ad.add j) = some u := by
  intro j u hu
  have hj : j < S.length := by
    have := (List.getElem?_eq_some_iff.1 hu).1
    simpa using this
  obtain ⟨b, off, e, hc⟩ := h.2 (by omega)
  cases e
  rw [show (⟨b, off, none⟩ : Addr).add j = ⟨b, off + j, none⟩ by simp [Addr.add], hc j hj]
  simp [hj] at hu
  simp [List.getD, hj, hu]
theorem frames_cells {w : World} {ad : Addr} {X : List Fm} (h : HasX w (some ad) X) : ∀ j u, (X.flatMap cells4)[j]? = some u → w.cell? (ad.add j) = some u := by
  intro j u hu
  have hlen := cells4_len X
  have hj : j < X.length * 4 := by
    have := (List.getElem?_eq_some_iff.1 hu).1
    omega
  obtain ⟨b, off, e, hc⟩ := h.2 (by omega)
  cases e
  have hq : j / 4 < X.length := by omega
  have hf : X[j / 4]? = some (X.getD (j / 4) fm0) := by simp [List.getD, hq]
  have hfl := flat4 X (j / 4) (j % 4) _ (by omega) hf
  rw [show j / 4 * 4 + j % 4 = j by omega, hu] at hfl
  obtain ⟨c0, c1, c2, c3⟩ := hc (j / 4) hq
  rw [show (⟨b, off, none⟩ : Addr).add j = ⟨b, off + j, none⟩ by simp [Addr.add]]
  rcases (show j % 4 = 0 ∨ j % 4 = 1 ∨ j % 4 = 2 ∨ j % 4 = 3 by omega) with e | e | e | e
  · rw [e] at hfl
    rw [show off + j = off + j / 4 * 4 by omega, c0, hfl]; rfl
  · rw [e] at hfl
    rw [show off + j = off + j / 4 * 4 + 1 by omega, c1, hfl]; rfl
  · rw [e] at hfl
    rw [show off + j = off + j / 4 * 4 + 2 by omega, c2, hfl]; rfl
  · rw [e] at hfl
    rw [show off + j = off + j / 4 * 4 + 3 by omega, c3, hfl]; rfl
theorem grown_refl (w : World) (row : Option Nat) : w.grownBy w row := ⟨rfl, rfl, rfl, Nat.le_refl _, fun _ _ _ => rfl⟩
/-- What an append to the call's own leaves: its block is the old one, or a new one. -/
def NewB (w : World) (v v' : Value) : Prop := v'.ownBlock = v.ownBlock ∨ v'.ownBlock = some w.heap.size
end Go.Proofs.Ytmecaioklmkdlaa.Ss

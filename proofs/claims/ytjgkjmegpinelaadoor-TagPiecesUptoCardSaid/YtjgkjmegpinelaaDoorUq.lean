/-
  Layer 7: frames that come in pieces, as mathematics; slices of slices of fields that came in, opened.
-/
import Derived.Test.YtjgkjmegpinelaaDoorUp
namespace Go.Proofs.YtjgkjmegpinelaaDoor.Tg
open Go.ChangeShapes Go.WideShapes Go.ChangeAt Go.RowKit Go.Deep Dx Sx
set_option linter.unusedVariables false
set_option linter.unusedSimpArgs false

/-- All frames, one behind the other. -/
def enB (Vs : List (List Fld)) : List UInt8 := Vs.flatMap fun F => frm (bodyL F)
theorem enB_cons (F : List Fld) (Vs : List (List Fld)) : enB (F :: Vs) = frm (bodyL F) ++ enB Vs := by simp [enB]
theorem enB_append (Vs Us : List (List Fld)) : enB (Vs ++ Us) = enB Vs ++ enB Us := by simp [enB]
theorem enB_size : ∀ (Vs : List (List Fld)), (∀ F ∈ Vs, validE F = 0) → (enB Vs).length ≤ Vs.length * 5000
  | [], _ => by simp [enB]
  | F :: Vs, h => by
    have h1 := enB_size Vs (fun G hG => h G (List.mem_cons_of_mem _ hG))
    have h2 := frm_small (h F (by simp))
    rw [enB_cons, List.length_append, List.length_cons]
    omega
theorem framesS_pieces : ∀ (Vs : List (List Fld)) (hv : ∀ F ∈ Vs, validE F = 0) (X Z : List UInt8), X ++ Z = enB Vs →
    ∃ m, m ≤ Vs.length ∧ (framesS X).1 = (Vs.take m).map (fun F => (F, (0 : Int))) ∧ (framesS X).2 ≤ X.length ∧ X.drop (X.length - (framesS X).2) ++ Z = enB (Vs.drop m) ∧ (Z = [] → m = Vs.length)
  | [], _, X, Z, h => by
    have h0 : X = [] ∧ Z = [] := List.append_eq_nil_iff.1 h
    obtain ⟨rfl, rfl⟩ := h0
    rw [framesS_short (by rw [decS_nil])]
    exact ⟨0, Nat.le_refl _, rfl, Nat.le_refl _, rfl, fun _ => rfl⟩
  | F :: Vs, hv, X, Z, h => by
    rw [enB_cons] at h
    have hF := hv F (by simp)
    by_cases hk : X.length < (frm (bodyL F)).length
    · have hX : X = (frm (bodyL F)).take X.length := by
        have := congrArg (List.take X.length) h
        rw [List.take_left' rfl, List.take_append_of_le_length (by omega)] at this
        exact this
      have hd : decS X = ([], 0, 10) := by rw [hX]; exact decS_short hF hk
      rw [framesS_short (by rw [hd])]
      refine ⟨0, Nat.zero_le _, rfl, Nat.le_refl _, ?_, fun hz => ?_⟩
      · simp only [Nat.sub_self, List.drop_zero, enB_cons]; exact h
      · subst hz
        rw [List.append_nil] at h
        rw [h, List.length_append] at hk
        omega
    · have hX : X = frm (bodyL F) ++ X.drop (frm (bodyL F)).length := by
        have := congrArg (List.take (frm (bodyL F)).length) h
        rw [List.take_append_of_le_length (by omega), List.take_left' rfl] at this
        conv => lhs; rw [← List.take_append_drop (frm (bodyL F)).length X]
        rw [this]
      obtain ⟨Y, hY⟩ : ∃ Y, Y = X.drop (frm (bodyL F)).length := ⟨_, rfl⟩
      rw [← hY] at hX
      have h2 : Y ++ Z = enB Vs := by
        rw [hX, List.append_assoc] at h
        exact List.append_cancel_left h
      obtain ⟨m, k1, k2, k3, k4, k5⟩ := framesS_pieces Vs (fun G hG => hv G (List.mem_cons_of_mem _ hG)) Y Z h2
      have hd := decS_frm hF Y
      rw [← hX] at hd
      rw [framesS_step (by rw [hd]; simp), hd]
      simp only
      rw [← hY]
      have hlen : X.length = (frm (bodyL F)).length + Y.length := by rw [hX, List.length_append]
      refine ⟨m + 1, by rw [List.length_cons]; omega, by rw [k2]; rfl, by omega, ?_, fun hz => by rw [List.length_cons, k5 hz]⟩
      rw [List.drop_succ_cons, ← k4]
      congr 1
      rw [hlen, show (frm (bodyL F)).length + Y.length - (framesS Y).2 = (frm (bodyL F)).length + (Y.length - (framesS Y).2) by omega]
      conv => lhs; rw [hX]
      rw [List.drop_append]
      simp

/-! ### Slices of slices of fields -/
structure FRow where
  a : Option Addr
  cap : Nat
  F : List Fld
structure FrOk (w : World) (r : FRow) : Prop where
  has : HasF w r.a r.F
  wf : WfF r.F
  le : r.F.length ≤ r.cap
  nil : r.a = none → r.cap = 0
def fr0 : FRow := ⟨none, 0, []⟩
def HasFs (w : World) (a : Option Addr) (R : List FRow) : Prop := R.length ≤ 9223372036854775807 ∧ (0 < R.length → ∃ b off, a = some ⟨b, off, none⟩ ∧ ∀ j, j < R.length → w.cell? ⟨b, off + j, none⟩ = some (.slice (R.getD j fr0).a (R.getD j fr0).F.length (R.getD j fr0).cap)) ∧ ∀ j, j < R.length → FrOk w (R.getD j fr0)
theorem FrOk.keep {w w' : World} {r : FRow} (h : FrOk w r) (hb : Below w.heap.size w w') : FrOk w' r := ⟨h.has.keep hb, h.wf, h.le, h.nil⟩
theorem HasFs.keep {w w' : World} {a : Option Addr} {R : List FRow} (h : HasFs w a R) (hb : Below w.heap.size w w') : HasFs w' a R :=
  ⟨h.1, fun h0 => by
    obtain ⟨b, off, e, hj⟩ := h.2.1 h0
    exact ⟨b, off, e, fun j hj' => (hb.cell (p := ⟨b, off + j, none⟩) (Fr.lt_of_cell (hj j hj'))).trans (hj j hj')⟩, fun j hj => (h.2.2 j hj).keep hb⟩
section
variable {H : Type} {enc : TypeId × Value → H} {W : World} {d : DataW H} {p : List MemPlace}
set_option maxRecDepth 100000 in
theorem frames_of {a : Option Addr} {len cap : Nat} (ht : Tryd.prog.underlying 45 = some (.slice 22)) (he : Tryd.prog.underlying 22 = some (.slice 50)) (hsz : ∀ n, n ∈ d.weights Tryd.prog 45 → n ≤ reachBytes)
    (h : DataW.Trod enc Tryd.prog W 0 (fun _ => true) true 45 (.slice a len cap) d p) : ∃ R, HasFs W a R ∧ R.length = len ∧ len ≤ cap ∧ (a = none → cap = 0) := by
  obtain ⟨fuel, hf⟩ := h
  have k22 : Tryd.prog.cellsOf 22 = 1 := by kernel_rfl
  rcases open_slice1 ht k22 hf with ⟨hcs, _⟩ | ⟨x, l, c, m, n, V, D, Pl, hcs, _, hl, hm, hmm, hd, hx⟩
  · simp [Value.cells] at hcs
    obtain ⟨rfl, rfl, rfl⟩ := hcs
    exact ⟨[], ⟨by simp, (fun h => absurd h (by decide)), fun j hj => absurd hj (Nat.not_lt_zero _)⟩, rfl, Nat.le_refl _, fun _ => rfl⟩
  · simp [Value.cells] at hcs
    obtain ⟨rfl, rfl, rfl⟩ := hcs
    simp only [if_true] at hmm
    subst hmm
    unfold maxLen at hm
    have each : ∀ i, i < len → ∃ r : FRow, V i = .slice r.a r.F.length r.cap ∧ FrOk W r := by
      intro i hi
      obtain ⟨_, h2⟩ := hx i (by omega)
      have hv : ∃ a' l' c', V i = .slice a' l' c' := by
        rcases open_slice he h2 with ⟨e, _⟩ | ⟨a', l', c', _, _, _, _, e, _⟩
        · exact ⟨none, 0, 0, by simpa using e⟩
        · exact ⟨some a', l', c', by simpa using e⟩
      obtain ⟨a', l', c', hv⟩ := hv
      rw [hv] at h2
      have hd1 := congrArg Prod.fst hd
      simp only at hd1
      have hmem : D i ∈ (List.range len).map D := List.mem_map.2 ⟨i, List.mem_range.2 hi, rfl⟩
      obtain ⟨F, q1, q2, q3, q4, q5⟩ := fields_of (d := D i) he (fun k hk => hsz k (by
        rw [hd1]
        simp only [DataW.weights, ht]
        exact List.mem_cons_of_mem _ (List.mem_append_left _ (Fo.weight_all hmem hk)))) ⟨_, h2⟩
      subst q2
      exact ⟨⟨a', c', F⟩, hv, q1, q3, q4, q5⟩
    haveI : Inhabited FRow := ⟨fr0⟩
    obtain ⟨X, hX⟩ := choose_lt each
    have eX : ∀ j, j < len → ((List.range len).map X).getD j fr0 = X j := fun j hj => by simp [List.getD, hj]
    refine ⟨(List.range len).map X, ⟨by simp; omega, fun h0 => ?_, fun j hj => ?_⟩, by simp, by omega, (fun h => by cases h)⟩
    · simp only [List.length_map, List.length_range] at h0
      have h00 : W.cell? x = some (V 0) := by
        have := (hx 0 (by omega)).1
        simpa [Addr.add] using this
      obtain ⟨b, off, spot⟩ := x
      have hspot : spot = none := by simpa using World.cell?_spot h00
      subst hspot
      refine ⟨b, off, rfl, fun j hj => ?_⟩
      simp only [List.length_map, List.length_range] at hj
      rw [eX j hj, ← (hX j hj).1]
      have := (hx j (by omega)).1
      rwa [Go.WideShapes.add_plain] at this
    · simp only [List.length_map, List.length_range] at hj
      rw [eX j hj]
      exact (hX j hj).2
theorem frames_at {a : Option Addr} {len cap : Nat} {ts : List TypeId} {ds : List (DataW H)} {j : Nat} (ht : Tryd.prog.underlying 45 = some (.slice 22)) (he : Tryd.prog.underlying 22 = some (.slice 50)) (hsz : (DataW.weightsEach Tryd.prog ts ds).all (· ≤ reachBytes) = true) (htj : ts[j]? = some 45) (hdj : ds[j]? = some d)
    (h : DataW.Trod enc Tryd.prog W 0 (fun _ => true) true 45 (.slice a len cap) d p) : ∃ R, HasFs W a R ∧ R.length = len ∧ len ≤ cap ∧ (a = none → cap = 0) :=
  frames_of ht he (fun n hn => by simpa using List.all_eq_true.1 hsz _ (DataW.weights_mem_each htj hdj n hn)) h
end
end Go.Proofs.YtjgkjmegpinelaaDoor.Tg

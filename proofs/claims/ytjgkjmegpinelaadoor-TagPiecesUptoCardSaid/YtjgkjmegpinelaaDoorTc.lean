/-
  Layer 7: slices of fields in memory; those that came in, opened.
-/
import Derived.Test.YtjgkjmegpinelaaDoorChecked
import Derived.Test.YtjgkjmegpinelaaDoorTa
import Derived.Test.YtjgkjmegpinelaaDoorFr
import Derived.Test.YtjgkjmegpinelaaDoorKn
import Derived.Deep.Grids
namespace Go.Proofs.YtjgkjmegpinelaaDoor.Tg
open Go.ChangeShapes Go.WideShapes Go.ChangeAt Go.RowKit Go.Deep Dx Sx
set_option linter.unusedVariables false
set_option linter.unusedSimpArgs false

def fld0 : Fld := (0, [])
/-- The cells of a slice of fields. -/
def HasF (w : World) (a : Option Addr) (F : List Fld) : Prop := F.length ≤ 9223372036854775807 ∧ (0 < F.length → ∃ b off, a = some ⟨b, off, none⟩ ∧ ∀ j, j < F.length →
  w.cell? ⟨b, off + j * 2, none⟩ = some (.int .i64 (F.getD j fld0).1) ∧ w.cell? ⟨b, off + j * 2 + 1, none⟩ = some (.string (bs (F.getD j fld0).2)))
def WfF (F : List Fld) : Prop := ∀ f ∈ F, -9223372036854775808 ≤ f.1 ∧ f.1 ≤ 9223372036854775807 ∧ f.2.length ≤ 140737488351232
theorem HasF.keep {w w' : World} {a : Option Addr} {F : List Fld} (h : HasF w a F) (hb : Below w.heap.size w w') : HasF w' a F :=
  ⟨h.1, fun h0 => by
    obtain ⟨b, off, e, hj⟩ := h.2 h0
    refine ⟨b, off, e, fun j hj' => ?_⟩
    obtain ⟨c0, c1⟩ := hj j hj'
    exact ⟨(hb.cell (p := ⟨b, off + j * 2, none⟩) (Fr.lt_of_cell c0)).trans c0, (hb.cell (p := ⟨b, off + j * 2 + 1, none⟩) (Fr.lt_of_cell c1)).trans c1⟩⟩
theorem HasF.nil (w : World) (a : Option Addr) : HasF w a [] := ⟨by simp, fun h => absurd h (by decide)⟩
theorem HasF.at {w : World} {a : Option Addr} {F : List Fld} (h : HasF w a F) {j : Nat} (hj : j < F.length) : ∃ b off, a = some ⟨b, off, none⟩ ∧ w.cell? ⟨b, off + j * 2, none⟩ = some (.int .i64 (F.getD j fld0).1) ∧ w.cell? ⟨b, off + j * 2 + 1, none⟩ = some (.string (bs (F.getD j fld0).2)) := by
  obtain ⟨b, off, e, hc⟩ := h.2 (by omega)
  exact ⟨b, off, e, hc j hj⟩
theorem WfF.at {F : List Fld} (h : WfF F) {j : Nat} (hj : j < F.length) : -9223372036854775808 ≤ (F.getD j fld0).1 ∧ (F.getD j fld0).1 ≤ 9223372036854775807 ∧ (F.getD j fld0).2.length ≤ 140737488351232 := by
  have := h (F[j]) (List.getElem_mem hj)
  simpa [List.getD, hj] using this
section
variable {H : Type} {enc : TypeId × Value → H} {W : World} {d : DataW H} {p : List MemPlace}
set_option maxRecDepth 100000 in
theorem fld_at {n : Nat} {cs : List Value} {y : DataW H × List MemPlace} (h : DataW.trod enc Tryd.prog W 0 (fun _ => true) true n 50 cs = some y) :
    ∃ (t : Int) (s : ByteArray), cs = [.int .i64 t, .string s] ∧ -9223372036854775808 ≤ t ∧ t ≤ 9223372036854775807 ∧ s.size ∈ y.1.weights Tryd.prog 50 := by
  obtain ⟨xs, m, _, hy, hl, hlen, hf⟩ := DataW.trod_struct Tryd.underlying50 h
  have h6 : cs.length = 2 := hl.trans (by kernel_rfl)
  have x6 : xs.length = 2 := hlen
  have k3 : Tryd.prog.cellsOf 3 = 1 := by kernel_rfl
  have k9 : Tryd.prog.cellsOf 9 = 1 := by kernel_rfl
  match cs, h6, xs, x6, hy, hf with
  | [c0, c1], _, [y0, y1], _, hy, hf =>
    have h0 := hf 0 _ rfl
    have h1 := hf 1 _ rfl
    simp [k3] at h0
    simp [k9] at h1
    obtain ⟨a0, e0, _, w0⟩ := DataW.trod_int Tryd.underlying3 h0
    obtain ⟨bd0a, bd0b⟩ := bounds_i64 w0
    obtain ⟨s1, e1, v1, z1⟩ := DataW.trod_string Tryd.underlying9 h1
    simp at e0 e1
    subst e0 e1
    refine ⟨a0, s1, rfl, by omega, by omega, ?_⟩
    rw [hy]
    simp only [List.map_cons, List.map_nil, DataW.weights, Tryd.underlying50, DataW.weightsEach, v1]
    simp
theorem fields_of {a : Option Addr} {len cap : Nat} (ht : Tryd.prog.underlying 22 = some (.slice 50)) (hsz : ∀ n, n ∈ d.weights Tryd.prog 22 → n ≤ reachBytes)
    (h : DataW.Trod enc Tryd.prog W 0 (fun _ => true) true 22 (.slice a len cap) d p) : ∃ F, HasF W a F ∧ F.length = len ∧ WfF F ∧ len ≤ cap ∧ (a = none → cap = 0) := by
  obtain ⟨fuel, hf⟩ := h
  have k31 : Tryd.prog.cellsOf 50 = 2 := by kernel_rfl
  rcases open_slice ht hf with ⟨hcs, _⟩ | ⟨x, l, c, m, n, D, Pl, hcs, _, hl, hm, hmm, hd, hx⟩
  · simp [Value.cells] at hcs
    obtain ⟨rfl, rfl, rfl⟩ := hcs
    exact ⟨[], HasF.nil _ _, rfl, (fun f hf => by cases hf), Nat.le_refl _, fun _ => rfl⟩
  · simp [Value.cells] at hcs
    obtain ⟨rfl, rfl, rfl⟩ := hcs
    simp only [if_true] at hmm
    subst hmm
    unfold maxLen at hm
    rw [k31] at hx
    have each : ∀ i, i < m → ∃ x_ : Int × ByteArray, W.cell? ((x.add (i * 2)).add 0) = some (.int .i64 x_.1) ∧ W.cell? ((x.add (i * 2)).add 1) = some (.string x_.2) ∧ -9223372036854775808 ≤ x_.1 ∧ x_.1 ≤ 9223372036854775807 ∧ x_.2.size ∈ (D i).weights Tryd.prog 50 := by
      intro i hi
      obtain ⟨cs', h1, h2⟩ := hx i hi
      obtain ⟨t, s, e, r⟩ := fld_at h2
      refine ⟨(t, s), ?_, ?_, r⟩
      · rw [(World.cells?_some h1).2.2 0 (by decide), e]; rfl
      · rw [(World.cells?_some h1).2.2 1 (by decide), e]; rfl
    haveI : Inhabited (Int × ByteArray) := ⟨(0, ByteArray.empty)⟩
    obtain ⟨X, hX⟩ := choose_lt each
    refine ⟨(List.range len).map fun j => ((X j).1, (X j).2.data.toList), ⟨by simp; omega, fun h0 => ?_⟩, by simp, ?_, by omega, (fun h => by cases h)⟩
    · simp only [List.length_map, List.length_range] at h0
      have h00 : W.cell? x = some (.int .i64 (X 0).1) := by
        have := (hX 0 (by omega)).1
        simpa [Addr.add] using this
      obtain ⟨b, off, spot⟩ := x
      have hspot : spot = none := by simpa using World.cell?_spot h00
      subst hspot
      refine ⟨b, off, rfl, fun j hj => ?_⟩
      simp only [List.length_map, List.length_range] at hj
      obtain ⟨g0, g1, _⟩ := hX j (by omega)
      have e : ((List.range len).map fun j => ((X j).1, (X j).2.data.toList)).getD j fld0 = ((X j).1, (X j).2.data.toList) := by simp [List.getD, hj]
      rw [e]
      rw [add_add, Go.WideShapes.add_plain] at g0 g1
      refine ⟨g0, ?_⟩
      show _ = some (Value.string (bs (X j).2.data.toList))
      rw [← bs_eta, ← g1, Nat.add_assoc]
    · intro f hf
      obtain ⟨j, hj, rfl⟩ := List.mem_map.1 hf
      have hj' := List.mem_range.1 hj
      obtain ⟨_, _, q0, q1, q2⟩ := hX j (by omega)
      refine ⟨q0, q1, ?_⟩
      have hd1 := congrArg Prod.fst hd
      simp only at hd1
      have hmem : D j ∈ (List.range len).map D := List.mem_map.2 ⟨j, hj, rfl⟩
      have h3 := hsz (X j).2.size (by
        rw [hd1]
        simp only [DataW.weights, ht]
        exact List.mem_cons_of_mem _ (List.mem_append_left _ (Fo.weight_all hmem q2)))
      have h4 : reachBytes = 140737488351232 := by decide
      show (X j).2.data.toList.length ≤ _
      have : (X j).2.data.toList.length = (X j).2.size := by simp
      omega
theorem fields_at {a : Option Addr} {len cap : Nat} {ts : List TypeId} {ds : List (DataW H)} {j : Nat} (ht : Tryd.prog.underlying 22 = some (.slice 50)) (hsz : (DataW.weightsEach Tryd.prog ts ds).all (· ≤ reachBytes) = true) (htj : ts[j]? = some 22) (hdj : ds[j]? = some d)
    (h : DataW.Trod enc Tryd.prog W 0 (fun _ => true) true 22 (.slice a len cap) d p) : ∃ F, HasF W a F ∧ F.length = len ∧ WfF F ∧ len ≤ cap ∧ (a = none → cap = 0) :=
  fields_of ht (fun n hn => by simpa using List.all_eq_true.1 hsz _ (DataW.weights_mem_each htj hdj n hn)) h
end
end Go.Proofs.YtjgkjmegpinelaaDoor.Tg

/-
  Layer 8: arguments of the laws, opened.
-/
import Derived.Test.YtmecaioklmkdlaaAc
import Derived.Deep.Slices
import Derived.Deep.Grids
import Derived.OpenShut
import Derived.SizedLaws
namespace Go.Proofs.Ytmecaioklmkdlaa.Ss
open Go.ChangeShapes Go.WideShapes Go.ChangeAt Go.RowKit Go.Deep Go.Joins
set_option linter.unusedVariables false
set_option linter.unusedSimpArgs false

structure Mv where
  kind : Int
  who : Int
  i : Int
def mv0 : Mv := ⟨0, 0, 0⟩
def HasM (w : World) (a : Option Addr) (M : List Mv) : Prop := M.length ≤ 9223372036854775807 ∧ (0 < M.length → ∃ b off, a = some ⟨b, off, none⟩ ∧ ∀ j, j < M.length →
  w.cell? ⟨b, off + j * 3, none⟩ = some (.int .i64 (M.getD j mv0).kind) ∧ w.cell? ⟨b, off + j * 3 + 1, none⟩ = some (.int .i64 (M.getD j mv0).who) ∧ w.cell? ⟨b, off + j * 3 + 2, none⟩ = some (.int .i64 (M.getD j mv0).i))
theorem HasM.keep {w w' : World} {a : Option Addr} {M : List Mv} (h : HasM w a M) (hb : Below w.heap.size w w') : HasM w' a M :=
  ⟨h.1, fun h0 => by
    obtain ⟨b, off, e, hj⟩ := h.2 h0
    refine ⟨b, off, e, fun j hj' => ?_⟩
    obtain ⟨c0, c1, c2⟩ := hj j hj'
    exact ⟨(hb.cell (p := ⟨b, off + j * 3, none⟩) (Fr.lt_of_cell c0)).trans c0, (hb.cell (p := ⟨b, off + j * 3 + 1, none⟩) (Fr.lt_of_cell c1)).trans c1, (hb.cell (p := ⟨b, off + j * 3 + 2, none⟩) (Fr.lt_of_cell c2)).trans c2⟩⟩
theorem HasM.at {w : World} {a : Option Addr} {M : List Mv} (h : HasM w a M) {j : Nat} (hj : j < M.length) : ∃ b off, a = some ⟨b, off, none⟩ ∧ w.cell? ⟨b, off + j * 3, none⟩ = some (.int .i64 (M.getD j mv0).kind) ∧ w.cell? ⟨b, off + j * 3 + 1, none⟩ = some (.int .i64 (M.getD j mv0).who) ∧ w.cell? ⟨b, off + j * 3 + 2, none⟩ = some (.int .i64 (M.getD j mv0).i) := by
  obtain ⟨b, off, e, hc⟩ := h.2 (by omega)
  exact ⟨b, off, e, hc j hj⟩
/-- A slice of texts that came in. -/
def InS (w : World) (a : Option Addr) (len cap : Nat) (S : List ByteArray) : Prop := HasS w a S ∧ S.length = len ∧ len ≤ cap ∧ (a = none → cap = 0) ∧ cap * 16 ≤ 140737488351232
section
variable {H : Type} {enc : TypeId × Value → H} {W : World} {d : DataW H} {p : List MemPlace}
theorem texts_of {fuel : Nat} {cs : List Value} {x : DataW H × List MemPlace} (hw : ∀ n, n ∈ x.1.weights Try.prog 22 → n ≤ reachBytes) (h : DataW.trod enc Try.prog W 0 (fun _ => true) true fuel 22 cs = some x) :
    ∃ a len cap S, cs = [.slice a len cap] ∧ InS W a len cap S := by
  rcases open_strings Try.underlying22 Try.underlying9 (show Try.prog.cellsOf 9 = 1 by kernel_rfl) h with ⟨rfl, _⟩ | ⟨x0, len, cap, ss, rfl, _, hl, hm, hz, hx, hcell, _⟩
  · exact ⟨none, 0, 0, [], rfl, HasS.nil _ _, rfl, Nat.le_refl _, fun _ => rfl, by decide⟩
  · simp only [if_true] at hz
    have hm' := hm
    unfold maxLen at hm
    have hcap : cap * 16 ≤ 140737488351232 := by
      have hb : Try.prog.bytesOf 9 = 16 := by kernel_rfl
      have := hw (cap * 16) (by
        rw [hx]
        simp only [DataW.weights, Try.underlying22, hb, strs, List.length_map, List.length_take, List.length_drop]
        refine List.mem_cons.2 (.inl ?_)
        rw [show min len ss.length + (ss.length - len) = cap by omega])
      have h4 : reachBytes = 140737488351232 := by decide
      omega
    by_cases h0 : 0 < len
    · have hc0 := hcell 0 (by omega)
      obtain ⟨b, off, spot⟩ := x0
      have hspot : spot = none := by simpa [Addr.add] using World.cell?_spot hc0
      subst hspot
      refine ⟨_, len, cap, ss.take len, rfl, ⟨by simp; omega, fun _ => ⟨b, off, rfl, fun j hj => ?_⟩⟩, by simp; omega, hl, (fun h => by cases h), hcap⟩
      have hj' : j < len := by simp at hj; omega
      have := hcell j (by omega)
      rw [Go.WideShapes.add_plain] at this
      have hj2 : j < ss.length := by omega
      rw [this]
      simp [List.getD, hj', hj2, List.getElem?_take]
    · obtain rfl : len = 0 := by omega
      exact ⟨_, 0, cap, [], rfl, HasS.nil _ _, rfl, hl, (fun h => by cases h), hcap⟩
theorem texts_at {a : Option Addr} {len cap : Nat} {ts : List TypeId} {ds : List (DataW H)} {j : Nat} (hsz : (DataW.weightsEach Try.prog ts ds).all (· ≤ reachBytes) = true) (htj : ts[j]? = some 22) (hdj : ds[j]? = some d)
    (h : DataW.Trod enc Try.prog W 0 (fun _ => true) true 22 (.slice a len cap) d p) : ∃ S, InS W a len cap S := by
  obtain ⟨fuel, hf⟩ := h
  obtain ⟨a', len', cap', S, e, hS⟩ := texts_of (fun n hn => by simpa using List.all_eq_true.1 hsz _ (DataW.weights_mem_each htj hdj n hn)) hf
  simp [Value.cells] at e
  obtain ⟨rfl, rfl, rfl⟩ := e
  exact ⟨S, hS⟩
theorem side_at {v : Value} {r : Reach} {b0 : Nat} {ts : List TypeId} {ds : List (DataW H)} {j : Nat} (hsz : (DataW.weightsEach Try.prog ts ds).all (· ≤ reachBytes) = true) (htj : ts[j]? = some 24) (hdj : ds[j]? = some d)
    (hv : Value.okWide Try.prog W r b0 24 v) (h : DataW.Trod enc Try.prog W 0 (fun _ => true) true 24 v d p) :
    ∃ a len cap S t k, v = .agg #[.slice a len cap, .int .i64 t, .int .i64 k] ∧ InS W a len cap S ∧ -9223372036854775808 ≤ t ∧ t ≤ 9223372036854775807 ∧ -9223372036854775808 ≤ k ∧ k ≤ 9223372036854775807 := by
  obtain ⟨v0, v1, v2, y0, y1, y2, n, rfl, rfl, _, h0, h1, h2⟩ := open_agg3 Try.underlying24 (by kernel_rfl) (by kernel_rfl) hv h
  obtain ⟨a, len, cap, S, e0, hS⟩ := texts_of (fun m hm => by
    have := List.all_eq_true.1 hsz _ (DataW.weights_mem_each htj hdj m (by
      simp only [DataW.weights, Try.underlying24]
      exact DataW.weights_mem_each (j := 0) rfl rfl m hm))
    simpa using this) h0
  obtain ⟨t, e1, _, w1⟩ := DataW.trod_int Try.underlying3 h1
  obtain ⟨k, e2, _, w2⟩ := DataW.trod_int Try.underlying3 h2
  obtain ⟨t1, t2⟩ := bounds_i64 w1
  obtain ⟨k1, k2⟩ := bounds_i64 w2
  simp at e0 e1 e2
  subst e0 e1 e2
  exact ⟨a, len, cap, S, t, k, rfl, hS, by omega, by omega, by omega, by omega⟩
theorem frame_at {v : Value} {r : Reach} {b0 : Nat} (hv : Value.okWide Try.prog W r b0 27 v) (h : DataW.Trod enc Try.prog W 0 (fun _ => true) true 27 v d p) :
    ∃ f : Fm, v = .agg #[.int .i64 f.kind, .int .i64 f.num, .int .i64 f.taken, .string f.body] := by
  obtain ⟨v0, v1, v2, v3, y0, y1, y2, y3, n, rfl, rfl, _, h0, h1, h2, h3⟩ := open_agg4 Try.underlying27 (by kernel_rfl) (by kernel_rfl) hv h
  obtain ⟨x0, e0, _, w0⟩ := DataW.trod_int Try.underlying3 h0
  obtain ⟨x1, e1, _, w1⟩ := DataW.trod_int Try.underlying3 h1
  obtain ⟨x2, e2, _, w2⟩ := DataW.trod_int Try.underlying3 h2
  obtain ⟨s, e3, _, _⟩ := DataW.trod_string Try.underlying9 h3
  simp at e0 e1 e2 e3
  subst e0 e1 e2 e3
  exact ⟨⟨x0, x1, x2, s⟩, rfl⟩
theorem moves_at {a : Option Addr} {len cap : Nat} (h : DataW.Trod enc Try.prog W 0 (fun _ => true) true 44 (.slice a len cap) d p) : ∃ M, HasM W a M ∧ M.length = len := by
  obtain ⟨fuel, hf⟩ := h
  have k3 : Try.prog.cellsOf 49 = 3 := by kernel_rfl
  have k1 : Try.prog.cellsOf 3 = 1 := by kernel_rfl
  rcases open_slice Try.underlying44 hf with ⟨hcs, _⟩ | ⟨x, l, c, m, n, D, Pl, hcs, _, hl, hm, hmm, hd, hx⟩
  · simp [Value.cells] at hcs
    obtain ⟨rfl, rfl, rfl⟩ := hcs
    exact ⟨[], ⟨by simp, fun h => absurd h (by decide)⟩, rfl⟩
  · simp [Value.cells] at hcs
    obtain ⟨rfl, rfl, rfl⟩ := hcs
    simp only [if_true] at hmm
    subst hmm
    unfold maxLen at hm
    rw [k3] at hx
    have each : ∀ i, i < m → ∃ y : Int × Int × Int, W.cell? ((x.add (i * 3)).add 0) = some (.int .i64 y.1) ∧ W.cell? ((x.add (i * 3)).add 1) = some (.int .i64 y.2.1) ∧ W.cell? ((x.add (i * 3)).add 2) = some (.int .i64 y.2.2) := by
      intro i hi
      obtain ⟨cs', h1, h2⟩ := hx i hi
      obtain ⟨xs, q, _, _, hlc, hlen, hg⟩ := DataW.trod_struct Try.underlying49 h2
      have h6 : cs'.length = 3 := hlc.trans (by kernel_rfl)
      have x6 : xs.length = 3 := hlen
      match cs', h6, xs, x6, hg, h1 with
      | [c0, c1, c2], _, [y0, y1, y2], _, hg, h1 =>
        have g0 := hg 0 _ rfl
        have g1 := hg 1 _ rfl
        have g2 := hg 2 _ rfl
        simp [k1] at g0 g1 g2
        obtain ⟨a0, e0, _, _⟩ := DataW.trod_int Try.underlying3 g0
        obtain ⟨a1, e1, _, _⟩ := DataW.trod_int Try.underlying3 g1
        obtain ⟨a2, e2, _, _⟩ := DataW.trod_int Try.underlying3 g2
        simp at e0 e1 e2
        subst e0 e1 e2
        refine ⟨(a0, a1, a2), ?_, ?_, ?_⟩
        · rw [(World.cells?_some h1).2.2 0 (by decide)]; rfl
        · rw [(World.cells?_some h1).2.2 1 (by decide)]; rfl
        · rw [(World.cells?_some h1).2.2 2 (by decide)]; rfl
    haveI : Inhabited (Int × Int × Int) := ⟨(0, 0, 0)⟩
    obtain ⟨X, hX⟩ := choose_lt each
    refine ⟨(List.range len).map fun j => ⟨(X j).1, (X j).2.1, (X j).2.2⟩, ⟨by simp; omega, fun h0 => ?_⟩, by simp⟩
    simp only [List.length_map, List.length_range] at h0
    have h00 : W.cell? x = some (.int .i64 (X 0).1) := by
      have := (hX 0 (by omega)).1
      simpa [Addr.add] using this
    obtain ⟨b, off, spot⟩ := x
    have hspot : spot = none := by simpa using World.cell?_spot h00
    subst hspot
    refine ⟨b, off, rfl, fun j hj => ?_⟩
    simp only [List.length_map, List.length_range] at hj
    obtain ⟨g0, g1, g2⟩ := hX j (by omega)
    have e : ((List.range len).map fun j => (⟨(X j).1, (X j).2.1, (X j).2.2⟩ : Mv)).getD j mv0 = ⟨(X j).1, (X j).2.1, (X j).2.2⟩ := by simp [List.getD, hj]
    rw [e]
    rw [add_add, Go.WideShapes.add_plain] at g0 g1 g2
    exact ⟨g0, by rw [Nat.add_assoc]; exact g1, by rw [Nat.add_assoc]; exact g2⟩
end
end Go.Proofs.Ytmecaioklmkdlaa.Ss

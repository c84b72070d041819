/-
  Layer 4: a script that came in, opened.
-/
import Derived.Test.YtjeemgcenmcplaaChecked
import Derived.Test.YtjeemgcenmcplaaKn
namespace Go.Proofs.Ytjeemgcenmcplaa.Fo
open Go.ChangeShapes Go.WideShapes Go.ChangeAt Go.RowKit Go.Deep
set_option linter.unusedVariables false

structure Opv where
  kind : Int
  f : ByteArray
  g : ByteArray
  n : Int
  k : Int
  b : Rw
def opCells (x : Opv) : Array Value := #[.int .i64 x.kind, .string x.f, .string x.g, .int .i64 x.n, .int .i64 x.k, .slice x.b.a x.b.len x.b.cap]
structure OpOk (w : World) (x : Opv) : Prop where
  row : RowOk w x.b
  f : x.f.size ≤ maxLen
  g : x.g.size ≤ maxLen
  n : x.n ≤ 9223372036854775807
  n0 : -9223372036854775808 ≤ x.n
def HasOps (w : World) (a : Option Addr) (len : Nat) (X : Nat → Opv) : Prop := len ≤ 9223372036854775807 ∧ (0 < len → ∃ b off, a = some ⟨b, off, none⟩ ∧ ∀ j, j < len → ∀ i, i < 6 → w.cell? ⟨b, off + (j * 6 + i), none⟩ = (opCells (X j))[i]?) ∧ ∀ j, j < len → OpOk w (X j)
theorem OpOk.keep {w w' : World} {x : Opv} (h : OpOk w x) (hb : Below w.heap.size w w') : OpOk w' x := ⟨h.row.keep hb, h.f, h.g, h.n, h.n0⟩
theorem HasOps.keep {w w' : World} {a : Option Addr} {len : Nat} {X : Nat → Opv} (h : HasOps w a len X) (hb : Below w.heap.size w w') : HasOps w' a len X :=
  ⟨h.1, fun h0 => by
    obtain ⟨b, off, e, hj⟩ := h.2.1 h0
    refine ⟨b, off, e, fun j hj' i hi => ?_⟩
    have hc := hj j hj' i hi
    have hs : ∃ v, (opCells (X j))[i]? = some v := ⟨(opCells (X j))[i]'(by simpa [opCells] using hi), Array.getElem?_eq_getElem _⟩
    obtain ⟨v, hv⟩ := hs
    rw [hv] at hc ⊢
    exact (hb.cell (p := ⟨b, off + (j * 6 + i), none⟩) (Fr.lt_of_cell hc)).trans hc, fun j hj => (h.2.2 j hj).keep hb⟩

section
variable {H : Type} {enc : TypeId × Value → H} {W : World} {d : DataW H} {p : List MemPlace}
set_option maxRecDepth 100000 in
theorem op_at {n : Nat} {cs : List Value} {y : DataW H × List MemPlace} (h : DataW.trod enc Try.prog W 0 (fun _ => true) true n 31 cs = some y) :
    ∃ x : Opv, cs = (opCells x).toList ∧ x.f.size ≤ maxLen ∧ x.g.size ≤ maxLen ∧ x.n ≤ 9223372036854775807 ∧ -9223372036854775808 ≤ x.n ∧ Fr.HasRow .u8 W x.b.a x.b.len x.b.zs ∧ (x.b.a = none → x.b.cap = 0) ∧ x.b.len ≤ x.b.cap ∧
      ((x.b.cap = 0) ∨ x.b.cap * 1 ∈ y.1.weights Try.prog 31) := by
  obtain ⟨xs, m, _, hy, hl, hlen, hf⟩ := DataW.trod_struct Try.underlying31 h
  have h6 : cs.length = 6 := hl.trans (by kernel_rfl)
  have x6 : xs.length = 6 := hlen
  have k3 : Try.prog.cellsOf 3 = 1 := by kernel_rfl
  have k9 : Try.prog.cellsOf 9 = 1 := by kernel_rfl
  have k29 : Try.prog.cellsOf 29 = 1 := by kernel_rfl
  have k5 : Try.prog.cellsOf 5 = 1 := by kernel_rfl
  have b5 : Try.prog.bytesOf 5 = 1 := by kernel_rfl
  match cs, h6, xs, x6, hy, hf with
  | [c0, c1, c2, c3, c4, c5], _, [y0, y1, y2, y3, y4, y5], _, hy, hf =>
    have h0 := hf 0 _ rfl
    have h1 := hf 1 _ rfl
    have h2 := hf 2 _ rfl
    have h3 := hf 3 _ rfl
    have h4 := hf 4 _ rfl
    have h5 := hf 5 _ rfl
    simp [k3] at h0
    simp [k9] at h1
    simp [k9] at h2
    simp [k3] at h3
    simp [k3] at h4
    simp [k29] at h5
    obtain ⟨a0, e0, _, _⟩ := DataW.trod_int Try.underlying3 h0
    obtain ⟨s1, e1, _, z1⟩ := DataW.trod_string Try.underlying9 h1
    obtain ⟨s2, e2, _, z2⟩ := DataW.trod_string Try.underlying9 h2
    obtain ⟨a3, e3, _, w3⟩ := DataW.trod_int Try.underlying3 h3
    obtain ⟨a4, e4, _, _⟩ := DataW.trod_int Try.underlying3 h4
    obtain ⟨bd0, bd1⟩ := bounds_i64 w3
    simp at e0 e1 e2 e3 e4
    subst e0 e1 e2 e3 e4
    rcases open_ints Try.underlying29 Try.underlying5 k5 h5 with ⟨hcs, _⟩ | ⟨x, l, c, zs, hcs, _, hl5, hm5, hz5, hd5, hcell, _⟩
    · simp at hcs
      subst hcs
      exact ⟨⟨a0, s1, s2, a3, a4, ⟨none, 0, 0, []⟩⟩, rfl, z1, z2, by omega, by omega, ⟨Nat.le_refl _, Nat.zero_le _, fun h => absurd h (Nat.lt_irrefl 0)⟩, (fun _ => rfl), Nat.le_refl _, .inl rfl⟩
    · simp at hcs
      subst hcs
      have hz' : zs.length = c := by simpa using hz5
      unfold maxLen at hm5
      refine ⟨⟨a0, s1, s2, a3, a4, ⟨some x, l, c, zs⟩⟩, rfl, z1, z2, by omega, by omega, ⟨by show l ≤ zs.length; omega, by show l ≤ _; omega, fun h0' => ?_⟩, (fun h => by cases h), hl5, .inr ?_⟩
      · have h0'' : 0 < l := h0'
        obtain ⟨b, off, rfl, hj⟩ := ints_at hcell (by omega)
        exact ⟨b, off, rfl, fun j hj' => hj j (by have : j < l := hj'; omega)⟩
      · rw [hy]
        have hd := congrArg Prod.fst hd5
        simp only at hd
        simp only [List.map_cons, List.map_nil, DataW.weights, Try.underlying31, DataW.weightsEach, hd, Try.underlying29, b5, lits, List.length_map, List.length_take, List.length_drop, hz']
        simp
        right; right; right; right; right; left
        omega
set_option maxRecDepth 100000 in
theorem ops_at {a : Option Addr} {len cap : Nat} (ht : Try.prog.underlying 22 = some (.slice 31)) {ts : List TypeId} {ds : List (DataW H)} {j : Nat} (hsz : (DataW.weightsEach Try.prog ts ds).all (· ≤ reachBytes) = true) (htj : ts[j]? = some 22) (hdj : ds[j]? = some d)
    (h : DataW.Trod enc Try.prog W 0 (fun _ => true) true 22 (.slice a len cap) d p) : ∃ X, HasOps W a len X := by
  obtain ⟨fuel, hf⟩ := h
  have k31 : Try.prog.cellsOf 31 = 6 := by kernel_rfl
  rcases open_slice ht hf with ⟨hcs, _⟩ | ⟨x, l, c, m, n, D, Pl, hcs, _, hl, hm, hmm, hd, hx⟩
  · simp [Value.cells] at hcs
    obtain ⟨rfl, rfl, rfl⟩ := hcs
    exact ⟨fun _ => ⟨0, ByteArray.empty, ByteArray.empty, 0, 0, ⟨none, 0, 0, []⟩⟩, by decide, (fun h => absurd h (by decide)), fun j hj => absurd hj (Nat.not_lt_zero _)⟩
  · simp [Value.cells] at hcs
    obtain ⟨rfl, rfl, rfl⟩ := hcs
    simp only [if_true] at hmm
    subst hmm
    unfold maxLen at hm
    rw [k31] at hx
    have each : ∀ i, i < m → ∃ y : Opv, (∀ q, q < 6 → W.cell? ((x.add (i * 6)).add q) = (opCells y)[q]?) ∧ y.f.size ≤ maxLen ∧ y.g.size ≤ maxLen ∧ y.n ≤ 9223372036854775807 ∧ -9223372036854775808 ≤ y.n ∧ Fr.HasRow .u8 W y.b.a y.b.len y.b.zs ∧ (y.b.a = none → y.b.cap = 0) ∧ y.b.len ≤ y.b.cap ∧
        ((y.b.cap = 0) ∨ y.b.cap * 1 ∈ (D i).weights Try.prog 31) := by
      intro i hi
      obtain ⟨cs', h1, h2⟩ := hx i hi
      obtain ⟨y, e, r⟩ := op_at h2
      refine ⟨y, fun q hq => ?_, r⟩
      rw [(World.cells?_some h1).2.2 q hq, e]
      simp
    haveI : Inhabited Opv := ⟨⟨0, ByteArray.empty, ByteArray.empty, 0, 0, ⟨none, 0, 0, []⟩⟩⟩
    obtain ⟨X, hX⟩ := choose_lt each
    refine ⟨X, by omega, fun h0 => ?_, fun i hi => ?_⟩
    · have h00 : W.cell? x = some (.int .i64 (X 0).kind) := by
        have := (hX 0 (by omega)).1 0 (by decide)
        simpa [Addr.add, opCells] using this
      obtain ⟨b, off, spot⟩ := x
      have hspot : spot = none := by simpa using World.cell?_spot h00
      subst hspot
      refine ⟨b, off, rfl, fun j hj i hi => ?_⟩
      rw [← (hX j (by omega)).1 i hi, add_add, Go.WideShapes.add_plain]
    · obtain ⟨_, r1, r2, r3, r3b, r4, r5, r6, r7⟩ := hX i (by omega)
      refine ⟨⟨r4, r5, r6, ?_⟩, r1, r2, r3, r3b⟩
      rcases r7 with r7 | r7
      · rw [r7]; decide
      · have hd1 := congrArg Prod.fst hd
        simp only at hd1
        have hmem : D i ∈ (List.range len).map D := List.mem_map.2 ⟨i, List.mem_range.2 hi, rfl⟩
        have := List.all_eq_true.1 hsz _ (DataW.weights_mem_each htj hdj ((X i).b.cap * 1) (by
          rw [hd1]
          simp only [DataW.weights, ht]
          exact List.mem_cons_of_mem _ (List.mem_append_left _ (weight_all hmem r7))))
        have h3 : (X i).b.cap * 1 ≤ reachBytes := by simpa using this
        have h4 : reachBytes = 140737488351232 := by decide
        omega
end
end Go.Proofs.Ytjeemgcenmcplaa.Fo

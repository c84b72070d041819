/-
  Layer 5: the argument of the law on losses, opened.
-/
import Derived.Test.YtdonkmkjblofpaaDoorVg
namespace Go.Proofs.YtdonkmkjblofpaaDoor.Fo
open Go.ChangeShapes Go.WideShapes Go.ChangeAt Go.RowKit Go.Deep
set_option linter.unusedVariables false
section
variable {H : Type} {enc : TypeId × Value → H} {P : Program} {W : World} {d : DataW H} {p : List MemPlace}
theorem rowsW_of {t e q : TypeId} {a : Option Addr} {len cap : Nat} (ht : P.underlying t = some (.slice e)) (he : P.underlying e = some (.slice q)) (hq : P.underlying q = some (.int .u8)) (ce : P.cellsOf e = 1) (cq : P.cellsOf q = 1) (hby : P.bytesOf q = 1)
    (hsz : ∀ n, n ∈ d.weights P t → n ≤ reachBytes)
    (h : DataW.Trod enc P W 0 (fun _ => true) true t (.slice a len cap) d p) : ∃ R, HasRows W a len R ∧ (∀ j, j < len → Sx.Bytes (R j).zs) ∧ len ≤ cap := by
  obtain ⟨fuel, hf⟩ := h
  rcases open_int_rows ht he hq ce cq hf with ⟨hcs, _⟩ | ⟨x, l, c, A, L, C, Z, hcs, _, hl, hm, hd, hrow⟩
  · simp [Value.cells] at hcs
    obtain ⟨rfl, rfl, rfl⟩ := hcs
    exact ⟨fun _ => ⟨none, 0, 0, []⟩, ⟨by decide, (fun h => absurd h (by decide)), fun j hj => absurd hj (Nat.not_lt_zero _)⟩, (fun j hj => absurd hj (Nat.not_lt_zero _)), Nat.le_refl _⟩
  · simp [Value.cells] at hcs
    obtain ⟨rfl, rfl, rfl⟩ := hcs
    have hm' := hm
    unfold maxLen at hm
    refine ⟨fun r => ⟨A r, L r, C r, Z r⟩, ⟨by omega, fun h0 => ?_, fun r hr => ?_⟩, (fun r hr j hj => wf_u8 ((hrow r (by omega)).2.2.2.2.1) hj), by omega⟩
    · obtain ⟨b, off, rfl, hj⟩ := plain_at (V := fun r => .slice (A r) (L r) (C r)) (n := cap) (fun i hi => (hrow i hi).1) (by omega)
      exact ⟨b, off, rfl, fun j hj' => hj j (by omega)⟩
    · obtain ⟨_, x1, x2, x3, x4, x5, x6⟩ := hrow r (by omega)
      have hd1 := congrArg Prod.fst hd
      simp only at hd1
      have hw : C r ≤ 140737488351232 := by
        cases hA : A r with
        | none => rw [x5 hA]; decide
        | some a' =>
          have hmem : intRow IntKind.u8 (A r) (L r) (Z r) ∈ (List.range len).map fun r => intRow (H := H) IntKind.u8 (A r) (L r) (Z r) := List.mem_map.2 ⟨r, List.mem_range.2 hr, rfl⟩
          have hwt : C r * 1 ∈ (intRow (H := H) IntKind.u8 (A r) (L r) (Z r)).weights P e := by
            rw [hA]
            simp only [intRow, DataW.weights, he, hby, lits, List.length_map, List.length_take, List.length_drop, x3]
            refine List.mem_cons.2 (.inl ?_)
            omega
          have h3 : C r * 1 ≤ reachBytes := hsz _ (by
            rw [hd1]
            simp only [DataW.weights, ht]
            exact List.mem_cons_of_mem _ (List.mem_append_left _ (weight_all hmem hwt)))
          have h4 : reachBytes = 140737488351232 := by decide
          omega
      refine ⟨⟨by show L r ≤ (Z r).length; omega, by show L r ≤ _; omega, fun h0 => ?_⟩, x5, x1, hw⟩
      have h0' : 0 < L r := h0
      cases hA : A r with
      | none => have := x5 hA; omega
      | some a' =>
        obtain ⟨b, off, rfl, hj⟩ := plain_at (V := fun i => .int .u8 ((Z r).getD i 0)) (n := C r) (x6 a' hA).2 (by omega)
        exact ⟨b, off, by show A r = _; rw [hA], fun j hj' => hj j (by have : j < L r := hj'; omega)⟩
end
section
variable {H : Type} {enc : TypeId × Value → H} {W : World} {d : DataW H} {p : List MemPlace}
theorem slice_shape {P : Program} {t e : TypeId} {fuel : Nat} {cs : List Value} {y : DataW H × List MemPlace} (ht : P.underlying t = some (.slice e)) (h : DataW.trod enc P W 0 (fun _ => true) true fuel t cs = some y) : ∃ a len cap, cs = [.slice a len cap] := by
  rcases open_slice ht h with ⟨hcs, _⟩ | ⟨x, l, c, m, n, D, Pl, hcs, _⟩
  · exact ⟨_, _, _, hcs⟩
  · exact ⟨_, _, _, hcs⟩
set_option maxRecDepth 100000 in
theorem loss_of {v : Value} {r : Reach} {b0 : Nat} (hv : Value.okWide Tryd.prog W r b0 24 v) (hw : ∀ n, n ∈ d.weights Tryd.prog 24 → n ≤ reachBytes) (h : DataW.Trod enc Tryd.prog W 0 (fun _ => true) true 24 v d p) :
    ∃ (a : Option Addr) (len cap : Nat) (R : Nat → Rw) (x1 x2 x3 x4 x5 : Int), v = .agg #[.slice a len cap, .int .i64 x1, .int .i64 x2, .int .i64 x3, .int .i64 x4, .int .i64 x5] ∧ HasRows W a len R ∧ (∀ j, j < len → Sx.Bytes (R j).zs) ∧ len ≤ cap ∧ (Lit.int .i64 x1).wf = true ∧ (Lit.int .i64 x2).wf = true ∧ (Lit.int .i64 x4).wf = true := by
  have k3 : Tryd.prog.cellsOf 3 = 1 := by kernel_rfl
  have k22 : Tryd.prog.cellsOf 22 = 1 := by kernel_rfl
  have k6 : Tryd.prog.cellsOf 24 = 6 := by kernel_rfl
  simp only [Value.okWide, Tryd.underlying24] at hv
  obtain ⟨cs, rfl, hsz, _⟩ := hv
  obtain ⟨l⟩ := cs
  match l, hsz.trans k6 with
  | [c0, c1, c2, c3, c4, c5], _ =>
    obtain ⟨fuel, hf⟩ := h
    obtain ⟨xs, m, _, hy, hl, hlen, hx⟩ := DataW.trod_struct Tryd.underlying24 hf
    have x6 : xs.length = 6 := hlen
    match xs, x6, hy, hx with
    | [y0, y1, y2, y3, y4, y5], _, hy, hx =>
      have h0 := hx 0 _ rfl
      have h1 := hx 1 _ rfl
      have h2 := hx 2 _ rfl
      have h3 := hx 3 _ rfl
      have h4 := hx 4 _ rfl
      have h5 := hx 5 _ rfl
      simp [k22, Value.cells] at h0
      simp [k3, Value.cells] at h1 h2 h3 h4 h5
      obtain ⟨a1, e1, _, w1⟩ := DataW.trod_int Tryd.underlying3 h1
      obtain ⟨a2, e2, _, w2⟩ := DataW.trod_int Tryd.underlying3 h2
      obtain ⟨a3, e3, _, w3⟩ := DataW.trod_int Tryd.underlying3 h3
      obtain ⟨a4, e4, _, w4⟩ := DataW.trod_int Tryd.underlying3 h4
      obtain ⟨a5, e5, _, w5⟩ := DataW.trod_int Tryd.underlying3 h5
      obtain ⟨a0, len, cap, e0⟩ := slice_shape Tryd.underlying22 h0
      simp at e0 e1 e2 e3 e4 e5
      subst e0 e1 e2 e3 e4 e5
      obtain ⟨R, hR, hB, hC⟩ := rowsW_of (P := Tryd.prog) (W := W) (a := a0) (len := len) (cap := cap) Tryd.underlying22 Tryd.underlying26 Tryd.underlying5 (by kernel_rfl) (by kernel_rfl) (show Tryd.prog.bytesOf 5 = 1 from by kernel_rfl) (fun n hn => hw n (by
        have hd := congrArg Prod.fst hy
        simp only at hd
        rw [hd]
        simp only [List.map_cons, List.map_nil, DataW.weights, Tryd.underlying24]
        exact DataW.weights_mem_each (j := 0) rfl rfl n hn)) ⟨m, h0⟩
      exact ⟨a0, len, cap, R, a1, a2, a3, a4, a5, rfl, hR, hB, hC, w1, w2, w4⟩
end
end Go.Proofs.YtdonkmkjblofpaaDoor.Fo

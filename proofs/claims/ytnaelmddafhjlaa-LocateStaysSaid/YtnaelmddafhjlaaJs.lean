/-
  Layer 14: arguments of the laws, opened. (Written by gen_ja.py.)
-/
import Derived.Test.YtnaelmddafhjlaaJa
import Derived.Deep.Slices
import Derived.Deep.Grids
import Derived.OpenShut
import Derived.SizedLaws
namespace Go.Proofs.Ytnaelmddafhjlaa.Bo
open Go.ChangeShapes Go.WideShapes Go.ChangeAt Go.RowKit Go.Deep Go.Joins Rw
set_option linter.unusedVariables false
set_option linter.unusedSimpArgs false

section
variable {H : Type} {enc : TypeId × Value → H} {W : World} {d : DataW H} {p : List MemPlace}
/-- A slice that came in. -/
def Inl (w : World) (a : Option Addr) (len cap : Nat) (X : List Lo) : Prop := Has encl w a X ∧ X.length = len ∧ len ≤ cap ∧ (a = none → cap = 0) ∧ cap * 24 ≤ 140737488351232
set_option maxRecDepth 100000 in
theorem rows_atl {a : Option Addr} {len cap : Nat} {ts : List TypeId} {ds : List (DataW H)} {j : Nat} (hsz : (DataW.weightsEach Try.prog ts ds).all (· ≤ reachBytes) = true) (htj : ts[j]? = some 23) (hdj : ds[j]? = some d)
    (h : DataW.Trod enc Try.prog W 0 (fun _ => true) true 23 (.slice a len cap) d p) : ∃ X, Inl W a len cap X := by
  obtain ⟨fuel, hf⟩ := h
  have kn : Try.prog.cellsOf 42 = 3 := by kernel_rfl
  have k1 : Try.prog.cellsOf 3 = 1 := by kernel_rfl
  have kb : Try.prog.bytesOf 42 = 24 := by kernel_rfl
  rcases open_slice Try.underlying23 hf with ⟨hcs, _⟩ | ⟨x, l, c, m, n, D, Pl, hcs, _, hl, hm, hmm, hd, hx⟩
  · simp [Value.cells] at hcs
    obtain ⟨rfl, rfl, rfl⟩ := hcs
    exact ⟨[], Has.nil _ _, rfl, Nat.le_refl _, fun _ => rfl, by decide⟩
  · simp [Value.cells] at hcs
    obtain ⟨rfl, rfl, rfl⟩ := hcs
    simp only [if_true] at hmm
    subst hmm
    have hcap : m * 24 ≤ 140737488351232 := by
      have hd1 := congrArg Prod.fst hd
      simp only at hd1
      have := List.all_eq_true.1 hsz _ (DataW.weights_mem_each htj hdj (m * 24) (by
        rw [hd1]
        simp only [DataW.weights, Try.underlying23, kb, List.length_map, List.length_range]
        refine List.mem_cons.2 (.inl ?_)
        congr 1
        omega))
      have h3 : m * 24 ≤ reachBytes := by simpa using this
      have h4 : reachBytes = 140737488351232 := by decide
      omega
    unfold maxLen at hm
    rw [kn] at hx
    have each : ∀ i, i < m → ∃ y : Lo, ∀ q u, (encl.cells y)[q]? = some u → W.cell? ((x.add (i * 3)).add q) = some u := by
      intro i hi
      obtain ⟨cs', h1, h2⟩ := hx i hi
      obtain ⟨xs, q, _, _, hlc, hlen, hg⟩ := DataW.trod_struct Try.underlying42 h2
      have h6 : cs'.length = 3 := hlc.trans (by kernel_rfl)
      have x6 : xs.length = 3 := hlen
      match cs', h6, xs, x6, hg, h1 with
      | [c0, c1, c2], _, [y0, y1, y2], _, hg, h1 =>
        have g0 := hg 0 _ rfl
        have g1 := hg 1 _ rfl
        have g2 := hg 2 _ rfl
        simp [k1] at g0 g1 g2
        obtain ⟨a0, e0, _, _⟩ := DataW.trod_int Try.underlying3 g0
        obtain ⟨a1, e1, _, _⟩ := DataW.trod_int Try.underlying3 g1
        obtain ⟨a2, e2, _, _⟩ := DataW.trod_int Try.underlying3 g2
        simp at e0 e1 e2
        subst e0 e1 e2
        refine ⟨⟨a0, a1, a2⟩, fun q u hu => ?_⟩
        have hq : q < 3 := (List.getElem?_eq_some_iff.1 hu).1
        rw [(World.cells?_some h1).2.2 q hq, ← hu]
        rfl
    haveI : Inhabited Lo := ⟨zl⟩
    obtain ⟨X, hX⟩ := choose_lt each
    refine ⟨(List.range len).map X, ⟨by simp; omega, fun h0 => ?_⟩, by simp, hl, (fun h => by cases h), hcap⟩
    simp only [List.length_map, List.length_range] at h0
    have h00 : W.cell? x = some (.int .i64 (X 0).acct) := by
      have := hX 0 (by omega) 0 _ rfl
      simpa [Addr.add] using this
    obtain ⟨b, off, spot⟩ := x
    have hspot : spot = none := by simpa using World.cell?_spot h00
    subst hspot
    refine ⟨b, off, rfl, fun j u hu => ?_⟩
    have hj := (List.getElem?_eq_some_iff.1 hu).1
    rw [flat_len okl, List.length_map, List.length_range] at hj
    have hk : encl.k = 3 := rfl
    rw [hk] at hj
    have hq : j / 3 < len := by omega
    have hf := flat_at okl ((List.range len).map X) (j / 3) (j % 3) (X (j / 3)) (by rw [hk]; omega) (by simp [hq])
    rw [hk, show j / 3 * 3 + j % 3 = j by omega] at hf
    rw [hf] at hu
    have := hX (j / 3) (by omega) _ u hu
    rw [add_add, Go.WideShapes.add_plain] at this
    rw [← this]
    congr 2
    omega
set_option maxRecDepth 100000 in
theorem struct_atl {v : Value} {r : Reach} {b0 : Nat} (hv : Value.okWide Try.prog W r b0 42 v) (h : DataW.Trod enc Try.prog W 0 (fun _ => true) true 42 v d p) : ∃ x : Lo, v = vl x := by
  have k3 : Try.prog.cellsOf 3 = 1 := by kernel_rfl
  have kn : Try.prog.cellsOf 42 = 3 := by kernel_rfl
  simp only [Value.okWide, Try.underlying42] at hv
  obtain ⟨cs, rfl, hsz, _⟩ := hv
  obtain ⟨l⟩ := cs
  match l, hsz.trans kn with
  | [c0, c1, c2], _ =>
    obtain ⟨fuel, hf⟩ := h
    obtain ⟨xs, m, _, hy, hl, hlen, hx⟩ := DataW.trod_struct Try.underlying42 hf
    have xn : xs.length = 3 := hlen
    match xs, xn, hx with
    | [y0, y1, y2], _, hx =>
      have h0 := hx 0 _ rfl
      have h1 := hx 1 _ rfl
      have h2 := hx 2 _ rfl
      simp [k3, Value.cells] at h0 h1 h2
      obtain ⟨a0, e0, _, _⟩ := DataW.trod_int Try.underlying3 h0
      obtain ⟨a1, e1, _, _⟩ := DataW.trod_int Try.underlying3 h1
      obtain ⟨a2, e2, _, _⟩ := DataW.trod_int Try.underlying3 h2
      simp at e0 e1 e2
      subst e0 e1 e2
      exact ⟨⟨a0, a1, a2⟩, rfl⟩
set_option maxRecDepth 100000 in
theorem struct_atA {v : Value} {r : Reach} {b0 : Nat} (hv : Value.okWide Try.prog W r b0 29 v) (h : DataW.Trod enc Try.prog W 0 (fun _ => true) true 29 v d p) : ∃ x : Lo, v = vl x := by
  have k3 : Try.prog.cellsOf 3 = 1 := by kernel_rfl
  have kn : Try.prog.cellsOf 29 = 3 := by kernel_rfl
  simp only [Value.okWide, Try.underlying29] at hv
  obtain ⟨cs, rfl, hsz, _⟩ := hv
  obtain ⟨l⟩ := cs
  match l, hsz.trans kn with
  | [c0, c1, c2], _ =>
    obtain ⟨fuel, hf⟩ := h
    obtain ⟨xs, m, _, hy, hl, hlen, hx⟩ := DataW.trod_struct Try.underlying29 hf
    have xn : xs.length = 3 := hlen
    match xs, xn, hx with
    | [y0, y1, y2], _, hx =>
      have h0 := hx 0 _ rfl
      have h1 := hx 1 _ rfl
      have h2 := hx 2 _ rfl
      simp [k3, Value.cells] at h0 h1 h2
      obtain ⟨a0, e0, _, _⟩ := DataW.trod_int Try.underlying3 h0
      obtain ⟨a1, e1, _, _⟩ := DataW.trod_int Try.underlying3 h1
      obtain ⟨a2, e2, _, _⟩ := DataW.trod_int Try.underlying3 h2
      simp at e0 e1 e2
      subst e0 e1 e2
      exact ⟨⟨a0, a1, a2⟩, rfl⟩
/-- A slice of integers that came in. -/
def Inz (w : World) (a : Option Addr) (len cap : Nat) (X : List Int) : Prop := Has encz w a X ∧ X.length = len ∧ len ≤ cap ∧ (a = none → cap = 0) ∧ cap * 8 ≤ 140737488351232
theorem inz_of {w : World} {a : Option Addr} {len cap : Nat} {zs : List Int} (h : Fr.IsRow .i64 w a len cap zs) (hc : cap * 8 ≤ 140737488351232) : Inz w a len cap (zs.take len) := by
  have hh := h.has
  have hlc : len ≤ cap ∧ (a = none → cap = 0) := by
    rcases h with ⟨rfl, rfl, rfl, rfl⟩ | ⟨x, rfl, h1, _⟩
    · exact ⟨Nat.le_refl _, fun _ => rfl⟩
    · exact ⟨h1, fun h => by cases h⟩
  have hl : (zs.take len).length = len := by rw [List.length_take]; have := hh.1; omega
  refine ⟨⟨by rw [hl]; exact hh.2.1, fun h0 => ?_⟩, hl, hlc.1, hlc.2, hc⟩
  obtain ⟨b, off, e, hj⟩ := hh.2.2 (by rw [hl] at h0; exact h0)
  refine ⟨b, off, e, fun j u hu => ?_⟩
  have hjl : j < (zs.take len).length := by
    have := (List.getElem?_eq_some_iff.1 hu).1
    rw [flat_len okz] at this
    have e1 : (zs.take len).length * encz.k = (zs.take len).length := Nat.mul_one _
    omega
  have hf := flat_at okz (zs.take len) j 0 ((zs.take len).getD j 0) (by decide) (getD_some 0 hjl)
  rw [show j * encz.k + 0 = j by show j * 1 + 0 = j; omega] at hf
  rw [hf] at hu
  have hu2 : some (Value.int .i64 ((zs.take len).getD j 0)) = some u := hu
  cases hu2
  rw [hj j (by omega)]
  congr 2
  rw [hl] at hjl
  simp [List.getD, List.getElem?_take, hjl]
end
end Go.Proofs.Ytnaelmddafhjlaa.Bo

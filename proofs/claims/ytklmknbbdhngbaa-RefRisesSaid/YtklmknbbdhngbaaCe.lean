/-
  Layer 9: arguments opened; boxes.
-/
import Derived.Test.YtklmknbbdhngbaaCd
import Derived.Lib.SmallJoins
import Derived.Lib.Builder
import Derived.Test.YtklmknbbdhngbaaFr
namespace Go.Proofs.Ytklmknbbdhngbaa.Rd
open Go.ChangeShapes Go.WideShapes Go.ChangeAt Go.RowKit Go.Joins
open Go.Proofs.Ytklmknbbdhngbaa.Fx
set_option linter.unusedVariables false
set_option linter.unusedSimpArgs false

section
variable {H : Type} {enc : TypeId × Value → H} {W : World} {d : DataW H} {p : List MemPlace}
theorem cur_at {v : Value} {r : Reach} {b0 : Nat} (hv : Value.okWide Try.prog W r b0 23 v) (h : DataW.Trod enc Try.prog W 0 (fun _ => true) true 23 v d p) :
    ∃ x y : Int, v = .agg #[.int .i64 x, .int .i64 y] ∧ (-9223372036854775808 ≤ x ∧ x ≤ 9223372036854775807) ∧ (-9223372036854775808 ≤ y ∧ y ≤ 9223372036854775807) := by
  obtain ⟨v0, v1, y0, y1, n, rfl, rfl, _, h0, h1⟩ := open_agg2 Try.underlying23 (by kernel_rfl) (by kernel_rfl) hv h
  obtain ⟨x0, e0, _, w0⟩ := DataW.trod_int Try.underlying3 h0
  obtain ⟨x1, e1, _, w1⟩ := DataW.trod_int Try.underlying3 h1
  simp at e0 e1
  subst e0 e1
  exact ⟨x0, x1, rfl, bounds_i64 w0, bounds_i64 w1⟩
theorem under_at {v : Value} {r : Reach} {b0 : Nat} (hv : Value.okWide Try.prog W r b0 25 v) (h : DataW.Trod enc Try.prog W 0 (fun _ => true) true 25 v d p) :
    ∃ u : Un, v = .agg #[.string u.name, .int .i64 u.cur, .int .i64 u.price, .int .i64 u.vol] ∧ u.name.size ≤ 9223372036854775807 := by
  obtain ⟨v0, v1, v2, v3, y0, y1, y2, y3, n, rfl, rfl, _, h0, h1, h2, h3⟩ := open_agg4 Try.underlying25 (by kernel_rfl) (by kernel_rfl) hv h
  obtain ⟨s, e0, _, hs⟩ := DataW.trod_string Try.underlying9 h0
  obtain ⟨x1, e1, _, _⟩ := DataW.trod_int Try.underlying3 h1
  obtain ⟨x2, e2, _, _⟩ := DataW.trod_int Try.underlying3 h2
  obtain ⟨x3, e3, _, _⟩ := DataW.trod_int Try.underlying3 h3
  simp at e0 e1 e2 e3
  subst e0 e1 e2 e3
  exact ⟨⟨s, x1, x2, x3⟩, rfl, hs⟩
theorem instr_at {v : Value} {r : Reach} {b0 : Nat} (hv : Value.okWide Try.prog W r b0 27 v) (h : DataW.Trod enc Try.prog W 0 (fun _ => true) true 27 v d p) :
    ∃ i : Ins, v = .agg #[.int .i64 i.kind, .int .i64 i.under, .int .i64 i.mult, .int .i64 i.strike, .int .i64 i.expiry, .bool i.call, .int .i64 i.mark] := by
  have k3 : Try.prog.cellsOf 3 = 1 := by kernel_rfl
  have k4 : Try.prog.cellsOf 4 = 1 := by kernel_rfl
  have k7 : Try.prog.cellsOf 27 = 7 := by kernel_rfl
  simp only [Value.okWide, Try.underlying27] at hv
  obtain ⟨cs, rfl, hsz, _⟩ := hv
  obtain ⟨l⟩ := cs
  match l, hsz.trans k7 with
  | [c0, c1, c2, c3, c4, c5, c6], _ =>
    obtain ⟨fuel, hf⟩ := h
    obtain ⟨xs, m, _, hy, hl, hlen, hx⟩ := DataW.trod_struct Try.underlying27 hf
    have x7 : xs.length = 7 := hlen
    match xs, x7, hx with
    | [y0, y1, y2, y3, y4, y5, y6], _, hx =>
      have h0 := hx 0 _ rfl
      have h1 := hx 1 _ rfl
      have h2 := hx 2 _ rfl
      have h3 := hx 3 _ rfl
      have h4 := hx 4 _ rfl
      have h5 := hx 5 _ rfl
      have h6 := hx 6 _ rfl
      simp [k3, Value.cells] at h0 h1 h2 h3 h4 h6
      simp [k4, Value.cells] at h5
      obtain ⟨a0, e0, _, _⟩ := DataW.trod_int Try.underlying3 h0
      obtain ⟨a1, e1, _, _⟩ := DataW.trod_int Try.underlying3 h1
      obtain ⟨a2, e2, _, _⟩ := DataW.trod_int Try.underlying3 h2
      obtain ⟨a3, e3, _, _⟩ := DataW.trod_int Try.underlying3 h3
      obtain ⟨a4, e4, _, _⟩ := DataW.trod_int Try.underlying3 h4
      obtain ⟨a5, e5, _⟩ := DataW.trod_bool Try.underlying4 h5
      obtain ⟨a6, e6, _, _⟩ := DataW.trod_int Try.underlying3 h6
      simp at e0 e1 e2 e3 e4 e5 e6
      subst e0 e1 e2 e3 e4 e5 e6
      exact ⟨⟨a0, a1, a2, a3, a4, a5, a6⟩, rfl⟩
end

theorem below_next {W w w' : World} (h : Below W.heap.size W w) (h' : Below w.heap.size w w') : Below W.heap.size W w' := h.trans (h'.mono h.size)
theorem name_any (s : ByteArray) (w : World) (hs : s.size ≤ 9223372036854775807) :
    Calls Try.prog 14 #[.string s] w fun e w' => e = .returned (.bool (nameB s)) ∧ Below w.heap.size w w' := by
  cases h : nameB s
  · exact name_no s w hs h
  · refine (name_yes s w hs h).mono ?_
    rintro e w' ⟨rfl, o, rfl⟩
    exact ⟨rfl, (Below.refl _ _).alloc (Nat.le_refl _) _⟩

/-- A box: a block of cells of the call's own, known whole. -/
abbrev Bk (W : World) (g : Nat) (cs : Array Value) (T : TypeId) : Prop := W.heap[g]? = some (.cells cs T (0, 0))
theorem Bk.lt {W : World} {g : Nat} {cs : Array Value} {T : TypeId} (h : Bk W g cs T) : g < W.heap.size := (Array.getElem?_eq_some_iff.1 h).1
theorem Bk.cell {W : World} {g : Nat} {cs : Array Value} {T : TypeId} (h : Bk W g cs T) (i : Nat) : W.cell? ⟨g, i, none⟩ = cs[i]? := Lib.cell_of_heap h i
theorem Bk.free {W : World} {g : Nat} {cs : Array Value} {T : TypeId} (h : Bk W g cs T) (i : Nat) : W.frozen? ⟨g, i, none⟩ = false := Lib.frozen_of_heap h i
theorem Bk.keep {W W' : World} {g : Nat} {cs : Array Value} {T : TypeId} (h : Bk W g cs T) (hb : Below W.heap.size W W') : Bk W' g cs T := (hb.block g h.lt).trans h
theorem Bk.new (w : World) (cs : Array Value) (T : TypeId) : Bk (w.alloc (.cells cs T)) w.heap.size cs T := (MapKept.heap_alloc w _).1
theorem Bk.more {W : World} {g : Nat} {cs : Array Value} {T : TypeId} (h : Bk W g cs T) (o : Obj) : Bk (W.alloc o) g cs T := h.keep ((Below.refl _ _).alloc (Nat.le_refl _) _)
theorem Bk.two {W : World} {g : Nat} {a b : Value} {T : TypeId} (h : Bk W g #[a, b] T) : W.cell? ⟨g, 0, none⟩ = some a ∧ W.cell? ⟨g, 1, none⟩ = some b := ⟨h.cell 0, h.cell 1⟩
theorem Bk.four {W : World} {g : Nat} {a b c d : Value} {T : TypeId} (h : Bk W g #[a, b, c, d] T) : W.cell? ⟨g, 0, none⟩ = some a ∧ W.cell? ⟨g, 1, none⟩ = some b ∧ W.cell? ⟨g, 2, none⟩ = some c ∧ W.cell? ⟨g, 3, none⟩ = some d := ⟨h.cell 0, h.cell 1, h.cell 2, h.cell 3⟩
theorem Bk.seven {W : World} {g : Nat} {a b c d e f i : Value} {T : TypeId} (h : Bk W g #[a, b, c, d, e, f, i] T) : W.cell? ⟨g, 0, none⟩ = some a ∧ W.cell? ⟨g, 1, none⟩ = some b ∧ W.cell? ⟨g, 2, none⟩ = some c ∧ W.cell? ⟨g, 3, none⟩ = some d ∧ W.cell? ⟨g, 4, none⟩ = some e ∧ W.cell? ⟨g, 5, none⟩ = some f ∧ W.cell? ⟨g, 6, none⟩ = some i :=
  ⟨h.cell 0, h.cell 1, h.cell 2, h.cell 3, h.cell 4, h.cell 5, h.cell 6⟩
theorem one_alloc (w : World) (o : Obj) : Below w.heap.size w (w.alloc o) := (Below.refl _ _).alloc (Nat.le_refl _) _

theorem worth_bounds {r h a x : Int} (e : worthS r h a = (x, 0)) : -4611686018427387904 ≤ x ∧ x ≤ 4611686018427387904 := by
  unfold worthS at e
  by_cases h0 : (baseS r h a 0).2 = 0
  · rw [if_pos h0] at e
    obtain ⟨_, _, _, _, hl, ex⟩ := divS_ok e
    rw [ex]
    split <;> omega
  · rw [if_neg h0] at e
    exact absurd (congrArg Prod.snd e) h0
theorem worth_sign {r h a x : Int} (e : worthS r h a = (x, 0)) (ha : 0 ≤ a) : 0 ≤ x := by
  obtain ⟨hc, _, p, _, hp, hx⟩ := worth_ok e
  obtain ⟨_, g2, g3⟩ := curB_iff.1 hc
  have n1 : 0 ≤ a * r := Int.mul_nonneg ha (by omega)
  have h1 : 0 ≤ p := by
    generalize a * r = m at *
    omega
  unfold partS at hx
  rw [if_neg (by omega)] at hx
  have h2 : 0 ≤ p * (10000 - h) := Int.mul_nonneg h1 (by omega)
  generalize p * (10000 - h) = m at *
  omega

end Go.Proofs.Ytklmknbbdhngbaa.Rd

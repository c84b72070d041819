/-
  The types of package api in a law's arguments, opened; boxes (layers 11 on).
-/
import Derived.Test.YtbnihoimhfcjiaaDoorFr
import Derived.Test.YtbnihoimhfcjiaaDoorChecked
import Derived.Lib.SmallJoins
import Derived.Lib.Builder
import Derived.Below
namespace Go.Proofs.YtbnihoimhfcjiaaDoor.Ao
open Go.ChangeShapes Go.WideShapes Go.ChangeAt Go.RowKit Go.Joins
set_option linter.unusedVariables false
set_option linter.unusedSimpArgs false

/-- An underlying, an instrument. -/
structure Un where
  name : ByteArray
  cur : Int
  price : Int
  vol : Int
structure Ins where
  kind : Int
  under : Int
  mult : Int
  strike : Int
  expiry : Int
  call : Bool
  mark : Int

section
variable {H : Type} {enc : TypeId × Value → H} {W : World} {d : DataW H} {p : List MemPlace}
theorem under_at {v : Value} {r : Reach} {b0 : Nat} (hv : Value.okWide Tryd.prog W r b0 35 v) (h : DataW.Trod enc Tryd.prog W 0 (fun _ => true) true 35 v d p) :
    ∃ u : Un, v = .agg #[.string u.name, .int .i64 u.cur, .int .i64 u.price, .int .i64 u.vol] ∧ u.name.size ≤ 9223372036854775807 := by
  obtain ⟨v0, v1, v2, v3, y0, y1, y2, y3, n, rfl, rfl, _, h0, h1, h2, h3⟩ := open_agg4 Tryd.underlying35 (by kernel_rfl) (by kernel_rfl) hv h
  obtain ⟨s, e0, _, hs⟩ := DataW.trod_string Tryd.underlying9 h0
  obtain ⟨x1, e1, _, _⟩ := DataW.trod_int Tryd.underlying3 h1
  obtain ⟨x2, e2, _, _⟩ := DataW.trod_int Tryd.underlying3 h2
  obtain ⟨x3, e3, _, _⟩ := DataW.trod_int Tryd.underlying3 h3
  simp at e0 e1 e2 e3
  subst e0 e1 e2 e3
  exact ⟨⟨s, x1, x2, x3⟩, rfl, hs⟩
theorem instr_at {v : Value} {r : Reach} {b0 : Nat} (hv : Value.okWide Tryd.prog W r b0 33 v) (h : DataW.Trod enc Tryd.prog W 0 (fun _ => true) true 33 v d p) :
    ∃ i : Ins, v = .agg #[.int .i64 i.kind, .int .i64 i.under, .int .i64 i.mult, .int .i64 i.strike, .int .i64 i.expiry, .bool i.call, .int .i64 i.mark] := by
  have k3 : Tryd.prog.cellsOf 3 = 1 := by kernel_rfl
  have k4 : Tryd.prog.cellsOf 4 = 1 := by kernel_rfl
  have k7 : Tryd.prog.cellsOf 33 = 7 := by kernel_rfl
  simp only [Value.okWide, Tryd.underlying33] at hv
  obtain ⟨cs, rfl, hsz, _⟩ := hv
  obtain ⟨l⟩ := cs
  match l, hsz.trans k7 with
  | [c0, c1, c2, c3, c4, c5, c6], _ =>
    obtain ⟨fuel, hf⟩ := h
    obtain ⟨xs, m, _, hy, hl, hlen, hx⟩ := DataW.trod_struct Tryd.underlying33 hf
    have x7 : xs.length = 7 := hlen
    match xs, x7, hx with
    | [y0, y1, y2, y3, y4, y5, y6], _, hx =>
      have h0 := hx 0 _ rfl
      have h1 := hx 1 _ rfl
      have h2 := hx 2 _ rfl
      have h3 := hx 3 _ rfl
      have h4 := hx 4 _ rfl
      have h5 := hx 5 _ rfl
      have h6 := hx 6 _ rfl
      simp [k3, Value.cells] at h0 h1 h2 h3 h4 h6
      simp [k4, Value.cells] at h5
      obtain ⟨a0, e0, _, _⟩ := DataW.trod_int Tryd.underlying3 h0
      obtain ⟨a1, e1, _, _⟩ := DataW.trod_int Tryd.underlying3 h1
      obtain ⟨a2, e2, _, _⟩ := DataW.trod_int Tryd.underlying3 h2
      obtain ⟨a3, e3, _, _⟩ := DataW.trod_int Tryd.underlying3 h3
      obtain ⟨a4, e4, _, _⟩ := DataW.trod_int Tryd.underlying3 h4
      obtain ⟨a5, e5, _⟩ := DataW.trod_bool Tryd.underlying4 h5
      obtain ⟨a6, e6, _, _⟩ := DataW.trod_int Tryd.underlying3 h6
      simp at e0 e1 e2 e3 e4 e5 e6
      subst e0 e1 e2 e3 e4 e5 e6
      exact ⟨⟨a0, a1, a2, a3, a4, a5, a6⟩, rfl⟩
end

theorem below_next {W w w' : World} (h : Below W.heap.size W w) (h' : Below w.heap.size w w') : Below W.heap.size W w' := h.trans (h'.mono h.size)
/-- A box: a block of cells of the call's own, known whole. -/
abbrev Bk (W : World) (g : Nat) (cs : Array Value) (T : TypeId) : Prop := W.heap[g]? = some (.cells cs T (0, 0))
theorem Bk.lt {W : World} {g : Nat} {cs : Array Value} {T : TypeId} (h : Bk W g cs T) : g < W.heap.size := (Array.getElem?_eq_some_iff.1 h).1
theorem Bk.cell {W : World} {g : Nat} {cs : Array Value} {T : TypeId} (h : Bk W g cs T) (i : Nat) : W.cell? ⟨g, i, none⟩ = cs[i]? := Lib.cell_of_heap h i
theorem Bk.free {W : World} {g : Nat} {cs : Array Value} {T : TypeId} (h : Bk W g cs T) (i : Nat) : W.frozen? ⟨g, i, none⟩ = false := Lib.frozen_of_heap h i
theorem Bk.keep {W W' : World} {g : Nat} {cs : Array Value} {T : TypeId} (h : Bk W g cs T) (hb : Below W.heap.size W W') : Bk W' g cs T := (hb.block g h.lt).trans h
theorem Bk.new (w : World) (cs : Array Value) (T : TypeId) : Bk (w.alloc (.cells cs T)) w.heap.size cs T := (MapKept.heap_alloc w _).1
theorem Bk.more {W : World} {g : Nat} {cs : Array Value} {T : TypeId} (h : Bk W g cs T) (o : Obj) : Bk (W.alloc o) g cs T := h.keep ((Below.refl _ _).alloc (Nat.le_refl _) _)
theorem Bk.two {W : World} {g : Nat} {a b : Value} {T : TypeId} (h : Bk W g #[a, b] T) : W.cell? ⟨g, 0, none⟩ = some a ∧ W.cell? ⟨g, 1, none⟩ = some b := ⟨h.cell 0, h.cell 1⟩
theorem Bk.four {W : World} {g : Nat} {a b c d : Value} {T : TypeId} (h : Bk W g #[a, b, c, d] T) : W.cell? ⟨g, 0, none⟩ = some a ∧ W.cell? ⟨g, 1, none⟩ = some b ∧ W.cell? ⟨g, 2, none⟩ = some c ∧ W.cell? ⟨g, 3, none⟩ = some d := ⟨h.cell 0, h.cell 1, h.cell 2, h.cell 3⟩
theorem Bk.seven {W : World} {g : Nat} {a b c d e f i : Value} {T : TypeId} (h : Bk W g #[a, b, c, d, e, f, i] T) : W.cell? ⟨g, 0, none⟩ = some a ∧ W.cell? ⟨g, 1, none⟩ = some b ∧ W.cell? ⟨g, 2, none⟩ = some c ∧ W.cell? ⟨g, 3, none⟩ = some d ∧ W.cell? ⟨g, 4, none⟩ = some e ∧ W.cell? ⟨g, 5, none⟩ = some f ∧ W.cell? ⟨g, 6, none⟩ = some i :=
  ⟨h.cell 0, h.cell 1, h.cell 2, h.cell 3, h.cell 4, h.cell 5, h.cell 6⟩
theorem one_alloc (w : World) (o : Obj) : Below w.heap.size w (w.alloc o) := (Below.refl _ _).alloc (Nat.le_refl _) _

end Go.Proofs.YtbnihoimhfcjiaaDoor.Ao

/-
  Boxes of one cell, marks of loops over functions that are over, what such a loop keeps (layers 12 on).
-/
import Derived.Test.YtbnihoimhfcjiaaDoorUi
import Derived.Test.YtbnihoimhfcjiaaDoorGp
import Derived.Below
namespace Go.Proofs.YtbnihoimhfcjiaaDoor.Rf
open Go Go.RowKit Ao
set_option linter.unusedVariables false
set_option linter.unusedSimpArgs false

abbrev Bx (W : World) (g : Nat) (v : Value) (T : TypeId) : Prop := W.heap[g]? = some (.cells #[v] T (0, 0))
theorem Bx.cell {W : World} {g : Nat} {v : Value} {T : TypeId} (h : Bx W g v T) : W.cell? ⟨g, 0, none⟩ = some v := by rw [Lib.cell_of_heap h]; rfl
theorem Bx.free {W : World} {g : Nat} {v : Value} {T : TypeId} (h : Bx W g v T) : W.frozen? ⟨g, 0, none⟩ = false := Lib.frozen_of_heap h 0
theorem Bx.set {W : World} {g : Nat} {v : Value} {T : TypeId} (h : Bx W g v T) (v' : Value) : Bx (W.setCell ⟨g, 0, none⟩ v') g v' T := by
  rw [setCell_eq_setRow W g 0 _ _ _ _ h]
  exact setRow_heap W g _ _ _ _ h
theorem Bx.lt {W : World} {g : Nat} {v : Value} {T : TypeId} (h : Bx W g v T) : g < W.heap.size := (Array.getElem?_eq_some_iff.1 h).1
theorem Bx.keep {W W' : World} {g : Nat} {v : Value} {T : TypeId} (h : Bx W g v T) (hb : Below W.heap.size W W') : Bx W' g v T := (hb.block g h.lt).trans h
theorem Bx.new (w : World) (v : Value) (T : TypeId) : Bx (w.alloc (.cells #[v] T)) w.heap.size v T := (MapKept.heap_alloc w _).1
theorem Bx.gone {A B : World} {g : Nat} {v : Value} {T : TypeId} {row : Option Nat} (h : Bx A g v T) (hg : A.grownBy B row) (hr : row ≠ some g) : Bx B g v T := (hg.block g h.lt (fun e => hr e.symm)).trans h
theorem set_grown (W : World) (g i : Nat) (v : Value) : W.grownBy (W.setCell ⟨g, i, none⟩ v) (some g) := ⟨rfl, rfl, rfl, by simp [World.setCell], fun k _ hk => Below.heap_setCell _ _ _ _ (fun e => hk (by rw [e]))⟩
theorem grown_of_below {A B : World} (h : Below A.heap.size A B) (row : Option Nat) : A.grownBy B row := ⟨h.os, h.tape, h.output, h.size, fun k hk _ => h.block k hk⟩
theorem marks_nil (W : World) : Marks [] W := ⟨List.Pairwise.nil, fun d hd => by cases hd⟩
theorem grown_up {A B C : World} {b row : Option Nat} (h : A.grownBy B b) (hg : B.grownBy C row) (hr : ∀ r, row = some r → A.heap.size ≤ r) : A.grownBy C b :=
  ⟨hg.os.trans h.os, hg.tape.trans h.tape, hg.output.trans h.output, Nat.le_trans h.size hg.size, fun k hk hb => by
    rw [hg.block k (Nat.lt_of_lt_of_le hk h.size) (fun e => by have := hr k e.symm; omega), h.block k hk hb]⟩
theorem grown_refl (A : World) (b : Option Nat) : A.grownBy A b := ⟨rfl, rfl, rfl, Nat.le_refl _, fun _ _ _ => rfl⟩
theorem grown_box {A B C : World} {g : Nat} (h : A.grownBy B (some g)) (hg : B.grownBy C (some g)) : A.grownBy C (some g) :=
  ⟨hg.os.trans h.os, hg.tape.trans h.tape, hg.output.trans h.output, Nat.le_trans h.size hg.size, fun k hk hb => by
    rw [hg.block k (Nat.lt_of_lt_of_le hk h.size) hb, h.block k hk hb]⟩
theorem grown_below {N : Nat} {w A B : World} {g : Nat} (hb : Below N w A) (hN : N ≤ A.heap.size) (hg : N ≤ g) (h : A.grownBy B (some g)) : Below N w B := hb.trans ((Below.refl _ _).grown h hN fun k hk => by have := Option.some.inj hk; omega)
theorem ends_box {D g : Nat} {W : World} {v : Value} (hg : g < D) : (W.setCell ⟨g, 0, none⟩ v).heap[D]? = W.heap[D]? ∧ (W.setCell ⟨g, 0, none⟩ v).heap[D + 1]? = W.heap[D + 1]? :=
  ⟨Below.heap_setCell _ _ _ _ (by simp; omega), Below.heap_setCell _ _ _ _ (by simp; omega)⟩

theorem shut_below {ds : List Deferred} {N : Nat} {w W W' : World} (hs : Shut ds W W') (hlow : ∀ d ∈ ds, ∀ r, d.target = .collected r → N ≤ r) (hB : Below N w W) : Below N w W' :=
  ⟨hs.os.trans hB.os, hs.tape.trans hB.tape, hs.output.trans hB.output, by rw [hs.size]; exact hB.size, fun k hk => by
    rw [hs.block k fun d hd e => by have := hlow d hd k e; omega]
    exact hB.block k hk⟩
theorem ret_tmp {fn : Func} {p : Tmp} (h : fn.results = #[.tmp p]) {tmps : Array Value} {ds : List Deferred} {w W : World} {N : Nat} (ht : tmps.getD p undef = .bool true) (hm : Marks ds W) (hlow : ∀ d ∈ ds, ∀ r, d.target = .collected r → N ≤ r) (hB : Below N w W) :
    LeavesInM Fence.wide 6 Tryd.prog fn tmps (fun e w' => e = .returned (.bool true) ∧ Below N w w') ds .returning W :=
  leaves_marks ds W hm fun W' hs => ⟨_, results_tmp h _ _ _, by rw [ht], shut_below hs hlow hB⟩
theorem low_nil {N : Nat} : ∀ d ∈ ([] : List Deferred), ∀ r, d.target = .collected r → N ≤ r := fun d hd => by cases hd
theorem marks_one {W : World} {D : Nat} (h : W.heap[D]? = some (.deferred (some []))) : Marks [{ target := .collected D, args := #[] }] W := ⟨by simp, fun d hd => by
  simp only [List.mem_cons, List.not_mem_nil, or_false] at hd
  subst hd
  exact ⟨_, rfl, h⟩⟩
theorem marks_keepT {ds : List Deferred} {A B : World} (h : Marks ds A) (hb : Below A.heap.size A B) : Marks ds B := ⟨h.1, fun d hd => by
  obtain ⟨r, h1, h2⟩ := h.2 d hd
  exact ⟨r, h1, (hb.block r (Array.getElem?_eq_some_iff.1 h2).1).trans h2⟩⟩
theorem low_one {N D : Nat} (h : N ≤ D) : ∀ d ∈ ([{ target := .collected D, args := #[] }] : List Deferred), ∀ r, d.target = .collected r → N ≤ r := fun d hd r e => by
  simp only [List.mem_cons, List.not_mem_nil, or_false] at hd
  subst hd
  have : D = r := by injection e
  omega
/-- Marks of loops that are over, all from N on. -/
def Mk (N : Nat) (ds : List Deferred) (W : World) : Prop := Marks ds W ∧ ∀ d ∈ ds, ∀ r, d.target = .collected r → N ≤ r
theorem Mk.nil (N : Nat) (W : World) : Mk N [] W := ⟨marks_nil W, low_nil⟩
theorem Mk.keep {N : Nat} {ds : List Deferred} {A B : World} (h : Mk N ds A) (hb : Below A.heap.size A B) : Mk N ds B := ⟨marks_keepT h.1 hb, h.2⟩
theorem Mk.gone {N g : Nat} {ds : List Deferred} {A B : World} {cs : Array Value} {T : TypeId} {fz : Nat × Nat} (h : Mk N ds A) (hx : A.heap[g]? = some (.cells cs T fz)) (hg : A.grownBy B (some g)) : Mk N ds B := ⟨⟨h.1.1, fun d hd => by
  obtain ⟨r, h1, h2⟩ := h.1.2 d hd
  refine ⟨r, h1, (hg.block r (Array.getElem?_eq_some_iff.1 h2).1 (fun e => ?_)).trans h2⟩
  have e2 : r = g := Option.some.inj e
  subst e2
  rw [h2] at hx
  cases hx⟩, h.2⟩
theorem Mk.cons {N D : Nat} {ds : List Deferred} {A B : World} (h : Mk N ds A) (hD : A.heap.size ≤ D) (hb : Mk N ds B) (hk : B.heap[D]? = some (.deferred (some []))) (hN : N ≤ D) : Mk N ({ target := .collected D, args := #[] } :: ds) B := by
  refine ⟨⟨List.pairwise_cons.2 ⟨fun d hd e => ?_, h.1.1⟩, fun d hd => ?_⟩, fun d hd r e => ?_⟩
  · obtain ⟨r, h1, h2⟩ := h.1.2 d hd
    have h3 := (Array.getElem?_eq_some_iff.1 h2).1
    rw [h1] at e
    have : D = r := by injection e
    omega
  · rcases List.mem_cons.1 hd with rfl | hd
    · exact ⟨D, rfl, hk⟩
    · exact hb.1.2 d hd
  · rcases List.mem_cons.1 hd with rfl | hd
    · have : D = r := by injection e
      omega
    · exact h.2 d hd r e
theorem results_box {fn : Func} {p : Tmp} (h : fn.results = #[.cell p 4]) (tmps : Array Value) (W : World) (g : Nat) (r : Bool) (ht : tmps.getD p undef = .pointer (some ⟨g, 0, none⟩)) (hg : Bx W g (.bool r) 4) :
    (results fn tmps).run Tryd.prog W = .ok (.bool r) W := by
  have hp' : tmps[p]?.getD undef = .pointer (some ⟨g, 0, none⟩) := by simpa using ht
  have hc := hg.cell
  simp [results, h, hp', asAddr, loadVar, go_sem, hc]
theorem ret_box {fn : Func} {p : Tmp} (h : fn.results = #[.cell p 4]) {tmps : Array Value} {ds : List Deferred} {w W : World} {N g : Nat} {v0 : Value} (ht : tmps.getD p undef = .pointer (some ⟨g, 0, none⟩)) (hm : Mk N ds W)
    (hg : Bx W g v0 4) (hN : N ≤ g) (hB : Below N w W) : LeavesInM Fence.wide 6 Tryd.prog fn tmps (fun e w' => e = .returned (.bool true) ∧ Below N w w') ds .returning (W.setCell ⟨g, 0, none⟩ (.bool true)) := by
  have hm2 := hm.gone hg (set_grown W g 0 (.bool true))
  have hg2 : Bx (W.setCell ⟨g, 0, none⟩ (.bool true)) g (.bool true) 4 := hg.set _
  refine leaves_marks ds _ hm2.1 fun W' hs => ⟨_, results_box h tmps W' g true ht ?_, rfl, shut_below hs hm2.2 (hB.setCell (p := ⟨g, 0, none⟩) hN _)⟩
  refine (hs.block g fun d hd e => ?_).trans hg2
  obtain ⟨r, h1, h2⟩ := hm2.1.2 d hd
  rw [e] at h1
  cases h1
  rw [show (W.setCell ⟨g, 0, none⟩ (.bool true)).heap[g]? = _ from hg2] at h2
  cases h2
theorem below_set {N : Nat} {w W : World} {g : Nat} (h : Below N w W) (hg : N ≤ g) (v : Value) : Below N w (W.setCell ⟨g, 0, none⟩ v) := h.setCell (p := ⟨g, 0, none⟩) hg v

/-- What a loop over a function with one box, laid just ahead of it, keeps. -/
def InNew {β : Type} (A : World) (T : TypeId) (f : List β → Value) (pre : List β) (W : World) : Prop := Below A.heap.size A W ∧ Bx W A.heap.size (f pre) T
theorem InNew.stands {β : Type} {A : World} {D : Nat} {T : TypeId} {f : List β → Value} (hg : A.heap.size < D) : Stands D (InNew A T f) := by
  rintro pre B C row ⟨h1, h2⟩ h3 hr
  refine ⟨h1.grown h3 h1.size fun r e => ?_, h2.gone h3 fun e => ?_⟩
  · rcases hr with hr | hr | hr <;> rw [hr] at e
    · cases e
    · have := Option.some.inj e; omega
    · have := Option.some.inj e; omega
  · rcases hr with hr | hr | hr <;> rw [hr] at e
    · cases e
    · have := Option.some.inj e; omega
    · have := Option.some.inj e; omega
theorem InNew.set {β : Type} {A W : World} {T : TypeId} {f : List β → Value} {pre pre' : List β} {v : Value} (h : InNew A T f pre W) (hv : f pre' = v) : InNew A T f pre' (W.setCell ⟨A.heap.size, 0, none⟩ v) :=
  ⟨h.1.setCell (p := ⟨A.heap.size, 0, none⟩) (Nat.le_refl _) v, by rw [hv]; exact h.2.set v⟩
end Go.Proofs.YtbnihoimhfcjiaaDoor.Rf

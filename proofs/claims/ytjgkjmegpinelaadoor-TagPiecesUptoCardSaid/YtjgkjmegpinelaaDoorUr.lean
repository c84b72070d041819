/-
  Layer 7: rows of slices of fields of the call's own; what a loop over frames turns.
-/
import Derived.Test.YtjgkjmegpinelaaDoorUq
namespace Go.Proofs.YtjgkjmegpinelaaDoor.Tg
open Go.RowKit Go.Shelf Dx Sx Rf
set_option linter.unusedVariables false
set_option linter.unusedSimpArgs false

/-- What came of the frames: each one's slice, and its fields. -/
abbrev Got1 := Value × List Fld
def OwnX (w : World) (base : Nat) (v : Value) (xs : List Got1) : Prop := w.ownsRow base 22 1 v xs.length (xs.map Prod.fst) ∧ ∀ x ∈ xs, OwnF w base x.1 x.2
/-- All is kept but one box, and rows of slices of fields. -/
structure Gone (A B : World) (N q : Nat) : Prop where
  os : B.os = A.os
  tape : B.tape = A.tape
  output : B.output = A.output
  size : A.heap.size ≤ B.heap.size
  block : ∀ k, k < A.heap.size → k ≠ q → (N ≤ k → ∀ cur fz, A.heap[k]? ≠ some (.cells cur 22 fz)) → B.heap[k]? = A.heap[k]?
theorem Gone.refl (A : World) (N q : Nat) : Gone A A N q := ⟨rfl, rfl, rfl, Nat.le_refl _, fun _ _ _ _ => rfl⟩
theorem Gone.trans {A B C : World} {N q : Nat} (h1 : Gone A B N q) (h2 : Gone B C N q) : Gone A C N q :=
  ⟨h2.os.trans h1.os, h2.tape.trans h1.tape, h2.output.trans h1.output, Nat.le_trans h1.size h2.size, fun k hk hq ht => by
    have e := h1.block k hk hq ht
    rw [h2.block k (Nat.lt_of_lt_of_le hk h1.size) hq (fun hN cur fz => by rw [e]; exact ht hN cur fz), e]⟩
theorem Gone.of_below {A B : World} (h : Below A.heap.size A B) (N q : Nat) : Gone A B N q := ⟨h.os, h.tape, h.output, h.size, fun k hk _ _ => h.block k hk⟩
theorem Gone.grown {A B C : World} {N q : Nat} {row : Option Nat} (h : Gone A B N q) (hg : B.grownBy C row) (hr : ∀ k, row = some k → A.heap.size ≤ k) : Gone A C N q :=
  ⟨hg.os.trans h.os, hg.tape.trans h.tape, hg.output.trans h.output, Nat.le_trans h.size hg.size, fun k hk hq ht => by
    rw [hg.block k (Nat.lt_of_lt_of_le hk h.size) (fun e => by have := hr k e.symm; omega), h.block k hk hq ht]⟩
theorem Gone.below {A B : World} {N q : Nat} (h : Gone A B N q) (hq : N ≤ q) : Below N A B ∨ A.heap.size < N := by
  rcases Nat.lt_or_ge A.heap.size N with h0 | h0
  · exact .inr h0
  · exact .inl ⟨h.os, h.tape, h.output, h.size, fun k hk => h.block k (by omega) (by omega) (fun hN => by omega)⟩
theorem Gone.low {w A B : World} {N q : Nat} (h : Gone A B N q) (hq : N ≤ q) (hN : N ≤ A.heap.size) (hb : Below N w A) : Below N w B := by
  rcases h.below hq with h1 | h1
  · exact hb.trans h1
  · omega
theorem Gone.box {A B : World} {N q g : Nat} {v : Value} {T : TypeId} (h : Gone A B N q) (hx : Bx A g v T) (hg : g ≠ q) (hT : T ≠ 22) : Bx B g v T :=
  (h.block g hx.lt hg (fun _ cur fz e => by
    rw [show A.heap[g]? = _ from hx] at e
    cases e
    exact hT rfl)).trans hx
theorem Gone.mark {A B : World} {N q g : Nat} {o : Obj} (h : Gone A B N q) (hx : A.heap[g]? = some o) (hg : g ≠ q) (ho : o.isCells = false) : B.heap[g]? = some o :=
  (h.block g (Array.getElem?_eq_some_iff.1 hx).1 hg (fun _ cur fz e => by
    rw [hx] at e
    cases e
    cases ho)).trans hx
theorem Gone.row {A B : World} {N q base s n : Nat} {v vq : Value} {T Tq : TypeId} {xs : List Value} (h : Gone A B N q) (hr : A.ownsRow base T s v n xs) (hT : T ≠ 22) (hq : Bx A q vq Tq) (hTq : Tq ≠ T) : B.ownsRow base T s v n xs := by
  refine ⟨hr.1, ?_⟩
  rcases hr.2 with h0 | ⟨g, cap, cur, hv, hb, hh, rest⟩
  · exact .inl h0
  · refine .inr ⟨g, cap, cur, hv, hb, ?_, rest⟩
    rw [h.block g (Array.getElem?_eq_some_iff.1 hh).1 (fun e => ?_) (fun _ cur' fz e => ?_)]
    · exact hh
    · subst e
      rw [show A.heap[g]? = _ from hq] at hh
      have h3 := Option.some.inj hh
      injection h3 with _ h4 _
      exact hTq h4
    · rw [hh] at e
      have h3 := Option.some.inj e
      injection h3 with _ h4 _
      exact hT h4
theorem OwnX.keep {w w' : World} {base : Nat} {v : Value} {xs : List Got1} (h : OwnX w base v xs) (hb : Below w.heap.size w w') : OwnX w' base v xs :=
  ⟨World.ownsRow.kept h.1 (grown_of_below hb none) (by cases v.ownBlock with | none => exact .inl rfl | some k => exact .inr (by simp)), fun x hx => own_row_keep2 (h.2 x hx) hb⟩
theorem OwnX.kept {A B : World} {base : Nat} {v : Value} {xs : List Got1} {row : Option Nat} (h : OwnX A base v xs) (hg : A.grownBy B row) (hr : ∀ r, row = some r → A.heap.size ≤ r ∨ (∀ cur T fz, A.heap[r]? ≠ some (.cells cur T fz))) : OwnX B base v xs := by
  have hk : ∀ {T : TypeId} {s n : Nat} {v : Value} {vs : List Value}, A.ownsRow base T s v n vs → B.ownsRow base T s v n vs := fun {T s n v vs} h1 => by
    refine World.ownsRow.kept h1 hg ?_
    rcases h1.2 with ⟨rfl, _⟩ | ⟨g, cap, cur, rfl, _, hh, _⟩
    · exact .inl rfl
    · refine .inr fun e => ?_
      have e2 : row = some g := e.symm
      rcases hr g e2 with h2 | h2
      · have := (Array.getElem?_eq_some_iff.1 hh).1
        omega
      · exact h2 _ _ _ hh
  exact ⟨hk h.1, fun x hx => hk (h.2 x hx)⟩
theorem OwnX.slice {w : World} {base : Nat} {v : Value} {xs : List Got1} (h : OwnX w base v xs) : ∃ a cap, v = .slice a xs.length cap ∧ ∀ j (hj : j < xs.length), ∃ g, a = some ⟨g, 0, none⟩ ∧ w.cell? ⟨g, j, none⟩ = some (xs[j].1) := by
  have h1 := h.1
  rcases h1.2 with ⟨hv, h0⟩ | ⟨g, cap, cur, hv, hb, hh, h2, h3, h4, h5⟩
  · exact ⟨none, 0, by rw [hv, h0], fun j hj => by omega⟩
  · refine ⟨some ⟨g, 0, none⟩, cap, hv, fun j hj => ⟨g, rfl, ?_⟩⟩
    subst hv
    rw [World.ownsRow.cellAt h1 j (by omega)]
    simp [hj]
/-- One more in the box. -/
theorem gone_app {A W w1 : World} {q N : Nat} {v v' : Value} {xs : List Got1} {x : Got1} {o : Obj} (hG : Gone A W N q) (hbox : Bx W q v 45) (hown : OwnX W N v xs) (hx : OwnF W N x.1 x.2)
    (ho : w1.ownsRow N 22 1 v' (xs.length + 1) (xs.map Prod.fst ++ [x.1])) (hg : (W.alloc o).grownBy w1 v.ownBlock) (hq : q < A.heap.size) :
    Bx w1 q v 45 ∧ Gone A (w1.setCell ⟨q, 0, none⟩ v') N q ∧ Bx (w1.setCell ⟨q, 0, none⟩ v') q v' 45 ∧ OwnX (w1.setCell ⟨q, 0, none⟩ v') N v' (xs ++ [x]) := by
  have hal : Below W.heap.size W (W.alloc o) := (Below.refl _ _).alloc (Nat.le_refl _) _
  have hb1 := hbox.keep hal
  have ho1 := hown.keep hal
  have hx1 := own_row_keep2 hx hal
  have nrow : v.ownBlock ≠ some q := by
    rcases ho1.1.2 with ⟨rfl, _⟩ | ⟨g, cap, cur, rfl, _, hh, _⟩
    · simp [Value.ownBlock]
    · intro e
      have e2 : g = q := Option.some.inj e
      subst e2
      rw [show (W.alloc o).heap[g]? = _ from hb1] at hh
      have h3 := Option.some.inj hh
      injection h3 with _ h4 _
      exact absurd h4 (by decide)
  have hb2 : Bx w1 q v 45 := (hg.block q hb1.lt (fun e => nrow e.symm)).trans hb1
  have keepF : ∀ {u : Value} {F : List Fld}, OwnF (W.alloc o) N u F → OwnF w1 N u F := fun {u F} hu => World.ownsRow.kept hu hg (own_apart hu ho1.1 (by decide))
  have hs1 : w1.grownBy (w1.setCell ⟨q, 0, none⟩ v') (some q) := set_grown_at w1 q 0 v'
  have keepS : ∀ {T : TypeId} {s n : Nat} {u : Value} {vs : List Value}, T ≠ 45 → w1.ownsRow N T s u n vs → (w1.setCell ⟨q, 0, none⟩ v').ownsRow N T s u n vs := fun {T s n u vs} hT hu => by
    refine World.ownsRow.kept hu hs1 ?_
    rcases hu.2 with ⟨rfl, _⟩ | ⟨g, cap, cur, rfl, _, hh, _⟩
    · exact .inl rfl
    · refine .inr fun e => ?_
      have e2 : g = q := Option.some.inj e
      subst e2
      rw [show w1.heap[g]? = _ from hb2] at hh
      have h3 := Option.some.inj hh
      injection h3 with _ h4 _
      exact hT h4.symm
  refine ⟨hb2, ?_, hb2.set v', ?_, ?_⟩
  · refine (hG.trans (Gone.of_below hal N q)).trans ⟨hg.os, hg.tape, hg.output, hg.size, fun k hk hkq ht => ?_⟩ |>.trans ⟨rfl, rfl, rfl, hs1.size, fun k hk hkq _ => hs1.block k hk (fun e => hkq (Option.some.inj e))⟩
    refine hg.block k hk (fun e => ?_)
    rcases ho1.1.2 with ⟨rfl, _⟩ | ⟨g, cap, cur, rfl, hN, hh, _⟩
    · cases e
    · have e2 : k = g := Option.some.inj e
      subst e2
      exact ht hN _ _ hh
  · rw [List.length_append, List.map_append]
    exact keepS (by decide) ho
  · intro y hy
    rcases List.mem_append.1 hy with hy | hy
    · exact keepS (by decide) (keepF (ho1.2 y hy))
    · rw [List.mem_singleton.1 hy]
      exact keepS (by decide) (keepF hx1)
end Go.Proofs.YtjgkjmegpinelaaDoor.Tg

/-
  Rows of elements of any type of fixed cells: slices that are read, rows of the call's own, appends, stores. (For layer 13 and those behind it.)
-/
import Derived.Test.YtnaelmddafhjlaaChecked
import Derived.Test.YtnaelmddafhjlaaFr
import Derived.Laws.AppendOwnNone
import Derived.Maps.OwnIn
import Derived.Lib.Hide
import Derived.Lib.SmallJoins
import Derived.Lib.Builder
import Derived.OwnWalk
import Derived.Deep.RegionHeld3
import Derived.Deep.RegionLaw
namespace Go.Proofs.Ytnaelmddafhjlaa.Rw
open Go.RowKit
set_option linter.unusedVariables false
set_option linter.unusedSimpArgs false

/-- How an element lies in memory. -/
structure Enc (α : Type) where
  T : TypeId
  S : TypeId
  k : Nat
  bytes : Nat
  zero : Value
  cells : α → List Value
  dflt : α
structure Enc.Ok {α : Type} (E : Enc α) : Prop where
  pos : 0 < E.k
  len : ∀ x, (E.cells x).length = E.k
  one : ∀ x, ∀ u ∈ E.cells x, u.oneCell' = true
  und : Try.prog.underlying E.S = some (.slice E.T)
  info : (Try.prog.info? E.T).map (fun i => (i.zero, i.size, i.bytes)) = some (some E.zero, E.k, E.bytes)
  zs : E.zero.cells.size = E.k
section
variable {α : Type} {E : Enc α}
theorem flat_at (h : E.Ok) : ∀ (X : List α) (j i : Nat) (x : α), i < E.k → X[j]? = some x → (X.flatMap E.cells)[j * E.k + i]? = (E.cells x)[i]?
  | [], j, i, x, _, hx => by simp at hx
  | y :: Y, 0, i, x, hi, hx => by
    simp at hx; subst hx
    rw [List.flatMap_cons, List.getElem?_append_left (by rw [h.len]; omega), Nat.zero_mul, Nat.zero_add]
  | y :: Y, j + 1, i, x, hi, hx => by
    rw [List.flatMap_cons, List.getElem?_append_right (by rw [h.len, Nat.succ_mul]; omega), ← flat_at h Y j i x hi (by simpa using hx), h.len, Nat.succ_mul]
    congr 1
    omega
theorem flat_len (h : E.Ok) : ∀ (X : List α), (X.flatMap E.cells).length = X.length * E.k
  | [] => by simp
  | x :: X => by rw [List.flatMap_cons, List.length_append, flat_len h X, h.len, List.length_cons, Nat.succ_mul]; omega
theorem flat_set (h : E.Ok) : ∀ (X : List α) (j i : Nat) (x x' : α) (u : Value), i < E.k → X[j]? = some x → E.cells x' = (E.cells x).set i u → (X.flatMap E.cells).set (j * E.k + i) u = (X.set j x').flatMap E.cells
  | [], j, i, x, x', u, _, hx, _ => by simp at hx
  | y :: Y, 0, i, x, x', u, hi, hx, he => by
    simp at hx; subst hx
    rw [List.flatMap_cons, List.set_cons_zero, List.flatMap_cons, he, Nat.zero_mul, Nat.zero_add, List.set_append_left _ _ (by rw [h.len]; exact hi)]
  | y :: Y, j + 1, i, x, x', u, hi, hx, he => by
    rw [List.flatMap_cons, List.set_cons_succ, List.flatMap_cons, ← flat_set h Y j i x x' u hi (by simpa using hx) he, Nat.succ_mul, List.set_append_right _ _ (by rw [h.len]; omega), h.len]
    congr 2
    omega
theorem flat_one (h : E.Ok) (X : List α) : ∀ u ∈ X.flatMap E.cells, u.oneCell' = true := by
  intro u hu
  obtain ⟨x, _, hx⟩ := List.mem_flatMap.1 hu
  exact h.one x u hx
theorem getD_some {X : List α} {j : Nat} (d : α) (hj : j < X.length) : X[j]? = some (X.getD j d) := by simp [List.getD, hj]

/-! ### Slices that are read -/
def Has (E : Enc α) (w : World) (a : Option Addr) (X : List α) : Prop := X.length ≤ 9223372036854775807 ∧ (0 < X.length → ∃ b off, a = some ⟨b, off, none⟩ ∧ ∀ j u, (X.flatMap E.cells)[j]? = some u → w.cell? ⟨b, off + j, none⟩ = some u)
theorem Has.nil (w : World) (a : Option Addr) : Has E w a [] := ⟨by simp, fun h => absurd h (Nat.lt_irrefl 0)⟩
theorem Has.keep {w w' : World} {a : Option Addr} {X : List α} (h : Has E w a X) (hb : Below w.heap.size w w') : Has E w' a X :=
  ⟨h.1, fun h0 => by
    obtain ⟨b, off, e, hj⟩ := h.2 h0
    exact ⟨b, off, e, fun j u hu => (hb.cell (p := ⟨b, off + j, none⟩) (Fr.lt_of_cell (hj j u hu))).trans (hj j u hu)⟩⟩
theorem Has.low {w w' : World} {N : Nat} {a : Option Addr} {X : List α} (h : Has E w a X) (hN : w.heap.size ≤ N) (hb : Below N w w') : Has E w' a X := h.keep ⟨hb.os, hb.tape, hb.output, hb.size, fun k hk => hb.block k (Nat.lt_of_lt_of_le hk hN)⟩
theorem Has.drew {w : World} {a : Option Addr} {X : List α} (h : Has E w a X) (n : Nat) : Has E (w.drewN n) a X := h
theorem Has.at {w : World} {a : Option Addr} {X : List α} (hE : E.Ok) (h : Has E w a X) {j : Nat} (hj : j < X.length) : ∃ b off, a = some ⟨b, off, none⟩ ∧ ∀ i u, (E.cells (X.getD j E.dflt))[i]? = some u → w.cell? ⟨b, off + (j * E.k + i), none⟩ = some u := by
  obtain ⟨b, off, e, hc⟩ := h.2 (by omega)
  refine ⟨b, off, e, fun i u hu => hc _ u ?_⟩
  rw [flat_at hE X j i _ (by have := (List.getElem?_eq_some_iff.1 hu).1; rwa [hE.len] at this) (getD_some _ hj)]
  exact hu
theorem Has.cells {w : World} {ad : Addr} {X : List α} (h : Has E w (some ad) X) : ∀ j u, (X.flatMap E.cells)[j]? = some u → w.cell? (ad.add j) = some u := by
  intro j u hu
  rcases Nat.eq_zero_or_pos X.length with h0 | h0
  · rw [List.eq_nil_of_length_eq_zero h0] at hu; simp at hu
  · obtain ⟨b, off, e, hc⟩ := h.2 h0
    cases e
    rw [show (⟨b, off, none⟩ : Addr).add j = ⟨b, off + j, none⟩ by simp [Addr.add]]
    exact hc j u hu
theorem Has.take {w : World} {a : Option Addr} {X : List α} (h : Has E w a X) (n : Nat) : Has E w a (X.take n) :=
  ⟨by rw [List.length_take]; have := h.1; omega, fun h0 => by
    obtain ⟨b, off, e, hc⟩ := h.2 (by rw [List.length_take] at h0; omega)
    refine ⟨b, off, e, fun j u hu => hc j u ?_⟩
    rw [← List.take_append_drop n X, List.flatMap_append]
    rw [List.getElem?_append_left (List.getElem?_eq_some_iff.1 hu).1]
    exact hu⟩
theorem Has.left {w : World} {a : Option Addr} {X Y : List α} (h : Has E w a (X ++ Y)) : Has E w a X := by
  have := h.take X.length
  rwa [List.take_left] at this
theorem Has.right {w : World} {b off : Nat} {X Y : List α} (hE : E.Ok) (h : Has E w (some ⟨b, off, none⟩) (X ++ Y)) : Has E w (some ⟨b, off + X.length * E.k, none⟩) Y :=
  ⟨by have := h.1; rw [List.length_append] at this; omega, fun h0 => by
    obtain ⟨b', off', e, hc⟩ := h.2 (by rw [List.length_append]; omega)
    cases e
    refine ⟨b, _, rfl, fun j u hu => ?_⟩
    rw [Nat.add_assoc]
    refine hc _ u ?_
    rw [List.flatMap_append, List.getElem?_append_right (by rw [flat_len hE]; omega), flat_len hE, Nat.add_sub_cancel_left]
    exact hu⟩
/-- A literal's row. -/
theorem Has.lit (w : World) (X : List α) (cs : Array Value) (T : TypeId) (g : Nat) (hcs : cs.toList = X.flatMap E.cells) (hg : g = w.heap.size) (hl : X.length ≤ 9223372036854775807) : Has E (w.alloc (.cells cs T)) (some ⟨g, 0, none⟩) X := by
  subst hg
  refine ⟨hl, fun _ => ⟨w.heap.size, 0, rfl, fun j u hu => ?_⟩⟩
  rw [Nat.zero_add, Lib.cell_of_heap (MapKept.heap_alloc w _).1, ← hu, ← hcs, Array.getElem?_toList]

/-! ### Rows of the call's own -/
def Own (E : Enc α) (w : World) (base : Nat) (v : Value) (X : List α) : Prop := w.ownsRow base E.T E.k v X.length (X.flatMap E.cells)
theorem Own.nil (w : World) (base : Nat) : Own E w base (.slice none 0 0) [] := World.ownsRow_nil _ _ _ _
theorem Own.has {w : World} {base : Nat} {v : Value} {X : List α} (hE : E.Ok) (h : Own E w base v X) : ∃ a cap, v = .slice a X.length cap ∧ Has E w a X ∧ (a = none → cap = 0) ∧ X.length ≤ cap ∧ cap ≤ maxLen := by
  have h' := h
  rcases h.2 with ⟨rfl, h0⟩ | ⟨g, cap, cur, rfl, hb, hh, h1, h2, h3, h4⟩
  · have e : X = [] := List.eq_nil_of_length_eq_zero h0
    subst e
    exact ⟨none, 0, rfl, Has.nil _ _, fun _ => rfl, Nat.le_refl _, by decide⟩
  · refine ⟨some ⟨g, 0, none⟩, cap, rfl, ⟨by unfold maxLen at h2; omega, fun _ => ⟨g, 0, rfl, fun j u hu => ?_⟩⟩, (fun h => by cases h), h1, h2⟩
    have hj := (List.getElem?_eq_some_iff.1 hu).1
    rw [flat_len hE] at hj
    rw [Nat.zero_add, World.ownsRow.cellAt h' j hj]
    exact hu
theorem Own.lt {w : World} {base : Nat} {v : Value} {X : List α} (h : Own E w base v X) {k : Nat} (hk : v.ownBlock = some k) : base ≤ k ∧ k < w.heap.size := World.ownsRow.lt h k hk
theorem grown_of_below {A B : World} (h : Below A.heap.size A B) (row : Option Nat) : A.grownBy B row := ⟨h.os, h.tape, h.output, h.size, fun k hk _ => h.block k hk⟩
theorem Own.gone {A B : World} {base : Nat} {v : Value} {X : List α} {row : Option Nat} (h : Own E A base v X) (hg : A.grownBy B row) (hr : ∀ k, v.ownBlock = some k → row ≠ some k) : Own E B base v X := by
  refine World.ownsRow.kept h hg ?_
  cases hv : v.ownBlock with
  | none => exact .inl rfl
  | some k => exact .inr (fun e => hr k hv e.symm)
theorem Own.keep {w w' : World} {base : Nat} {v : Value} {X : List α} (h : Own E w base v X) (hb : Below w.heap.size w w') : Own E w' base v X := h.gone (grown_of_below hb none) (fun r _ e => by cases e)
theorem Own.kept {A B : World} {base : Nat} {v : Value} {X : List α} {row : Option Nat} (h : Own E A base v X) (hg : A.grownBy B row) (hr : ∀ r, row = some r → r < base) : Own E B base v X :=
  h.gone hg fun k hk e => by have := (h.lt hk).1; have := hr k e; omega
theorem Own.low {w : World} {base base' : Nat} {v : Value} {X : List α} (h : Own E w base v X) (hb : base' ≤ base) : Own E w base' v X := by
  refine ⟨h.1, ?_⟩
  rcases h.2 with h0 | ⟨g, cap, cur, hv, h1, rest⟩
  · exact .inl h0
  · exact .inr ⟨g, cap, cur, hv, by omega, rest⟩
theorem Own.drew {w : World} {base : Nat} {v : Value} {X : List α} (h : Own E w base v X) (n : Nat) : Own E (w.drewN n) base v X := h
theorem Own.lit (w : World) (X : List α) (cs : Array Value) (base g n c : Nat) (hE : E.Ok) (hcs : cs.toList = X.flatMap E.cells) (hg : g = w.heap.size) (hb : base ≤ w.heap.size) (hn : n = X.length) (hc : c = X.length) (hl : X.length ≤ maxLen) : Own E (w.alloc (.cells cs E.T)) base (.slice (some ⟨g, 0, none⟩) n c) X := by
  subst hg hn hc
  have hs : cs.size = X.length * E.k := by rw [← flat_len hE, ← hcs, Array.length_toList]
  have := World.ownsRow_lit (e := E.T) (size := E.k) w cs X.length hb hl hs
  rw [hcs] at this
  exact this
theorem Own.made (w : World) (base : Nat) (hb : base ≤ w.heap.size) : Own E (w.alloc (.cells #[] E.T)) base (.slice (some ⟨w.heap.size, 0, none⟩) 0 0) [] :=
  World.ownsRow_made w #[] 0 hb (by decide) (by simp)
/-- The block of a row that has elements. -/
theorem Own.block {w : World} {base : Nat} {v : Value} {X : List α} (h : Own E w base v X) (h0 : 0 < X.length) : ∃ g cap, v = .slice (some ⟨g, 0, none⟩) X.length cap ∧ base ≤ g ∧ g < w.heap.size ∧ (∀ i, w.frozen? ⟨g, i, none⟩ = false) := by
  rcases h.2 with ⟨_, h1⟩ | ⟨g, cap, cur, rfl, hb, hh, _⟩
  · omega
  · exact ⟨g, cap, rfl, hb, (Array.getElem?_eq_some_iff.1 hh).1, fun i => Lib.frozen_of_heap hh i⟩
/-- One cell of the j-th element is stored. -/
theorem Own.set {w : World} {base g cap : Nat} {X : List α} (hE : E.Ok) (h : Own E w base (.slice (some ⟨g, 0, none⟩) X.length cap) X) {j i : Nat} {x' : α} {u : Value} (hj : j < X.length) (hi : i < E.k) (he : E.cells x' = (E.cells (X.getD j E.dflt)).set i u) :
    Own E (w.setCell ⟨g, j * E.k + i, none⟩ u) base (.slice (some ⟨g, 0, none⟩) X.length cap) (X.set j x') := by
  have := (World.ownsRow.stored h (j * E.k + i) u).1
  rw [flat_set hE X j i _ x' u hi (getD_some _ hj) he] at this
  unfold Own
  rw [List.length_set]
  exact this

/-! ### Appends -/
/-- What an append to the call's own leaves: its block is the old one, or a new one. -/
def NewB (w : World) (v v' : Value) : Prop := v'.ownBlock = v.ownBlock ∨ v'.ownBlock = some w.heap.size
theorem grown_refl (w : World) (row : Option Nat) : w.grownBy w row := ⟨rfl, rfl, rfl, Nat.le_refl _, fun _ _ _ => rfl⟩
theorem run_ap (hE : E.Ok) (w : World) (base : Nat) (v : Value) (X : List α) (hown : Own E w base v X) (ty : TypeId) (ad : Option Addr) (len c : Nat) (Y : List α) (hY : Has E w ad Y) (hl : Y.length = len) (hn : ad = none → c = 0) (hm : X.length + len ≤ maxLen) (hb : (X.length + len) * E.bytes ≤ 140737488355328) (hbase : base ≤ w.heap.size) :
    ∃ v' w', (Builtin.append_ #[E.S, E.S] ty #[v, .slice ad len c]).run Try.prog w = .ok v' w' ∧ Own E w' base v' (X ++ Y) ∧ w.grownBy w' v.ownBlock ∧ NewB w v v' := by
  obtain ⟨i0, hi, hz0, hz1, hz2⟩ := info_parts hE.info
  cases ad with
  | none =>
    have hY0 : Y = [] := by
      rcases Nat.eq_zero_or_pos Y.length with h0 | h0
      · exact List.eq_nil_of_length_eq_zero h0
      · obtain ⟨b, off, e, _⟩ := hY.2 h0; cases e
    subst hY0
    obtain rfl : len = 0 := by simpa using hl.symm
    obtain rfl := hn rfl
    exact ⟨v, w, run_append_owned_none (P := Try.prog) (w := w) base E.S ty E.T i0 E.k hE.und hi v X.length (X.flatMap E.cells) hown, by rw [List.append_nil]; exact hown, grown_refl _ _, .inl rfl⟩
  | some ad =>
    obtain ⟨v', w', hr, h2, h3, _, h5⟩ := run_append_own_at (P := Try.prog) w base E.S ty E.T i0 E.zero E.k E.bytes hE.und hi hz0 hz1 hz2 hE.zs hE.pos v X.length (X.flatMap E.cells) hown ad len c (Y.flatMap E.cells) (by rw [flat_len hE, hl]) hY.cells (flat_one hE Y) hm hb hbase
    refine ⟨v', w', hr, ?_, h3, h5⟩
    unfold Own
    rw [List.length_append, List.flatMap_append, hl]
    exact h2
theorem below_of_grown {w w' : World} {base : Nat} {v : Value} {X : List α} (hown : Own E w base v X) (hbase : base ≤ w.heap.size) (hg : w.grownBy w' v.ownBlock) : Below base w w' := (Below.refl _ _).grown hg hbase fun k hk => (hown.lt hk).1
theorem wp_run {ops : Array Oper} {rest : List Oper} {o : Oper} {a : Act} {Q : Exit → Act → World → Prop} {w w' : World} {v v2 v' : Value} (hgd : o.guard = none) (s x : Operand) (t : TypeId)
    (ho : o.op = .call { callee := .builtin .append, args := #[s, x], argTypes := #[t, t] }) (hs : a.eval s = v) (hx : a.eval x = v2) (hr : (Builtin.append_ #[t, t] o.type #[v, v2]).run Try.prog w = .ok v' w')
    (h : wpList Try.prog ops Q rest (a.put o.dst v') w') : wpList Try.prog ops Q (o :: rest) a w := by
  refine wpList_plain hgd fun K hK => ?_
  unfold Oper.wp execOp
  simp only [ho, resolve, invoke, builtin, Sem.run_bind, Sem.run_pure, Result.andThen_ok, List.map_toArray, List.map_cons, List.map_nil, hs, hx, hr]
  exact hK _ _ h
theorem step_run {ops : Array Oper} {o : Oper} {a : Act} {K : Act → World → Prop} {Q : Exit → Act → World → Prop} {E : Prop} {w w' : World} {v v2 v' : Value} (hgd : o.guard = none) (s x : Operand) (t : TypeId)
    (ho : o.op = .call { callee := .builtin .append, args := #[s, x], argTypes := #[t, t] }) (hs : a.eval s = v) (hx : a.eval x = v2) (hr : (Builtin.append_ #[t, t] o.type #[v, v2]).run Try.prog w = .ok v' w')
    (h : K (a.put o.dst v') w') : if Region.wanted o (yielded ops a.tmps) = true then Oper.wp Try.prog o a w K Q else E := by
  have hw : Region.wanted o (yielded ops a.tmps) = true := by simp [Region.wanted, hgd]
  rw [if_pos hw]
  unfold Oper.wp execOp
  simp only [ho, resolve, invoke, builtin, Sem.run_bind, Sem.run_pure, Result.andThen_ok, List.map_toArray, List.map_cons, List.map_nil, hs, hx, hr]
  exact h
/-- append(own row, elements...). -/
theorem wp_ap (hE : E.Ok) {w : World} {ops : Array Oper} {rest : List Oper} {o : Oper} {a : Act} {Q : Exit → Act → World → Prop} (hgd : o.guard = none) (sl x : Operand)
    (ho : o.op = .call { callee := .builtin .append, args := #[sl, x], argTypes := #[E.S, E.S] }) (base : Nat) (v : Value) (X : List α) (hs : a.eval sl = v) (hown : Own E w base v X)
    (ad : Option Addr) (len c : Nat) (Y : List α) (hx : a.eval x = .slice ad len c) (hY : Has E w ad Y) (hl : Y.length = len) (hn : ad = none → c = 0) (hm : X.length + len ≤ maxLen) (hb : (X.length + len) * E.bytes ≤ 140737488355328) (hbase : base ≤ w.heap.size)
    (h : ∀ v' w', Own E w' base v' (X ++ Y) → Below base w w' → w.grownBy w' v.ownBlock → NewB w v v' → wpList Try.prog ops Q rest (a.put o.dst v') w') : wpList Try.prog ops Q (o :: rest) a w := by
  obtain ⟨v', w', hr, h1, h2, h3⟩ := run_ap hE w base v X hown o.type ad len c Y hY hl hn hm hb hbase
  exact wp_run hgd sl x _ ho hs hx hr (h v' w' h1 (below_of_grown hown hbase h2) h2 h3)
/-- The same at a drawn step. -/
theorem step_ap (hE : E.Ok) {ops : Array Oper} {o : Oper} {a : Act} {K : Act → World → Prop} {Q : Exit → Act → World → Prop} {F : Prop} {w : World} (hgd : o.guard = none) (sl x : Operand)
    (ho : o.op = .call { callee := .builtin .append, args := #[sl, x], argTypes := #[E.S, E.S] }) (base : Nat) (v : Value) (X : List α) (hs : a.eval sl = v) (hown : Own E w base v X)
    (ad : Option Addr) (len c : Nat) (Y : List α) (hx : a.eval x = .slice ad len c) (hY : Has E w ad Y) (hl : Y.length = len) (hn : ad = none → c = 0) (hm : X.length + len ≤ maxLen) (hb : (X.length + len) * E.bytes ≤ 140737488355328) (hbase : base ≤ w.heap.size)
    (h : ∀ v' w', Own E w' base v' (X ++ Y) → Below base w w' → w.grownBy w' v.ownBlock → NewB w v v' → K (a.put o.dst v') w') : if Region.wanted o (yielded ops a.tmps) = true then Oper.wp Try.prog o a w K Q else F := by
  obtain ⟨v', w', hr, h1, h2, h3⟩ := run_ap hE w base v X hown o.type ad len c Y hY hl hn hm hb hbase
  exact step_run hgd sl x _ ho hs hx hr (h v' w' h1 (below_of_grown hown hbase h2) h2 h3)
/-- make([]T, n). -/
theorem made_zero (hz : E.zero.cells.toList = E.cells E.dflt) (hE : E.Ok) (n : Nat) : (madeCells E.zero.cells (n * E.k)).toList = (List.replicate n E.dflt).flatMap E.cells := by
  apply List.ext_getElem?
  intro j
  have hzl : E.zero.cells.size = E.k := hE.zs
  by_cases hj : j < n * E.k
  · have hk : 0 < E.k := hE.pos
    have hq : j / E.k < n := by
      rw [Nat.div_lt_iff_lt_mul hk]; exact hj
    have e1 : j = j / E.k * E.k + j % E.k := by rw [Nat.mul_comm]; exact (Nat.div_add_mod j E.k).symm
    have e2 := flat_at hE (List.replicate n E.dflt) (j / E.k) (j % E.k) E.dflt (Nat.mod_lt _ hk) (by rw [List.getElem?_replicate, if_pos hq])
    rw [← e1] at e2
    rw [e2, ← hz, Array.getElem?_toList]
    unfold madeCells
    simp [hj, hzl, Nat.mod_lt _ hk]
  · have h1 : ((List.replicate n E.dflt).flatMap E.cells).length ≤ j := by rw [flat_len hE, List.length_replicate]; omega
    rw [List.getElem?_eq_none h1]
    unfold madeCells
    simp [hj]
theorem wp_mk (hE : E.Ok) (hz : E.zero.cells.toList = E.cells E.dflt) {ops : Array Oper} {rest : List Oper} {o : Oper} {a : Act} {Q : Exit → Act → World → Prop} {w : World} (hgd : o.guard = none) (l c : Operand)
    (hop : o.op = Op.makeSlice E.S l c) (base n : Nat) (hl : a.eval l = .int .i64 (n : Int)) (hc : a.eval c = .int .i64 (n : Int)) (hn : E.bytes * n ≤ 281474976710656) (hm : n ≤ maxLen) (hbase : base ≤ w.heap.size)
    (h : ∀ w', Own E w' base (.slice (some ⟨w.heap.size, 0, none⟩) n n) (List.replicate n E.dflt) → Below base w w' → wpList Try.prog ops Q rest (a.put o.dst (.slice (some ⟨w.heap.size, 0, none⟩) n n)) w') : wpList Try.prog ops Q (o :: rest) a w := by
  obtain ⟨i0, hi, hz0, hz1, hz2⟩ := info_parts hE.info
  refine wpList_make_full w hgd l c E.S hop base E.T i0 E.zero E.k hE.und hi hz0 hz1 .i64 .i64 _ _ n hl hc rfl rfl (by rw [hz2]; exact hn) hm hbase ?_
  intro w' h1 h2
  refine h w' ?_ ((Below.refl base w).grown h2 hbase (fun k hk => by cases hk))
  unfold Own
  rw [← made_zero hz hE, List.length_replicate]
  exact h1

/-! ### Boxes -/
abbrev Blk (W : World) (g : Nat) (cs : Array Value) (T : TypeId) : Prop := W.heap[g]? = some (.cells cs T (0, 0))
theorem Blk.lt {W : World} {g : Nat} {cs : Array Value} {T : TypeId} (h : Blk W g cs T) : g < W.heap.size := (Array.getElem?_eq_some_iff.1 h).1
theorem Blk.cell {W : World} {g : Nat} {cs : Array Value} {T : TypeId} (h : Blk W g cs T) (i : Nat) : W.cell? ⟨g, i, none⟩ = cs[i]? := Lib.cell_of_heap h i
theorem Blk.free {W : World} {g : Nat} {cs : Array Value} {T : TypeId} (h : Blk W g cs T) (i : Nat) : W.frozen? ⟨g, i, none⟩ = false := Lib.frozen_of_heap h i
theorem Blk.keep {W W' : World} {g : Nat} {cs : Array Value} {T : TypeId} (h : Blk W g cs T) (hb : Below W.heap.size W W') : Blk W' g cs T := (hb.block g h.lt).trans h
theorem Blk.gone {A B : World} {g : Nat} {cs : Array Value} {T : TypeId} {row : Option Nat} (h : Blk A g cs T) (hg : A.grownBy B row) (hr : row ≠ some g) : Blk B g cs T := (hg.block g h.lt (fun e => hr e.symm)).trans h
theorem Blk.new (w : World) (cs : Array Value) (T : TypeId) : Blk (w.alloc (.cells cs T)) w.heap.size cs T := (MapKept.heap_alloc w _).1
theorem Blk.set {W : World} {g : Nat} {cs : Array Value} {T : TypeId} (h : Blk W g cs T) (i : Nat) (v : Value) : Blk (W.setCell ⟨g, i, none⟩ v) g (cs.setIfInBounds i v) T := by
  rw [setCell_eq_setRow W g i _ _ _ _ h]
  exact setRow_heap W g _ _ _ _ h
theorem Blk.other {W : World} {g g' : Nat} {cs : Array Value} {T : TypeId} (h : Blk W g cs T) (i : Nat) (v : Value) (hne : g' ≠ g) : Blk (W.setCell ⟨g', i, none⟩ v) g cs T := (Below.heap_setCell _ _ _ _ (fun e => hne e.symm)).trans h
theorem below_next {W w w' : World} (h : Below W.heap.size W w) (h' : Below w.heap.size w w') : Below W.heap.size W w' := h.trans (h'.mono h.size)
theorem below_drew (w : World) (n : Nat) : Below w.heap.size w (w.drewN n) := ⟨rfl, rfl, rfl, Nat.le_refl _, fun _ _ => rfl⟩
theorem one_alloc (w : World) (o : Obj) : Below w.heap.size w (w.alloc o) := (Below.refl _ _).alloc (Nat.le_refl _) _
end
end Go.Proofs.Ytnaelmddafhjlaa.Rw

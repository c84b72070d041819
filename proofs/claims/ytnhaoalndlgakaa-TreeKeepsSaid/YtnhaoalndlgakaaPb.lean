/-
  Layer 10: integers in memory: rows that are read, rows of the call's own, appends; boxes.
-/
import Derived.Test.YtnhaoalndlgakaaChecked
import Derived.Test.YtnhaoalndlgakaaFr
import Derived.Test.YtnhaoalndlgakaaPa
import Derived.Laws.AppendOwnNone
import Derived.Maps.OwnIn
import Derived.Lib.Hide
import Derived.Lib.SmallJoins
import Derived.Lib.Builder
namespace Go.Proofs.Ytnhaoalndlgakaa.Tr
open Go.RowKit
set_option linter.unusedVariables false
set_option linter.unusedSimpArgs false

abbrev HasZ (w : World) (a : Option Addr) (z : List Int) : Prop := Fr.HasRow .i64 w a z.length z
theorem HasZ.at {w : World} {a : Option Addr} {z : List Int} (h : HasZ w a z) {j : Nat} (hj : j < z.length) : ∃ b off, a = some ⟨b, off, none⟩ ∧ w.cell? ⟨b, off + j, none⟩ = some (.int .i64 (par z j)) := by
  obtain ⟨_, _, h3⟩ := h
  obtain ⟨b, off, e, hc⟩ := h3 (by omega)
  exact ⟨b, off, e, hc j hj⟩
theorem HasZ.keep {w w' : World} {a : Option Addr} {z : List Int} (h : HasZ w a z) (hb : Below w.heap.size w w') : HasZ w' a z := Fr.HasRow.keep h hb
theorem HasZ.low {w w' : World} {N : Nat} {a : Option Addr} {z : List Int} (h : HasZ w a z) (hN : w.heap.size ≤ N) (hb : Below N w w') : HasZ w' a z := h.keep ⟨hb.os, hb.tape, hb.output, hb.size, fun k hk => hb.block k (Nat.lt_of_lt_of_le hk hN)⟩
theorem HasZ.drew {w : World} {a : Option Addr} {z : List Int} (h : HasZ w a z) (n : Nat) : HasZ (w.drewN n) a z := h
theorem hasZ_nil (w : World) (a : Option Addr) : HasZ w a [] := ⟨Nat.le_refl _, by decide, fun h => absurd h (by decide)⟩
theorem hasZ_of_row {w : World} {a : Option Addr} {len cap : Nat} {zs : List Int} (h : Fr.IsRow .i64 w a len cap zs) : ∃ z, z.length = len ∧ HasZ w a z ∧ len ≤ cap ∧ (a = none → cap = 0) := by
  obtain ⟨h1, h2, h3⟩ := h.has
  have hl : (zs.take len).length = len := by rw [List.length_take]; omega
  refine ⟨zs.take len, hl, ⟨Nat.le_refl _, by rw [hl]; exact h2, fun h0 => ?_⟩, ?_⟩
  · rw [hl] at h0
    obtain ⟨b, off, e, hc⟩ := h3 h0
    refine ⟨b, off, e, fun j hj => ?_⟩
    rw [hl] at hj
    rw [hc j hj]
    simp [List.getD, List.getElem?_take, hj]
  · rcases h with ⟨rfl, rfl, rfl, _⟩ | ⟨x, rfl, h4, _⟩
    · exact ⟨Nat.le_refl _, fun _ => rfl⟩
    · exact ⟨h4, fun h => by cases h⟩
/-- A literal's row. -/
theorem lit_row (w : World) (l : List Int) (T : TypeId) (g : Nat) (hg : g = w.heap.size) (hl : l.length ≤ 9223372036854775807) : HasZ (w.alloc (.cells (l.map (Value.int .i64)).toArray T)) (some ⟨g, 0, none⟩) l := by
  subst hg
  refine ⟨Nat.le_refl _, hl, fun _ => ⟨w.heap.size, 0, rfl, fun j hj => ?_⟩⟩
  rw [Nat.zero_add, Lib.cell_of_heap (MapKept.heap_alloc w _).1]
  simp [List.getD, hj]

theorem lit_one (w : World) (n : Int) (T : TypeId) (g : Nat) (hg : g = w.heap.size) : HasZ (w.alloc (.cells #[.int .i64 n] T)) (some ⟨g, 0, none⟩) [n] := lit_row w [n] T g hg (by simp)

/-! ### Boxes -/
abbrev Bx (W : World) (g : Nat) (v : Value) (T : TypeId) : Prop := W.heap[g]? = some (.cells #[v] T (0, 0))
theorem Bx.cell {W : World} {g : Nat} {v : Value} {T : TypeId} (h : Bx W g v T) : W.cell? ⟨g, 0, none⟩ = some v := by rw [Lib.cell_of_heap h]; rfl
theorem Bx.free {W : World} {g : Nat} {v : Value} {T : TypeId} (h : Bx W g v T) : W.frozen? ⟨g, 0, none⟩ = false := Lib.frozen_of_heap h 0
theorem Bx.set {W : World} {g : Nat} {v : Value} {T : TypeId} (h : Bx W g v T) (v' : Value) : Bx (W.setCell ⟨g, 0, none⟩ v') g v' T := by
  rw [setCell_eq_setRow W g 0 _ _ _ _ h]
  exact setRow_heap W g _ _ _ _ h
theorem Bx.lt {W : World} {g : Nat} {v : Value} {T : TypeId} (h : Bx W g v T) : g < W.heap.size := (Array.getElem?_eq_some_iff.1 h).1
theorem Bx.keep {W W' : World} {g : Nat} {v : Value} {T : TypeId} (h : Bx W g v T) (hb : Below W.heap.size W W') : Bx W' g v T := (hb.block g h.lt).trans h
theorem Bx.new (w : World) (v : Value) (T : TypeId) : Bx (w.alloc (.cells #[v] T)) w.heap.size v T := (MapKept.heap_alloc w _).1
theorem Bx.gone {A B : World} {g : Nat} {v : Value} {T : TypeId} {row : Option Nat} (h : Bx A g v T) (hg : A.grownBy B row) (hr : row ≠ some g) : Bx B g v T := (hg.block g h.lt (fun e => hr e.symm)).trans h
theorem set_grown (W : World) (g i : Nat) (v : Value) : W.grownBy (W.setCell ⟨g, i, none⟩ v) (some g) := ⟨rfl, rfl, rfl, by simp [World.setCell], fun k _ hk => Below.heap_setCell _ _ _ _ (fun e => hk (by rw [e]))⟩
theorem grown_of_below {A B : World} (h : Below A.heap.size A B) (row : Option Nat) : A.grownBy B row := ⟨h.os, h.tape, h.output, h.size, fun k hk _ => h.block k hk⟩
/-- A block of cells of the call's own, known whole. -/
abbrev Blk (W : World) (g : Nat) (cs : Array Value) (T : TypeId) : Prop := W.heap[g]? = some (.cells cs T (0, 0))
theorem Blk.lt {W : World} {g : Nat} {cs : Array Value} {T : TypeId} (h : Blk W g cs T) : g < W.heap.size := (Array.getElem?_eq_some_iff.1 h).1
theorem Blk.cell {W : World} {g : Nat} {cs : Array Value} {T : TypeId} (h : Blk W g cs T) (i : Nat) : W.cell? ⟨g, i, none⟩ = cs[i]? := Lib.cell_of_heap h i
theorem Blk.free {W : World} {g : Nat} {cs : Array Value} {T : TypeId} (h : Blk W g cs T) (i : Nat) : W.frozen? ⟨g, i, none⟩ = false := Lib.frozen_of_heap h i
theorem Blk.keep {W W' : World} {g : Nat} {cs : Array Value} {T : TypeId} (h : Blk W g cs T) (hb : Below W.heap.size W W') : Blk W' g cs T := (hb.block g h.lt).trans h
theorem Blk.new (w : World) (cs : Array Value) (T : TypeId) : Blk (w.alloc (.cells cs T)) w.heap.size cs T := (MapKept.heap_alloc w _).1
theorem Blk.set {W : World} {g : Nat} {cs : Array Value} {T : TypeId} (h : Blk W g cs T) (i : Nat) (v : Value) : Blk (W.setCell ⟨g, i, none⟩ v) g (cs.setIfInBounds i v) T := by
  rw [setCell_eq_setRow W g i _ _ _ _ h]
  exact setRow_heap W g _ _ _ _ h
theorem below_next {W w w' : World} (h : Below W.heap.size W w) (h' : Below w.heap.size w w') : Below W.heap.size W w' := h.trans (h'.mono h.size)
theorem below_drew (w : World) (n : Nat) : Below w.heap.size w (w.drewN n) := ⟨rfl, rfl, rfl, Nat.le_refl _, fun _ _ => rfl⟩
theorem one_alloc (w : World) (o : Obj) : Below w.heap.size w (w.alloc o) := (Below.refl _ _).alloc (Nat.le_refl _) _

/-! ### Integers of the call's own -/
def OwnN (w : World) (base : Nat) (v : Value) (zs : List Int) : Prop := w.ownsRow base 3 1 v zs.length (zs.map (Value.int .i64))
theorem infoN : (Try.prog.info? 3).map (fun i => (i.zero, i.size, i.bytes)) = some (some (.int .i64 0), 1, 8) := by kernel_rfl
theorem own_none (w : World) (base : Nat) : OwnN w base (.slice none 0 0) [] := ⟨rfl, .inl ⟨rfl, rfl⟩⟩
theorem own_made (w : World) (base : Nat) (hb : base ≤ w.heap.size) : OwnN (w.alloc (.cells #[] 3)) base (.slice (some ⟨w.heap.size, 0, none⟩) 0 0) [] :=
  World.ownsRow_made w #[] 0 hb (by decide) rfl
theorem OwnN.keep {w w' : World} {base : Nat} {v : Value} {zs : List Int} (h : OwnN w base v zs) (hb : Below w.heap.size w w') : OwnN w' base v zs :=
  World.ownsRow.kept h (grown_of_below hb none) (by cases v.ownBlock with | none => exact .inl rfl | some k => exact .inr (by simp))
theorem OwnN.gone {A B : World} {base : Nat} {v : Value} {zs : List Int} {row : Option Nat} (h : OwnN A base v zs) (hg : A.grownBy B row) (hr : ∀ k, v.ownBlock = some k → row ≠ some k) : OwnN B base v zs := by
  refine World.ownsRow.kept h hg ?_
  cases hb : v.ownBlock with
  | none => exact .inl rfl
  | some k => exact .inr (fun e => hr k hb e.symm)
theorem OwnN.lt {w : World} {base : Nat} {v : Value} {zs : List Int} (h : OwnN w base v zs) {k : Nat} (hk : v.ownBlock = some k) : base ≤ k ∧ k < w.heap.size := by
  rcases h.2 with ⟨rfl, _⟩ | ⟨g, cap, cur, rfl, hb, hh, _⟩
  · cases hk
  · have e : g = k := Option.some.inj hk
    subst e
    exact ⟨hb, (Array.getElem?_eq_some_iff.1 hh).1⟩
theorem OwnN.kept {A B : World} {base : Nat} {v : Value} {zs : List Int} {row : Option Nat} (h : OwnN A base v zs) (hg : A.grownBy B row) (hr : ∀ r, row = some r → r < base) : OwnN B base v zs :=
  h.gone hg fun k hk e => by have := (h.lt hk).1; have := hr k e; omega
theorem OwnN.low {w : World} {base base' : Nat} {v : Value} {zs : List Int} (h : OwnN w base v zs) (hb : base' ≤ base) : OwnN w base' v zs := by
  refine ⟨h.1, ?_⟩
  rcases h.2 with h0 | ⟨g, cap, cur, hv, h1, rest⟩
  · exact .inl h0
  · exact .inr ⟨g, cap, cur, hv, by omega, rest⟩
/-- What is owned, as a row that is read. -/
theorem OwnN.has {w : World} {base : Nat} {v : Value} {l : List Int} (h : OwnN w base v l) : ∃ a cap, v = .slice a l.length cap ∧ HasZ w a l ∧ (a = none → cap = 0) ∧ l.length ≤ cap ∧ cap ≤ maxLen := by
  rcases h.2 with ⟨rfl, h0⟩ | ⟨g, cap, cur, rfl, hb, hh, h1, h2, h3, h4⟩
  · have e : l = [] := List.eq_nil_of_length_eq_zero h0
    subst e
    exact ⟨none, 0, rfl, hasZ_nil _ _, fun _ => rfl, Nat.le_refl _, by decide⟩
  · refine ⟨some ⟨g, 0, none⟩, cap, rfl, ⟨Nat.le_refl _, by unfold maxLen at h2; omega, fun _ => ⟨g, 0, rfl, fun j hj => ?_⟩⟩, (fun h => by cases h), h1, h2⟩
    rw [Nat.zero_add, World.ownsRow.cellAt h j (by omega), List.getElem?_map, List.getElem?_eq_getElem hj]
    simp [List.getD, hj]
/-- The block of what is owned. -/
theorem OwnN.block {w : World} {base : Nat} {v : Value} {l : List Int} (h : OwnN w base v l) (h0 : 0 < l.length) :
    ∃ g cap cur, v = .slice (some ⟨g, 0, none⟩) l.length cap ∧ base ≤ g ∧ w.heap[g]? = some (.cells cur 3 (0, 0)) ∧ l.length ≤ cap ∧ cap ≤ maxLen ∧ cur.size = cap ∧ ∀ j, j < l.length → w.cell? ⟨g, j, none⟩ = some (.int .i64 (par l j)) := by
  have h' := h
  rcases h.2 with ⟨_, h1⟩ | ⟨g, cap, cur, rfl, hb, hh, h1, h2, h3, h4⟩
  · omega
  · refine ⟨g, cap, cur, rfl, hb, hh, h1, h2, by omega, fun j hj => ?_⟩
    rw [World.ownsRow.cellAt h' j (by omega), List.getElem?_map, List.getElem?_eq_getElem hj]
    simp [par, List.getD, hj]
theorem OwnN.store {w : World} {base : Nat} {v : Value} {l : List Int} (h : OwnN w base v l) {j : Nat} (hj : j < l.length) : ∃ g cap, v = .slice (some ⟨g, 0, none⟩) l.length cap ∧ base ≤ g ∧ g < w.heap.size ∧ w.cell? ⟨g, j, none⟩ = some (.int .i64 (par l j)) ∧ w.frozen? ⟨g, j, none⟩ = false ∧
    ∀ x : Int, OwnN (w.setCell ⟨g, j, none⟩ (.int .i64 x)) base v (l.set j x) := by
  have h' := h
  rcases h.2 with ⟨_, h0⟩ | ⟨g, cap, cur, rfl, hb, hh, h1, h2, h3, h4⟩
  · omega
  · refine ⟨g, cap, rfl, hb, (Array.getElem?_eq_some_iff.1 hh).1, ?_, Lib.frozen_of_heap hh j, fun x => ⟨by simp, .inr ⟨g, cap, cur.setIfInBounds j (.int .i64 x), by rw [List.length_set], hb, ?_, by rw [List.length_set]; exact h1, h2, by rw [Array.size_setIfInBounds]; exact h3, ?_⟩⟩⟩
    · rw [World.ownsRow.cellAt h' j (by omega)]
      simp [par, List.getD, hj]
    · rw [setCell_eq_setRow w g j cur _ _ _ hh]
      exact setRow_heap w g cur _ _ _ hh
    · rw [List.length_set, Array.toList_setIfInBounds, List.take_set, h4, List.map_set]
theorem ints_one (l : List Int) : ∀ u ∈ l.map (Value.int .i64), u.oneCell' = true := by
  intro u hu
  obtain ⟨n, _, rfl⟩ := List.mem_map.1 hu
  rfl
theorem cells_of {w : World} {ad : Addr} {z : List Int} (h : HasZ w (some ad) z) : ∀ j u, (z.map (Value.int .i64))[j]? = some u → w.cell? (ad.add j) = some u := by
  intro j u hu
  have hj : j < z.length := by
    have := (List.getElem?_eq_some_iff.1 hu).1
    rwa [List.length_map] at this
  obtain ⟨b, off, e, hc⟩ := h.at hj
  cases e
  rw [show (⟨b, off, none⟩ : Addr).add j = ⟨b, off + j, none⟩ by simp [Addr.add], hc, ← hu]
  simp [par, List.getD, hj]
/-- append(own integers, integers...). -/
theorem wp_apn {w : World} {ops : Array Oper} {rest : List Oper} {o : Oper} {a : Act} {Q : Exit → Act → World → Prop} (hgd : o.guard = none) (sl x : Operand)
    (ho : o.op = .call { callee := .builtin .append, args := #[sl, x], argTypes := #[22, 22] }) (base : Nat) (v : Value) (z0 : List Int) (hs : a.eval sl = v) (hown : OwnN w base v z0)
    (ad : Option Addr) (len c : Nat) (z : List Int) (hx : a.eval x = .slice ad len c) (hrow : HasZ w ad z) (hlen : z.length = len) (hn : ad = none → c = 0) (hb : (z0.length + len) * 8 ≤ 140737488355328) (hbase : base ≤ w.heap.size)
    (h : ∀ v' w', OwnN w' base v' (z0 ++ z) → Below base w w' → w.grownBy w' v.ownBlock → wpList Try.prog ops Q rest (a.put o.dst v') w') : wpList Try.prog ops Q (o :: rest) a w := by
  obtain ⟨i0, fi, hz0, hz1, hz2⟩ := info_parts infoN
  cases ad with
  | none =>
    obtain rfl : z = [] := by
      rcases Nat.eq_zero_or_pos z.length with h0 | h0
      · exact List.eq_nil_of_length_eq_zero h0
      · obtain ⟨b, off, e, _⟩ := hrow.at h0; cases e
    obtain rfl : len = 0 := by simpa using hlen.symm
    obtain rfl := hn rfl
    exact wpList_append_own_none hgd sl x 22 ho base 3 i0 1 Try.underlying22 fi v z0.length (z0.map (Value.int .i64)) hs hown hx (h v w (by rw [List.append_nil]; exact hown) (Below.refl _ _) ⟨rfl, rfl, rfl, Nat.le_refl _, fun _ _ _ => rfl⟩)
  | some ad =>
    refine wpList_append_own w hgd sl x 22 ho base 3 i0 (.int .i64 0) 1 8 Try.underlying22 fi hz0 hz1 hz2 rfl (by decide) v z0.length (z0.map (Value.int .i64)) hs hown ad len c (z.map (Value.int .i64)) hx (by rw [List.length_map, hlen, Nat.mul_one]) (cells_of hrow) (ints_one _) (by unfold maxLen; omega) (by omega) hbase ?_
    intro v' w' h2 h3 _
    refine h v' w' ?_ ((Below.refl _ _).grown h3 hbase fun k hk => (hown.lt hk).1) h3
    unfold OwnN
    rw [List.length_append, hlen, List.map_append]
    exact h2
/-- The same in a fenced walk. -/
theorem wpIn_apn {F : Fence} {nF : Nat} {w : World} {ops : Array Oper} {rest : List Oper} {o : Oper} {a : Act} {Q : Exit → Act → World → Prop} (hgd : o.guard = none) (sl x : Operand)
    (ho : o.op = .call { callee := .builtin .append, args := #[sl, x], argTypes := #[22, 22] }) (base : Nat) (v : Value) (z0 : List Int) (hs : a.eval sl = v) (hown : OwnN w base v z0)
    (ad : Addr) (len c : Nat) (z : List Int) (hx : a.eval x = .slice (some ad) len c) (hrow : HasZ w (some ad) z) (hlen : z.length = len) (hb : (z0.length + len) * 8 ≤ 140737488355328) (hbase : base ≤ w.heap.size)
    (h : ∀ v' w', OwnN w' base v' (z0 ++ z) → Below base w w' → w.grownBy w' v.ownBlock → wpListIn F nF Try.prog ops Q rest (a.put o.dst v') w') : wpListIn F nF Try.prog ops Q (o :: rest) a w := by
  obtain ⟨i0, fi, hz0, hz1, hz2⟩ := info_parts infoN
  refine wpListIn_append_own_at _ hgd sl x 22 ho base 3 i0 (.int .i64 0) 1 8 Try.underlying22 fi hz0 hz1 hz2 rfl (by decide) v z0.length (z0.map (Value.int .i64)) hs hown ad len c (z.map (Value.int .i64)) hx (by rw [List.length_map, hlen, Nat.mul_one]) (cells_of hrow) (ints_one _) (by unfold maxLen; omega) (by omega) hbase ?_
  intro v' w' h2 h3 _ _
  refine h v' w' ?_ ((Below.refl _ _).grown h3 hbase fun k hk => (hown.lt hk).1) h3
  unfold OwnN
  rw [List.length_append, hlen, List.map_append]
  exact h2
end Go.Proofs.Ytnhaoalndlgakaa.Tr

/-
  Layer 8: appends to slices of the call's own; boxes.
-/
import Derived.Test.YtmecaioklmkdlaaAb
import Derived.Deep.RegionHeld3
import Derived.Deep.RegionLaw
namespace Go.Proofs.Ytmecaioklmkdlaa.Ss
open Go.RowKit
set_option linter.unusedVariables false
set_option linter.unusedSimpArgs false

theorem runS (w : World) (base : Nat) (v : Value) (S : List ByteArray) (hown : OwnS w base v S) (ty : TypeId) (ad : Option Addr) (len c : Nat) (T : List ByteArray) (hT : HasS w ad T) (hl : T.length = len) (hn : ad = none → c = 0) (hb : (S.length + len) * 16 ≤ 140737488355328) (hbase : base ≤ w.heap.size) :
    ∃ v' w', (Builtin.append_ #[22, 22] ty #[v, .slice ad len c]).run Try.prog w = .ok v' w' ∧ OwnS w' base v' (S ++ T) ∧ w.grownBy w' v.ownBlock ∧ NewB w v v' := by
  obtain ⟨i0, hi, hz0, hz1, hz2⟩ := info_parts infoS
  cases ad with
  | none =>
    have hT0 : T = [] := by
      rcases Nat.eq_zero_or_pos T.length with h0 | h0
      · exact List.eq_nil_of_length_eq_zero h0
      · obtain ⟨b, off, e, _⟩ := hT.2 h0; cases e
    subst hT0
    obtain rfl : len = 0 := by simpa using hl.symm
    obtain rfl := hn rfl
    exact ⟨v, w, run_append_owned_none (P := Try.prog) (w := w) base 22 ty 9 i0 1 Try.underlying22 hi v S.length (S.map Value.string) hown, by rw [List.append_nil]; exact hown, grown_refl _ _, .inl rfl⟩
  | some ad =>
    obtain ⟨v', w', hr, h2, h3, _, h5⟩ := run_append_own_at (P := Try.prog) w base 22 ty 9 i0 (.string ByteArray.empty) 1 16 Try.underlying22 hi hz0 hz1 hz2 rfl (by decide) v S.length (S.map Value.string) hown ad len c (T.map Value.string) (by simp; omega) (texts_cells hT)
      (fun u hu => by obtain ⟨x, _, rfl⟩ := List.mem_map.1 hu; rfl) (by unfold maxLen; omega) hb hbase
    refine ⟨v', w', hr, ?_, h3, h5⟩
    unfold OwnS
    rw [List.length_append, List.map_append, hl]
    exact h2
theorem runX (w : World) (base : Nat) (v : Value) (X : List Fm) (hown : OwnX w base v X) (ty : TypeId) (ad : Option Addr) (len c : Nat) (T : List Fm) (hT : HasX w ad T) (hl : T.length = len) (hn : ad = none → c = 0) (hb : (X.length + len) * 40 ≤ 140737488355328) (hbase : base ≤ w.heap.size) :
    ∃ v' w', (Builtin.append_ #[37, 37] ty #[v, .slice ad len c]).run Try.prog w = .ok v' w' ∧ OwnX w' base v' (X ++ T) ∧ w.grownBy w' v.ownBlock ∧ NewB w v v' := by
  obtain ⟨i0, hi, hz0, hz1, hz2⟩ := info_parts infoX
  cases ad with
  | none =>
    have hT0 : T = [] := by
      rcases Nat.eq_zero_or_pos T.length with h0 | h0
      · exact List.eq_nil_of_length_eq_zero h0
      · obtain ⟨b, off, e, _⟩ := hT.2 h0; cases e
    subst hT0
    obtain rfl : len = 0 := by simpa using hl.symm
    obtain rfl := hn rfl
    exact ⟨v, w, run_append_owned_none (P := Try.prog) (w := w) base 37 ty 27 i0 4 Try.underlying37 hi v X.length (X.flatMap cells4) hown, by rw [List.append_nil]; exact hown, grown_refl _ _, .inl rfl⟩
  | some ad =>
    obtain ⟨v', w', hr, h2, h3, _, h5⟩ := run_append_own_at (P := Try.prog) w base 37 ty 27 i0 (.agg #[.int .i64 0, .int .i64 0, .int .i64 0, .string ByteArray.empty]) 4 40 Try.underlying37 hi hz0 hz1 hz2 (by kernel_rfl) (by decide) v X.length (X.flatMap cells4) hown ad len c (T.flatMap cells4) (by rw [cells4_len, hl]) (frames_cells hT)
      (fun u hu => by
        obtain ⟨f, _, hf⟩ := List.mem_flatMap.1 hu
        simp [cells4] at hf
        rcases hf with rfl | rfl | rfl | rfl <;> rfl) (by unfold maxLen; omega) hb hbase
    refine ⟨v', w', hr, ?_, h3, h5⟩
    unfold OwnX
    rw [List.length_append, List.flatMap_append, hl]
    exact h2
theorem wp_run {ops : Array Oper} {rest : List Oper} {o : Oper} {a : Act} {Q : Exit → Act → World → Prop} {w w' : World} {v v2 v' : Value} (hgd : o.guard = none) (s x : Operand) (t : TypeId)
    (ho : o.op = .call { callee := .builtin .append, args := #[s, x], argTypes := #[t, t] }) (hs : a.eval s = v) (hx : a.eval x = v2) (hr : (Builtin.append_ #[t, t] o.type #[v, v2]).run Try.prog w = .ok v' w')
    (h : wpList Try.prog ops Q rest (a.put o.dst v') w') : wpList Try.prog ops Q (o :: rest) a w := by
  refine wpList_plain hgd fun K hK => ?_
  unfold Oper.wp execOp
  simp only [ho, resolve, invoke, builtin, Sem.run_bind, Sem.run_pure, Result.andThen_ok, List.map_toArray, List.map_cons, List.map_nil, hs, hx, hr]
  exact hK _ _ h
theorem step_run {ops : Array Oper} {o : Oper} {a : Act} {K : Act → World → Prop} {Q : Exit → Act → World → Prop} {E : Prop} {w w' : World} {v v2 v' : Value} (hgd : o.guard = none) (s x : Operand) (t : TypeId)
    (ho : o.op = .call { callee := .builtin .append, args := #[s, x], argTypes := #[t, t] }) (hs : a.eval s = v) (hx : a.eval x = v2) (hr : (Builtin.append_ #[t, t] o.type #[v, v2]).run Try.prog w = .ok v' w')
    (h : K (a.put o.dst v') w') : if Region.wanted o (yielded ops a.tmps) = true then Oper.wp Try.prog o a w K Q else E := by
  have hw : Region.wanted o (yielded ops a.tmps) = true := by simp [Region.wanted, hgd]
  rw [if_pos hw]
  unfold Oper.wp execOp
  simp only [ho, resolve, invoke, builtin, Sem.run_bind, Sem.run_pure, Result.andThen_ok, List.map_toArray, List.map_cons, List.map_nil, hs, hx, hr]
  exact h
theorem wp_apS {w : World} {ops : Array Oper} {rest : List Oper} {o : Oper} {a : Act} {Q : Exit → Act → World → Prop} (hgd : o.guard = none) (sl x : Operand)
    (ho : o.op = .call { callee := .builtin .append, args := #[sl, x], argTypes := #[22, 22] }) (base : Nat) (v : Value) (S : List ByteArray) (hs : a.eval sl = v) (hown : OwnS w base v S)
    (ad : Option Addr) (len c : Nat) (T : List ByteArray) (hx : a.eval x = .slice ad len c) (hT : HasS w ad T) (hl : T.length = len) (hn : ad = none → c = 0) (hb : (S.length + len) * 16 ≤ 140737488355328) (hbase : base ≤ w.heap.size)
    (h : ∀ v' w', OwnS w' base v' (S ++ T) → w.grownBy w' v.ownBlock → NewB w v v' → wpList Try.prog ops Q rest (a.put o.dst v') w') : wpList Try.prog ops Q (o :: rest) a w := by
  obtain ⟨v', w', hr, h1, h2, h3⟩ := runS w base v S hown o.type ad len c T hT hl hn hb hbase
  exact wp_run hgd sl x _ ho hs hx hr (h v' w' h1 h2 h3)
theorem wp_apX {w : World} {ops : Array Oper} {rest : List Oper} {o : Oper} {a : Act} {Q : Exit → Act → World → Prop} (hgd : o.guard = none) (sl x : Operand)
    (ho : o.op = .call { callee := .builtin .append, args := #[sl, x], argTypes := #[37, 37] }) (base : Nat) (v : Value) (S : List Fm) (hs : a.eval sl = v) (hown : OwnX w base v S)
    (ad : Option Addr) (len c : Nat) (T : List Fm) (hx : a.eval x = .slice ad len c) (hT : HasX w ad T) (hl : T.length = len) (hn : ad = none → c = 0) (hb : (S.length + len) * 40 ≤ 140737488355328) (hbase : base ≤ w.heap.size)
    (h : ∀ v' w', OwnX w' base v' (S ++ T) → w.grownBy w' v.ownBlock → NewB w v v' → wpList Try.prog ops Q rest (a.put o.dst v') w') : wpList Try.prog ops Q (o :: rest) a w := by
  obtain ⟨v', w', hr, h1, h2, h3⟩ := runX w base v S hown o.type ad len c T hT hl hn hb hbase
  exact wp_run hgd sl x _ ho hs hx hr (h v' w' h1 h2 h3)
/-! ### Boxes -/
abbrev Blk (W : World) (g : Nat) (cs : Array Value) (T : TypeId) : Prop := W.heap[g]? = some (.cells cs T (0, 0))
theorem Blk.lt {W : World} {g : Nat} {cs : Array Value} {T : TypeId} (h : Blk W g cs T) : g < W.heap.size := (Array.getElem?_eq_some_iff.1 h).1
theorem Blk.cell {W : World} {g : Nat} {cs : Array Value} {T : TypeId} (h : Blk W g cs T) (i : Nat) : W.cell? ⟨g, i, none⟩ = cs[i]? := Lib.cell_of_heap h i
theorem Blk.free {W : World} {g : Nat} {cs : Array Value} {T : TypeId} (h : Blk W g cs T) (i : Nat) : W.frozen? ⟨g, i, none⟩ = false := Lib.frozen_of_heap h i
theorem Blk.keep {W W' : World} {g : Nat} {cs : Array Value} {T : TypeId} (h : Blk W g cs T) (hb : Below W.heap.size W W') : Blk W' g cs T := (hb.block g h.lt).trans h
theorem Blk.gone {A B : World} {g : Nat} {cs : Array Value} {T : TypeId} {row : Option Nat} (h : Blk A g cs T) (hg : A.grownBy B row) (hr : row ≠ some g) : Blk B g cs T := (hg.block g h.lt (fun e => hr e.symm)).trans h
theorem Blk.new (w : World) (cs : Array Value) (T : TypeId) : Blk (w.alloc (.cells cs T)) w.heap.size cs T := (MapKept.heap_alloc w _).1
theorem Blk.set {W : World} {g : Nat} {cs : Array Value} {T : TypeId} (h : Blk W g cs T) (i : Nat) (v : Value) : Blk (W.setCell ⟨g, i, none⟩ v) g (cs.setIfInBounds i v) T := by
  rw [setCell_eq_setRow W g i _ _ _ _ h]
  exact setRow_heap W g _ _ _ _ h
theorem Blk.other {W : World} {g g' : Nat} {cs : Array Value} {T : TypeId} (h : Blk W g cs T) (i : Nat) (v : Value) (hne : g' ≠ g) : Blk (W.setCell ⟨g', i, none⟩ v) g cs T := (Below.heap_setCell _ _ _ _ (fun e => hne e.symm)).trans h
/-- One element that was just laid. -/
theorem lit_oneS (w : World) (m : ByteArray) (T : TypeId) (g : Nat) (hg : g = w.heap.size) : HasS (w.alloc (.cells #[.string m] T)) (some ⟨g, 0, none⟩) [m] := by
  subst hg
  refine ⟨by simp, fun _ => ⟨w.heap.size, 0, rfl, fun j hj => ?_⟩⟩
  match j, hj with
  | 0, _ => simp [List.getD]
theorem lit_oneX (w : World) (f : Fm) (T : TypeId) (g : Nat) (hg : g = w.heap.size) : HasX (w.alloc (.cells #[.int .i64 f.kind, .int .i64 f.num, .int .i64 f.taken, .string f.body] T)) (some ⟨g, 0, none⟩) [f] := by
  subst hg
  refine ⟨by simp, fun _ => ⟨w.heap.size, 0, rfl, fun j hj => ?_⟩⟩
  match j, hj with
  | 0, _ => simp [List.getD]
end Go.Proofs.Ytmecaioklmkdlaa.Ss

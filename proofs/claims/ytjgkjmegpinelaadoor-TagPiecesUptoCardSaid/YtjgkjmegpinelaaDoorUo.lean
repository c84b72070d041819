/-
  Layer 7: an append of fields to the call's own; stores in rows of the call's own, with all beside it kept.
-/
import Derived.Test.YtjgkjmegpinelaaDoorUn
import Derived.Laws.AppendOwnNone
namespace Go.Proofs.YtjgkjmegpinelaaDoor.Tg
open Go.RowKit Go.Shelf Dx Sx Rf
set_option linter.unusedVariables false
set_option linter.unusedSimpArgs false

theorem cells2_len : ∀ (F : List Fld), (F.flatMap cells2).length = F.length * 2
  | [] => rfl
  | f :: F => by rw [List.flatMap_cons, List.length_append, cells2_len F]; simp [cells2]; omega
theorem fields_cells {w : World} {ad : Addr} {F : List Fld} (h : HasF w (some ad) F) : ∀ j u, (F.flatMap cells2)[j]? = some u → w.cell? (ad.add j) = some u := by
  intro j u hu
  have hlen := cells2_len F
  have hj : j < F.length * 2 := by
    have := (List.getElem?_eq_some_iff.1 hu).1
    omega
  obtain ⟨b, off, e, hc⟩ := h.2 (by omega)
  cases e
  have hq : j / 2 < F.length := by omega
  have hf : F[j / 2]? = some (F.getD (j / 2) fld0) := by simp [List.getD, hq]
  have hfl := flat2 F (j / 2) (j % 2) _ (by omega) hf
  rw [show j / 2 * 2 + j % 2 = j by omega, hu] at hfl
  obtain ⟨c0, c1⟩ := hc (j / 2) hq
  rw [show (⟨b, off, none⟩ : Addr).add j = ⟨b, off + j, none⟩ by simp [Addr.add]]
  rcases (show j % 2 = 0 ∨ j % 2 = 1 by omega) with e | e
  · rw [e] at hfl
    rw [show off + j = off + j / 2 * 2 by omega, c0, hfl]; rfl
  · rw [e] at hfl
    rw [show off + j = off + j / 2 * 2 + 1 by omega, c1, hfl]; rfl
theorem wp_apd_fields {w : World} {ops : Array Oper} {rest : List Oper} {o : Oper} {a : Act} {Q : Exit → Act → World → Prop} (hgd : o.guard = none) (sl x : Operand)
    (ho : o.op = .call { callee := .builtin .append, args := #[sl, x], argTypes := #[22, 22] }) (base : Nat) (v : Value) (F0 : List Fld) (hs : a.eval sl = v) (hown : OwnF w base v F0)
    (ad : Option Addr) (len c : Nat) (F : List Fld) (hx : a.eval x = .slice ad len c) (hF : HasF w ad F) (hl : F.length = len) (hn : ad = none → c = 0) (hb : F0.length + F.length ≤ 1000000) (hbase : base ≤ w.heap.size)
    (h : ∀ v' w', OwnF w' base v' (F0 ++ F) → w.grownBy w' v.ownBlock → wpList Tryd.prog ops Q rest (a.put o.dst v') w') : wpList Tryd.prog ops Q (o :: rest) a w := by
  obtain ⟨i0, fi, hz0, hz1, hz2⟩ := info_parts infoF
  subst hl
  cases ad with
  | none =>
    have hF0 : F = [] := by
      rcases Nat.eq_zero_or_pos F.length with h0 | h0
      · exact List.eq_nil_of_length_eq_zero h0
      · obtain ⟨b, off, e, _⟩ := hF.2 h0; cases e
    subst hF0
    obtain rfl := hn rfl
    exact wpList_append_own_none hgd sl x 22 ho base 50 i0 2 Tryd.underlying22 fi v F0.length (F0.flatMap cells2) hs hown hx (h v w (by rw [List.append_nil]; exact hown) ⟨rfl, rfl, rfl, Nat.le_refl _, fun _ _ _ => rfl⟩)
  | some ad =>
    refine wpList_append_own w hgd sl x 22 ho base 50 i0 (.agg #[.int .i64 0, .string ByteArray.empty]) 2 24 Tryd.underlying22 fi hz0 hz1 hz2 (by kernel_rfl) (by decide) v F0.length (F0.flatMap cells2) hs hown ad F.length c (F.flatMap cells2) hx (cells2_len F) (fields_cells hF) ?_ (by unfold maxLen; omega) (by omega) hbase ?_
    · intro u hu
      obtain ⟨f, _, hf⟩ := List.mem_flatMap.1 hu
      simp [cells2] at hf
      rcases hf with rfl | rfl <;> rfl
    · intro v' w' h2 h3 _
      refine h v' w' ?_ h3
      unfold OwnF
      rw [List.length_append, List.flatMap_append]
      exact h2
theorem HasF.front {w : World} {b off : Nat} {F G : List Fld} (h : HasF w (some ⟨b, off, none⟩) (F ++ G)) : HasF w (some ⟨b, off, none⟩) F := by
  refine ⟨by have := h.1; rw [List.length_append] at this; omega, fun h0 => ⟨b, off, rfl, fun j hj => ?_⟩⟩
  obtain ⟨b', off', e, hc⟩ := h.2 (by rw [List.length_append]; omega)
  cases e
  have := hc j (by rw [List.length_append]; omega)
  rwa [show (F ++ G).getD j fld0 = F.getD j fld0 by simp [List.getD, List.getElem?_append_left hj]] at this
theorem own_empty (w : World) (T : TypeId) (hT : T = 50) (base : Nat) (hb : base ≤ w.heap.size) : OwnF (w.alloc (.cells #[] T)) base (.slice (some ⟨w.heap.size, 0, none⟩) 0 0) [] := by
  subst hT
  exact World.ownsRow_made w #[] 0 hb (by decide) rfl
/-- A row of fields, its cells whatever. -/
def RowF (W : World) (g n : Nat) : Prop := ∃ cur, W.heap[g]? = some (.cells cur 50 (0, 0)) ∧ n ≤ cur.size
theorem RowF.cells {W : World} {g n : Nat} (h : RowF W g n) {i : Nat} (hi : i < n) : (∃ u, W.cell? ⟨g, i, none⟩ = some u) ∧ W.frozen? ⟨g, i, none⟩ = false := by
  obtain ⟨cur, h1, h2⟩ := h
  refine ⟨⟨cur[i]'(by omega), ?_⟩, Lib.frozen_of_heap h1 i⟩
  rw [Lib.cell_of_heap h1]
  simp [show i < cur.size by omega]
theorem RowF.set {W : World} {g n : Nat} (h : RowF W g n) (i : Nat) (u : Value) : RowF (W.setCell ⟨g, i, none⟩ u) g n := by
  obtain ⟨cur, h1, h2⟩ := h
  refine ⟨cur.setIfInBounds i u, ?_, by rw [Array.size_setIfInBounds]; exact h2⟩
  rw [setCell_eq_setRow W g i cur _ _ _ h1]
  exact setRow_heap W g cur _ _ _ h1
theorem OwnF.rowF {w : World} {base : Nat} {v : Value} {F : List Fld} (h : OwnF w base v F) (h0 : 0 < F.length) : ∃ g cap, v = .slice (some ⟨g, 0, none⟩) F.length cap ∧ base ≤ g ∧ g < w.heap.size ∧ F.length ≤ cap ∧ RowF w g (F.length * 2) := by
  rcases h.2 with ⟨_, hn⟩ | ⟨g, cap, cur, hv, hb, hh, h1, h2, h3, h4⟩
  · omega
  · exact ⟨g, cap, hv, hb, (Array.getElem?_eq_some_iff.1 hh).1, h1, cur, hh, by omega⟩
theorem grown_trans {A B C : World} {row : Option Nat} (h1 : A.grownBy B row) (h2 : B.grownBy C row) : A.grownBy C row :=
  ⟨h2.os.trans h1.os, h2.tape.trans h1.tape, h2.output.trans h1.output, Nat.le_trans h1.size h2.size, fun k hk hr => (h2.block k (Nat.lt_of_lt_of_le hk h1.size) hr).trans (h1.block k hk hr)⟩
theorem set_grown_at (W : World) (g i : Nat) (v : Value) : W.grownBy (W.setCell ⟨g, i, none⟩ v) (some g) := ⟨rfl, rfl, rfl, by simp [World.setCell], fun k _ hk => Below.heap_setCell _ _ _ _ (fun e => hk (by rw [e]))⟩
theorem OwnG.gone {A B : World} {base : Nat} {v : Value} {l : List UInt8} {row : Option Nat} (h : OwnG A base v l) (hg : A.grownBy B row) (hr : ∀ k, v.ownBlock = some k → row ≠ some k) : OwnG B base v l :=
  h.other fun k hk => hg.block k (h.lt k hk).2 (fun e => hr k hk e.symm)
theorem OwnF.gone {A B : World} {base : Nat} {v : Value} {F : List Fld} {row : Option Nat} (h : OwnF A base v F) (hg : A.grownBy B row) (hr : ∀ k, v.ownBlock = some k → row ≠ some k) : OwnF B base v F := by
  refine World.ownsRow.kept h hg ?_
  cases hv : v.ownBlock with
  | none => exact .inl rfl
  | some k => exact .inr (fun e => hr k hv e.symm)
theorem Bx.gone {A B : World} {g : Nat} {v : Value} {T : TypeId} {row : Option Nat} (h : Bx A g v T) (hg : A.grownBy B row) (hr : row ≠ some g) : Bx B g v T := (hg.block g h.lt (fun e => hr e.symm)).trans h
end Go.Proofs.YtjgkjmegpinelaaDoor.Tg

/-
  Layer 4: what a refused call leaves; calls of no disk; rows of names and of bytes that a law holds beside a disk.
-/
import Derived.Test.YtdonkmkjblofpaaGreatDoorKr
namespace Go.Proofs.YtdonkmkjblofpaaGreatDoor.Dk
open Go.RowKit Fo
set_option linter.unusedVariables false

theorem inc_ne (n : Int) : inc n ≠ n := by
  unfold inc RowKit.wrap64
  omega
theorem wrote_wr (S : St) : (wrote S).wr = inc S.wr := by
  unfold wrote
  split
  · unfold off; split <;> rfl
  · rfl
theorem kinds_out {r : Int × St} {S : St} (h : r.2 = S ∨ r.2.wr = inc S.wr ∨ r.1 = 0) (hc : r.1 ≠ 0) (hw : r.2.wr = S.wr) : r.2 = S := by
  rcases h with h | h | h
  · exact h
  · exact absurd (h.symm.trans hw) (inc_ne _)
  · exact absurd h hc
theorem sync_refused {k : List UInt8} {S : St} : (syncS k S).1 ≠ 0 → (syncS k S).2.wr = S.wr → (syncS k S).2 = S := kinds_out (by
  unfold syncS
  split
  · exact .inl rfl
  · split
    · exact .inr (.inl (wrote_wr S))
    · exact .inr (.inr rfl))
theorem trunc_refused {k : List UInt8} {n : Int} {S : St} : (truncS k n S).1 ≠ 0 → (truncS k n S).2.wr = S.wr → (truncS k n S).2 = S := kinds_out (by
  unfold truncS
  split
  · exact .inl rfl
  · split
    · exact .inl rfl
    · split
      · exact .inr (.inl (wrote_wr S))
      · exact .inr (.inr rfl))
theorem rename_refused {k t : List UInt8} {S : St} : (renameS k t S).1 ≠ 0 → (renameS k t S).2.wr = S.wr → (renameS k t S).2 = S := kinds_out (by
  unfold renameS
  split
  · exact .inl rfl
  · split
    · exact .inl rfl
    · split
      · exact .inr (.inl (wrote_wr S))
      · exact .inr (.inr rfl))
theorem remove_refused {k : List UInt8} {S : St} : (removeS k S).1 ≠ 0 → (removeS k S).2.wr = S.wr → (removeS k S).2 = S := kinds_out (by
  unfold removeS
  split
  · exact .inl rfl
  · split
    · exact .inr (.inl (wrote_wr S))
    · exact .inr (.inr rfl))
theorem append_refused {k : List UInt8} {b : List Int} {S : St} : (appendS k b S).1 ≠ 0 → (appendS k b S).2.wr = S.wr → (appendS k b S).2 = S := kinds_out (by
  unfold appendS
  split
  · exact .inl rfl
  · exact .inr (.inl (wrote_wr _)))
theorem does_refused {x : Opv} {S : St} (hc : (doesS x S).1.2 ≠ 0) (hw : (doesS x S).2.wr = S.wr) : (doesS x S).2 = S := by
  unfold doesS at *
  by_cases h0 : x.kind = 0
  · rw [if_pos h0] at hc hw ⊢; exact append_refused hc hw
  rw [if_neg h0] at hc hw ⊢
  by_cases h1 : x.kind = 1
  · rw [if_pos h1] at hc hw ⊢; exact sync_refused hc hw
  rw [if_neg h1] at hc hw ⊢
  by_cases h2 : x.kind = 2
  · rw [if_pos h2] at hc hw ⊢; exact trunc_refused hc hw
  rw [if_neg h2] at hc hw ⊢
  by_cases h3 : x.kind = 3
  · rw [if_pos h3] at hc hw ⊢; exact rename_refused hc hw
  rw [if_neg h3] at hc hw ⊢
  by_cases h4 : x.kind = 4
  · rw [if_pos h4] at hc hw ⊢; exact remove_refused hc hw
  rw [if_neg h4] at hc hw ⊢
  by_cases h5 : x.kind = 5
  · rw [if_pos h5]
  rw [if_neg h5] at hc hw ⊢
  by_cases h6 : x.kind = 6
  · rw [if_pos h6] at hc; exact absurd rfl hc
  rw [if_neg h6] at hc hw ⊢
  by_cases h7 : x.kind = 7
  · rw [if_pos h7] at hc; exact absurd rfl hc
  rw [if_neg h7] at hc hw ⊢
  by_cases h8 : x.kind = 8
  · rw [if_pos h8] at hc; exact absurd rfl hc
  rw [if_neg h8] at hc hw ⊢
  by_cases h9 : x.kind = 9
  · rw [if_pos h9] at hc; exact absurd rfl hc
  rw [if_neg h9]

/-! ### no disk -/
theorem nil_ready (w : World) (s : ByteArray) : Calls Tryz.prog 54 #[.pointer none, .string s] w fun e w' => e = .returned (.int .i64 2) ∧ w = w' := by
  go_enter Tryz.func54, Tryz.ntmps54
  go_wp2
  go_ret
  exact ⟨rfl, rfl⟩
theorem nil_find (w : World) (s : ByteArray) : Calls Tryz.prog 62 #[.pointer none, .string s] w fun e w' => e = .returned (.tuple #[.pointer none, .int .i64 2]) ∧ w = w' := by
  go_enter Tryz.func62, Tryz.ntmps62
  go_wp2_with (go_at_call 54; (with_reducible refine (nil_ready _ _).mono ?_); rintro e w' ⟨rfl, rfl⟩)
  go_ret2
  exact ⟨rfl, rfl⟩
theorem nil_read (w : World) (s : ByteArray) : Calls Tryz.prog 74 #[.pointer none, .string s] w fun e w' => e = .returned (.tuple #[.slice none 0 0, .int .i64 2]) ∧ w = w' := by
  go_enter Tryz.func74, Tryz.ntmps74
  go_wp2_with (go_at_call 62; (with_reducible refine (nil_find _ _).mono ?_); rintro e w' ⟨rfl, rfl⟩)
  go_ret2
  exact ⟨rfl, rfl⟩
theorem nil_append (w : World) (s : ByteArray) (v : Value) : Calls Tryz.prog 26 #[.pointer none, .string s, v] w fun e w' => e = .returned (.int .i64 2) ∧ w = w' := by
  go_enter Tryz.func26, Tryz.ntmps26
  go_wp2_with (go_at_call 54; (with_reducible refine (nil_ready _ _).mono ?_); rintro e w' ⟨rfl, rfl⟩)
  go_ret
  exact ⟨rfl, rfl⟩
theorem nil_sync (w : World) (s : ByteArray) : Calls Tryz.prog 28 #[.pointer none, .string s] w fun e w' => e = .returned (.int .i64 2) ∧ w = w' := by
  go_enter Tryz.func28, Tryz.ntmps28
  go_wp2_with (go_at_call 62; (with_reducible refine (nil_find _ _).mono ?_); rintro e w' ⟨rfl, rfl⟩)
  go_ret
  exact ⟨rfl, rfl⟩
theorem nil_trunc (w : World) (s : ByteArray) (n : Int) : Calls Tryz.prog 103 #[.pointer none, .string s, .int .i64 n] w fun e w' => e = .returned (.int .i64 2) ∧ w = w' := by
  go_enter Tryz.func103, Tryz.ntmps103
  go_wp2_with (go_at_call 62; (with_reducible refine (nil_find _ _).mono ?_); rintro e w' ⟨rfl, rfl⟩)
  go_ret
  exact ⟨rfl, rfl⟩
theorem nil_rename (w : World) (s t : ByteArray) : Calls Tryz.prog 65 #[.pointer none, .string s, .string t] w fun e w' => e = .returned (.int .i64 2) ∧ w = w' := by
  go_enter Tryz.func65, Tryz.ntmps65
  go_wp2_with (go_at_call 62; (with_reducible refine (nil_find _ _).mono ?_); rintro e w' ⟨rfl, rfl⟩)
  go_ret
  exact ⟨rfl, rfl⟩
theorem nil_remove (w : World) (s : ByteArray) : Calls Tryz.prog 87 #[.pointer none, .string s] w fun e w' => e = .returned (.int .i64 2) ∧ w = w' := by
  go_enter Tryz.func87, Tryz.ntmps87
  go_wp2_with (go_at_call 62; (with_reducible refine (nil_find _ _).mono ?_); rintro e w' ⟨rfl, rfl⟩)
  go_ret
  exact ⟨rfl, rfl⟩

/-! ### rows beside a disk -/
def KeepHi (N : Nat) (w w' : World) : Prop := w.heap.size ≤ w'.heap.size ∧ ∀ g, N ≤ g → g < w.heap.size → w'.heap[g]? = w.heap[g]?
theorem KeepHi.of_below {N : Nat} {w w' : World} (h : Below w.heap.size w w') : KeepHi N w w' := ⟨h.size, fun g _ hg => h.block g hg⟩
theorem KeepHi.of_step {N : Nat} {w w' : World} {O O' : Nat → Prop} (h : Step w O w' O') (hO : ∀ i, O i → i < N) : KeepHi N w w' := ⟨h.size, fun g h1 h2 => h.block g h2 fun ho => by have := hO g ho; omega⟩
theorem KeepHi.trans {N : Nat} {a b c : World} (h : KeepHi N a b) (k : KeepHi N b c) : KeepHi N a c := ⟨Nat.le_trans h.1 k.1, fun g h1 h2 => (k.2 g h1 (Nat.lt_of_lt_of_le h2 h.1)).trans (h.2 g h1 h2)⟩
theorem lt_of_heap {w : World} {g : Nat} {o : Obj} (h : w.heap[g]? = some o) : g < w.heap.size := (Array.getElem?_eq_some_iff.1 h).1
/-- Names that Names answered. -/
def NmOk (N : Nat) (w : World) (ad : Option Addr) (L : List (List UInt8)) : Prop := 0 < L.length → ∃ g cur, ad = some ⟨g, 0, none⟩ ∧ N ≤ g ∧ w.heap[g]? = some (.cells cur 9 (0, 0)) ∧ ∀ j, j < L.length → w.cell? ⟨g, j, none⟩ = some (encStr (L.getD j []))
theorem NmOk.move {N : Nat} {w w' : World} {ad : Option Addr} {L : List (List UInt8)} (h : NmOk N w ad L) (hk : ∀ g cur, N ≤ g → w.heap[g]? = some (.cells cur 9 (0, 0)) → w'.heap[g]? = w.heap[g]?) : NmOk N w' ad L := fun h0 => by
  obtain ⟨g, cur, e, hg, hh, hc⟩ := h h0
  have hs := hk g cur hg hh
  exact ⟨g, cur, e, hg, hs.trans hh, fun j hj => (World.cell?_of_block (w := w) (a := ⟨g, j, none⟩) hs).trans (hc j hj)⟩
theorem NmOk.keep {N : Nat} {w w' : World} {ad : Option Addr} {L : List (List UInt8)} (h : NmOk N w ad L) (hk : KeepHi N w w') : NmOk N w' ad L := h.move fun g cur h1 h2 => hk.2 g h1 (lt_of_heap h2)
theorem ownB_move {N : Nat} {w w' : World} {v : Value} {l : List Int} (h : Ob.OwnB w N v l) (hk : ∀ g cur, N ≤ g → w.heap[g]? = some (.cells cur 5 (0, 0)) → w'.heap[g]? = w.heap[g]?) : Ob.OwnB w' N v l := by
  refine ⟨h.1, ?_⟩
  rcases h.2 with h0 | ⟨g, cap, cur, hv, hbg, hh, h1, h2, h3, h4⟩
  · exact .inl h0
  · exact .inr ⟨g, cap, cur, hv, hbg, (hk g cur hbg hh).trans hh, h1, h2, h3, h4⟩
/-- The contents that a law has read, one behind the other. -/
def WasOk (N : Nat) (w : World) (C : List (List Int)) (j : Nat) (v : Value) : Prop := ∃ vs : List Value, w.ownsRow N 22 1 v j vs ∧ ∀ i, i < j → ∃ u, vs[i]? = some u ∧ Ob.OwnB w N u (C.getD i [])
theorem row29_move {N : Nat} {w w' : World} {v : Value} {j : Nat} {vs : List Value} (h : w.ownsRow N 22 1 v j vs) (hk : ∀ g cur, N ≤ g → w.heap[g]? = some (.cells cur 22 (0, 0)) → w'.heap[g]? = w.heap[g]?) : w'.ownsRow N 22 1 v j vs := by
  refine ⟨h.1, ?_⟩
  rcases h.2 with h0 | ⟨g, cap, cur, hv, hbg, hh, h1, h2, h3, h4⟩
  · exact .inl h0
  · exact .inr ⟨g, cap, cur, hv, hbg, (hk g cur hbg hh).trans hh, h1, h2, h3, h4⟩
theorem WasOk.keep {N : Nat} {w w' : World} {C : List (List Int)} {j : Nat} {v : Value} (h : WasOk N w C j v) (hk : KeepHi N w w') : WasOk N w' C j v := by
  obtain ⟨vs, h1, h2⟩ := h
  refine ⟨vs, row29_move h1 fun g cur a b => hk.2 g a (lt_of_heap b), fun i hi => ?_⟩
  obtain ⟨u, e, hu⟩ := h2 i hi
  exact ⟨u, e, ownB_move hu fun g cur a b => hk.2 g a (lt_of_heap b)⟩
theorem info_b : (Tryz.prog.info? 22).map (fun i => (i.zero, i.size, i.bytes)) = some (some (.slice none 0 0), 1, 24) := by kernel_rfl
/-- The slice's own block: a row of slices of bytes, or none. -/
theorem row29_kind {N : Nat} {w : World} {v : Value} {j : Nat} {vs : List Value} (h : w.ownsRow N 22 1 v j vs) : ∀ g, v.ownBlock = some g → N ≤ g ∧ ∃ cur, w.heap[g]? = some (.cells cur 22 (0, 0)) := by
  intro g hg
  rcases h.2 with ⟨rfl, _⟩ | ⟨g', cap, cur, rfl, hb, hh, _⟩
  · cases hg
  · cases hg; exact ⟨hb, cur, hh⟩
theorem wp_was {ops : Array Oper} {rest : List Oper} {o : Oper} {a : Act} {Q : Exit → Act → World → Prop} {w : World} (hgd : o.guard = none) (s x : Operand)
    (ho : o.op = .call { callee := .builtin .append, args := #[s, x], argTypes := #[27, 27] }) (N : Nat) (C : List (List Int)) (j : Nat) (v : Value) (hs : a.eval s = v) (hown : WasOk N w C j v) (hj : j ≤ 1048576)
    (gb : Nat) (u : Value) (hu1 : u.oneCell' = true) (hx : a.eval x = .slice (some ⟨gb, 0, none⟩) 1 1) (hc : w.cell? ⟨gb, 0, none⟩ = some u) (hu : Ob.OwnB w N u (C.getD j [])) (hN : N ≤ w.heap.size)
    (h : ∀ v' w', WasOk N w' C (j + 1) v' → (∃ ad cap, v' = .slice ad (j + 1) cap ∧ j + 1 ≤ cap ∧ cap ≤ maxLen) → w.grownBy w' v.ownBlock → (∀ g, v.ownBlock = some g → N ≤ g ∧ ∃ cur, w.heap[g]? = some (.cells cur 22 (0, 0))) → wpList Tryz.prog ops Q rest (a.put o.dst v') w') : wpList Tryz.prog ops Q (o :: rest) a w := by
  obtain ⟨i0, hi, hz0, hz1, hz2⟩ := info_parts info_b
  obtain ⟨vs, h1, h2⟩ := hown
  have hvs : vs.length = j := by have := h1.1; omega
  refine wpList_append_own w hgd s x 27 ho N 22 i0 (.slice none 0 0) 1 24 Tryz.underlying27 hi hz0 hz1 hz2 rfl (by decide) v j vs hs h1 ⟨gb, 0, none⟩ 1 1 [u] hx rfl ?_ ?_ (by unfold maxLen; omega) (by omega) hN ?_
  · intro i y hy
    match i, hy with
    | 0, hy => simp at hy; subst hy; exact hc
    | i + 1, hy => simp at hy
  · intro y hy; simp at hy; subst hy; exact hu1
  · intro v' w' r1 r2 r3
    have hk := row29_kind h1
    have mv : ∀ g cur, N ≤ g → w.heap[g]? = some (.cells cur 5 (0, 0)) → w'.heap[g]? = w.heap[g]? := fun g cur a b => r2.block g (lt_of_heap b) fun e => by
      obtain ⟨_, c2, hc2⟩ := hk g e.symm
      rw [b] at hc2; simp at hc2
    refine h v' w' ⟨vs ++ [u], r1, fun i hi => ?_⟩ ?_ r2 hk
    · rcases Nat.lt_or_ge i j with hlt | hge
      · obtain ⟨y, e, hy⟩ := h2 i hlt
        exact ⟨y, by rw [List.getElem?_append_left (by omega)]; exact e, ownB_move hy mv⟩
      · have : i = j := by omega
        subst this
        exact ⟨u, by rw [List.getElem?_append_right (by omega), hvs]; simp, ownB_move hu mv⟩
    · rcases r1.2 with ⟨_, h0⟩ | ⟨g, cap, cur, hv, _, _, h1', h2', _⟩
      · omega
      · exact ⟨_, cap, hv, h1', h2'⟩
end Go.Proofs.YtdonkmkjblofpaaGreatDoor.Dk

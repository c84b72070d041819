/-
  Bytes of the call's own: an append of bytes, as one law; what is owned reads as a row.
-/
import Derived.Test.YtdonkmkjblofpaaGreatDoorChecked
import Derived.Test.YtdonkmkjblofpaaGreatDoorFr
import Derived.Laws.AppendOwnNone
import Derived.Lib.Hide
import Derived.Lib.SmallJoins
namespace Go.Proofs.YtdonkmkjblofpaaGreatDoor.Ob
open Go.RowKit
set_option linter.unusedVariables false

theorem info_u8 : (Tryz.prog.info? 5).map (fun i => (i.zero, i.size, i.bytes)) = some (some (.int .u8 0), 1, 1) := by kernel_rfl
def OwnB (w : World) (base : Nat) (v : Value) (l : List Int) : Prop := w.ownsRow base 5 1 v l.length (l.map (Value.int .u8))
theorem own_made (w : World) {base : Nat} (hb : base ≤ w.heap.size) : OwnB (w.alloc (.cells #[] 5)) base (.slice (some ⟨w.heap.size, 0, none⟩) 0 0) [] :=
  World.ownsRow_made w #[] 0 hb (by decide) rfl
theorem ints_one (l : List Int) : ∀ u ∈ l.map (Value.int .u8), u.oneCell' = true := by
  intro u hu
  obtain ⟨n, _, rfl⟩ := List.mem_map.1 hu
  rfl
theorem below_grown {base : Nat} {w w' : World} {v : Value} {n : Nat} {xs : List Value} (ho : w.ownsRow base 5 1 v n xs) (hb : base ≤ w.heap.size) (hg : w.grownBy w' v.ownBlock) : Below base w w' :=
  (Below.refl base w).grown hg hb fun k hk => (ho.lt k hk).1
theorem take_at {zs : List Int} {len j : Nat} {u : Value} (h : ((zs.take len).map (Value.int .u8))[j]? = some u) : j < len ∧ j < zs.length ∧ u = .int .u8 (zs.getD j 0) := by
  rw [List.getElem?_map, List.getElem?_take] at h
  by_cases hj : j < len
  · rw [if_pos hj] at h
    by_cases hz : j < zs.length
    · rw [List.getElem?_eq_getElem hz] at h
      simp at h
      exact ⟨hj, hz, by simp [List.getD, hz, h]⟩
    · rw [List.getElem?_eq_none (by omega)] at h; cases h
  · rw [if_neg hj] at h; cases h

theorem wp_apd {ops : Array Oper} {rest : List Oper} {o : Oper} {a : Act} {Q : Exit → Act → World → Prop} {w : World} (hgd : o.guard = none) (s x : Operand)
    (ho : o.op = .call { callee := .builtin .append, args := #[s, x], argTypes := #[22, 22] }) (base : Nat) (v : Value) (l : List Int) (hs : a.eval s = v) (hown : OwnB w base v l)
    (ad : Option Addr) (len cap : Nat) (zs : List Int) (hx : a.eval x = .slice ad len cap) (hrow : Fr.HasRow .u8 w ad len zs) (hn : ad = none → cap = 0)
    (hbytes : l.length + len ≤ 140737488355328) (hbase : base ≤ w.heap.size)
    (h : ∀ v' w', OwnB w' base v' (l ++ zs.take len) → Below base w w' → wpList Tryz.prog ops Q rest (a.put o.dst v') w') : wpList Tryz.prog ops Q (o :: rest) a w := by
  obtain ⟨i0, hi, hz0, hz1, hz2⟩ := info_parts info_u8
  obtain ⟨hr1, hr2, hr3⟩ := hrow
  have hln : (l ++ zs.take len).length = l.length + len := by simp; omega
  cases ad with
  | none =>
    obtain rfl : len = 0 := by
      rcases Nat.eq_zero_or_pos len with h0 | h0
      · exact h0
      · obtain ⟨b, off, e, _⟩ := hr3 h0; cases e
    obtain rfl := hn rfl
    refine wpList_append_own_none hgd s x 22 ho base 5 i0 1 Tryz.underlying22 hi v l.length (l.map (Value.int .u8)) hs hown hx ?_
    refine h v w ?_ (Below.refl _ _)
    rw [List.take_zero, List.append_nil]; exact hown
  | some ad =>
    refine wpList_append_own w hgd s x 22 ho base 5 i0 (.int .u8 0) 1 1 Tryz.underlying22 hi hz0 hz1 hz2 rfl (by decide) v l.length (l.map (Value.int .u8)) hs hown ad len cap ((zs.take len).map (Value.int .u8)) hx (by simp; omega) ?_ (ints_one _) (by unfold maxLen; omega) (by omega) hbase ?_
    · intro j u hj
      obtain ⟨h1, h2, rfl⟩ := take_at hj
      obtain ⟨b, off, e, hc⟩ := hr3 (by omega)
      cases e
      rw [show (⟨b, off, none⟩ : Addr).add j = ⟨b, off + j, none⟩ by simp [Addr.add]]
      exact hc j h1
    · intro v' w' h1 h2 _
      refine h v' w' ?_ (below_grown hown hbase h2)
      unfold OwnB
      rw [hln, List.map_append]
      exact h1

/-- What is owned, as a row that is read. -/
theorem own_row {w : World} {base : Nat} {v : Value} {l : List Int} (h : OwnB w base v l) : ∃ ad cap, v = .slice ad l.length cap ∧ Fr.HasRow .u8 w ad l.length l ∧ (ad = none → cap = 0) ∧ l.length ≤ cap ∧ cap ≤ maxLen := by
  rcases h.2 with ⟨rfl, h0⟩ | ⟨g, cap, cur, rfl, hb, hh, h1, h2, h3, h4⟩
  · have e : l = [] := List.eq_nil_of_length_eq_zero h0
    subst e
    exact ⟨none, 0, rfl, ⟨Nat.le_refl _, by decide, fun h => absurd h (by decide)⟩, fun _ => rfl, Nat.le_refl _, by decide⟩
  · refine ⟨some ⟨g, 0, none⟩, cap, rfl, ⟨Nat.le_refl _, by unfold maxLen at h2; omega, fun _ => ⟨g, 0, rfl, fun j hj => ?_⟩⟩, (fun h => by cases h), h1, h2⟩
    rw [Nat.zero_add, World.ownsRow.cellAt h j (by omega), List.getElem?_map, List.getElem?_eq_getElem hj]
    simp [List.getD, hj]
theorem own_block {w : World} {base : Nat} {v : Value} {l : List Int} (h : OwnB w base v l) (h0 : 0 < l.length) :
    ∃ g cap cur, v = .slice (some ⟨g, 0, none⟩) l.length cap ∧ base ≤ g ∧ w.heap[g]? = some (.cells cur 5 (0, 0)) ∧ l.length ≤ cap ∧ cap ≤ maxLen ∧ cur.size = cap ∧ ∀ j, j < l.length → w.cell? ⟨g, j, none⟩ = some (.int .u8 (l.getD j 0)) := by
  have h' := h
  rcases h.2 with ⟨_, h1⟩ | ⟨g, cap, cur, rfl, hb, hh, h1, h2, h3, h4⟩
  · omega
  · refine ⟨g, cap, cur, rfl, hb, hh, h1, h2, by omega, fun j hj => ?_⟩
    rw [World.ownsRow.cellAt h' j (by omega), List.getElem?_map, List.getElem?_eq_getElem hj]
    simp [List.getD, hj]
theorem own_keep {w w' : World} {base : Nat} {v : Value} {l : List Int} (h : OwnB w base v l) (hb : Below w.heap.size w w') : OwnB w' base v l := by
  refine ⟨h.1, ?_⟩
  rcases h.2 with h0 | ⟨g, cap, cur, hv, hbg, hh, h1, h2, h3, h4⟩
  · exact .inl h0
  · refine .inr ⟨g, cap, cur, hv, hbg, ?_, h1, h2, h3, h4⟩
    rw [hb.block g (by rcases Nat.lt_or_ge g w.heap.size with hl | hl; exact hl; rw [Array.getElem?_eq_none hl] at hh; cases hh)]
    exact hh
/-- A literal of one byte. -/
theorem one_row (w : World) (z : Int) (t : TypeId) (g : Nat) (hg : g = w.heap.size) : Fr.HasRow .u8 (w.alloc (.cells #[.int .u8 z] t)) (some ⟨g, 0, none⟩) 1 [z] := by
  subst hg
  refine ⟨Nat.le_refl _, by decide, fun _ => ⟨w.heap.size, 0, rfl, fun j hj => ?_⟩⟩
  match j, hj with
  | 0, _ => simp
end Go.Proofs.YtdonkmkjblofpaaGreatDoor.Ob

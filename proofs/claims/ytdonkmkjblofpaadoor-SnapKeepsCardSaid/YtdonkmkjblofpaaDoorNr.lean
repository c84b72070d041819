/-
  Layer 6: the law on what is kept, walked.
-/
import Derived.Test.YtdonkmkjblofpaaDoorNQ
import Derived.Test.YtdonkmkjblofpaaDoorKl
import Derived.Test.YtdonkmkjblofpaaDoorNm
namespace Go.Proofs.YtdonkmkjblofpaaDoor.Sn
open Go.RowKit Go.Sort Dx Sx Dk Wl
set_option linter.unusedVariables false
set_option linter.unusedSimpArgs false
/-- The block of a value of one's own. -/
def Qv (v : Value) : Nat → Prop := fun i => v.ownBlock = some i
theorem turn_row {k : IntKind} {Q : Nat → Prop} {w w' : World} {a : Option Addr} {len : Nat} {zs : List Int} (ht : Turned Q w w') (h : Fr.HasRow k w a len zs) (hb : ∀ x, a = some x → ¬ Q x.block) : Fr.HasRow k w' a len zs :=
  ⟨h.1, h.2.1, fun h0 => by
    obtain ⟨b, off, e, hc⟩ := h.2.2 h0
    refine ⟨b, off, e, fun j hj => ?_⟩
    have hcj := hc j hj
    have := ht.block b (Fr.lt_of_cell hcj) (hb _ e)
    unfold World.cell? at hcj ⊢
    rw [this]; exact hcj⟩
theorem turn_own {Q : Nat → Prop} {w w' : World} {base : Nat} {v : Value} {l : List Int} (ht : Turned Q w w') (h : Ob.OwnB w base v l) (hb : ∀ b, v.ownBlock = some b → ¬ Q b) : Ob.OwnB w' base v l :=
  irow_move h fun g e => by
    obtain ⟨_, cur, hh⟩ := irow_kind h g e
    exact ht.block g (lt_of_heap hh) (hb g e)
theorem own_at {w : World} {base : Nat} {v : Value} {l : List Int} (h : Ob.OwnB w base v l) : ∀ b, v.ownBlock = some b → base ≤ b ∧ b < w.heap.size := fun b e => by
  obtain ⟨h1, cur, hh⟩ := irow_kind h b e
  exact ⟨h1, lt_of_heap hh⟩
theorem turn_frame {Q : Nat → Prop} {B : Nat} {a w w' : World} (h : Below B a w) (hB : B ≤ a.heap.size) (ht : Turned Q w w') (hq : ∀ i, Q i → B ≤ i) : Below B a w' :=
  h.trans (ht.below fun k hk => ⟨Nat.lt_of_lt_of_le hk (Nat.le_trans hB h.size), fun hh => by have := hq k hh; omega⟩)
/-- append, what it turns told. -/
theorem wp_apq {ops : Array Oper} {rest : List Oper} {o : Oper} {a : Act} {Q : Exit → Act → World → Prop} {w : World} (hgd : o.guard = none) (s x : Operand)
    (ho : o.op = .call { callee := .builtin .append, args := #[s, x], argTypes := #[26, 26] }) (base : Nat) (v : Value) (l : List Int) (hs : a.eval s = v) (hown : Ob.OwnB w base v l)
    (ad : Addr) (len cap : Nat) (zs : List Int) (hx : a.eval x = .slice (some ad) len cap) (hrow : Fr.HasRow .u8 w (some ad) len zs)
    (hbytes : l.length + len ≤ 140737488355328) (hbase : base ≤ w.heap.size)
    (h : ∀ v' w', Ob.OwnB w' base v' (l ++ zs.take len) → Turned (Qv v) w w' → wpList Tryd.prog ops Q rest (a.put o.dst v') w') : wpList Tryd.prog ops Q (o :: rest) a w := by
  obtain ⟨i0, hi, hz0, hz1, hz2⟩ := info_parts Ob.info_u8
  obtain ⟨hr1, hr2, hr3⟩ := hrow
  have hln : (l ++ zs.take len).length = l.length + len := by simp; omega
  refine wpList_append_own w hgd s x 26 ho base 5 i0 (.int .u8 0) 1 1 Tryd.underlying26 hi hz0 hz1 hz2 rfl (by decide) v l.length (l.map (Value.int .u8)) hs hown ad len cap ((zs.take len).map (Value.int .u8)) hx (by simp; omega) ?_ (Ob.ints_one _) (by unfold maxLen; omega) (by omega) hbase ?_
  · intro j u hj
    obtain ⟨h1, h2, rfl⟩ := Ob.take_at hj
    obtain ⟨b, off, e, hc⟩ := hr3 (by omega)
    cases e
    rw [show (⟨b, off, none⟩ : Addr).add j = ⟨b, off + j, none⟩ by simp [Addr.add]]
    exact hc j h1
  · intro v' w' h1 h2 _
    refine h v' w' ?_ (Turned.of_grown h2 fun b e => e)
    unfold Ob.OwnB
    rw [hln, List.map_append]
    exact h1
/-- What the law's Save does. -/
theorem keeps_save {v : Int} {l : List Int} (hl : l.length ≤ 4096) (hb : Bytes l) : ∃ r S', saveS v l (Dk.start 1048576) = (r, S') ∧ ((r = 1 ∧ snm v = []) ∨ (r = 0 ∧ snm v ≠ [] ∧ BytesS S' ∧ ∃ m, loadS S' = (m, l, 0))) := by
  by_cases h : snm v = []
  · exact ⟨1, Dk.start 1048576, by unfold saveS; rw [if_pos h], .inl ⟨rfl, h⟩⟩
  · obtain ⟨n, rfl, hn⟩ := snm_inv h
    obtain ⟨x, S', h1, h2, h3, h4⟩ := save_run (S := Dk.start 1048576) (Dr := []) (N := []) (n := n) (l := l) rfl (.inl rfl) (up_one hn) rfl (by omega) (by show ((0 + (12 + l.length) : Nat) : Int) ≤ 1048576; omega) (by decide)
    have hx : x = 0 ∧ S'.down = false := by
      rcases h2.1 with h | h
      · exact h
      · exact absurd rfl h.2.2
    obtain ⟨rfl, hd⟩ := hx
    have e2 : S'.fs = [] ++ sfs [(n, l)] := by rw [List.nil_append]; exact h3 rfl
    have hb' : ∀ p ∈ [((n : Nat), l)], Bytes p.2 := fun p hp => by
      rw [List.mem_singleton] at hp; rw [hp]; exact hb
    exact ⟨0, S', h1, .inr ⟨rfl, h, bytesS_run e2 (.inl rfl) hb', (n : Int), (load_run (Dr := []) (N := [(n, l)]) e2 (.inl rfl) (up_one hn) hd (fun p hp => by rw [List.mem_singleton] at hp; rw [hp]; simp only; omega)).trans (by simp)⟩⟩
end Go.Proofs.YtdonkmkjblofpaaDoor.Sn

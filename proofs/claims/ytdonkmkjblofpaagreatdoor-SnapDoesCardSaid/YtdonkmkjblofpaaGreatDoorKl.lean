/-
  Layer 4: the law DiskKeeps.
-/
import Derived.Test.YtdonkmkjblofpaaGreatDoorKk
namespace Go.Proofs.YtdonkmkjblofpaaGreatDoor.Dk
open Go.RowKit
set_option linter.unusedVariables false

def NamesOut (w : World) (L : List (List UInt8)) (e : Ending) (w' : World) : Prop := ∃ ad cap, e = .returned (.slice ad L.length cap) ∧ L.length ≤ cap ∧ cap ≤ 9223372036854775807 ∧
  (0 < L.length → ∃ g cur, ad = some ⟨g, 0, none⟩ ∧ w.heap.size ≤ g ∧ w'.heap[g]? = some (.cells cur 9 (0, 0)) ∧ ∀ j, j < L.length → w'.cell? ⟨g, j, none⟩ = some (encStr (L.getD j []))) ∧ Below w.heap.size w w'
theorem names_out {w : World} {O : Nat → Prop} {d : Nat} {S : St} (h : IsDisk w O d S) : Calls Tryz.prog 50 #[.pointer (some ⟨d, 0, none⟩)] w (NamesOut w (namesL S)) := by
  refine (names_disk h).mono fun e w' ⟨v, h1, h2, h3⟩ => ?_
  subst h1
  rcases h2.2 with ⟨rfl, h0⟩ | ⟨g, cap, cur, rfl, hb, hh, x1, x2, x3, x4⟩
  · exact ⟨none, 0, by rw [h0], by omega, by decide, (fun h => by omega), h3⟩
  · refine ⟨some ⟨g, 0, none⟩, cap, rfl, x1, by unfold maxLen at x2; exact x2, fun _ => ⟨g, cur, rfl, hb, hh, fun j hj => ?_⟩, h3⟩
    rw [World.ownsRow.cellAt h2 j (by omega), List.getElem?_map, List.getElem?_eq_getElem hj]
    simp [List.getD, hj]

theorem Two.append {B N : Nat} {w : World} {d : Nat} {S : St} {o : Nat} {T : St} (h : Two B N w d S o T) (s : ByteArray) (hs : s.size ≤ maxLen) (a : Option Addr) (len cap : Nat) (zs b : List Int) (hrow : Fr.HasRow .u8 w a len zs) (hn : a = none → cap = 0) (hlb : len ≤ 140737488355328)
    (hb : zs.take len = b) {r : Int} {S' : St} (he : appendS s.data.toList b S = (r, S')) :
    Calls Tryz.prog 26 #[.pointer (some ⟨d, 0, none⟩), .string s, .slice a len cap] w fun e w' => e = .returned (.int .i64 r) ∧ Two B w'.heap.size w' d S' o T ∧ Below B w w' ∧ w.heap.size ≤ w'.heap.size :=
  h.call fun O hd => by
    have c := append_disk hd s hs a len cap zs hrow hn hlb
    rw [hb, he] at c
    exact c
theorem Two.sync {B N : Nat} {w : World} {d : Nat} {S : St} {o : Nat} {T : St} (h : Two B N w d S o T) (s : ByteArray) (hs : s.size ≤ maxLen) {r : Int} {S' : St} (he : syncS s.data.toList S = (r, S')) :
    Calls Tryz.prog 28 #[.pointer (some ⟨d, 0, none⟩), .string s] w fun e w' => e = .returned (.int .i64 r) ∧ Two B w'.heap.size w' d S' o T ∧ Below B w w' ∧ w.heap.size ≤ w'.heap.size :=
  h.call fun O hd => by
    have c := sync_disk hd s hs
    rw [he] at c
    exact c
theorem Two.read {B N : Nat} {w : World} {d : Nat} {S : St} {o : Nat} {T : St} (h : Two B N w d S o T) (s : ByteArray) (hs : s.size ≤ maxLen) {r : Int} {l : List Int} (he : there s.data.toList S = r) (hl : readL s.data.toList S = l) :
    Calls Tryz.prog 74 #[.pointer (some ⟨d, 0, none⟩), .string s] w (RowOut w r l) := by
  obtain ⟨_, _, O1, O2, h1, _⟩ := h
  subst he hl
  exact (read_disk h1 s hs).mono fun e w' ⟨v, x1, x2, x3⟩ => by
    obtain ⟨ad, cap, rfl, y1, y2, y3, _⟩ := Ob.own_row x2
    exact ⟨ad, cap, x1, x2, y1, y2, y3, x3⟩
theorem Two.names1 {B N : Nat} {w : World} {d : Nat} {S : St} {o : Nat} {T : St} (h : Two B N w d S o T) {L : List (List UInt8)} (hl : namesL S = L) : Calls Tryz.prog 50 #[.pointer (some ⟨d, 0, none⟩)] w (NamesOut w L) := by
  obtain ⟨_, _, O1, O2, h1, _⟩ := h
  subst hl; exact names_out h1
theorem Two.names2 {B N : Nat} {w : World} {d : Nat} {S : St} {o : Nat} {T : St} (h : Two B N w d S o T) {L : List (List UInt8)} (hl : namesL T = L) : Calls Tryz.prog 50 #[.pointer (some ⟨o, 0, none⟩)] w (NamesOut w L) := by
  obtain ⟨_, _, O1, O2, _, h1, _⟩ := h
  subst hl; exact names_out h1

/-- A cell of owned bytes is stored. -/
theorem ownB_store {w : World} {base g n cap : Nat} {l : List Int} (h : Ob.OwnB w base (.slice (some ⟨g, 0, none⟩) n cap) l) {i : Nat} (hi : i < l.length) (z : Int) : Ob.OwnB (w.setCell ⟨g, i, none⟩ (.int .u8 z)) base (.slice (some ⟨g, 0, none⟩) n cap) (l.set i z) := by
  rcases h.2 with ⟨h0, _⟩ | ⟨g', cap', cur, hv, hb, hh, h1, h2, h3, h4⟩
  · cases h0
  · simp at hv
    obtain ⟨rfl, hn, rfl⟩ := hv
    refine ⟨by simp, .inr ⟨g, cap, cur.setIfInBounds i (.int .u8 z), by rw [List.length_set, ← hn], hb, Joins.block_setCell hh _, by rw [List.length_set]; exact h1, h2, by simpa using h3, ?_⟩⟩
    rw [List.length_set, Nat.mul_one] at *
    rw [Array.toList_setIfInBounds, List.take_set, h4, List.map_set]

theorem came_row {w : World} {a : Option Addr} {len cap : Nat} {zs : List Int} (h : Fr.IsRow .u8 w a len cap zs) : (a = none → cap = 0) ∧ len ≤ cap ∧ Fr.HasRow .u8 w a len zs := by
  refine ⟨?_, ?_, h.has⟩
  · intro e
    rcases h with ⟨_, _, h1, _⟩ | ⟨x, h1, _⟩
    · exact h1
    · rw [e] at h1; cases h1
  · rcases h with ⟨_, h1, _, _⟩ | ⟨x, _, h1, _⟩ <;> omega

end Go.Proofs.YtdonkmkjblofpaaGreatDoor.Dk

/-
  Layer 5: a record is written.
-/
import Derived.Test.YtdonkmkjblofpaaGreatDoorWl
namespace Go.Proofs.YtdonkmkjblofpaaGreatDoor.Wl
open Go.RowKit Go.Sort Dx Sx Dk
set_option linter.unusedVariables false
set_option linter.unusedSimpArgs false
/-- write: its answer, the journal's error behind it, the disk. -/
def writeS (k : List UInt8) (b : List Int) (f : Int) (S : St) : Int × Int × St :=
  if k = [] then (22, f, S) else if (appendS k b S).1 = 22 ∨ (appendS k b S).1 = 3 then (22, f, (appendS k b S).2)
  else if (appendS k b S).1 = 0 then ((syncS k (appendS k b S).2).1, (syncS k (appendS k b S).2).1, (syncS k (appendS k b S).2).2)
  else ((appendS k b S).1, (appendS k b S).1, (appendS k b S).2)
def Og (O : Nat → Prop) (g : Nat) (i : Nat) : Prop := O i ∨ i = g
/-- A journal in memory. -/
structure IsWal (w : World) (O : Nat → Prop) (d g : Nat) (per next last failed : Int) (S : St) : Prop where
  disk : IsDisk w O d S
  out : ¬ O g
  blk : w.heap[g]? = some (.cells (walC d per next last failed) 103 (0, 0))
def HasW (w : World) (O : Nat → Prop) (d g : Nat) (per next last failed : Int) (S : St) (w' : World) : Prop := ∃ O', Step w (Og O g) w' (Og O' g) ∧ IsWal w' O' d g per next last failed S
theorem step_og {w w' : World} {O O' : Nat → Prop} {g : Nat} (h : Step w O w' O') : Step w (Og O g) w' (Og O' g) :=
  ⟨h.toTurned.mono fun i _ hi => .inl hi, fun k hk => hk.elim (fun h1 => (h.own k h1).elim (fun h2 => .inl (.inl h2)) .inr) fun h1 => .inl (.inr h1)⟩
theorem IsWal.step {w w' : World} {O O' : Nat → Prop} {d g : Nat} {per next last failed : Int} {S S' : St} (h : IsWal w O d g per next last failed S) (st : Step w O w' O') (hd : IsDisk w' O' d S') : IsWal w' O' d g per next last failed S' :=
  ⟨hd, fun ho => (st.own g ho).elim h.out fun h1 => by have := lt_of_heap h.blk; omega, (st.block g (lt_of_heap h.blk) h.out).trans h.blk⟩
theorem IsWal.put {w : World} {O : Nat → Prop} {d g : Nat} {per next last failed : Int} {S : St} (h : IsWal w O d g per next last failed S) (z : Int) : IsWal (w.setCell ⟨g, 4, none⟩ (.int .i64 z)) O d g per next last z S ∧ Step w (Og O g) (w.setCell ⟨g, 4, none⟩ (.int .i64 z)) (Og O g) :=
  ⟨⟨h.disk.turned (Turned.setCell (O := fun i => i = g) w 4 rfl _) fun i hi e => h.out (e ▸ hi), h.out, by rw [Joins.block_setCell (i := 4) h.blk]; simp [walC]⟩, Step.of (Turned.setCell w 4 (.inr rfl) _)⟩
theorem IsWal.cells {w : World} {O : Nat → Prop} {d g : Nat} {per next last failed : Int} {S : St} (h : IsWal w O d g per next last failed S) :
    w.cell? ⟨g, 0, none⟩ = some (.pointer (some ⟨d, 0, none⟩)) ∧ w.cell? ⟨g, 1, none⟩ = some (.int .i64 per) ∧ w.cell? ⟨g, 2, none⟩ = some (.int .i64 next) ∧ w.cell? ⟨g, 3, none⟩ = some (.int .i64 last) ∧ w.cell? ⟨g, 4, none⟩ = some (.int .i64 failed) :=
  ⟨Joins.cell_of_block h.blk 0, Joins.cell_of_block h.blk 1, Joins.cell_of_block h.blk 2, Joins.cell_of_block h.blk 3, Joins.cell_of_block h.blk 4⟩
def WroteIt (w : World) (O : Nat → Prop) (d g : Nat) (per next last : Int) (r : Int × Int × St) (e : Ending) (w' : World) : Prop := e = .returned (.int .i64 r.1) ∧ HasW w O d g per next last r.2.1 r.2.2 w'
section
variable {w : World} {O : Nat → Prop} {d g : Nat} {per next last failed : Int} {S : St}
set_option maxRecDepth 100000 in
set_option maxHeartbeats 800000 in
theorem write_any (h : IsWal w O d g per next last failed S) (s : ByteArray) (hs : s.size ≤ maxLen) (a : Option Addr) (len cap : Nat) (zs : List Int) (hrow : Fr.HasRow .u8 w a len zs) (hn : a = none → cap = 0) (hlb : len ≤ 140737488355328) :
    Calls Tryz.prog 79 #[.pointer (some ⟨g, 0, none⟩), .string s, .slice a len cap] w (WroteIt w O d g per next last (writeS s.data.toList (zs.take len) failed S)) := by
  by_cases he : s.data.toList = []
  · have tl : (s == (⟨#[]⟩ : ByteArray)) = true := by
      have : s = ⟨#[]⟩ := by cases s with | mk x => cases x with | mk l => simpa using he
      subst this; rfl
    have D : WroteIt w O d g per next last (writeS s.data.toList (zs.take len) failed S) (.returned (.int .i64 22)) w := by
      unfold writeS; rw [if_pos he]
      exact ⟨rfl, O, Step.refl w _, h⟩
    have D := Lib.hid D
    have he' : s.toList = [] := by rw [ByteArray.toList_eq]; exact he
    clear hs hrow hn hlb h he
    go_enter Tryz.func79, Tryz.ntmps79
    go_wp2_with fail
    go_ret
    exact D.out
  · have he' : (s.toList == []) = false := by rw [ByteArray.toList_eq]; simpa using he
    have AP := Lib.hid (append_disk h.disk s hs a len cap zs hrow hn hlb)
    have H := Lib.hid h
    have c0 := h.cells.1
    obtain ⟨r, S1, hr⟩ : ∃ r S1, appendS s.data.toList (zs.take len) S = (r, S1) := ⟨_, _, rfl⟩
    rw [hr] at AP
    by_cases h2 : r = 22 ∨ r = 3
    · have D : Hid (∀ w', Has w O d S1 w' → WroteIt w O d g per next last (writeS s.data.toList (zs.take len) failed S) (.returned (.int .i64 22)) w') := Lib.hid fun w' ⟨O', st, hd⟩ => by
        unfold writeS; rw [if_neg he, hr, if_pos h2]
        exact ⟨rfl, O', (step_og st), h.step st hd⟩
      clear hs hrow hn hlb h he hr
      have t2 : (r == 22) = true ∨ ((r == 22) = false ∧ (r == 3) = true) := by rcases h2 with rfl | rfl; exact .inl rfl; exact .inr ⟨rfl, rfl⟩
      clear h2
      rcases t2 with t2 | ⟨t2, t3⟩
      all_goals
        go_enter Tryz.func79, Tryz.ntmps79
        go_wp2_with fail
        refine AP.out.mono ?_
        rintro e w1 ⟨rfl, hh⟩
        have HH := Lib.hid hh
        clear hh c0
        go_wp2
        go_ret
        exact D.out _ HH.out
    · have t2 : (r == 22) = false := by rw [Bool.eq_false_iff]; intro e; exact h2 (.inl (by simpa using e))
      have t3 : (r == 3) = false := by rw [Bool.eq_false_iff]; intro e; exact h2 (.inr (by simpa using e))
      by_cases h0 : r = 0
      · have SY : Hid (∀ w1 O1, Step w O w1 O1 → IsDisk w1 O1 d S1 → Calls Tryz.prog 28 #[.pointer (some ⟨d, 0, none⟩), .string s] w1 (Did w1 O1 d (syncS s.data.toList S1))) := Lib.hid fun w1 O1 _ hd => sync_disk hd s hs
        have W1 : Hid (∀ w1 O1, Step w O w1 O1 → IsDisk w1 O1 d S1 → IsWal w1 O1 d g per next last failed S1) := Lib.hid fun w1 O1 st hd => h.step st hd
        have D : Hid (∀ w1 O1 w2, Step w O w1 O1 → IsDisk w1 O1 d S1 → Has w1 O1 d (syncS s.data.toList S1).2 w2 → WroteIt w O d g per next last (writeS s.data.toList (zs.take len) failed S) (.returned (.int .i64 (syncS s.data.toList S1).1)) (w2.setCell ⟨g, 4, none⟩ (.int .i64 (syncS s.data.toList S1).1)) ∧ w2.cell? ⟨g, 0, none⟩ = some (.pointer (some ⟨d, 0, none⟩)) ∧ w2.cell? ⟨g, 4, none⟩ = some (.int .i64 failed) ∧ w2.frozen? ⟨g, 4, none⟩ = false) := Lib.hid fun w1 O1 w2 st hd ⟨O2, st2, hd2⟩ => by
          have k2 := (h.step st hd).step st2 hd2
          refine ⟨?_, k2.cells.1, k2.cells.2.2.2.2, Joins.unfrozen_of_block k2.blk 4⟩
          unfold writeS; rw [if_neg he, hr, if_neg h2, if_pos h0]
          exact ⟨rfl, O2, ((step_og st).trans (step_og st2)).trans (k2.put _).2, (k2.put _).1⟩
        have t0 : (r == 0) = true := by simpa using h0
        clear hs hrow hn hlb h he hr h2
        subst h0
        clear t2 t3 t0
        obtain ⟨r2, S2, hr2⟩ : ∃ r2 S2, syncS s.data.toList S1 = (r2, S2) := ⟨_, _, rfl⟩
        rw [hr2] at SY D
        clear hr2
        go_enter Tryz.func79, Tryz.ntmps79
        go_wp2_with fail
        refine AP.out.mono ?_
        rintro e w1 ⟨rfl, O1, st, hd⟩
        have c1 := (W1.out w1 O1 st hd).cells.1
        have ST := Lib.hid st; have HD := Lib.hid hd
        clear c0 st hd
        go_wp2_with fail
        refine (SY.out w1 O1 ST.out HD.out).mono ?_
        rintro e w2 ⟨rfl, hh⟩
        obtain ⟨dd, c20, c24, f24⟩ := D.out w1 O1 w2 ST.out HD.out hh
        have DD := Lib.hid dd
        clear c1 hh dd D
        go_wp2
        go_ret
        exact DD.out
      · have D : Hid (∀ w2, Has w O d S1 w2 → WroteIt w O d g per next last (writeS s.data.toList (zs.take len) failed S) (.returned (.int .i64 r)) (w2.setCell ⟨g, 4, none⟩ (.int .i64 r)) ∧ w2.cell? ⟨g, 4, none⟩ = some (.int .i64 failed) ∧ w2.frozen? ⟨g, 4, none⟩ = false) := Lib.hid fun w2 ⟨O2, st2, hd2⟩ => by
          have k2 := h.step st2 hd2
          refine ⟨?_, k2.cells.2.2.2.2, Joins.unfrozen_of_block k2.blk 4⟩
          unfold writeS; rw [if_neg he, hr, if_neg h2, if_neg h0]
          exact ⟨rfl, O2, (step_og st2).trans (k2.put _).2, (k2.put _).1⟩
        have t0 : (r == 0) = false := by simpa using h0
        clear hs hrow hn hlb h he hr h2 h0
        go_enter Tryz.func79, Tryz.ntmps79
        go_wp2_with fail
        refine AP.out.mono ?_
        rintro e w1 ⟨rfl, hh⟩
        obtain ⟨dd, c14, f14⟩ := D.out w1 hh
        have DD := Lib.hid dd
        clear c0 hh dd D
        go_wp2
        go_ret
        exact DD.out
end
end Go.Proofs.YtdonkmkjblofpaaGreatDoor.Wl

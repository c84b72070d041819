/-
  Layer 4: Remove, at a disk of the reference, from Off's contract.
-/
import Derived.Test.YtjeemgcenmcplaaLd
namespace Go.Proofs.Ytjeemgcenmcplaa.Dk
open Go.RowKit
set_option linter.unusedVariables false

def RDid (w : World) (O : Nat → Prop) (d : Nat) (r : Int × St) (e : Ending) (w' : World) : Prop := e = .returned (.int .i64 r.1) ∧ ∃ O', Step w O w' O' ∧ IsRef w' O' d r.2
/-- Off's contract, wherever a disk lies. -/
def OffOk : Prop := ∀ (w : World) (O : Nat → Prop) (d : Nat) (fv : Value) (P Q : List UInt8 → Value) (S : St) (keep : Int), RRep w O d fv P Q S →
  Calls Try.prog 29 #[.pointer (some ⟨d, 0, none⟩), .int .i64 keep] w (RUnit w O d (off keep S))
theorem OffOk.at (h : OffOk) {w : World} {O : Nat → Prop} {d : Nat} {fv : Value} {P Q : List UInt8 → Value} {S : St} (keep : Int) (hr : RRep w O d fv P Q S) :
    Calls Try.prog 29 #[.pointer (some ⟨d, 0, none⟩), .int .i64 keep] w (RUnit w O d (off keep S)) := h w O d fv P Q S keep hr
section
variable {w w' : World} {O : Nat → Prop} {d : Nat} {fv : Value} {P Q : List UInt8 → Value} {S S' : St}
theorem there_ready {k : List UInt8} (hr : ready k S ≠ 0) : there k S = ready k S := by
  unfold there ready at *
  cases hb : badName k
  · cases hd : S.down
    · simp [hb, hd] at hr
    · simp
  · simp
theorem there_lacks {k : List UInt8} (ht : there k S ≠ 0) (hr : ready k S = 0) : look k S.fs = none ∧ there k S = 21 := by
  obtain ⟨hb, hd⟩ := ready_zero hr
  cases hl : look k S.fs with
  | none => exact ⟨rfl, by unfold there; simp [hb, hd, hl]⟩
  | some f => exact absurd (by unfold there; simp [hb, hd, hl]) ht
theorem there_ready0 {k : List UInt8} (ht : there k S = 0) : ready k S = 0 := by
  obtain ⟨hb, hd, _⟩ := there_zero ht
  unfold ready; simp [hb, hd]
set_option maxRecDepth 100000 in
set_option maxHeartbeats 1600000 in
theorem ref_remove (OF : OffOk) (h : RRep w O d fv P Q S) (s : ByteArray) (hs : s.size ≤ maxLen) :
    Calls Try.prog 26 #[.pointer (some ⟨d, 0, none⟩), .string s] w (RDid w O d (removeS s.data.toList S)) := by
  have cr := ref_ready h s hs
  by_cases ht : there s.data.toList S = 0
  · obtain ⟨_, _, f, hf⟩ := there_zero ht
    rw [there_ready0 ht] at cr
    obtain ⟨j, hj, ca⟩ := ref_at_some h s hf
    have H := Lib.hid h
    have CR := Lib.hid cr; have CA := Lib.hid ca; have OF := Lib.hid OF
    cases hfl : failing S with
    | true =>
      have e : removeS s.data.toList S = (20, wrote S) := by unfold removeS; rw [if_neg (by simp [ht]), if_pos hfl]
      have D : Hid (∀ w1 w2 w3, Below w.heap.size w w1 → Turned O w1 w2 → RUnit w2 O d (off S.keep (tick S)) (.returned (.tuple #[])) w3 → RDid w O d (removeS s.data.toList S) (.returned (.int .i64 20)) w3) := Lib.hid fun w1 w2 w3 h1 h2 ⟨_, O', h3, h4⟩ => by
        rw [e]
        exact ⟨rfl, O', ((Step.of (Turned.of_below h1)).trans (Step.of h2)).trans h3, by unfold wrote; rw [if_pos hfl]; exact h4⟩
      have TK : Hid (∀ w1, Below w.heap.size w w1 → Calls Try.prog 45 #[.pointer (some ⟨d, 0, none⟩)] w1 (fun e w2 => e = .returned (.bool true) ∧ Turned O w1 w2 ∧ RRep w2 O d fv P Q (tick S))) := Lib.hid fun w1 hb => (ref_raw (H.out.below hb)).mono fun e w2 ⟨x1, x2, x3⟩ => ⟨by rw [x1, hfl], x2, x3 _ _ _ (H.out.below hb)⟩
      clear h cr ca hf ht hj hfl e hs
      go_enter Try.func26, Try.ntmps26
      go_wp2_with (first
        | (go_at_call 41; (with_reducible refine CR.out.mono ?_); rintro e w' ⟨rfl, rfl⟩)
        | (go_at_call 42; (with_reducible refine CA.out.mono ?_); rintro e w1 ⟨rfl, hb1⟩; have HB1 := Lib.hid hb1; clear hb1)
        | (go_at_call 45; (with_reducible refine (TK.out _ HB1.out).mono ?_); rintro e w2 ⟨rfl, ht2, hr2⟩; have HT2 := Lib.hid ht2; have HR2 := Lib.hid hr2; have k5 : w2.cell? ⟨d, 5, none⟩ = some (.int .i64 S.keep) := hr2.cells.2.2.2.2.2.1; clear ht2 hr2)
        | (go_at_call 29; (with_reducible refine (OF.out.at S.keep HR2.out).mono ?_); rintro e w3 h3; have H3 := Lib.hid h3; obtain rfl := h3.1; clear h3))
      go_ret
      exact D.out _ _ _ HB1.out HT2.out H3.out
    | false =>
      have e : removeS s.data.toList S = (0, { tick S with fs := del s.data.toList S.fs }) := by unfold removeS; rw [if_neg (by simp [ht]), if_neg (by simp [hfl])]
      have D : Hid (∀ w1 w2 w3, Below w.heap.size w w1 → Turned O w1 w2 → RUnit w2 O d { tick S with fs := del s.data.toList (tick S).fs } (.returned (.tuple #[])) w3 → RDid w O d (removeS s.data.toList S) (.returned (.int .i64 0)) w3) := Lib.hid fun w1 w2 w3 h1 h2 ⟨_, O', h3, h4⟩ => by
        rw [e]
        exact ⟨rfl, O', ((Step.of (Turned.of_below h1)).trans (Step.of h2)).trans h3, h4⟩
      have TK : Hid (∀ w1, Below w.heap.size w w1 → Calls Try.prog 45 #[.pointer (some ⟨d, 0, none⟩)] w1 (fun e w2 => e = .returned (.bool false) ∧ Turned O w1 w2 ∧ RRep w2 O d fv P Q (tick S))) := Lib.hid fun w1 hb => (ref_raw (H.out.below hb)).mono fun e w2 ⟨x1, x2, x3⟩ => ⟨by rw [x1, hfl], x2, x3 _ _ _ (H.out.below hb)⟩
      clear h cr ca hf ht hj hfl e hs
      go_enter Try.func26, Try.ntmps26
      go_wp2_with (first
        | (go_at_call 41; (with_reducible refine CR.out.mono ?_); rintro e w' ⟨rfl, rfl⟩)
        | (go_at_call 42; (with_reducible refine CA.out.mono ?_); rintro e w1 ⟨rfl, hb1⟩; have HB1 := Lib.hid hb1; clear hb1)
        | (go_at_call 45; (with_reducible refine (TK.out _ HB1.out).mono ?_); rintro e w2 ⟨rfl, ht2, hr2⟩; have HT2 := Lib.hid ht2; have HR2 := Lib.hid hr2; clear ht2 hr2)
        | (go_at_call 46; (with_reducible refine (ref_drop HR2.out s).mono ?_); rintro e w3 h3; have H3 := Lib.hid h3; obtain rfl := h3.1; clear h3))
      go_ret
      exact D.out _ _ _ HB1.out HT2.out H3.out
  · have e1 : removeS s.data.toList S = (there s.data.toList S, S) := by unfold removeS; rw [if_pos ht]
    rw [e1]
    have D : Hid (∀ w', Below w.heap.size w w' → RDid w O d (there s.data.toList S, S) (.returned (.int .i64 (there s.data.toList S))) w') := Lib.hid fun w' hb => ⟨rfl, O, Step.of (Turned.of_below hb), _, _, _, h.below hb⟩
    by_cases hr : ready s.data.toList S = 0
    · obtain ⟨hl, e⟩ := there_lacks ht hr
      have ca := ref_at_none h s hl
      rw [hr] at cr
      rw [e] at D ⊢
      have CR := Lib.hid cr; have CA := Lib.hid ca
      clear cr ca h ht hr hl e e1 hs
      go_enter Try.func26, Try.ntmps26
      go_wp2_with (first | (go_at_call 41; (with_reducible refine CR.out.mono ?_); rintro e w' ⟨rfl, rfl⟩) | (go_at_call 42; (with_reducible refine CA.out.mono ?_); rintro e w1 ⟨rfl, hb1⟩; have HB1 := Lib.hid hb1; clear hb1))
      go_ret
      exact D.out _ HB1.out
    · have e := there_ready hr
      rw [e] at D ⊢
      generalize ready s.data.toList S = r at *
      have CR := Lib.hid cr
      have t1 : (r == 0) = false := by simpa using hr
      have t2 : (r != 0) = true := by simpa using hr
      clear cr h ht hr e e1 hs
      go_enter Try.func26, Try.ntmps26
      go_wp2_with (go_at_call 41; (with_reducible refine CR.out.mono ?_); rintro e w' ⟨rfl, rfl⟩)
      go_ret
      exact D.out _ (Below.refl _ _)
end
end Go.Proofs.Ytjeemgcenmcplaa.Dk

/-
  Layer 4: Sync whole, Truncate, at a disk of the reference, from Off's contract.
-/
import Derived.Test.YtjeemgcenmcplaaLh
namespace Go.Proofs.Ytjeemgcenmcplaa.Dk
open Go.RowKit
set_option linter.unusedVariables false
set_option linter.unusedSimpArgs false
section
variable {w w' : World} {O : Nat → Prop} {d : Nat} {fv : Value} {P Q : List UInt8 → Value} {S S' : St}
set_option maxRecDepth 100000 in
set_option maxHeartbeats 1600000 in
theorem ref_sync (OF : OffOk) (h : RRep w O d fv P Q S) (s : ByteArray) (hs : s.size ≤ maxLen) :
    Calls Try.prog 23 #[.pointer (some ⟨d, 0, none⟩), .string s] w (RDid w O d (syncS s.data.toList S)) := by
  by_cases ht : there s.data.toList S = 0
  · cases hfl : failing S with
    | false => exact ref_sync_ok h s hs ht hfl
    | true =>
      have cr := ref_ready h s hs
      obtain ⟨_, _, f, hf⟩ := there_zero ht
      rw [there_ready0 ht] at cr
      obtain ⟨j, hj, ca⟩ := ref_at_some h s hf
      have D : Hid (∀ w1 w2 w3, Below w.heap.size w w1 → Turned O w1 w2 → RUnit w2 O d (off S.keep (tick S)) (.returned (.tuple #[])) w3 → RDid w O d (syncS s.data.toList S) (.returned (.int .i64 20)) w3) := Lib.hid fun w1 w2 w3 h1 h2 h3 => failed hfl (by unfold syncS; rw [if_neg (by simp [ht]), if_pos hfl]) h1 h2 h3
      have TK := Lib.hid (raw_tells h true hfl)
      have CR := Lib.hid cr; have CA := Lib.hid ca; have OF := Lib.hid OF
      clear h cr ca hf ht hj hfl hs
      go_enter Try.func23, Try.ntmps23
      go_wp2_with (first
        | (go_at_call 41; (with_reducible refine CR.out.mono ?_); rintro e w' ⟨rfl, rfl⟩)
        | (go_at_call 42; (with_reducible refine CA.out.mono ?_); rintro e w1 ⟨rfl, hb1⟩; have HB1 := Lib.hid hb1; clear hb1)
        | (go_at_call 45; (with_reducible refine (TK.out _ HB1.out).mono ?_); rintro e w2 ⟨rfl, ht2, hr2⟩; have HT2 := Lib.hid ht2; have HR2 := Lib.hid hr2; have k5 : w2.cell? ⟨d, 5, none⟩ = some (.int .i64 S.keep) := hr2.cells.2.2.2.2.2.1; clear ht2 hr2)
        | (go_at_call 29; (with_reducible refine (OF.out.at S.keep HR2.out).mono ?_); rintro e w3 h3; have H3 := Lib.hid h3; obtain rfl := h3.1; clear h3))
      go_ret
      exact D.out _ _ _ HB1.out HT2.out H3.out
  · have cr := ref_ready h s hs
    have D : Hid (∀ w', Below w.heap.size w w' → RDid w O d (syncS s.data.toList S) (.returned (.int .i64 (there s.data.toList S))) w') := Lib.hid fun w' hb => refused h (by unfold syncS; rw [if_pos ht]) hb
    by_cases hr : ready s.data.toList S = 0
    · obtain ⟨hl, e⟩ := there_lacks ht hr
      have ca := ref_at_none h s hl
      rw [hr] at cr
      rw [e] at D
      have CR := Lib.hid cr; have CA := Lib.hid ca
      clear cr ca h ht hr hl e hs
      go_enter Try.func23, Try.ntmps23
      go_wp2_with (first | (go_at_call 41; (with_reducible refine CR.out.mono ?_); rintro e w' ⟨rfl, rfl⟩) | (go_at_call 42; (with_reducible refine CA.out.mono ?_); rintro e w1 ⟨rfl, hb1⟩; have HB1 := Lib.hid hb1; clear hb1))
      go_ret
      exact D.out _ HB1.out
    · have e := there_ready hr
      rw [e] at D
      generalize ready s.data.toList S = r at *
      have CR := Lib.hid cr
      have t1 : (r == 0) = false := by simpa using hr
      have t2 : (r != 0) = true := by simpa using hr
      clear cr h ht hr e hs
      go_enter Try.func23, Try.ntmps23
      go_wp2_with (go_at_call 41; (with_reducible refine CR.out.mono ?_); rintro e w' ⟨rfl, rfl⟩)
      go_ret
      exact D.out _ (Below.refl _ _)

/-! ### Truncate -/
theorem cut_row {k : IntKind} {wx : World} {p : Option Addr} {x N : Nat} {l : List Int} (h : Fr.HasRow k wx p x l) (hN : N ≤ x) : Fr.HasRow k wx p N l :=
  ⟨Nat.le_trans hN h.1, Nat.le_trans hN h.2.1, fun h0 => (h.2.2 (by omega)).elim fun b ⟨off, e, hc⟩ => ⟨b, off, e, fun j hj => hc j (by omega)⟩⟩
/-- The file that a call looks at, in a box of its own, and what the walk needs of it behind. -/
structure Look (w : World) (O : Nat → Prop) (d : Nat) (fv : Value) (P Q : List UInt8 → Value) (S : St) (s : ByteArray) (f : File) (j q n cap : Nat) (p1 p2 : Option Addr) (x1 x2 c1 c2 : Nat) (l1 l2 : List Int) : Prop where
  hj : S.fs[j]? = some f
  hn : S.fs.length = n
  few : n ≤ 16
  jn : j < n
  e0 : fv = .slice (some ⟨q, 0, none⟩) n cap
  e1 : P f.nm = .slice p1 x1 c1
  e2 : Q f.nm = .slice p2 x2 c2
  l1e : f.l.take f.s = l1
  l2e : f.l.drop f.s = l2
  n1 : p1 = none → c1 = 0
  n2 : p2 = none → c2 = 0
  x1c : x1 ≤ c1
  x2c : x2 ≤ c2
  c1m : c1 ≤ 9223372036854775807
  c2m : c2 ≤ 9223372036854775807
  x1s : x1 = f.s
  sum : x1 + x2 = f.l.length
  big : x1 + x2 ≤ 1048576
  fn : f.nm = s.data.toList
  nm : str f.nm = s
  see : ∀ w2 (S2 : St), RRep w2 O d fv P Q S2 → S2.fs = S.fs → ∀ wx, Below w2.heap.size w2 wx → See wx d q n cap j s p1 p2 x1 x2 c1 c2 l1 l2
  qd : q ≠ d
  lq : q < w.heap.size
  ld : d < w.heap.size
theorem RRep.looked (h : RRep w O d fv P Q S) {s : ByteArray} {j : Nat} {f : File} (hl : Dk.look s.data.toList S.fs = some f) (hj : S.fs[j]? = some f) : ∃ q n cap p1 p2 x1 x2 c1 c2 l1 l2, Look w O d fv P Q S s f j q n cap p1 p2 x1 x2 c1 c2 l1 l2 := by
  obtain ⟨q, n, cap, p1, p2, x1, x2, c1, c2, hn, hfew, hjn, e0, e1, e2, hx1, hx2, k1, k2, k3, k4, k5, k6, HX1, k8, k9, _⟩ := h.see hj
  have hfn := (look_some hl).2
  have hnm : str f.nm = s := by rw [hfn, str_of]
  rw [hn] at e0
  refine ⟨q, n, cap, p1, p2, x1, x2, c1, c2, _, _, hj, hn, hfew, hjn, e0, e1, e2, rfl, rfl, k1, k2, k3, k4, k5, k6, HX1.out, k8, k9, hfn, hnm, fun w2 S2 hr e => ?_, h.ne.1 q (by rw [e0]; rfl), ?_, h.dom d h.od⟩
  · have := hr.seen (by rw [e]; exact hj) (by rw [e]; exact hn) e0 e1 e2
    rwa [hnm] at this
  · obtain ⟨q', _, e', _, a0, _⟩ := h.at hj
    rw [e0] at e'
    simp only [Value.slice.injEq, Option.some.injEq, Addr.mk.injEq, true_and, and_true] at e'
    obtain ⟨rfl, _⟩ := e'
    exact Fr.lt_of_cell a0
theorem lenOf_look {k : List UInt8} {fs : List File} {f : File} (h : look k fs = some f) : lenOf k fs = f.l.length := by unfold lenOf; rw [h]
set_option maxRecDepth 100000 in
set_option maxHeartbeats 1600000 in
theorem ref_trunc_long (h : RRep w O d fv P Q S) (s : ByteArray) (hs : s.size ≤ maxLen) (z : Int) (ht : there s.data.toList S = 0) (hz : z < 0 ∨ (lenOf s.data.toList S.fs : Int) < z) :
    Calls Try.prog 24 #[.pointer (some ⟨d, 0, none⟩), .string s, .int .i64 z] w (RDid w O d (truncS s.data.toList z S)) := by
  obtain ⟨_, _, f, hf⟩ := there_zero ht
  have cr := ref_ready h s hs
  rw [there_ready0 ht] at cr
  obtain ⟨j, hj, ca⟩ := ref_at_some h s hf
  obtain ⟨q, n, cap, p1, p2, x1, x2, c1, c2, l1, l2, K⟩ := h.looked hf hj
  have D : Hid (∀ w', Below w.heap.size w w' → RDid w O d (truncS s.data.toList z S) (.returned (.int .i64 3)) w') := Lib.hid fun w' hb => refused h (by unfold truncS; rw [if_neg (by simp [ht]), if_pos hz]) hb
  rw [lenOf_look hf] at hz
  have SE := Lib.hid (K.see w S h rfl)
  have hjn := K.jn; have hfew := K.few; have hsum := K.sum; have hbig := K.big
  have CR := Lib.hid cr; have CA := Lib.hid ca
  have hj0 : (0 : Int) ≤ (j : Int) := by omega
  clear cr ca h hf ht hj hs K
  have tz : z < 0 ∨ (¬ z < 0 ∧ decide (z > (x1 : Int) + (x2 : Int)) = true) := by
    rcases hz with hz | hz
    · exact .inl hz
    · by_cases h0 : z < 0
      · exact .inl h0
      · exact .inr ⟨h0, by simp; omega⟩
  clear hz
  rcases tz with hz | ⟨hz, t1⟩
  all_goals
    go_enter Try.func24, Try.ntmps24
    go_wp2_with fail
    refine CR.out.mono ?_
    rintro e w' ⟨rfl, rfl⟩
    go_wp2_with fail
    refine CA.out.mono ?_
    rintro e w1 ⟨rfl, hb1⟩
    have HB1 := Lib.hid hb1
    obtain ⟨z0, a0, a1, a2, fz, _, _⟩ := SE.out w1 hb1
    have hb2 : Below w.heap.size w (w1.alloc (.cells #[.string s, .slice p1 x1 c1, .slice p2 x2 c2] 65)) := hb1.alloc hb1.size _
    have HB2 := Lib.hid hb2
    clear hb1 hb2
    go_wp2
    go_ret
    exact D.out _ HB2.out
end
end Go.Proofs.Ytjeemgcenmcplaa.Dk

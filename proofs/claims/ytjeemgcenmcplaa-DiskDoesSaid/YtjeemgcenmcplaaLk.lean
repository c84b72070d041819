/-
  Layer 4: Truncate whole, Rename, at a disk of the reference, from Off's contract.
-/
import Derived.Test.YtjeemgcenmcplaaLj
namespace Go.Proofs.Ytjeemgcenmcplaa.Dk
open Go.RowKit
set_option linter.unusedVariables false
set_option linter.unusedSimpArgs false
section
variable {w w' : World} {O : Nat → Prop} {d : Nat} {fv : Value} {P Q : List UInt8 → Value} {S S' : St}
set_option maxRecDepth 100000 in
set_option maxHeartbeats 1600000 in
theorem ref_trunc_fail (OF : OffOk) (h : RRep w O d fv P Q S) (s : ByteArray) (hs : s.size ≤ maxLen) (N : Nat) (ht : there s.data.toList S = 0) (hfl : failing S = true) {f : File} (hf : look s.data.toList S.fs = some f) (hN : N ≤ f.l.length) :
    Calls Try.prog 24 #[.pointer (some ⟨d, 0, none⟩), .string s, .int .i64 (N : Int)] w (RDid w O d (truncS s.data.toList (N : Int) S)) := by
  have cr := ref_ready h s hs
  rw [there_ready0 ht] at cr
  obtain ⟨j, hj, ca⟩ := ref_at_some h s hf
  obtain ⟨q, n, cap, p1, p2, x1, x2, c1, c2, l1, l2, K⟩ := h.looked hf hj
  have D : Hid (∀ w1 w2 w3, Below w.heap.size w w1 → Turned O w1 w2 → RUnit w2 O d (off S.keep (tick S)) (.returned (.tuple #[])) w3 → RDid w O d (truncS s.data.toList (N : Int) S) (.returned (.int .i64 20)) w3) := Lib.hid fun w1 w2 w3 h1 h2 h3 => failed hfl (by unfold truncS; rw [if_neg (by simp [ht]), if_neg (by rw [lenOf_look hf]; omega), if_pos hfl]) h1 h2 h3
  have SE := Lib.hid (K.see)
  have hjn := K.jn; have hfew := K.few; have hsum := K.sum; have hbig := K.big
  have H := Lib.hid h
  have TK := Lib.hid (raw_tells h true hfl)
  have CR := Lib.hid cr; have CA := Lib.hid ca; have OF := Lib.hid OF
  have hj0 : (0 : Int) ≤ (j : Int) := by omega
  have tz : decide ((N : Int) < 0) = false := by rw [decide_eq_false_iff_not]; omega
  have tz2 : decide ((N : Int) > (x1 : Int) + (x2 : Int)) = false := by rw [decide_eq_false_iff_not]; omega
  clear cr ca h hf ht hj hs K hN hfl
  go_enter Try.func24, Try.ntmps24
  go_wp2_with fail
  refine CR.out.mono ?_
  rintro e w' ⟨rfl, rfl⟩
  go_wp2_with fail
  refine CA.out.mono ?_
  rintro e w1 ⟨rfl, hb1⟩
  obtain ⟨z0, a0, a1, a2, fz, _, _⟩ := SE.out w S H.out rfl w1 hb1
  obtain ⟨wb, hwb⟩ : ∃ wb, wb = w1.alloc (.cells #[.string s, .slice p1 x1 c1, .slice p2 x2 c2] 65) := ⟨_, rfl⟩
  have HWB := Lib.hid hwb
  have HB2 : Hid (Below w.heap.size w wb) := Lib.hid (by rw [hwb]; exact hb1.alloc hb1.size _)
  clear hb1 hwb
  go_wp2_with fail
  rw [← HWB.out]
  clear z0 a0 a1 a2 fz
  refine (TK.out _ HB2.out).mono ?_
  rintro e w2 ⟨rfl, ht2, hr2⟩
  have HT2 := Lib.hid ht2; have HR2 := Lib.hid hr2
  have k5 : w2.cell? ⟨d, 5, none⟩ = some (.int .i64 S.keep) := hr2.cells.2.2.2.2.2.1
  clear ht2 hr2
  go_wp2_with (go_at_call 29; (with_reducible refine (OF.out.at S.keep HR2.out).mono ?_); rintro e w3 h3; have H3 := Lib.hid h3; obtain rfl := h3.1; clear h3)
  go_ret
  exact D.out _ _ _ HB2.out HT2.out H3.out
set_option maxRecDepth 100000 in
set_option maxHeartbeats 1600000 in
theorem ref_trunc (OF : OffOk) (h : RRep w O d fv P Q S) (s : ByteArray) (hs : s.size ≤ maxLen) (z : Int) :
    Calls Try.prog 24 #[.pointer (some ⟨d, 0, none⟩), .string s, .int .i64 z] w (RDid w O d (truncS s.data.toList z S)) := by
  by_cases ht : there s.data.toList S = 0
  · by_cases hz : z < 0 ∨ (lenOf s.data.toList S.fs : Int) < z
    · exact ref_trunc_long h s hs z ht hz
    · obtain ⟨_, _, f, hf⟩ := there_zero ht
      rw [lenOf_look hf] at hz
      obtain ⟨N, rfl⟩ : ∃ N : Nat, z = N := ⟨z.toNat, by omega⟩
      cases hfl : failing S with
      | true => exact ref_trunc_fail OF h s hs N ht hfl hf (by omega)
      | false =>
        by_cases hN : N ≤ f.s
        · exact ref_trunc_a h s hs N ht hfl hf hN
        · exact ref_trunc_b h s hs N ht hfl hf (by omega) (by omega)
  · have cr := ref_ready h s hs
    have D : Hid (∀ w', Below w.heap.size w w' → RDid w O d (truncS s.data.toList z S) (.returned (.int .i64 (there s.data.toList S))) w') := Lib.hid fun w' hb => refused h (by unfold truncS; rw [if_pos ht]) hb
    by_cases hr : ready s.data.toList S = 0
    · obtain ⟨hl, e⟩ := there_lacks ht hr
      have ca := ref_at_none h s hl
      rw [hr] at cr
      rw [e] at D
      have CR := Lib.hid cr; have CA := Lib.hid ca
      clear cr ca h ht hr hl e hs
      go_enter Try.func24, Try.ntmps24
      go_wp2_with (first | (go_at_call 41; (with_reducible refine CR.out.mono ?_); rintro e w' ⟨rfl, rfl⟩) | (go_at_call 42; (with_reducible refine CA.out.mono ?_); rintro e w1 ⟨rfl, hb1⟩; have HB1 := Lib.hid hb1; clear hb1))
      go_ret
      exact D.out _ HB1.out
    · have e := there_ready hr
      rw [e] at D
      generalize ready s.data.toList S = r at *
      have CR := Lib.hid cr
      have t1 : (r == 0) = false := by simpa using hr
      have t2 : (r != 0) = true := by simpa using hr
      clear cr h ht hr e hs
      go_enter Try.func24, Try.ntmps24
      go_wp2_with (go_at_call 41; (with_reducible refine CR.out.mono ?_); rintro e w' ⟨rfl, rfl⟩)
      go_ret
      exact D.out _ (Below.refl _ _)

/-! ### Rename -/
theorem renameS_bad {k to : List UInt8} (hb : badName k = true ∨ badName to = true) : renameS k to S = (1, S) := by
  unfold renameS
  by_cases ht : badName to = true
  · rw [if_pos ht]
  · rcases hb with hb | hb
    · have : there k S = 1 := by unfold there; rw [if_pos hb]
      rw [if_neg ht, if_pos (by rw [this]; decide), this]
    · exact absurd hb ht
set_option maxRecDepth 100000 in
set_option maxHeartbeats 1600000 in
theorem ref_rename (OF : OffOk) (h : RRep w O d fv P Q S) (s t : ByteArray) (hs : s.size ≤ maxLen) (hst : t.size ≤ maxLen) :
    Calls Try.prog 25 #[.pointer (some ⟨d, 0, none⟩), .string s, .string t] w (RDid w O d (renameS s.data.toList t.data.toList S)) := by
  unfold maxLen at hs hst
  by_cases hbad : badName s.data.toList = true ∨ badName t.data.toList = true
  · have D : Hid (RDid w O d (renameS s.data.toList t.data.toList S) (.returned (.int .i64 1)) w) := Lib.hid (refused h (renameS_bad hbad) (Below.refl _ _))
    rw [bad_size, bad_size] at hbad
    clear h
    have cs : s.size < 1 ∨ (¬ s.size < 1 ∧ 16 < s.size) ∨ ((¬ s.size < 1 ∧ ¬ 16 < s.size) ∧ t.size < 1) ∨ ((¬ s.size < 1 ∧ ¬ 16 < s.size) ∧ ¬ t.size < 1 ∧ 16 < t.size) := by
      simp only [Bool.or_eq_true, decide_eq_true_eq] at hbad
      omega
    clear hbad
    rcases cs with c1 | ⟨c1, c2⟩ | ⟨⟨c1, c2⟩, c3⟩ | ⟨⟨c1, c2⟩, c3, c4⟩
    · have t1 : decide ((s.size : Int) < 1) = true := by rw [decide_eq_true_eq]; omega
      clear c1
      go_enter Try.func25, Try.ntmps25
      go_wp2
      go_ret
      exact D.out
    · have t1 : decide ((s.size : Int) < 1) = false := by rw [decide_eq_false_iff_not]; omega
      have t2 : decide ((16 : Int) < (s.size : Int)) = true := by rw [decide_eq_true_eq]; omega
      clear c1 c2
      go_enter Try.func25, Try.ntmps25
      go_wp2
      go_ret
      exact D.out
    · have t1 : decide ((s.size : Int) < 1) = false := by rw [decide_eq_false_iff_not]; omega
      have t2 : decide ((16 : Int) < (s.size : Int)) = false := by rw [decide_eq_false_iff_not]; omega
      have t3 : decide ((t.size : Int) < 1) = true := by rw [decide_eq_true_eq]; omega
      clear c1 c2 c3
      go_enter Try.func25, Try.ntmps25
      go_wp2
      go_ret
      exact D.out
    · have t1 : decide ((s.size : Int) < 1) = false := by rw [decide_eq_false_iff_not]; omega
      have t2 : decide ((16 : Int) < (s.size : Int)) = false := by rw [decide_eq_false_iff_not]; omega
      have t3 : decide ((t.size : Int) < 1) = false := by rw [decide_eq_false_iff_not]; omega
      have t4 : decide ((16 : Int) < (t.size : Int)) = true := by rw [decide_eq_true_eq]; omega
      clear c1 c2 c3 c4
      go_enter Try.func25, Try.ntmps25
      go_wp2
      go_ret
      exact D.out
  · have hbs : badName s.data.toList = false := by simpa using fun e => hbad (.inl e)
    have hbt : badName t.data.toList = false := by simpa using fun e => hbad (.inr e)
    have z := hbs; have z' := hbt
    rw [bad_size] at z z'
    simp only [Bool.or_eq_false_iff, decide_eq_false_iff_not] at z z'
    have t1 : decide ((s.size : Int) < 1) = false := by rw [decide_eq_false_iff_not]; omega
    have t2 : decide ((16 : Int) < (s.size : Int)) = false := by rw [decide_eq_false_iff_not]; omega
    have t3 : decide ((t.size : Int) < 1) = false := by rw [decide_eq_false_iff_not]; omega
    have t4 : decide ((16 : Int) < (t.size : Int)) = false := by rw [decide_eq_false_iff_not]; omega
    obtain ⟨_, _, k2, _⟩ := h.cells
    clear z z' hbad
    cases hdn : S.down with
    | true =>
      have D : Hid (RDid w O d (renameS s.data.toList t.data.toList S) (.returned (.int .i64 20)) w) := Lib.hid (refused h (by
        have e : there s.data.toList S = 20 := by unfold there; rw [if_neg (by simp [hbs]), if_pos hdn]
        unfold renameS; rw [if_neg (by simp [hbt]), if_pos (by rw [e]; decide), e]) (Below.refl _ _))
      rw [hdn] at k2
      clear h hdn hbs hbt
      go_enter Try.func25, Try.ntmps25
      go_wp2
      go_ret
      exact D.out
    | false =>
      rw [hdn] at k2
      cases hf : look s.data.toList S.fs with
      | none =>
        have ca := ref_at_none h s hf
        have D : Hid (∀ w', Below w.heap.size w w' → RDid w O d (renameS s.data.toList t.data.toList S) (.returned (.int .i64 21)) w') := Lib.hid fun w' hb => refused h (by
          have e : there s.data.toList S = 21 := by unfold there; rw [if_neg (by simp [hbs]), if_neg (by simp [hdn]), if_pos (by simp [hf])]
          unfold renameS; rw [if_neg (by simp [hbt]), if_pos (by rw [e]; decide), e]) hb
        have CA := Lib.hid ca
        clear h hdn hbs hbt hf ca
        go_enter Try.func25, Try.ntmps25
        go_wp2_with (go_at_call 42; (with_reducible refine CA.out.mono ?_); rintro e w1 ⟨rfl, hb1⟩; have HB1 := Lib.hid hb1; clear hb1)
        go_ret
        exact D.out _ HB1.out
      | some f =>
        have hth : there s.data.toList S = 0 := by unfold there; rw [if_neg (by simp [hbs]), if_neg (by simp [hdn]), if_neg (by simp [hf])]
        obtain ⟨j, hj, ca⟩ := ref_at_some h s hf
        cases hfl : failing S with
        | true =>
          have D : Hid (∀ w1 w2 w3, Below w.heap.size w w1 → Turned O w1 w2 → RUnit w2 O d (off S.keep (tick S)) (.returned (.tuple #[])) w3 → RDid w O d (renameS s.data.toList t.data.toList S) (.returned (.int .i64 20)) w3) := Lib.hid fun w1 w2 w3 h1 h2 h3 => failed hfl (by unfold renameS; rw [if_neg (by simp [hbt]), if_neg (by simp [hth]), if_pos hfl]) h1 h2 h3
          have TK := Lib.hid (raw_tells h true hfl)
          have CA := Lib.hid ca; have OF := Lib.hid OF
          clear h ca hf hth hj hfl hdn hbs hbt
          go_enter Try.func25, Try.ntmps25
          go_wp2_with (first
            | (go_at_call 42; (with_reducible refine CA.out.mono ?_); rintro e w1 ⟨rfl, hb1⟩; have HB1 := Lib.hid hb1; clear hb1)
            | (go_at_call 45; (with_reducible refine (TK.out _ HB1.out).mono ?_); rintro e w2 ⟨rfl, ht2, hr2⟩; have HT2 := Lib.hid ht2; have HR2 := Lib.hid hr2; have k5 : w2.cell? ⟨d, 5, none⟩ = some (.int .i64 S.keep) := hr2.cells.2.2.2.2.2.1; clear ht2 hr2)
            | (go_at_call 29; (with_reducible refine (OF.out.at S.keep HR2.out).mono ?_); rintro e w3 h3; have H3 := Lib.hid h3; obtain rfl := h3.1; clear h3))
          go_ret
          exact D.out _ _ _ HB1.out HT2.out H3.out
        | false =>
          obtain ⟨q, n, cap, p1, p2, x1, x2, c1, c2, l1, l2, K⟩ := h.looked hf hj
          have SE := Lib.hid (K.see)
          have hjn := K.jn; have hfew := K.few
          have hj0 : (0 : Int) ≤ (j : Int) := by omega
          have TK := Lib.hid (raw_tells h false hfl)
          have CA := Lib.hid ca
          have PUT : Hid (∀ w2 wb w3 : World, RRep w2 O d fv P Q (tick S) → Below w2.heap.size w2 wb → ∀ O' fv' P' Q', RRep w3 O' d fv' P' Q' { tick S with fs := del s.data.toList (tick S).fs } → (∀ i, O i → O' i) → (∀ k, k < wb.heap.size → k ≠ d → w3.heap[k]? = wb.heap[k]?) →
              Calls Try.prog 44 #[.pointer (some ⟨d, 0, none⟩), .agg #[.string t, .slice p1 x1 c1, .slice p2 x2 c2]] w3 (RUnit w3 O' d { tick S with fs := put (renamed t.data.toList f) (del s.data.toList S.fs) })) := Lib.hid fun w2 wb w3 hr2 hb O' fv' P' Q' hr3 hO hk => by
            have hmem := List.mem_of_getElem? K.hj
            have hfile := hr2.files f hmem
            have hmv : RFile w3 O' (P f.nm) (Q f.nm) f := hfile.move hO fun i cur hi hc => by
              have hlt := hr2.dom i hi
              rw [hk i (Nat.lt_of_lt_of_le hlt hb.size) (hr2.ne.2 i cur hc).1, hb.block i hlt]
            rw [K.e1, K.e2] at hmv
            have hgood : Good { ({ tick S with fs := del s.data.toList (tick S).fs } : St) with fs := put (renamed t.data.toList f) (del s.data.toList (tick S).fs) } := by
              refine good_put hr3.good hbt (hr2.good.safe f hmem) (hr2.good.size f hmem) ?_
              have a1 := length_del_le t.data.toList (del s.data.toList S.fs)
              have a2 := length_del_lt hf
              have a3 := hr2.good.few
              show (del t.data.toList (del s.data.toList S.fs)).length + 1 ≤ 16
              have a4 : (tick S).fs.length = S.fs.length := rfl
              omega
            have := ref_put hr3 (renamed t.data.toList f) _ _ ⟨hmv.safe, hmv.wait⟩ hgood
            rwa [show str (renamed t.data.toList f).nm = t from str_of t] at this
          have D : Hid (∀ w2 wb w3 w4 O', Step w O w2 O → Below w2.heap.size w2 wb → Step wb O w3 O' → RUnit w3 O' d { tick S with fs := put (renamed t.data.toList f) (del s.data.toList S.fs) } (.returned (.tuple #[])) w4 → RDid w O d (renameS s.data.toList t.data.toList S) (.returned (.int .i64 0)) w4) := Lib.hid fun w2 wb w3 w4 O' h1 h2 h3 ⟨_, O'', h4, h5⟩ => by
            have e : renameS s.data.toList t.data.toList S = (0, { tick S with fs := put (renamed t.data.toList f) (del s.data.toList S.fs) }) := by unfold renameS; rw [if_neg (by simp [hbt]), if_neg (by simp [hth]), if_neg (by simp [hfl]), hf]
            rw [e]
            exact ⟨rfl, O'', ((h1.trans (Step.of (Turned.of_below h2))).trans h3).trans h4, h5⟩
          have hlds : d < w.heap.size := K.ld
          clear h ca hf hth hj hfl hdn hbs hbt K
          go_enter Try.func25, Try.ntmps25
          go_wp2_with fail
          refine CA.out.mono ?_
          rintro e w1 ⟨rfl, hb1⟩
          have HB1 := Lib.hid hb1
          have hs1 := hb1.size
          clear hb1
          go_wp2_with fail
          refine (TK.out _ HB1.out).mono ?_
          rintro e w2 ⟨rfl, ht2, hr2⟩
          have hs2 := ht2.size
          have ST := Lib.hid ((Step.of (Turned.of_below HB1.out)).trans (Step.of ht2)); have HR2 := Lib.hid hr2
          obtain ⟨z0, a0, a1, a2, fz, _, _⟩ := SE.out w2 (tick S) hr2 rfl w2 (Below.refl _ _)
          obtain ⟨wb, hwb⟩ : ∃ wb, wb = w2.alloc (.cells #[.string s, .slice p1 x1 c1, .slice p2 x2 c2] 65) := ⟨_, rfl⟩
          have HWB := Lib.hid hwb
          have HB2 : Hid (Below w2.heap.size w2 wb) := Lib.hid (by rw [hwb]; exact (Below.refl _ _).alloc (Nat.le_refl _) _)
          have HBX : Hid (wb.heap[w2.heap.size]? = some (.cells #[.string s, .slice p1 x1 c1, .slice p2 x2 c2] 65 (0, 0))) := Lib.hid (by rw [hwb]; exact (MapKept.heap_alloc w2 _).1)
          clear ht2 hr2 hwb
          go_wp2_with fail
          rw [← HWB.out]
          clear z0 a0 a1 a2 fz
          refine (ref_dropK (HR2.out.below HB2.out) s).mono ?_
          rintro e w3 ⟨rfl, O', fv', P', Q', h3a, h3b, h3c, h3d⟩
          have ST3 := Lib.hid h3a
          have PT := Lib.hid (PUT.out w2 wb w3 HR2.out HB2.out O' fv' P' Q' h3b h3c h3d)
          have bx : w3.heap[w2.heap.size]? = some (.cells #[.string s, .slice p1 x1 c1, .slice p2 x2 c2] 65 (0, 0)) := (h3d _ (Array.getElem?_eq_some_iff.1 HBX.out).1 (by omega)).trans HBX.out
          have y1 : w3.cell? ⟨w2.heap.size, 1, none⟩ = some (.slice p1 x1 c1) := Joins.cell_of_block bx 1
          have y2 : w3.cell? ⟨w2.heap.size, 2, none⟩ = some (.slice p2 x2 c2) := Joins.cell_of_block bx 2
          clear bx h3a h3b h3c h3d
          go_wp2_with fail
          refine PT.out.mono ?_
          rintro e w4 h4
          have H4 := Lib.hid h4
          obtain rfl := h4.1
          clear h4 y1 y2
          go_wp2
          go_ret
          exact D.out w2 wb w3 w4 O' ST.out HB2.out ST3.out H4.out
end
end Go.Proofs.Ytjeemgcenmcplaa.Dk

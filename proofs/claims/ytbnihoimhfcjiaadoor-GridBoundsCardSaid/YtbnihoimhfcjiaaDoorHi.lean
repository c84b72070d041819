/-
  Layer 12: the law GridBounds.
-/
import Derived.Test.YtbnihoimhfcjiaaDoorHh
namespace Go.Proofs.YtbnihoimhfcjiaaDoor.Gr
open Go.RowKit Go.Shelf Rf
open Go.Proofs.YtbnihoimhfcjiaaDoor.Fx Ot Ao
set_option linter.unusedVariables false
set_option linter.unusedSimpArgs false
attribute [local go_sem] Oper.semAt_some

theorem four_boxes (w : World) (a b c d : Array Value) (S T U V : TypeId) : Bk ((((w.alloc (.cells a S)).alloc (.cells b T)).alloc (.cells c U)).alloc (.cells d V)) w.heap.size a S ∧ Bk ((((w.alloc (.cells a S)).alloc (.cells b T)).alloc (.cells c U)).alloc (.cells d V)) (w.heap.size + 1) b T ∧
    Bk ((((w.alloc (.cells a S)).alloc (.cells b T)).alloc (.cells c U)).alloc (.cells d V)) (w.heap.size + 1 + 1) c U ∧ Bk ((((w.alloc (.cells a S)).alloc (.cells b T)).alloc (.cells c U)).alloc (.cells d V)) (w.heap.size + 1 + 1 + 1) d V ∧ Below w.heap.size w ((((w.alloc (.cells a S)).alloc (.cells b T)).alloc (.cells c U)).alloc (.cells d V)) := by
  obtain ⟨h0, h1, h2, hb⟩ := three_boxes w a b c S T U
  have e3 : (((w.alloc (.cells a S)).alloc (.cells b T)).alloc (.cells c U)).heap.size = w.heap.size + 1 + 1 + 1 := by rw [World.size_alloc, World.size_alloc, World.size_alloc]
  refine ⟨h0.more _, h1.more _, h2.more _, ?_, hb.alloc (by rw [e3]; omega) _⟩
  have := Bk.new (((w.alloc (.cells a S)).alloc (.cells b T)).alloc (.cells c U)) d V
  rwa [e3] at this
theorem ret_done {fn : Func} {p : Tmp} (h : fn.results = #[.cell p 4]) {tmps : Array Value} {ds : List Deferred} {w W : World} {N g : Nat} (ht : tmps.getD p undef = .pointer (some ⟨g, 0, none⟩)) (hm : Mk N ds W)
    (hg : Bx W g (.bool true) 4) (hB : Below N w W) : LeavesInM Fence.wide 6 Tryd.prog fn tmps (fun e w' => e = .returned (.bool true) ∧ Below N w w') ds .returning W := by
  refine leaves_marks ds _ hm.1 fun W' hs => ⟨_, results_box h tmps W' g true ht ?_, rfl, shut_below hs hm.2 hB⟩
  refine (hs.block g fun d hd e => ?_).trans hg
  obtain ⟨r, h1, h2⟩ := hm.1.2 d hd
  rw [e] at h1
  cases h1
  rw [show W.heap[g]? = _ from hg] at h2
  cases h2
/-- The boxes of GridBounds: the three numbers, the result. -/
structure Sq (N : Nat) (w W : World) (p v s : Int) : Prop where
  b : Below N w W
  p : Bx W N (.int .i64 p) 3
  v : Bx W (N + 1) (.int .i64 v) 3
  s : Bx W (N + 1 + 1) (.int .i64 s) 3
  r : Bx W (N + 1 + 1 + 1) (.bool false) 4
theorem Sq.keep {N : Nat} {w A W : World} {p v s : Int} (h : Sq N w A p v s) (hb : Below A.heap.size A W) : Sq N w W p v s :=
  ⟨h.b.trans (hb.mono (by have := h.r.lt; omega)), h.p.keep hb, h.v.keep hb, h.s.keep hb, h.r.keep hb⟩
theorem put_below {N D : Nat} {A W : World} (h : Below N A W) (hD : N ≤ D) (o : Obj) : Below N A (W.putObj D o) :=
  ⟨h.os, h.tape, h.output, by rw [World.putObj_size]; exact h.size, fun k hk => (World.putObj_heap_other (by omega)).trans (h.block k hk)⟩
theorem ends_two {D : Nat} {W A B : World} (h1 : Below W.heap.size W A) (h2 : Below A.heap.size A B) (hD : D + 1 < W.heap.size) : B.heap[D]? = W.heap[D]? ∧ B.heap[D + 1]? = W.heap[D + 1]? :=
  ⟨(below_next h1 h2).block D (by omega), (below_next h1 h2).block (D + 1) hD⟩
set_option maxRecDepth 100000 in
set_option maxHeartbeats 8000000 in
theorem bounds_walk (p v s : Int) (w : World) (h : Tabs w) :
    Calls Tryd.prog 7 #[.int .i64 p, .int .i64 v, .int .i64 s] w fun e w' => e = .returned (.bool true) ∧ Below w.heap.size w w' := by
  obtain ⟨N, hN⟩ : ∃ N, N = w.heap.size := ⟨_, rfl⟩
  obtain ⟨W0, hW0⟩ : ∃ W0, W0 = (((w.alloc (.cells #[.int .i64 p] 3)).alloc (.cells #[.int .i64 v] 3)).alloc (.cells #[.int .i64 s] 3)).alloc (.cells #[.bool false] 4) := ⟨_, rfl⟩
  obtain ⟨x0, x1, x2, x3, b0⟩ := four_boxes w #[.int .i64 p] #[.int .i64 v] #[.int .i64 s] #[.bool false] 3 3 3 4
  rw [← hW0, ← hN] at x0 x1 x2 x3 b0
  have HT : Hid (∀ W, Below N w W → Tabs W) := Lib.hid fun W hb => h.keep (by rw [← hN]; exact hb)
  have HD := Lib.hid hN; have HW0 := Lib.hid hW0
  have SP : Hid (Sq N w W0 p v s) := Lib.hid ⟨b0, x0, x1, x2, x3⟩
  clear h hN hW0 b0 x0 x1 x2 x3
  refine calls_marks Tryd.func7 rfl ?_
  simp only [Tryd.ntmps7, List.size_toArray, List.length_cons, List.length_nil, Nat.reduceAdd, Nat.reduceSub, Array.replicate_succ, Array.replicate_zero, List.push_toArray, List.append_toArray, List.nil_append, List.cons_append]
  rw [← HD.out]
  go_wp2_with fail
  rw [← HD.out, ← HW0.out]
  clear HW0
  refine (wakes_any W0 (HT.out _ SP.out.b)).mono ?_
  rintro e w1 ⟨rfl, hb⟩
  have SP := Lib.hid (SP.out.keep hb)
  clear hb
  go_wp2_with fail
  refine (all_any w1).mono ?_
  rintro e wq ⟨rfl, rfl⟩
  go_wp2_with fail
  have hNw : N + 1 + 1 + 1 < w1.heap.size := SP.out.r.lt
  refine wp_all rfl rfl (fun _ W => Below w1.heap.size w1 W) (fun c _ W => c = .ret ∧ w1.grownBy W (some (N + 1 + 1 + 1)) ∧ Bx W (N + 1 + 1 + 1) (.bool true) 4) ?_ ?_ (fun pre A h => HT.out _ (SP.out.keep h).b) (Below.refl _ _) ?_ ?_ ?_
  · rintro pre A C row h1 hg hr
    refine h1.grown hg h1.size fun k hk => ?_
    rcases hr with hr | hr | hr <;> rw [hr] at hk <;> cases hk <;> omega
  · rintro c pre A C row ⟨h0, h1, h2⟩ hg hr
    refine ⟨h0, grown_up h1 hg fun k hk => ?_, h2.gone hg fun e => ?_⟩
    · rcases hr with hr | hr | hr <;> rw [hr] at hk <;> cases hk <;> omega
    · rcases hr with hr | hr | hr <;> rw [hr] at e
      · cases e
      · have := Option.some.inj e; omega
      · have := Option.some.inj e; omega
  · rintro l pre x W _ ⟨rfl, hx21⟩ Kr hKr
    gi_wp2
    refine hKr _ _ (Below.refl _ _) ?_
    rintro o hi - hlt
    have hlt5 : w1.heap.size + 1 < (W.putObj (w1.heap.size + 1) o).heap.size := by rw [World.putObj_size]; exact hlt
    obtain ⟨W', hW'⟩ : ∃ W', W' = W.putObj (w1.heap.size + 1) o := ⟨_, rfl⟩
    rw [← hW'] at hi hlt5 ⊢
    clear hW' hlt
    have SQ := SP.out.keep hi
    have c0 := SQ.p.cell; have c1 := SQ.v.cell
    have hpt := gpoint_any p v pre.length W' (HT.out _ SQ.b)
    have HI := Lib.hid hi
    clear hi SQ
    obtain ⟨k, hk⟩ : ∃ k, pre.length = k := ⟨_, rfl⟩
    rw [hk] at hpt hx21 ⊢
    clear hk
    cases hq : quB p v
    · rw [pnt_no (by rw [hq]; simp)] at hpt
      clear hq
      gi_wp2_with (refine ⟨trivial, ?_⟩; gi_at_call 9; with_reducible refine (CallsIn.inRound _ (callsIn_wide.2 hpt)).mono ?_; rintro e w9 ⟨rfl, hb9⟩; have HB9 := Lib.hid hb9; have SQ9 := Lib.hid (SP.out.keep (HI.out.trans (hb9.mono HI.out.size))); have r0 := SQ9.out.r.cell; have r1 := SQ9.out.r.free; clear hb9)
      refine ⟨ends_call HB9.out hlt5 (by omega), rfl, ?_, ?_⟩
      · exact grown_box (grown_of_below (HI.out.trans (HB9.out.mono HI.out.size)) _) (set_grown _ _ _ _)
      · exact SQ9.out.r.set _
    · rw [pnt_ok hx21 hq] at hpt
      obtain ⟨q1, q2, q3, q4⟩ := quB_iff.1 hq
      obtain ⟨g1, g2⟩ := shS_price q1 k
      obtain ⟨g3, g4⟩ := shS_vol q3 k
      have HM : Hid (∀ q, quB (p + s) v = q → 0 ≤ s → (q = false → pntS (p + s) v (k : Int) = (0, 0, 1)) ∧ (q = true → pntS (p + s) v (k : Int) = (shS (p + s) (shP k), shS v (shV k), 0) ∧ shS p (shP k) ≤ shS (p + s) (shP k))) := Lib.hid fun q h hs =>
        ⟨fun h2 => pnt_no (by rw [h, h2]; simp), fun h2 => ⟨pnt_ok hx21 (h.trans h2), shS_more (by have := shP_range k; omega) (by omega)⟩⟩
      generalize shS p (shP k) = P at *
      generalize shS v (shV k) = V at *
      have t1 : decide (5 * P < 4 * p - 4) = false := decide_eq_false (by omega)
      have t2 : decide (6 * p < 5 * P) = false := decide_eq_false (by omega)
      have t3 : decide (4 * V < 3 * v - 3) = false := decide_eq_false (by omega)
      have t4 : decide (5 * v < 4 * V) = false := decide_eq_false (by omega)
      have p1 : -10 ≤ P := by omega
      have p2 : P ≤ 2000000000000 := by omega
      have v1 : -10 ≤ V := by omega
      have v2 : V ≤ 100000 := by omega
      clear hq g1 g2 g3 g4
      by_cases hs0 : 0 ≤ s
      · by_cases hs1 : s ≤ 1000000000000
        · have HP2 : Hid (∀ W, Below N w W → Calls Tryd.prog 9 #[.int .i64 (p + s), .int .i64 v, .int .i64 (k : Int)] W fun e w' => e = .returned (.tuple #[.int .i64 (pntS (p + s) v k).1, .int .i64 (pntS (p + s) v k).2.1, .int .i64 (pntS (p + s) v k).2.2]) ∧ Below W.heap.size W w') := Lib.hid fun W hb => gpoint_any (p + s) v k W (HT.out _ hb)
          cases hq2 : quB (p + s) v
          · rw [((HM.out _ hq2 hs0).1 rfl)] at HP2
            clear hq2 HM
            gi_wp2_with (first | (refine ⟨trivial, ?_⟩; gi_at_call 9; with_reducible refine (CallsIn.inRound _ (callsIn_wide.2 hpt)).mono ?_; rintro e w9 ⟨rfl, hb9⟩; have HB9 := Lib.hid hb9; have SQ9 := Lib.hid (SP.out.keep (HI.out.trans (hb9.mono HI.out.size))); have c0 := SQ9.out.p.cell; have c1 := SQ9.out.v.cell; have c2 := SQ9.out.s.cell; clear hb9) | (refine ⟨trivial, ?_⟩; gi_at_call 9; with_reducible refine (CallsIn.inRound _ (callsIn_wide.2 (HP2.out _ SQ9.out.b))).mono ?_; rintro e w9 ⟨rfl, hb9⟩; have HB10 := Lib.hid hb9; clear hb9))
            exact ⟨ends_two HB9.out HB10.out hlt5, trivial, HI.out.trans ((below_next HB9.out HB10.out).mono HI.out.size)⟩
          · obtain ⟨e1, e2⟩ := (HM.out _ hq2 hs0).2 rfl
            rw [e1] at HP2
            generalize shS (p + s) (shP k) = Q at *
            have t5 : decide (Q < P) = false := decide_eq_false (by omega)
            clear hq2 HM e1 e2
            gi_wp2_with (first | (refine ⟨trivial, ?_⟩; gi_at_call 9; with_reducible refine (CallsIn.inRound _ (callsIn_wide.2 hpt)).mono ?_; rintro e w9 ⟨rfl, hb9⟩; have HB9 := Lib.hid hb9; have SQ9 := Lib.hid (SP.out.keep (HI.out.trans (hb9.mono HI.out.size))); have c0 := SQ9.out.p.cell; have c1 := SQ9.out.v.cell; have c2 := SQ9.out.s.cell; clear hb9) | (refine ⟨trivial, ?_⟩; gi_at_call 9; with_reducible refine (CallsIn.inRound _ (callsIn_wide.2 (HP2.out _ SQ9.out.b))).mono ?_; rintro e w9 ⟨rfl, hb9⟩; have HB10 := Lib.hid hb9; clear hb9))
            exact ⟨ends_two HB9.out HB10.out hlt5, trivial, HI.out.trans ((below_next HB9.out HB10.out).mono HI.out.size)⟩
        · clear HM
          gi_wp2_with (refine ⟨trivial, ?_⟩; gi_at_call 9; with_reducible refine (CallsIn.inRound _ (callsIn_wide.2 hpt)).mono ?_; rintro e w9 ⟨rfl, hb9⟩; have HB9 := Lib.hid hb9; have SQ9 := Lib.hid (SP.out.keep (HI.out.trans (hb9.mono HI.out.size))); have c0 := SQ9.out.p.cell; have c1 := SQ9.out.v.cell; have c2 := SQ9.out.s.cell; clear hb9)
          exact ⟨⟨HB9.out.block _ (by omega), HB9.out.block _ hlt5⟩, trivial, HI.out.trans (HB9.out.mono HI.out.size)⟩
      · clear HM
        gi_wp2_with (refine ⟨trivial, ?_⟩; gi_at_call 9; with_reducible refine (CallsIn.inRound _ (callsIn_wide.2 hpt)).mono ?_; rintro e w9 ⟨rfl, hb9⟩; have HB9 := Lib.hid hb9; have SQ9 := Lib.hid (SP.out.keep (HI.out.trans (hb9.mono HI.out.size))); have c0 := SQ9.out.p.cell; have c1 := SQ9.out.v.cell; have c2 := SQ9.out.s.cell; clear hb9)
        exact ⟨⟨HB9.out.block _ (by omega), HB9.out.block _ hlt5⟩, trivial, HI.out.trans (HB9.out.mono HI.out.size)⟩
  · rintro xs U hl hi hK
    have SQ := SP.out.keep hi
    have r0 := SQ.r.cell; have r1 := SQ.r.free
    have HQ := Lib.hid SQ; have HM : Hid (Mk N [{ target := .collected w1.heap.size, args := #[] }] U) := Lib.hid ⟨marks_one hK, low_one (by omega)⟩
    clear hi hK SQ
    go_wp2_with fail
    exact ret_box rfl rfl HM.out HQ.out.r (by omega) HQ.out.b
  · rintro c pre U ⟨rfl, hg, hr⟩ hK
    have HM : Hid (Mk N [{ target := .collected w1.heap.size, args := #[] }] U) := Lib.hid ⟨marks_one hK, low_one (by omega)⟩
    have HG := Lib.hid (SP.out.b.trans ((Below.refl _ _).grown hg (by omega) fun k hk => by have := Option.some.inj hk; omega))
    have HR := Lib.hid hr
    clear hg hr hK
    go_wp2_with fail
    exact ret_done rfl rfl HM.out HR.out HG.out
end Go.Proofs.YtbnihoimhfcjiaaDoor.Gr

/-
  Layer 12: the laws over points.
-/
import Derived.Test.YtbnihoimhfcjiaaDoorHg
import Derived.Test.YtbnihoimhfcjiaaDoorGq
import Derived.Deep.RegionHeld3
import Derived.Stop.RegionWithIn
namespace Go.Proofs.YtbnihoimhfcjiaaDoor.Gr
open Go.RowKit Go.Shelf Rf
open Go.Proofs.YtbnihoimhfcjiaaDoor.Fx Ot Ao
set_option linter.unusedVariables false
set_option linter.unusedSimpArgs false
attribute [local go_sem] Oper.semAt_some

theorem all_any (w : World) : Calls Tryd.prog 11 #[] w fun e w' => e = .returned (.func (.func 22) #[] #[]) ∧ w = w' := by
  go_enter Tryd.func11, Tryd.ntmps11
  go_wp2
  go_ret
  exact ⟨rfl, rfl⟩
theorem eql_two (a b : Int) (w : World) : (Op.equalIn 10000 29 (.agg #[.int .i64 a, .int .i64 b]) (.agg #[.int .i64 a, .int .i64 b])).run Tryd.prog w = .ok true w := by
  have h : ∀ j, j < 2 → (#[Value.int .i64 a, .int .i64 b] : Array Value)[j]? = some (.int .i64 ([a, b].getD j 0)) := fun j hj => by
    match j, hj with
    | 0, _ | 1, _ => rfl
  rw [eql_rows Tryd.underlying29 _ _ _ _ h h w]
  simp
/-- What stands between the loops of GridPoints: the boxes of s and of the result, marks. -/
structure Sp (N : Nat) (w W : World) (s : Int) (ds : List Deferred) : Prop where
  b : Below N w W
  s : Bx W N (.int .i64 s) 3
  r : Bx W (N + 1) (.bool false) 4
  m : Mk N ds W
theorem Sp.keep {N : Nat} {w A W : World} {s : Int} {ds : List Deferred} (h : Sp N w A s ds) (hb : Below A.heap.size A W) : Sp N w W s ds :=
  ⟨h.b.trans (hb.mono (by have := h.s.lt; omega)), h.s.keep hb, h.r.keep hb, h.m.keep hb⟩
theorem Sp.more {N : Nat} {w A V W : World} {s : Int} {ds : List Deferred} (h : Sp N w A s ds) (hb : Below A.heap.size A V) (hw : Below A.heap.size A W) (hk : W.heap[V.heap.size]? = some (.deferred (some []))) :
    Sp N w W s ({ target := .collected V.heap.size, args := #[] } :: ds) := by
  have h2 := h.keep hw
  have hN : N ≤ A.heap.size := by have := h.s.lt; omega
  exact ⟨h2.b, h2.s, h2.r, Mk.cons h.m hb.size h2.m hk (Nat.le_trans hN hb.size)⟩
-- GEN
theorem InNew.keep {β : Type} {A W W' : World} {T : TypeId} {f : List β → Value} {pre : List β} (h : InNew A T f pre W) (hb : Below W.heap.size W W') : InNew A T f pre W' := ⟨h.1.trans (hb.mono h.1.size), h.2.keep hb⟩
theorem ends_call {D g : Nat} {W W' : World} {v : Value} (hb : Below W.heap.size W W') (hD : D + 1 < W.heap.size) (hg : g < D) : (W'.setCell ⟨g, 0, none⟩ v).heap[D]? = W.heap[D]? ∧ (W'.setCell ⟨g, 0, none⟩ v).heap[D + 1]? = W.heap[D + 1]? :=
  ⟨(ends_box hg).1.trans (hb.block D (by omega)), (ends_box hg).2.trans (hb.block (D + 1) hD)⟩
set_option maxRecDepth 100000 in
set_option maxHeartbeats 8000000 in
theorem points_walk (p v s : Int) (w : World) (h : Tabs w) :
    Calls Tryd.prog 3 #[.int .i64 p, .int .i64 v, .int .i64 s] w fun e w' => e = .returned (.bool true) ∧ Below w.heap.size w w' := by
  obtain ⟨N, hN⟩ : ∃ N, N = w.heap.size := ⟨_, rfl⟩
  obtain ⟨W0, hW0⟩ : ∃ W0, W0 = (w.alloc (.cells #[.int .i64 s] 3)).alloc (.cells #[.bool false] 4) := ⟨_, rfl⟩
  obtain ⟨s0, r0, b0⟩ := two_boxes w #[.int .i64 s] #[.bool false] 3 4
  rw [← hW0, ← hN] at s0 r0 b0
  have HT : Hid (∀ W, Below N w W → Tabs W) := Lib.hid fun W hb => h.keep (by rw [← hN]; exact hb)
  have HD := Lib.hid hN; have HW0 := Lib.hid hW0
  have SP : Hid (Sp N w W0 s []) := Lib.hid ⟨b0, s0, r0, Mk.nil N W0⟩
  clear h hN hW0 b0 s0 r0
  refine calls_marks Tryd.func3 rfl ?_
  simp only [Tryd.ntmps3, List.size_toArray, List.length_cons, List.length_nil, Nat.reduceAdd, Nat.reduceSub, Array.replicate_succ, Array.replicate_zero, List.push_toArray, List.append_toArray, List.nil_append, List.cons_append]
  rw [← HD.out]
  go_wp2_with fail
  rw [← HD.out, ← HW0.out]
  clear HW0
  refine (wakes_any W0 (HT.out _ SP.out.b)).mono ?_
  rintro e w1 ⟨rfl, hb⟩
  have SP := Lib.hid (SP.out.keep hb)
  clear hb
  have cs := SP.out.s.cell
  go_wp2_with fail
  refine (gpoint_any p v s w1 (HT.out _ SP.out.b)).mono ?_
  rintro e w2 ⟨rfl, hb⟩
  have SP := Lib.hid (SP.out.keep hb)
  clear hb cs
  have cs := SP.out.s.cell
  go_wp2_with fail
  refine (rpoint_any p v s w2).mono ?_
  rintro e w3 ⟨rfl, hb⟩
  have SP := Lib.hid (SP.out.keep hb)
  clear hb cs
  obtain ⟨a1, ha1⟩ : ∃ a, (pntS p v s).1 = a := ⟨_, rfl⟩
  obtain ⟨a2, ha2⟩ : ∃ a, (pntS p v s).2.1 = a := ⟨_, rfl⟩
  obtain ⟨a3, ha3⟩ : ∃ a, (pntS p v s).2.2 = a := ⟨_, rfl⟩
  rw [ha1, ha2, ha3]
  clear ha1 ha2 ha3
  have t1 : (a1 != a1) = false := bne_self_eq_false _
  have t2 : (a2 != a2) = false := bne_self_eq_false _
  have t3 : (a3 != a3) = false := bne_self_eq_false _
  go_wp2_with fail
  clear t1 t2 t3
  refine wp_loop_rounds 3 ?_
  rw [rounds_succ]
  go_wp2_with fail
  obtain ⟨V1, hV1⟩ : ∃ V, V = w3.alloc (.cells #[.int .i64 0] 3) := ⟨_, rfl⟩
  have hbV1 : Below w3.heap.size w3 V1 := by rw [hV1]; exact one_alloc _ _
  have hxV1 : Bx V1 w3.heap.size (.int .i64 0) 3 := by rw [hV1]; exact Bx.new w3 _ _
  have HZV1 : Hid (V1.heap.size = w3.heap.size + 1) := Lib.hid (by rw [hV1, World.size_alloc])
  rw [← hV1]
  clear hV1
  refine (all_any V1).mono ?_
  rintro e wq ⟨rfl, rfl⟩
  go_wp2_with fail
  refine wp_all rfl rfl (InNew w3 3 fun pre => .int .i64 (pre.length : Int)) (fun _ _ _ => False) (InNew.stands (by have := HZV1.out; omega)) (fun _ _ _ _ _ h _ _ => h) (fun pre A h => HT.out _ (SP.out.keep h.1).b) ⟨hbV1, hxV1⟩ ?_ ?_ ?_
  · rintro l pre x W hi0 ⟨rfl, hx21⟩ Kr hKr
    gi_wp2
    refine hKr _ _ (one_alloc W _) ?_
    intro o hi hok hlt
    have hsz := World.size_alloc W (.cells #[.int .i64 (shP pre.length), .int .i64 (shV pre.length)] 29)
    have d0 := Bk.new W #[.int .i64 (shP pre.length), .int .i64 (shV pre.length)] 29
    have hd : Bk ((W.alloc (.cells #[.int .i64 (shP pre.length), .int .i64 (shV pre.length)] 29)).putObj (V1.heap.size + 1) o) W.heap.size #[.int .i64 (shP pre.length), .int .i64 (shV pre.length)] 29 := (World.putObj_heap_other (by omega)).trans d0
    have hz5 : ((W.alloc (.cells #[.int .i64 (shP pre.length), .int .i64 (shV pre.length)] 29)).putObj (V1.heap.size + 1) o).heap.size = W.heap.size + 1 := by rw [World.putObj_size, hsz]
    obtain ⟨W5, hW5⟩ : ∃ W5, W5 = (W.alloc (.cells #[.int .i64 (shP pre.length), .int .i64 (shV pre.length)] 29)).putObj (V1.heap.size + 1) o := ⟨_, rfl⟩
    obtain ⟨gd, hgd⟩ : ∃ gd, gd = W.heap.size := ⟨_, rfl⟩
    rw [← hW5, ← hgd] at hd hz5
    rw [← hW5] at hi
    rw [← hgd] at hlt
    rw [← hW5, ← hgd]
    clear hW5 hgd d0 hsz hok hi0
    have HSH : Hid (∀ W, Below W5.heap.size W5 W → Calls Tryd.prog 12 #[.int .i64 (pre.length : Int)] W fun e w' => e = .returned (.agg #[.int .i64 (shP pre.length), .int .i64 (shV pre.length)]) ∧ Below W5.heap.size W5 w') := Lib.hid fun W hb => (rshift_any pre.length hx21 W).mono fun e w' ⟨h1, h2⟩ => ⟨h1, hb.trans (h2.mono hb.size)⟩
    have n0 := hi.2.cell; have n1 := hi.2.free
    obtain ⟨d0, d1⟩ := Bk.two hd
    have HDB := Lib.hid hd; have HI := Lib.hid hi
    have HLT : Hid (V1.heap.size + 1 < W5.heap.size) := Lib.hid (by rw [hz5]; omega)
    have q1 := fun w => eql_two (shP pre.length) (shV pre.length) w
    have q2 : ((pre.length : Int) != (pre.length : Int)) = false := bne_self_eq_false _
    have q3 : decide ((21 : Int) ≤ (pre.length : Int)) = false := decide_eq_false (by omega)
    clear hi hz5 hd
    gi_wp2
    gi_region_with (first | (refine ⟨trivial, ?_⟩; gi_at_call 12; refine (CallsIn.inRound _ (callsIn_wide.2 (HSH.out _ (by first | exact Below.refl _ _ | exact (Below.refl _ _).drew)))).mono ?_; rintro e w9 ⟨rfl, hb9⟩; obtain ⟨d0, d1⟩ := Bk.two (Bk.keep HDB.out hb9); have HB9 := Lib.hid hb9; have n0 := (HI.out.2.keep hb9).cell; have n1 := (HI.out.2.keep hb9).free; clear hb9))
    all_goals
      gi_wp2
      exact ⟨ends_call HB9.out HLT.out (by have := HZV1.out; omega), trivial, (InNew.keep HI.out HB9.out).set (by simp)⟩
  rotate_left
  · rintro c pre W h _
    exact h.elim
  rintro xs U2 hl hi hK
  have n0 : U2.cell? ⟨w3.heap.size, 0, none⟩ = some (.int .i64 21) := hi.2.cell.trans (congrArg (fun n : Nat => some (Value.int .i64 (n : Int))) hl)
  have SP := Lib.hid (SP.out.more hbV1 hi.1 hK)
  clear hi hK hxV1 hbV1 hl xs
  go_wp2_with fail
  clear n0
  rw [rounds_succ]
  go_wp2_with fail
  obtain ⟨V2, hV2⟩ : ∃ V, V = U2.alloc (.cells #[.int .i64 0] 3) := ⟨_, rfl⟩
  have hbV2 : Below U2.heap.size U2 V2 := by rw [hV2]; exact one_alloc _ _
  have hxV2 : Bx V2 U2.heap.size (.int .i64 0) 3 := by rw [hV2]; exact Bx.new U2 _ _
  have HZV2 : Hid (V2.heap.size = U2.heap.size + 1) := Lib.hid (by rw [hV2, World.size_alloc])
  rw [← hV2]
  clear hV2
  refine (all_any V2).mono ?_
  rintro e wq ⟨rfl, rfl⟩
  go_wp2_with fail
  refine wp_all rfl rfl (InNew U2 3 fun pre => .int .i64 (pre.length : Int)) (fun _ _ _ => False) (InNew.stands (by have := HZV2.out; omega)) (fun _ _ _ _ _ h _ _ => h) (fun pre A h => HT.out _ (SP.out.keep h.1).b) ⟨hbV2, hxV2⟩ ?_ ?_ ?_
  · rintro l pre x W hi0 ⟨rfl, hx21⟩ Kr hKr
    gi_wp2
    refine hKr _ _ (one_alloc W _) ?_
    intro o hi hok hlt
    have hsz := World.size_alloc W (.cells #[.int .i64 (shP pre.length), .int .i64 (shV pre.length)] 29)
    have d0 := Bk.new W #[.int .i64 (shP pre.length), .int .i64 (shV pre.length)] 29
    have hd : Bk ((W.alloc (.cells #[.int .i64 (shP pre.length), .int .i64 (shV pre.length)] 29)).putObj (V2.heap.size + 1) o) W.heap.size #[.int .i64 (shP pre.length), .int .i64 (shV pre.length)] 29 := (World.putObj_heap_other (by omega)).trans d0
    have hz5 : ((W.alloc (.cells #[.int .i64 (shP pre.length), .int .i64 (shV pre.length)] 29)).putObj (V2.heap.size + 1) o).heap.size = W.heap.size + 1 := by rw [World.putObj_size, hsz]
    obtain ⟨W5, hW5⟩ : ∃ W5, W5 = (W.alloc (.cells #[.int .i64 (shP pre.length), .int .i64 (shV pre.length)] 29)).putObj (V2.heap.size + 1) o := ⟨_, rfl⟩
    obtain ⟨gd, hgd⟩ : ∃ gd, gd = W.heap.size := ⟨_, rfl⟩
    rw [← hW5, ← hgd] at hd hz5
    rw [← hW5] at hi
    rw [← hgd] at hlt
    rw [← hW5, ← hgd]
    clear hW5 hgd d0 hsz hok hi0
    have HSH : Hid (∀ W, Below W5.heap.size W5 W → Calls Tryd.prog 12 #[.int .i64 (pre.length : Int)] W fun e w' => e = .returned (.agg #[.int .i64 (shP pre.length), .int .i64 (shV pre.length)]) ∧ Below W5.heap.size W5 w') := Lib.hid fun W hb => (rshift_any pre.length hx21 W).mono fun e w' ⟨h1, h2⟩ => ⟨h1, hb.trans (h2.mono hb.size)⟩
    have n0 := hi.2.cell; have n1 := hi.2.free
    obtain ⟨d0, d1⟩ := Bk.two hd
    have HDB := Lib.hid hd; have HI := Lib.hid hi
    have HLT : Hid (V2.heap.size + 1 < W5.heap.size) := Lib.hid (by rw [hz5]; omega)
    have q1 := fun w => eql_two (shP pre.length) (shV pre.length) w
    have q2 : ((pre.length : Int) != (pre.length : Int)) = false := bne_self_eq_false _
    have q3 : decide ((21 : Int) ≤ (pre.length : Int)) = false := decide_eq_false (by omega)
    clear hi hz5 hd
    gi_wp2
    gi_region_with (first | (refine ⟨trivial, ?_⟩; gi_at_call 12; refine (CallsIn.inRound _ (callsIn_wide.2 (HSH.out _ (by first | exact Below.refl _ _ | exact (Below.refl _ _).drew)))).mono ?_; rintro e w9 ⟨rfl, hb9⟩; obtain ⟨d0, d1⟩ := Bk.two (Bk.keep HDB.out hb9); have HB9 := Lib.hid hb9; have n0 := (HI.out.2.keep hb9).cell; have n1 := (HI.out.2.keep hb9).free; clear hb9))
    all_goals
      gi_wp2
      exact ⟨ends_call HB9.out HLT.out (by have := HZV2.out; omega), trivial, (InNew.keep HI.out HB9.out).set (by simp)⟩
  rotate_left
  · rintro c pre W h _
    exact h.elim
  rintro xs U3 hl hi hK
  have n0 : U3.cell? ⟨U2.heap.size, 0, none⟩ = some (.int .i64 21) := hi.2.cell.trans (congrArg (fun n : Nat => some (Value.int .i64 (n : Int))) hl)
  have SP := Lib.hid (SP.out.more hbV2 hi.1 hK)
  clear hi hK hxV2 hbV2 hl xs
  go_wp2_with fail
  clear n0
  rw [rounds_succ]
  go_wp2_with fail
  obtain ⟨V3, hV3⟩ : ∃ V, V = U3.alloc (.cells #[.int .i64 0] 3) := ⟨_, rfl⟩
  have hb3 : Below U3.heap.size U3 V3 := by rw [hV3]; exact one_alloc _ _
  have hx3 : Bx V3 U3.heap.size (.int .i64 0) 3 := by rw [hV3]; exact Bx.new U3 _ _
  have HZV3 : Hid (V3.heap.size = U3.heap.size + 1) := Lib.hid (by rw [hV3, World.size_alloc])
  rw [← hV3]
  clear hV3
  refine (all_any V3).mono ?_
  rintro e wq ⟨rfl, rfl⟩
  go_wp2_with fail
  refine wp_all rfl rfl (fun pre W => InNew U3 3 (fun pre => .int .i64 (pre.length : Int)) pre W ∧ (pre.length = 0 ∨ (pre.length : Int) < s))
    (fun c pre W => c = .exit 4 ∧ InNew U3 3 (fun pre => .int .i64 (pre.length : Int)) pre W ∧ s ≤ (pre.length : Int) ∧ (pre.length = 1 ∨ (pre.length : Int) - 1 < s) ∧ pre.length ≤ 21 ∧ 1 ≤ pre.length) ?_ ?_ (fun pre A h => HT.out _ (SP.out.keep h.1.1).b) ⟨⟨hb3, hx3⟩, .inl rfl⟩ ?_ ?_ ?_
  · rintro pre A C row ⟨h1, h2⟩ hg hr
    exact ⟨InNew.stands (by have := HZV3.out; omega) _ _ _ _ h1 hg hr, h2⟩
  · rintro c pre A C row ⟨h0, h1, h2⟩ hg hr
    exact ⟨h0, InNew.stands (by have := HZV3.out; omega) _ _ _ _ h1 hg hr, h2⟩
  · rintro l pre x W _ ⟨rfl, hx21⟩ Kr hKr
    gi_wp2
    refine hKr _ _ (Below.refl _ _) ?_
    rintro o ⟨hi, hi3⟩ - hlt
    have hlt5 : V3.heap.size + 1 < (W.putObj (V3.heap.size + 1) o).heap.size := by rw [World.putObj_size]; exact hlt
    obtain ⟨W', hW'⟩ : ∃ W', W' = W.putObj (V3.heap.size + 1) o := ⟨_, rfl⟩
    rw [← hW'] at hi hlt5 ⊢
    clear hW' hlt
    have n0 := hi.2.cell; have n1 := hi.2.free
    have hset : InNew U3 3 (fun pre => .int .i64 (pre.length : Int)) (pre ++ [pre.length]) (W'.setCell ⟨U3.heap.size, 0, none⟩ (.int .i64 ((pre.length : Int) + 1))) := hi.set (by simp)
    have n2 : (W'.setCell ⟨U3.heap.size, 0, none⟩ (.int .i64 ((pre.length : Int) + 1))).cell? ⟨U3.heap.size, 0, none⟩ = some (.int .i64 ((pre.length : Int) + 1)) := (hi.2.set _).cell
    have st2 := (SP.out.keep hset.1).s.cell
    have HS := Lib.hid hset; have H3 := Lib.hid hi3
    have HPL : Hid ((pre ++ [pre.length]).length = pre.length + 1) := Lib.hid (by simp)
    have HEND := Lib.hid (ends_box (W := W') (D := V3.heap.size) (g := U3.heap.size) (v := .int .i64 ((pre.length : Int) + 1)) (by have := HZV3.out; omega))
    clear hi hset hi3
    by_cases hs : s ≤ (pre.length : Int) + 1
    · have d5 : decide (s ≤ (pre.length : Int) + 1) = true := by rw [decide_eq_true_eq]; exact hs
      gi_wp2
      refine ⟨HEND.out, rfl, HS.out, ?_, ?_, ?_, ?_⟩
      · rw [HPL.out]; omega
      · rw [HPL.out]; have := H3.out; omega
      · rw [HPL.out]; omega
      · rw [HPL.out]; omega
    · have d5 : decide (s ≤ (pre.length : Int) + 1) = false := by rw [decide_eq_false_iff_not]; exact hs
      gi_wp2
      refine ⟨HEND.out, trivial, HS.out, ?_⟩
      rw [HPL.out]; omega
  · rintro xs U4 hl ⟨hi, hi3⟩ hK
    have n0 : U4.cell? ⟨U3.heap.size, 0, none⟩ = some (.int .i64 21) := hi.2.cell.trans (congrArg (fun n : Nat => some (Value.int .i64 (n : Int))) hl)
    have SP := Lib.hid (SP.out.more hb3 hi.1 hK)
    have st0 := SP.out.s.cell; have rf := SP.out.r.free; have rc := SP.out.r.cell
    have h1 : (21 : Int) < s := by omega
    clear hi hi3 hl hK hx3 hb3 xs
    go_wp2_with fail
    exact ret_box rfl rfl SP.out.m SP.out.r (by omega) SP.out.b
  · rintro c pre U4 ⟨rfl, hi, hi3, hi4, hi5, hi6⟩ hK
    obtain ⟨k, hk⟩ : ∃ k, pre.length = k := ⟨_, rfl⟩
    have n0 : U4.cell? ⟨U3.heap.size, 0, none⟩ = some (.int .i64 (k : Int)) := hi.2.cell.trans (congrArg (fun n : Nat => some (Value.int .i64 (n : Int))) hk)
    have SP := Lib.hid (SP.out.more hb3 hi.1 hK)
    have st0 := SP.out.s.cell; have rf := SP.out.r.free; have rc := SP.out.r.cell
    rw [hk] at hi3 hi4 hi5 hi6
    clear hi hK hx3 hb3 hk
    by_cases hs1 : s < 1
    · obtain rfl : k = 1 := by omega
      clear hi3 hi4 hi5 hi6
      go_wp2_with fail
      exact ret_box rfl rfl SP.out.m SP.out.r (by omega) SP.out.b
    · obtain rfl : s = (k : Int) := by omega
      clear hi3 hi4 hs1
      by_cases hk1 : k = 1
      · subst hk1
        clear hi5 hi6
        go_wp2_with fail
        exact ret_box rfl rfl SP.out.m SP.out.r (by omega) SP.out.b
      · have h1 : (1 : Int) < (k : Int) := by omega
        have h2 : (k : Int) ≤ 21 := by omega
        have m3 : ((k : Int) == (k : Int)) = true := beq_self_eq_true _
        clear hk1 hi5 hi6
        go_wp2_with fail
        exact ret_box rfl rfl SP.out.m SP.out.r (by omega) SP.out.b
end Go.Proofs.YtbnihoimhfcjiaaDoor.Gr

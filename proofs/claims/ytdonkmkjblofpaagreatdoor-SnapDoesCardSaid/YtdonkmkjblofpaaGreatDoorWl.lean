/-
  Layer 5: Open.
-/
import Derived.Test.YtdonkmkjblofpaaGreatDoorWk
import Derived.Defers
import Derived.Recover
namespace Go.Proofs.YtdonkmkjblofpaaGreatDoor.Wl
open Go.RowKit Go.Sort Dx Sx Dk
set_option linter.unusedVariables false
set_option linter.unusedSimpArgs false
set_option maxRecDepth 100000 in
theorem catch_idle (p4 p5 p6 p7 : Addr) (w : World) :
    CallsD Tryz.prog 77 #[.pointer (some p4), .pointer (some p5), .pointer (some p6), .pointer (some p7)] .returning w fun e u' w' => e = .returned (.tuple #[]) ∧ u' = .returning ∧ w' = w := by
  refine callsD_of_wpS Tryz.func77 rfl fun c₀ cs hu => ?_
  apply wpS_seq
  apply wpS_region
  simp [wpOpsS, go_sem, recoverD, hu, Tryz.ntmps77, Exit.thenS]
  apply wpS_seq
  apply wpS_region
  simp [wpOpsS, go_sem, Exit.thenS]
  refine wpS_cond (t := false) (by simp [Act.eval, Array.replicate]) ?_
  simp only [Bool.false_eq_true, if_false]
  refine wpS_of_wp (wp_skip ?_)
  cases c₀
  simp_all [bodyPostS, results, Tryz.results77]
set_option maxRecDepth 100000 in
theorem catch_panicking (b4 b5 b6 b7 : Nat) (c : Int) (older : List PanicEntry) (w : World) (h4 : ∃ x, w.cell? ⟨b4, 0, none⟩ = some x) (h5 : ∃ x, w.cell? ⟨b5, 0, none⟩ = some x) (h6 : ∃ x, w.cell? ⟨b6, 0, none⟩ = some x) (h7 : ∃ x, w.cell? ⟨b7, 0, none⟩ = some x)
    (f4 : w.frozen? ⟨b4, 0, none⟩ = false) (f5 : w.frozen? ⟨b5, 0, none⟩ = false) (f6 : w.frozen? ⟨b6, 0, none⟩ = false) (f7 : w.frozen? ⟨b7, 0, none⟩ = false) (d5 : b5 = b4 + 1) (d6 : b6 = b4 + 2) (d7 : b7 = b4 + 3) :
    CallsD Tryz.prog 77 #[.pointer (some ⟨b4, 0, none⟩), .pointer (some ⟨b5, 0, none⟩), .pointer (some ⟨b6, 0, none⟩), .pointer (some ⟨b7, 0, none⟩)] (.panicking ({ v := .iface 24 (.int .i64 c), recovered := false } :: older)) w fun e u' w' => e = .returned (.tuple #[]) ∧ u' = .panicking ({ v := .iface 24 (.int .i64 c), recovered := true } :: older) ∧
      w' = ((((w.setCell ⟨b4, 0, none⟩ (.pointer none)).setCell ⟨b5, 0, none⟩ (.slice none 0 0)).setCell ⟨b6, 0, none⟩ (.int .i64 0)).setCell ⟨b7, 0, none⟩ (.int .i64 c)).drew := by
  refine callsD_of_wpS Tryz.func77 rfl fun c₀ cs hu => ?_
  apply wpS_seq
  apply wpS_region
  simp [wpOpsS, go_sem, recoverD, hu, Tryz.ntmps77, Exit.thenS]
  apply wpS_seq
  apply wpS_region
  simp [wpOpsS, go_sem, Exit.thenS]
  refine wpS_cond (t := true) (by simp [Act.eval, Array.replicate]) ?_
  simp only [if_true]
  refine wpS_of_wp ?_
  obtain ⟨x4, h4⟩ := h4; obtain ⟨x5, h5⟩ := h5; obtain ⟨x6, h6⟩ := h6; obtain ⟨x7, h7⟩ := h7
  subst d5 d6 d7
  simp only [List.append_toArray, List.cons_append, List.nil_append, List.setIfInBounds_toArray, List.set_cons_zero, List.set_cons_succ, Array.replicate, List.replicate, List.replicate_succ]
  have ta : ∀ (w : World) (t : TypeId), (Instr.typeAssert (.iface 24 (.int .i64 c)) t 24 false).run Tryz.prog w = .ok (.int .i64 c) w := fun _ _ => by kernel_rfl
  go_region
  simp [bodyPostS, results, Tryz.results77]
theorem setCell_noop (w : World) (b o : Nat) (v : Value) (h : w.cell? ⟨b, o, none⟩ = some v) : w.setCell ⟨b, o, none⟩ v = w := by
  cases w with
  | mk heap tape drawn os output =>
    simp only [World.setCell, World.cell?] at h ⊢
    congr 1
    apply Array.ext (by simp)
    intro k h1 h2
    rw [Array.getElem_modify]
    split
    · rename_i hk
      subst hk
      rw [Array.getElem?_eq_getElem h2] at h
      generalize hx : heap[b] = x at h ⊢
      cases x <;> simp_all
      rename_i cs t fz
      apply Array.ext (by simp)
      intro i hi1 hi2
      rw [Array.getElem_setIfInBounds]
      split
      · rename_i ho; subst ho; rw [Array.getElem?_eq_getElem hi2] at h; simpa using h.symm
      · rfl
    · rfl
theorem takeL {Pr : Program} {md : Region.Mode} {L : List Oper} {Q : Exit → Act → World → Prop} {S : World → Prop} {i : Nat} {oi : Oper} {v : Value} {fuel : Nat} {listed : Array Bool} {a : Act} {w : World} (hi : L[i]? = some oi)
    (hs : Region.noSelect L.toArray = true) (hf : Region.free md L.toArray listed i = true) (hr : (Region.ready md L.toArray listed).contains i = true)
    (hQ : ∀ c a w, Q (.panic c) (a.put oi.dst v) w → Q (.panic c) a w) (hy : YieldsIf Pr L.toArray S oi v a) (hS : S w)
    (h : wpAnyH Pr md L.toArray Q S fuel (listed.setIfInBounds i true) (a.put oi.dst v) w) : wpAnyH Pr md L.toArray Q S (fuel + 1) listed a w :=
  wpAnyH_take (by simpa using hi) hs hf hr hQ hy hS h
theorem consL {Pr : Program} {md : Region.Mode} {L : List Oper} {Q : Exit → Act → World → Prop} {S : World → Prop} {fuel : Nat} {listed : Array Bool} {a : Act} {w : World} {i : Nat} {o : Oper} {rs : List Nat} (ho : L[i]? = some o)
    (h : ∀ K' : Act → World → Prop, Shut (∀ a w, S w → (S w → wpAnyH Pr md L.toArray Q S fuel (listed.setIfInBounds i true) a w) → K' a w) → if Region.wanted o (yielded L.toArray a.tmps) = true then Oper.wp Pr o a w K' Q else K' (a.put o.dst undef) w)
    (hs : AllReadyH Pr md L.toArray Q S fuel listed a w rs) : AllReadyH Pr md L.toArray Q S fuel listed a w (i :: rs) := AllReadyH.cons (by simpa using ho) h hs
/-- What Open answers. -/
def OpenR (w : World) (O : Nat → Prop) (d : Nat) (S : St) (per : Int) (ns : List Nat) (e : Ending) (w' : World) : Prop :=
  if (openS ns S).1 = 0 then ∃ g v O', e = .returned (.tuple #[.pointer (some ⟨g, 0, none⟩), v, .int .i64 (ns.headD 1 : Nat), .int .i64 0]) ∧ w.heap.size ≤ g ∧ ¬ O' g ∧ w'.heap[g]? = some (.cells (walC d per (nextO ns (ns.headD 1) S) (lastO ns 1) 0) 103 (0, 0)) ∧
    WasS (fun b => w.heap.size ≤ b ∧ b < w'.heap.size ∧ ¬ O' b ∧ b ≠ g) w' (recsO ns S) (recsO ns S).length v ∧ Step w O w' O' ∧ IsDisk w' O' d (openS ns S).2
  else e = .returned (.tuple #[.pointer none, .slice none 0 0, .int .i64 0, .int .i64 (openS ns S).1]) ∧ Has w O d (openS ns S).2 w'
theorem next_sum : ∀ (ns : List Nat) (nx : Nat) (S : St), nextO ns nx S = nx + (recsO ns S).length
  | [], nx, S => rfl
  | n :: r, nx, S => by
    unfold nextO recsO
    rw [next_sum r, List.length_append]; omega
theorem fin_has {w w4 w5 wb : World} {O O' : Nat → Prop} {d : Nat} {S' : St} (hlow : ∀ i, O i → i < w.heap.size) (hb4 : Below w.heap.size w w4) (hs4 : w4.heap.size = w.heap.size + 4) (st : Step w4 O w5 O') (hd5 : IsDisk w5 O' d S') (ht : Turned (fun i => w.heap.size ≤ i ∧ i < w.heap.size + 4) w5 wb) : Step w O wb O' ∧ IsDisk wb O' d S' := by
  have hno : ∀ i, O' i → ¬ (w.heap.size ≤ i ∧ i < w.heap.size + 4) := fun i hi h => by
    rcases st.own i hi with h1 | h1
    · have := hlow i h1; omega
    · omega
  refine ⟨⟨⟨ht.os.trans (st.os.trans hb4.os), ht.tape.trans (st.tape.trans hb4.tape), ht.output.trans (st.output.trans hb4.output), Nat.le_trans (by omega) (Nat.le_trans st.size ht.size), fun k hk hn => ?_⟩, fun k hk => ?_⟩, hd5.turned ht hno⟩
  · exact (ht.block k (by have := st.size; omega) (by omega)).trans ((st.block k (by omega) hn).trans (hb4.block k hk))
  · rcases st.own k hk with h1 | h1
    · exact .inl h1
    · exact .inr (by omega)
theorem fin_open {w w4 w5 wb : World} {O' : Nat → Prop} {g n : Nat} {v : Value} {R : List (List Int)} {x : Obj} (hs4 : w4.heap.size = w.heap.size + 4) (hgs : w4.heap.size ≤ g) (hgw : w5.heap[g]? = some x)
    (was : WasS (fun b => w4.heap.size ≤ b ∧ b < w5.heap.size ∧ ¬ O' b ∧ b ≠ g) w5 R n v) (ht : Turned (fun i => w.heap.size ≤ i ∧ i < w.heap.size + 4) w5 wb) :
    w.heap.size ≤ g ∧ wb.heap[g]? = some x ∧ WasS (fun b => w.heap.size ≤ b ∧ b < wb.heap.size ∧ ¬ O' b ∧ b ≠ g) wb R n v := by
  refine ⟨by omega, (ht.block g (lt_of_heap hgw) (by omega)).trans hgw, (was.keep fun b hb hl => ht.block b hl (by omega)).mono fun b hb => ⟨by omega, Nat.lt_of_lt_of_le hb.2.1 ht.size, hb.2.2.1, hb.2.2.2⟩⟩
def outC (w : World) : World := (((w.alloc (.cells #[.pointer none] 60)).alloc (.cells #[.slice none 0 0] 27)).alloc (.cells #[.int .i64 0] 3)).alloc (.cells #[.int .i64 0] 24)
set_option maxRecDepth 100000 in
set_option maxHeartbeats 1600000 in
theorem Open_any {w : World} {O : Nat → Prop} {d : Nat} {S : St} {ns : List Nat} (hd : IsDisk w O d S) (hup : S.down = false) (hs : Segs S ns) (ht : Tabs w) (per : Int) (hper : 1 ≤ per) (hch : Chain ns (ns.headD 1) S) (hR : (recsO ns S).length ≤ 1048576) (hgl : ∀ i, glob i → ¬ O i) :
    Calls Tryz.prog 41 #[.pointer (some ⟨d, 0, none⟩), .int .i64 per] w (OpenR w O d S per ns) := by
  have hb4 : Below w.heap.size w (outC w) := by
    unfold outC
    exact ((((Below.refl _ _).alloc (Nat.le_refl _) _).alloc (by simp) _).alloc (by simp; omega) _).alloc (by simp; omega) _
  have dn := down_disk (hd.below hb4)
  rw [hup] at dn
  have op := open_any (hd.below hb4) hs (ht.keep hb4) per hch hR hgl
  have hmf : ∀ (fn : Fn) (first cap : Array Value) (w : World), (Instr.makeFunc fn first cap).run Tryz.prog w = .ok (.func fn first cap) w := fun _ _ _ _ => rfl
  have DN := Lib.hid dn; have OPN := Lib.hid op; have HB4 := Lib.hid hb4
  have tp : decide (per < 1) = false := by rw [decide_eq_false_iff_not]; omega
  obtain ⟨w4, hw4⟩ : ∃ w4, w4 = outC w := ⟨_, rfl⟩
  have HW4 := Lib.hid hw4
  rw [← hw4] at DN OPN HB4
  unfold outC at HW4
  have LOW := Lib.hid (disk_low hd)
  have hs4 : w4.heap.size = w.heap.size + 4 := by rw [hw4]; simp [outC]
  have bx : w4.heap[w.heap.size]? = some (.cells #[.pointer none] 60 (0, 0)) ∧ w4.heap[w.heap.size + 1]? = some (.cells #[.slice none 0 0] 27 (0, 0)) ∧ w4.heap[w.heap.size + 1 + 1]? = some (.cells #[.int .i64 0] 3 (0, 0)) ∧ w4.heap[w.heap.size + 1 + 1 + 1]? = some (.cells #[.int .i64 0] 24 (0, 0)) := by
    rw [hw4]; unfold outC
    refine ⟨?_, ?_, ?_, ?_⟩
    · rw [(MapKept.heap_alloc _ _).2 _ (by simp <;> omega), (MapKept.heap_alloc _ _).2 _ (by simp <;> omega), (MapKept.heap_alloc _ _).2 _ (by simp), (MapKept.heap_alloc _ _).1]
    · rw [(MapKept.heap_alloc _ _).2 _ (by simp <;> omega), (MapKept.heap_alloc _ _).2 _ (by simp)]
      have := (MapKept.heap_alloc (w.alloc (.cells #[.pointer none] 60)) (.cells #[.slice none 0 0] 27)).1
      rwa [show (w.alloc (.cells #[.pointer none] 60)).heap.size = w.heap.size + 1 by simp] at this
    · rw [(MapKept.heap_alloc _ _).2 _ (by simp)]
      have := (MapKept.heap_alloc ((w.alloc (.cells #[.pointer none] 60)).alloc (.cells #[.slice none 0 0] 27)) (.cells #[.int .i64 0] 3)).1
      rwa [show ((w.alloc (.cells #[.pointer none] 60)).alloc (.cells #[.slice none 0 0] 27)).heap.size = w.heap.size + 1 + 1 by simp] at this
    · have := (MapKept.heap_alloc (((w.alloc (.cells #[.pointer none] 60)).alloc (.cells #[.slice none 0 0] 27)).alloc (.cells #[.int .i64 0] 3)) (.cells #[.int .i64 0] 24)).1
      rwa [show (((w.alloc (.cells #[.pointer none] 60)).alloc (.cells #[.slice none 0 0] 27)).alloc (.cells #[.int .i64 0] 3)).heap.size = w.heap.size + 1 + 1 + 1 by simp] at this
  have BX := Lib.hid bx; have HS4 := Lib.hid hs4
  have NS := Lib.hid (next_sum ns (ns.headD 1) S)
  obtain ⟨cnt, hcnt⟩ : ∃ cnt, (recsO ns S).length = cnt := ⟨_, rfl⟩
  obtain ⟨fst, hfst⟩ : ∃ fst, ns.headD 1 = fst := ⟨_, rfl⟩
  have HCNT := Lib.hid hcnt; have HFST := Lib.hid hfst
  have hfb : fst ≤ 999999999 := by
    rw [← hfst]
    cases ns with
    | nil => decide
    | cons n r => exact (hs.ok n (by simp)).2
  rw [hcnt] at hR
  clear hd hup hs ht hch hgl hb4 dn op hw4 bx hs4 hcnt hfst
  unfold OpenPost at OPN
  by_cases hc : (openS ns S).1 = 0
  · simp only [if_pos hc] at OPN
    have HC := Lib.hid hc
    clear hc
    unfold OpenIt at OPN
    go_enter_defers Tryz.func41, Tryz.ntmps41
    go_wp2_with fail
    rw [← HW4.out]
    refine DN.out.mono ?_
    rintro e w' ⟨rfl, rfl⟩
    go_wp2_with fail
    refine OPN.out.mono ?_
    rintro e w5 ⟨g, v, O', rfl, hgs, hgo, hgw, was, st, hd5⟩
    rw [HCNT.out] at was
    obtain ⟨ad5, cap5, e5⟩ := was_shape was
    subst e5
    have hbk : ∀ i, w.heap.size ≤ i → i < w.heap.size + 4 → w5.heap[i]? = w4.heap[i]? := fun i h1 h2 => st.block i (by rw [HS4.out]; exact h2) fun ho => by have := LOW.out i ho; omega
    obtain ⟨x4, x5, x6, x7⟩ := BX.out
    have y4 := (hbk _ (by omega) (by omega)).trans x4
    have y5 := (hbk _ (by omega) (by omega)).trans x5
    have y6 := (hbk _ (by omega) (by omega)).trans x6
    have y7 := (hbk _ (by omega) (by omega)).trans x7
    have hg4 : w.heap.size + 4 ≤ g := by rw [← HS4.out]; exact hgs
    have c4 : w5.cell? ⟨w.heap.size, 0, none⟩ = some (.pointer none) := Joins.cell_of_block y4 0
    have c5 : w5.cell? ⟨w.heap.size + 1, 0, none⟩ = some (.slice none 0 0) := Joins.cell_of_block y5 0
    have f4 := Joins.unfrozen_of_block y4 0
    have f5 := Joins.unfrozen_of_block y5 0
    obtain ⟨w6, hw6⟩ : ∃ w6, w6 = (w5.setCell ⟨w.heap.size, 0, none⟩ (.pointer (some ⟨g, 0, none⟩))).setCell ⟨w.heap.size + 1, 0, none⟩ (.slice ad5 cnt cap5) := ⟨_, rfl⟩
    have z4 : w6.heap[w.heap.size]? = some (.cells #[.pointer (some ⟨g, 0, none⟩)] 60 (0, 0)) := by
      rw [hw6, Below.heap_setCell _ _ _ _ (by show w.heap.size ≠ w.heap.size + 1; omega), Joins.block_setCell (i := 0) y4 _]; rfl
    have z5 : w6.heap[w.heap.size + 1]? = some (.cells #[.slice ad5 cnt cap5] 27 (0, 0)) := by
      rw [hw6, Joins.block_setCell (i := 0) ((Below.heap_setCell _ _ _ _ (by show w.heap.size + 1 ≠ w.heap.size; omega)).trans y5) _]; rfl
    have z6 : w6.heap[w.heap.size + 1 + 1]? = some (.cells #[.int .i64 0] 3 (0, 0)) := by
      rw [hw6, Below.heap_setCell _ _ _ _ (by show w.heap.size + 1 + 1 ≠ w.heap.size + 1; omega), Below.heap_setCell _ _ _ _ (by show w.heap.size + 1 + 1 ≠ w.heap.size; omega)]; exact y6
    have z7 : w6.heap[w.heap.size + 1 + 1 + 1]? = some (.cells #[.int .i64 0] 24 (0, 0)) := by
      rw [hw6, Below.heap_setCell _ _ _ _ (by show w.heap.size + 1 + 1 + 1 ≠ w.heap.size + 1; omega), Below.heap_setCell _ _ _ _ (by show w.heap.size + 1 + 1 + 1 ≠ w.heap.size; omega)]; exact y7
    have zg : w6.heap[g]? = some (.cells (walC d per (nextO ns (ns.headD 1) S) (lastO ns 1) 0) 103 (0, 0)) := by
      rw [hw6, Below.heap_setCell _ _ _ _ (by show g ≠ w.heap.size + 1; omega), Below.heap_setCell _ _ _ _ (by show g ≠ w.heap.size; omega)]; exact hgw
    obtain ⟨nx, hnx⟩ : ∃ nx, nextO ns (ns.headD 1) S = nx := ⟨_, rfl⟩
    have hsum : nx = fst + cnt := by rw [← hnx, NS.out, HCNT.out, HFST.out]
    have HNX := Lib.hid hnx
    rw [hnx] at zg
    have HW6 := Lib.hid hw6; have ZG := Lib.hid zg; have Z4 := Lib.hid z4; have Z5 := Lib.hid z5; have Z6 := Lib.hid z6; have Z7 := Lib.hid z7
    have WAS := Lib.hid was; have ST := Lib.hid st; have HD5 := Lib.hid hd5
    have hwrap : IntKind.i64.wrap ((nx : Int) - (cnt : Int)) = (fst : Int) := by rw [IntWalk.i64_in _ (by omega)]; omega
    clear hw6 z4 z5 z6 z7 zg was st hd5 hbk x4 x5 x6 x7 y4 y5 y6 y7 hnx hsum hgw
    go_upto_region 9 with (fail)
    rw [← HW6.out]
    clear c4 c5 f4 f5
    have c4 : w6.cell? ⟨w.heap.size, 0, none⟩ = some (.pointer (some ⟨g, 0, none⟩)) := Joins.cell_of_block Z4.out 0
    have c5 : w6.cell? ⟨w.heap.size + 1, 0, none⟩ = some (.slice ad5 cnt cap5) := Joins.cell_of_block Z5.out 0
    have c6 : w6.cell? ⟨w.heap.size + 1 + 1, 0, none⟩ = some (.int .i64 0) := Joins.cell_of_block Z6.out 0
    have c7 : w6.cell? ⟨w.heap.size + 1 + 1 + 1, 0, none⟩ = some (.int .i64 0) := Joins.cell_of_block Z7.out 0
    have cg : w6.cell? ⟨g, 2, none⟩ = some (.int .i64 (nx : Int)) := Joins.cell_of_block ZG.out 2
    have f4 := Joins.unfrozen_of_block Z4.out 0; have f5 := Joins.unfrozen_of_block Z5.out 0; have f6 := Joins.unfrozen_of_block Z6.out 0; have f7 := Joins.unfrozen_of_block Z7.out 0
    have n1 : g ≠ w.heap.size := by omega
    have n2 : g ≠ w.heap.size + 1 := by omega
    have n3 : g ≠ w.heap.size + 1 + 1 := by omega
    have n4 : g ≠ w.heap.size + 1 + 1 + 1 := by omega
    obtain ⟨wa, hwa⟩ : ∃ wa, wa = w6.drew := ⟨_, rfl⟩
    obtain ⟨wb, hwb⟩ : ∃ wb, wb = wa.setCell ⟨w.heap.size + 1 + 1, 0, none⟩ (.int .i64 (fst : Int)) := ⟨_, rfl⟩
    have ca4 : wa.cell? ⟨w.heap.size, 0, none⟩ = some (.pointer (some ⟨g, 0, none⟩)) := by rw [hwa]; exact c4
    have fa4 : wa.frozen? ⟨w.heap.size, 0, none⟩ = false := by rw [hwa]; exact f4
    have cb4 : wb.cell? ⟨w.heap.size, 0, none⟩ = some (.pointer (some ⟨g, 0, none⟩)) := by rw [hwb, World.cell?_setCell_far _ _ _ _ (by show w.heap.size + 1 + 1 ≠ w.heap.size; omega)]; exact ca4
    have fb4 : wb.frozen? ⟨w.heap.size, 0, none⟩ = false := by rw [hwb, World.frozen?_setCell]; exact fa4
    have nb4 := setCell_noop wb _ _ _ cb4
    have na4 := setCell_noop wa _ _ _ ca4
    have ca5 : wa.cell? ⟨w.heap.size + 1, 0, none⟩ = some (.slice ad5 cnt cap5) := by rw [hwa]; exact c5
    have fa5 : wa.frozen? ⟨w.heap.size + 1, 0, none⟩ = false := by rw [hwa]; exact f5
    have cb5 : wb.cell? ⟨w.heap.size + 1, 0, none⟩ = some (.slice ad5 cnt cap5) := by rw [hwb, World.cell?_setCell_far _ _ _ _ (by show w.heap.size + 1 + 1 ≠ w.heap.size + 1; omega)]; exact ca5
    have fb5 : wb.frozen? ⟨w.heap.size + 1, 0, none⟩ = false := by rw [hwb, World.frozen?_setCell]; exact fa5
    have nb5 := setCell_noop wb _ _ _ cb5
    have na5 := setCell_noop wa _ _ _ ca5
    have ca6 : wa.cell? ⟨w.heap.size + 1 + 1, 0, none⟩ = some (.int .i64 0) := by rw [hwa]; exact c6
    have fa6 : wa.frozen? ⟨w.heap.size + 1 + 1, 0, none⟩ = false := by rw [hwa]; exact f6
    have cb6 : wb.cell? ⟨w.heap.size + 1 + 1, 0, none⟩ = some (.int .i64 (fst : Int)) := by rw [hwb]; exact World.cell?_setCell_same _ _ _ ca6
    have fb6 : wb.frozen? ⟨w.heap.size + 1 + 1, 0, none⟩ = false := by rw [hwb, World.frozen?_setCell]; exact fa6
    have nb6 := setCell_noop wb _ _ _ cb6
    have ca7 : wa.cell? ⟨w.heap.size + 1 + 1 + 1, 0, none⟩ = some (.int .i64 0) := by rw [hwa]; exact c7
    have fa7 : wa.frozen? ⟨w.heap.size + 1 + 1 + 1, 0, none⟩ = false := by rw [hwa]; exact f7
    have cb7 : wb.cell? ⟨w.heap.size + 1 + 1 + 1, 0, none⟩ = some (.int .i64 0) := by rw [hwb, World.cell?_setCell_far _ _ _ _ (by show w.heap.size + 1 + 1 ≠ w.heap.size + 1 + 1 + 1; omega)]; exact ca7
    have fb7 : wb.frozen? ⟨w.heap.size + 1 + 1 + 1, 0, none⟩ = false := by rw [hwb, World.frozen?_setCell]; exact fa7
    have nb7 := setCell_noop wb _ _ _ cb7
    have na7 := setCell_noop wa _ _ _ ca7
    have na6 : wa.setCell ⟨w.heap.size + 1 + 1, 0, none⟩ (.int .i64 (fst : Int)) = wb := hwb.symm
    have cga : wa.cell? ⟨g, 2, none⟩ = some (.int .i64 (nx : Int)) := by rw [hwa]; exact cg
    have cgb : wb.cell? ⟨g, 2, none⟩ = some (.int .i64 (nx : Int)) := by rw [hwb, World.cell?_setCell_far _ _ _ _ (Ne.symm n3)]; exact cga
    have HWA := Lib.hid hwa; have HWB := Lib.hid hwb
    refine wp_region_noPanic ?_
    refine wp_region_held_drew (S := fun wx => wx.cell? ⟨w.heap.size, 0, none⟩ = some (.pointer (some ⟨g, 0, none⟩)) ∧ wx.cell? ⟨w.heap.size + 1, 0, none⟩ = some (.slice ad5 cnt cap5) ∧ wx.cell? ⟨g, 2, none⟩ = some (.int .i64 (nx : Int))) (by kernel_rfl) ⟨c4, c5, cg⟩ (fun hHeld => ?_)
    rw [← hwa] at hHeld ⊢
    clear hwa hwb c4 c5 c6 c7 f4 f5 f6 f7 cg
    refine takeL (i := 0) (v := .pointer (some ⟨g, 0, none⟩)) rfl (by kernel_rfl) (by kernel_rfl) (by kernel_rfl) (fun _ _ _ h => h) (Or.inl ⟨by rfl, ?_⟩) hHeld ?_
    · intro w hSw
      (try dsimp only at hSw)
      go_simp
    (try simp only [Act.put, List.setIfInBounds_toArray, List.set_cons_zero, List.set_cons_succ])
    refine takeL (i := 1) (v := .slice ad5 cnt cap5) rfl (by kernel_rfl) (by kernel_rfl) (by kernel_rfl) (fun _ _ _ h => h) (Or.inl ⟨by rfl, ?_⟩) hHeld ?_
    · intro w hSw
      (try dsimp only at hSw)
      go_simp
    (try simp only [Act.put, List.setIfInBounds_toArray, List.set_cons_zero, List.set_cons_succ])
    refine takeL (i := 2) (v := .pointer (some ⟨g, 0, none⟩)) rfl (by kernel_rfl) (by kernel_rfl) (by kernel_rfl) (fun _ _ _ h => h) (Or.inl ⟨by rfl, ?_⟩) hHeld ?_
    · intro w hSw
      (try dsimp only at hSw)
      go_simp
    (try simp only [Act.put, List.setIfInBounds_toArray, List.set_cons_zero, List.set_cons_succ])
    refine takeL (i := 3) (v := .pointer (some ⟨g, 0, none⟩)) rfl (by kernel_rfl) (by kernel_rfl) (by kernel_rfl) (fun _ _ _ h => h) (Or.inl ⟨by rfl, ?_⟩) hHeld ?_
    · intro w hSw
      (try dsimp only at hSw)
      go_simp
    (try simp only [Act.put, List.setIfInBounds_toArray, List.set_cons_zero, List.set_cons_succ])
    refine takeL (i := 4) (v := .pointer (some ⟨g, 2, none⟩)) rfl (by kernel_rfl) (by kernel_rfl) (by kernel_rfl) (fun _ _ _ h => h) (Or.inl ⟨by rfl, ?_⟩) hHeld ?_
    · intro w hSw
      (try dsimp only at hSw)
      go_simp
    (try simp only [Act.put, List.setIfInBounds_toArray, List.set_cons_zero, List.set_cons_succ])
    refine takeL (i := 5) (v := .int .i64 (nx : Int)) rfl (by kernel_rfl) (by kernel_rfl) (by kernel_rfl) (fun _ _ _ h => h) (Or.inl ⟨by rfl, ?_⟩) hHeld ?_
    · intro w hSw
      (try dsimp only at hSw)
      go_simp
    (try simp only [Act.put, List.setIfInBounds_toArray, List.set_cons_zero, List.set_cons_succ])
    refine takeL (i := 6) (v := .slice ad5 cnt cap5) rfl (by kernel_rfl) (by kernel_rfl) (by kernel_rfl) (fun _ _ _ h => h) (Or.inl ⟨by rfl, ?_⟩) hHeld ?_
    · intro w hSw
      (try dsimp only at hSw)
      go_simp
    (try simp only [Act.put, List.setIfInBounds_toArray, List.set_cons_zero, List.set_cons_succ])
    refine takeL (i := 7) (v := .int .i64 (cnt : Int)) rfl (by kernel_rfl) (by kernel_rfl) (by kernel_rfl) (fun _ _ _ h => h) (Or.inl ⟨by rfl, ?_⟩) hHeld ?_
    · intro w hSw
      (try dsimp only at hSw)
      go_simp
    (try simp only [Act.put, List.setIfInBounds_toArray, List.set_cons_zero, List.set_cons_succ])
    refine takeL (i := 8) (v := .int .i64 (fst : Int)) rfl (by kernel_rfl) (by kernel_rfl) (by kernel_rfl) (fun _ _ _ h => h) (Or.inl ⟨by rfl, ?_⟩) hHeld ?_
    · intro w hSw
      (try dsimp only at hSw)
      go_simp
    (try simp only [Act.put, List.setIfInBounds_toArray, List.set_cons_zero, List.set_cons_succ])
    refine wpAnyH_ready (rs := [9]) (by kernel_rfl) (by simp) ?_
    refine consL rfl (fun K hK => ?_) AllReadyH.nil
    go_simp
    (try rw [na4])
    refine hK.out _ _ ⟨ca4, ca5, cga⟩ (fun hHeld => ?_)
    clear hK K
    (try simp only [Act.put, List.setIfInBounds_toArray, List.set_cons_zero, List.set_cons_succ])
    refine wpAnyH_ready (rs := [10]) (by kernel_rfl) (by simp) ?_
    refine consL rfl (fun K hK => ?_) AllReadyH.nil
    go_simp
    (try rw [na5])
    refine hK.out _ _ ⟨ca4, ca5, cga⟩ (fun hHeld => ?_)
    clear hK K
    (try simp only [Act.put, List.setIfInBounds_toArray, List.set_cons_zero, List.set_cons_succ])
    refine wpAnyH_ready (rs := [11]) (by kernel_rfl) (by simp) ?_
    refine consL rfl (fun K hK => ?_) AllReadyH.nil
    go_simp
    (try rw [na6])
    refine hK.out _ _ ⟨cb4, cb5, cgb⟩ (fun hHeld => ?_)
    clear hK K
    (try simp only [Act.put, List.setIfInBounds_toArray, List.set_cons_zero, List.set_cons_succ])
    refine wpAnyH_ready (rs := [12]) (by kernel_rfl) (by simp) ?_
    refine consL rfl (fun K hK => ?_) AllReadyH.nil
    go_simp
    (try rw [nb7])
    refine hK.out _ _ ⟨cb4, cb5, cgb⟩ (fun hHeld => ?_)
    clear hK K
    (try simp only [Act.put, List.setIfInBounds_toArray, List.set_cons_zero, List.set_cons_succ])
    refine wpAnyH_done (by kernel_rfl) ?_ _
    refine NoPanic.normal ?_
    clear hHeld
    go_wp2
    refine leaves_cons (f := 77) (args := #[.pointer (some ⟨w.heap.size, 0, none⟩), .pointer (some ⟨w.heap.size + 1, 0, none⟩), .pointer (some ⟨w.heap.size + 1 + 1, 0, none⟩), .pointer (some ⟨w.heap.size + 1 + 1 + 1, 0, none⟩)]) (by simp) (by simp [go_sem]) ?_
    refine (catch_idle _ _ _ _ _).mono ?_
    rintro e u' w'' ⟨rfl, rfl, rfl⟩
    show Leaves _ _ _ _ [] .returning _
    refine ⟨.tuple #[.pointer (some ⟨g, 0, none⟩), .slice ad5 cnt cap5, .int .i64 (fst : Int), .int .i64 0], ?_, ?_⟩
    · simp [results, Tryz.results41, go_sem, cb4, cb5, cb6, cb7]
    have tt : Turned (fun i => w.heap.size ≤ i ∧ i < w.heap.size + 4) w5 w'' := by
      rw [HWB.out, HWA.out, HW6.out]
      exact (((Turned.setCell _ 0 (by omega) _).trans (Turned.setCell _ 0 (by omega) _)).trans (Turned.drewN _ _ 1)).trans (Turned.setCell _ 0 (by omega) _)
    have hgw5 : w5.heap[g]? = some (.cells (walC d per (nx : Int) (lastO ns 1) 0) 103 (0, 0)) := by
      have := ZG.out
      rwa [HW6.out, Below.heap_setCell _ _ _ _ (by show g ≠ w.heap.size + 1; omega), Below.heap_setCell _ _ _ _ (by show g ≠ w.heap.size; omega)] at this
    obtain ⟨k1, k2, k3⟩ := fin_open (O' := O') HS4.out hgs hgw5 WAS.out tt
    obtain ⟨k4, k5⟩ := fin_has LOW.out HB4.out HS4.out ST.out HD5.out tt
    unfold OpenR
    rw [if_pos HC.out, HFST.out, HCNT.out]
    exact ⟨g, _, O', rfl, k1, hgo, by rw [← HFST.out, HNX.out]; exact k2, k3, k4, k5⟩
  · simp only [if_neg hc] at OPN
    have HC := Lib.hid hc
    clear hc
    obtain ⟨c, hcc⟩ : ∃ c, (openS ns S).1 = c := ⟨_, rfl⟩
    have HCC := Lib.hid hcc
    unfold FallIt at OPN
    rw [hcc] at OPN
    clear hcc
    unfold fall at OPN
    go_enter_defers Tryz.func41, Tryz.ntmps41
    go_wp2_with fail
    rw [← HW4.out]
    refine DN.out.mono ?_
    rintro e w' ⟨rfl, rfl⟩
    go_wp2_with fail
    refine OPN.out.mono ?_
    rintro e w5 ⟨rfl, O', st, hd5⟩
    have hbk : ∀ i, w.heap.size ≤ i → i < w.heap.size + 4 → w5.heap[i]? = w4.heap[i]? := fun i h1 h2 => st.block i (by rw [HS4.out]; exact h2) fun ho => by have := LOW.out i ho; omega
    obtain ⟨x4, x5, x6, x7⟩ := BX.out
    have y4 := (hbk _ (by omega) (by omega)).trans x4
    have y5 := (hbk _ (by omega) (by omega)).trans x5
    have y6 := (hbk _ (by omega) (by omega)).trans x6
    have y7 := (hbk _ (by omega) (by omega)).trans x7
    try go_wp2
    refine leaves_cons (f := 77) (args := #[.pointer (some ⟨w.heap.size, 0, none⟩), .pointer (some ⟨w.heap.size + 1, 0, none⟩), .pointer (some ⟨w.heap.size + 1 + 1, 0, none⟩), .pointer (some ⟨w.heap.size + 1 + 1 + 1, 0, none⟩)]) (by simp) (by simp [go_sem]) ?_
    refine (catch_panicking _ _ _ _ c [] w5 ⟨_, Joins.cell_of_block y4 0⟩ ⟨_, Joins.cell_of_block y5 0⟩ ⟨_, Joins.cell_of_block y6 0⟩ ⟨_, Joins.cell_of_block y7 0⟩ (Joins.unfrozen_of_block y4 0) (Joins.unfrozen_of_block y5 0) (Joins.unfrozen_of_block y6 0) (Joins.unfrozen_of_block y7 0) rfl rfl rfl).mono ?_
    rintro e u' w'' ⟨rfl, rfl, hw''⟩
    show Leaves _ _ _ _ [] .returning _
    have tt : Turned (fun i => w.heap.size ≤ i ∧ i < w.heap.size + 4) w5 w'' := by
      rw [hw'']
      exact ((((Turned.setCell _ 0 (by omega) _).trans (Turned.setCell _ 0 (by omega) _)).trans (Turned.setCell _ 0 (by omega) _)).trans (Turned.setCell _ 0 (by omega) _)).trans (Turned.drewN _ _ 1)
    have z4 : w''.cell? ⟨w.heap.size, 0, none⟩ = some (.pointer none) := by
      rw [hw'']
      show World.cell? (World.setCell _ _ _) _ = _
      rw [World.cell?_setCell_far _ _ _ _ (by show w.heap.size + 1 + 1 + 1 ≠ w.heap.size; omega), World.cell?_setCell_far _ _ _ _ (by show w.heap.size + 1 + 1 ≠ w.heap.size; omega), World.cell?_setCell_far _ _ _ _ (by show w.heap.size + 1 ≠ w.heap.size; omega)]
      exact World.cell?_setCell_same _ _ _ (Joins.cell_of_block y4 0)
    have z5 : w''.cell? ⟨w.heap.size + 1, 0, none⟩ = some (.slice none 0 0) := by
      rw [hw'']
      show World.cell? (World.setCell _ _ _) _ = _
      rw [World.cell?_setCell_far _ _ _ _ (by show w.heap.size + 1 + 1 + 1 ≠ w.heap.size + 1; omega), World.cell?_setCell_far _ _ _ _ (by show w.heap.size + 1 + 1 ≠ w.heap.size + 1; omega)]
      exact World.cell?_setCell_same _ _ _ (by rw [World.cell?_setCell_far _ _ _ _ (by show w.heap.size ≠ w.heap.size + 1; omega)]; exact Joins.cell_of_block y5 0)
    have z6 : w''.cell? ⟨w.heap.size + 1 + 1, 0, none⟩ = some (.int .i64 0) := by
      rw [hw'']
      show World.cell? (World.setCell _ _ _) _ = _
      rw [World.cell?_setCell_far _ _ _ _ (by show w.heap.size + 1 + 1 + 1 ≠ w.heap.size + 1 + 1; omega)]
      exact World.cell?_setCell_same _ _ _ (by rw [World.cell?_setCell_far _ _ _ _ (by show w.heap.size + 1 ≠ w.heap.size + 1 + 1; omega), World.cell?_setCell_far _ _ _ _ (by show w.heap.size ≠ w.heap.size + 1 + 1; omega)]; exact Joins.cell_of_block y6 0)
    have z7 : w''.cell? ⟨w.heap.size + 1 + 1 + 1, 0, none⟩ = some (.int .i64 c) := by
      rw [hw'']
      show World.cell? (World.setCell _ _ _) _ = _
      exact World.cell?_setCell_same _ _ _ (by rw [World.cell?_setCell_far _ _ _ _ (by show w.heap.size + 1 + 1 ≠ w.heap.size + 1 + 1 + 1; omega), World.cell?_setCell_far _ _ _ _ (by show w.heap.size + 1 ≠ w.heap.size + 1 + 1 + 1; omega), World.cell?_setCell_far _ _ _ _ (by show w.heap.size ≠ w.heap.size + 1 + 1 + 1; omega)]; exact Joins.cell_of_block y7 0)
    refine ⟨.tuple #[.pointer none, .slice none 0 0, .int .i64 0, .int .i64 c], ?_, ?_⟩
    · simp [results, Tryz.results41, go_sem, z4, z5, z6, z7]
    unfold OpenR
    rw [if_neg HC.out, HCC.out]
    exact ⟨rfl, O', fin_has LOW.out HB4.out HS4.out st hd5 tt⟩
end Go.Proofs.YtdonkmkjblofpaaGreatDoor.Wl

/-
  Layer 10: marks of loops that are over, kept; the law TreeAnswers.
-/
import Derived.Test.YtnhaoalndlgakaaPi
import Derived.Deep.RegionHeld3
import Derived.Deep.Cut
namespace Go.Proofs.Ytnhaoalndlgakaa.Tr
open Go.RowKit Go.Shelf Rf
set_option linter.unusedVariables false
set_option linter.unusedSimpArgs false
attribute [local go_sem] Oper.semAt_some

/-- Marks of loops that are over, all from N on. -/
def Mk (N : Nat) (ds : List Deferred) (W : World) : Prop := Marks ds W ∧ ∀ d ∈ ds, ∀ r, d.target = .collected r → N ≤ r
theorem Mk.nil (N : Nat) (W : World) : Mk N [] W := ⟨marks_nil W, low_nil⟩
theorem Mk.keep {N : Nat} {ds : List Deferred} {A B : World} (h : Mk N ds A) (hb : Below A.heap.size A B) : Mk N ds B := ⟨marks_keepT h.1 hb, h.2⟩
theorem Mk.gone {N g : Nat} {ds : List Deferred} {A B : World} {cs : Array Value} {T : TypeId} {fz : Nat × Nat} (h : Mk N ds A) (hx : A.heap[g]? = some (.cells cs T fz)) (hg : A.grownBy B (some g)) : Mk N ds B := ⟨⟨h.1.1, fun d hd => by
  obtain ⟨r, h1, h2⟩ := h.1.2 d hd
  refine ⟨r, h1, (hg.block r (Array.getElem?_eq_some_iff.1 h2).1 (fun e => ?_)).trans h2⟩
  have e2 : r = g := Option.some.inj e
  subst e2
  rw [h2] at hx
  cases hx⟩, h.2⟩
theorem Mk.cons {N D : Nat} {ds : List Deferred} {A B : World} (h : Mk N ds A) (hD : A.heap.size ≤ D) (hb : Mk N ds B) (hk : B.heap[D]? = some (.deferred (some []))) (hN : N ≤ D) : Mk N ({ target := .collected D, args := #[] } :: ds) B := by
  refine ⟨⟨List.pairwise_cons.2 ⟨fun d hd e => ?_, h.1.1⟩, fun d hd => ?_⟩, fun d hd r e => ?_⟩
  · obtain ⟨r, h1, h2⟩ := h.1.2 d hd
    have h3 := (Array.getElem?_eq_some_iff.1 h2).1
    rw [h1] at e
    have : D = r := by injection e
    omega
  · rcases List.mem_cons.1 hd with rfl | hd
    · exact ⟨D, rfl, hk⟩
    · exact hb.1.2 d hd
  · rcases List.mem_cons.1 hd with rfl | hd
    · have : D = r := by injection e
      omega
    · exact h.2 d hd r e
theorem results_box {fn : Func} {p : Tmp} (h : fn.results = #[.cell p 4]) (tmps : Array Value) (W : World) (g : Nat) (r : Bool) (ht : tmps.getD p undef = .pointer (some ⟨g, 0, none⟩)) (hg : Bx W g (.bool r) 4) :
    (results fn tmps).run Try.prog W = .ok (.bool r) W := by
  have hp' : tmps[p]?.getD undef = .pointer (some ⟨g, 0, none⟩) := by simpa using ht
  have hc := hg.cell
  simp [results, h, hp', asAddr, loadVar, go_sem, hc]
theorem ret_box {fn : Func} {p : Tmp} (h : fn.results = #[.cell p 4]) {tmps : Array Value} {ds : List Deferred} {w W : World} {N g : Nat} {v0 : Value} (ht : tmps.getD p undef = .pointer (some ⟨g, 0, none⟩)) (hm : Mk N ds W)
    (hg : Bx W g v0 4) (hN : N ≤ g) (hB : Below N w W) : LeavesInM Fence.wide 6 Try.prog fn tmps (fun e w' => e = .returned (.bool true) ∧ Below N w w') ds .returning (W.setCell ⟨g, 0, none⟩ (.bool true)) := by
  have hm2 := hm.gone hg (set_grown W g 0 (.bool true))
  have hg2 : Bx (W.setCell ⟨g, 0, none⟩ (.bool true)) g (.bool true) 4 := hg.set _
  refine leaves_marks ds _ hm2.1 fun W' hs => ⟨_, results_box h tmps W' g true ht ?_, rfl, shut_below hs hm2.2 (hB.setCell (p := ⟨g, 0, none⟩) hN _)⟩
  refine (hs.block g fun d hd e => ?_).trans hg2
  obtain ⟨r, h1, h2⟩ := hm2.1.2 d hd
  rw [e] at h1
  cases h1
  rw [show (W.setCell ⟨g, 0, none⟩ (.bool true)).heap[g]? = _ from hg2] at h2
  cases h2
theorem run_equalIn_func_nil {P : Program} (w : World) (n : Nat) (t : TypeId) {x : Array TypeId} {y : Array TypeId} {z : Bool} (h : P.underlying t = some (.func x y z)) (f : Fn) (c d : Array Value) : (Op.equalIn (n + 1) t (.func f c d) .nilFunc).run P w = .ok false w := by
  simp [Op.equalIn, run_underlying h]
theorem run_eql_func_nil {P : Program} (w : World) (t : TypeId) {x : Array TypeId} {y : Array TypeId} {z : Bool} (h : P.underlying t = some (.func x y z)) (f : Fn) (c d : Array Value) : (binOp .eql t (.func f c d) .nilFunc).run P w = .ok (.bool false) w := by
  simp only [binOp]
  simp [Op.equal, Op.maxDepth, run_equalIn_func_nil w 9999 t h f c d]
theorem pre_par {pre L : List Int} {x : Int} (h : (pre ++ [x]) <+: L) : par L pre.length = x := by
  obtain ⟨r, rfl⟩ := h
  unfold par
  simp [List.getD]
theorem below_set {N : Nat} {w W : World} {g : Nat} (h : Below N w W) (hg : N ≤ g) (v : Value) : Below N w (W.setCell ⟨g, 0, none⟩ v) := h.setCell (p := ⟨g, 0, none⟩) hg v

/-- What stands between the loops of TreeAnswers. -/
structure Sa (N q I0 : Nat) (w W : World) (stop : Int) (v2 : Value) (L : List Int) (o : Option It) (ds : List Deferred) : Prop where
  b : Below N w W
  s : Bx W N (.int .i64 stop) 3
  r : Bx W (N + 1) (.bool false) 4
  ow : OwnN W N v2 L
  qq : Bx W q v2 22
  it : IsIt W I0 o
  m : Mk N ds W
  sz : I0 ≤ W.heap.size
  qN : N + 2 ≤ q
theorem Sa.keep {N q I0 : Nat} {w W W' : World} {stop : Int} {v2 : Value} {L : List Int} {o : Option It} {ds : List Deferred} (h : Sa N q I0 w W stop v2 L o ds) (hb : Below W.heap.size W W') : Sa N q I0 w W' stop v2 L o ds :=
  ⟨h.b.trans (hb.mono (by have := h.s.lt; omega)), h.s.keep hb, h.r.keep hb, h.ow.keep hb, h.qq.keep hb, h.it.keep hb, h.m.keep hb, by have := hb.size; have := h.sz; omega, h.qN⟩
theorem Sa.more {N q I0 : Nat} {w A V W : World} {stop : Int} {v2 : Value} {L : List Int} {o : Option It} {ds : List Deferred} (h : Sa N q I0 w A stop v2 L o ds) (hb : Below A.heap.size A V) (hw : Below A.heap.size A W) (hk : W.heap[V.heap.size]? = some (.deferred (some []))) :
    Sa N q I0 w W stop v2 L o ({ target := .collected V.heap.size, args := #[] } :: ds) := by
  have h2 := h.keep hw
  have hN : N ≤ A.heap.size := by have := h.s.lt; omega
  exact ⟨h2.b, h2.s, h2.r, h2.ow, h2.qq, h2.it, Mk.cons h.m hb.size h2.m hk (Nat.le_trans hN hb.size), h2.sz, h2.qN⟩
theorem Sa.row {N q I0 : Nat} {w W : World} {stop : Int} {a : Option Addr} {n c : Nat} {L : List Int} {o : Option It} {ds : List Deferred} (h : Sa N q I0 w W stop (.slice a n c) L o ds) : HasZ W a L := by
  obtain ⟨a2, c2, e, h2, _⟩ := h.ow.has
  cases e
  exact h2
/-- What a loop over a function with one box, laid just ahead of it, keeps. -/
def InNew (A : World) (T : TypeId) (f : List Int → Value) (pre : List Int) (W : World) : Prop := Below A.heap.size A W ∧ Bx W A.heap.size (f pre) T
theorem InNew.stands {A : World} {D : Nat} {T : TypeId} {f : List Int → Value} (hg : A.heap.size < D) : Stands D (InNew A T f) := by
  rintro pre B C row ⟨h1, h2⟩ h3 hr
  refine ⟨h1.grown h3 h1.size fun r e => ?_, h2.gone h3 fun e => ?_⟩
  · rcases hr with hr | hr | hr <;> rw [hr] at e
    · cases e
    · have := Option.some.inj e; omega
    · have := Option.some.inj e; omega
  · rcases hr with hr | hr | hr <;> rw [hr] at e
    · cases e
    · have := Option.some.inj e; omega
    · have := Option.some.inj e; omega
theorem InNew.set {A W : World} {T : TypeId} {f : List Int → Value} {pre pre' : List Int} {v : Value} (h : InNew A T f pre W) (hv : f pre' = v) : InNew A T f pre' (W.setCell ⟨A.heap.size, 0, none⟩ v) :=
  ⟨h.1.setCell (p := ⟨A.heap.size, 0, none⟩) (Nat.le_refl _) v, by rw [hv]; exact h.2.set v⟩
theorem above_empty {z : List Int} {v : Int} (h : aboveS z v = []) : belowS z v = [] := by
  cases hf : foundB z v
  · exact below_no hf
  · obtain ⟨n, rfl, _⟩ := found_nat hf
    rw [above_yes hf] at h
    have := pth_pos z n
    rw [h] at this
    exact absurd this (by decide)
set_option maxRecDepth 100000 in
set_option maxHeartbeats 8000000 in
theorem answers_walk (a0 : Option Addr) (len0 cap0 : Nat) (z0 : List Int) (v stop : Int) (w : World) (hrow : Fr.IsRow .i64 w a0 len0 cap0 z0) (hst : (Lit.int .i64 stop).wf = true) :
    Calls Try.prog 4 #[.slice a0 len0 cap0, .int .i64 v, .int .i64 stop] w fun e w' => e = .returned (.bool true) ∧ Below w.heap.size w w' := by
  obtain ⟨z, hl, hz, hlc, hn⟩ := hasZ_of_row hrow
  obtain ⟨N, hN⟩ : ∃ N, N = w.heap.size := ⟨_, rfl⟩
  obtain ⟨W0, hW0⟩ : ∃ W0, W0 = (w.alloc (.cells #[.int .i64 stop] 3)).alloc (.cells #[.bool false] 4) := ⟨_, rfl⟩
  have b0 : Below N w W0 := by rw [hW0, hN]; exact ((Below.refl _ _).alloc (Nat.le_refl _) _).alloc (by rw [World.size_alloc]; omega) _
  have s0 : Bx W0 N (.int .i64 stop) 3 := by
    rw [hW0, hN]
    exact (Bx.new w _ _).keep ((Below.refl _ _).alloc (Nat.le_refl _) _)
  have r0 : Bx W0 (N + 1) (.bool false) 4 := by
    rw [hW0, hN]
    have := Bx.new (w.alloc (.cells #[.int .i64 stop] 3)) (.bool false) 4
    rwa [World.size_alloc] at this
  have HZ : Hid (∀ W, Below N w W → HasZ W a0 z) := Lib.hid fun W hb => hz.keep (by rw [← hN]; exact hb)
  have hstb := bounds_i64 hst
  have HL := Lib.hid hl; have HN := Lib.hid hn; have HD := Lib.hid hN; have HW0 := Lib.hid hW0; have HB0 := Lib.hid b0; have S0 := Lib.hid s0; have R0 := Lib.hid r0
  have hz0 : N + 2 ≤ W0.heap.size := r0.lt
  clear hrow hl hz hlc hn hN hW0 b0 s0 r0 hst
  refine calls_marks Try.func4 rfl ?_
  simp only [Try.ntmps4, List.size_toArray, List.length_cons, List.length_nil, Nat.reduceAdd, Nat.reduceSub, Array.replicate_succ, Array.replicate_zero, List.push_toArray, List.append_toArray, List.nil_append, List.cons_append]
  rw [← HD.out]
  go_wp2_with fail
  rw [← HD.out, ← HW0.out]
  clear HW0
  refine (wakes_any W0).mono ?_
  rintro e w1 ⟨rfl, hb⟩
  have B1 := Lib.hid (HB0.out.trans (hb.mono (by omega))); have S1 := Lib.hid (S0.out.keep hb); have R1 := Lib.hid (R0.out.keep hb)
  have hz1 : N + 2 ≤ w1.heap.size := R1.out.lt
  clear hb S0 R0 HB0 hz0 W0
  go_wp2_with fail
  refine (rabove_any a0 len0 cap0 z v w1 (HZ.out _ B1.out) HL.out).mono ?_
  rintro e w2 ⟨u2, rfl, ho, hb⟩
  obtain ⟨L, hL⟩ : ∃ L, L = aboveS z v := ⟨_, rfl⟩
  rw [← hL] at ho
  have HLL := Lib.hid hL
  have hL16 : L.length ≤ 16 := by rw [hL]; exact above_len z v
  obtain ⟨a2, c2, rfl, _⟩ := ho.has
  have B2 := Lib.hid (B1.out.trans (hb.mono (by omega))); have S2 := Lib.hid (S1.out.keep hb); have R2 := Lib.hid (R1.out.keep hb); have O2 := Lib.hid (ho.low (base' := N) (by omega))
  have hz2 : N + 2 ≤ w2.heap.size := R2.out.lt
  clear hb ho hL B1 S1 R1 hz1
  obtain ⟨q, hq⟩ : ∃ q, q = w2.heap.size := ⟨_, rfl⟩
  obtain ⟨W3, hW3⟩ : ∃ W3, W3 = w2.alloc (.cells #[.slice a2 L.length c2] 22) := ⟨_, rfl⟩
  have b3 : Below w2.heap.size w2 W3 := by rw [hW3]; exact one_alloc _ _
  have Q3 : Hid (Bx W3 q (.slice a2 L.length c2) 22) := Lib.hid (by rw [hW3, hq]; exact Bx.new w2 _ _)
  have B3 := Lib.hid (B2.out.trans (b3.mono (by omega))); have S3 := Lib.hid (S2.out.keep b3); have R3 := Lib.hid (R2.out.keep b3); have O3 := Lib.hid (O2.out.keep b3)
  have OB : Hid (∀ k, (Value.slice a2 L.length c2).ownBlock = some k → k < q) := Lib.hid fun k hk => by have := (O2.out.lt hk).2; omega
  have HQ := Lib.hid hq; have HW3 := Lib.hid hW3
  have hz3 : q + 1 ≤ W3.heap.size := Q3.out.lt
  have hqN : N + 2 ≤ q := by omega
  clear b3 hq hW3 B2 S2 R2 O2 hz2
  go_wp2_with fail
  rw [← HQ.out, ← HW3.out]
  clear HQ HW3
  refine (above_any a0 len0 cap0 z v W3 (HZ.out _ B3.out) HL.out HN.out).mono ?_
  rintro e w4 ⟨o, rfl, hit, hxs, hb⟩
  rw [← HLL.out] at hxs
  have B4 := Lib.hid (B3.out.trans (hb.mono (by omega))); have S4 := Lib.hid (S3.out.keep hb); have R4 := Lib.hid (R3.out.keep hb); have O4 := Lib.hid (O3.out.keep hb); have Q4 := Lib.hid (Q3.out.keep hb)
  have IT4 := Lib.hid hit; have XS := Lib.hid hxs
  obtain ⟨I0, hI0⟩ : ∃ I0, I0 = W3.heap.size := ⟨_, rfl⟩
  rw [← hI0] at IT4 hz3
  have hz4 : I0 ≤ w4.heap.size := by have := hb.size; omega
  clear hb hit hxs B3 S3 R3 O3 Q3 hI0 W3
  have qnf := fun w => run_eql_func_nil (P := Try.prog) w 35 Try.underlying35 (.func (gfO o)) #[] (lbO o)
  go_upto_region 5 with (fail)
  have KS : Hid (∀ wx, Below w4.heap.size w4 wx → Below w4.heap.size w4 wx ∧ wx.cell? ⟨q, 0, none⟩ = some (.slice a2 L.length c2)) := Lib.hid fun wx hb => ⟨hb, (Q4.out.keep hb).cell⟩
  have HDP : Hid (∀ wx, Below w4.heap.size w4 wx → Calls Try.prog 14 #[.slice a0 len0 cap0, .int .i64 v] wx fun e w' => e = .returned (.int .i64 (L.length : Int)) ∧ Below w4.heap.size w4 w') := Lib.hid fun wx hb => by
    have := depth_any a0 len0 cap0 z v wx (HZ.out _ (B4.out.trans (hb.mono (by omega)))) HL.out HN.out
    rw [← HLL.out] at this
    exact this.mono fun e w' ⟨h1, h2⟩ => ⟨h1, hb.trans (h2.mono hb.size)⟩
  have q1 : ((L.length : Int) != (L.length : Int)) = false := bne_self_eq_false _
  go_region_held3 (fun wx => Below w4.heap.size w4 wx ∧ wx.cell? ⟨q, 0, none⟩ = some (.slice a2 L.length c2))
    (first | exact KS.out _ (below_drew _ _) | exact KS.out _ (Below.refl _ _) | exact KS.out _ (by assumption))
    (first | (go_split_ands; go_at_call 14; (with_reducible refine (HDP.out _ (by first | assumption | exact below_drew _ _)).mono ?_); rintro e w5 ⟨rfl, hb5⟩) | fail)
  obtain ⟨U1, hU1⟩ : ∃ U1, U1 = w5 := ⟨_, rfl⟩
  rw [← hU1] at hb5 ⊢
  clear hU1
  have SA1 : Hid (Sa N q I0 w U1 stop (.slice a2 L.length c2) L o []) := Lib.hid (Sa.keep ⟨B4.out, S4.out, R4.out, O4.out, Q4.out, IT4.out, Mk.nil N w4, hz4, hqN⟩ hb5)
  have hz1 : I0 ≤ U1.heap.size := SA1.out.sz
  clear hb5 KS HDP q1 qnf B4 S4 R4 O4 Q4 IT4 hz4 hz3
  -- GEN
  go_wp2_with fail
  refine wp_loop_rounds 3 ?_
  rw [rounds_succ]
  go_wp2_with fail
  obtain ⟨V1, hV1⟩ : ∃ V, V = U1.alloc (.cells #[.int .i64 0] 3) := ⟨_, rfl⟩
  have hb1 : Below U1.heap.size U1 V1 := by rw [hV1]; exact one_alloc _ _
  have hx1 : Bx V1 U1.heap.size (.int .i64 0) 3 := by rw [hV1]; exact Bx.new U1 _ _
  have HZV1 : Hid (V1.heap.size = U1.heap.size + 1) := Lib.hid (by rw [hV1, World.size_alloc])
  rw [← hV1]
  clear hV1
  refine wp_above I0 o rfl rfl (InNew U1 3 fun pre => .int .i64 (pre.length : Int)) (fun _ _ _ => False) (InNew.stands (by have := HZV1.out; omega)) (fun _ _ _ _ _ h _ _ => h) (fun pre A h => (SA1.out.keep h.1).it) ⟨hb1, hx1⟩ ?_ ?_ ?_
  · rintro l pre x W _ hpre Kr hKr
    gi_wp2
    rintro W' hi hok hlt
    have hs := SA1.out.keep hi.1
    rw [XS.out] at hok
    have i0 := pre_lt hok
    have hx := pre_par hok
    have hh := hs.row
    obtain ⟨b, off, rfl, c0⟩ := hh.at i0
    rw [hx] at c0
    have n0 := hi.2.cell; have n1 := hi.2.free
    have q0 := hs.qq.cell
    have d4 : (x != x) = false := bne_self_eq_false _
    have d3 : decide ((L.length : Int) ≤ (pre.length : Int)) = false := by rw [decide_eq_false_iff_not]; omega
    have i1 : (pre.length : Int) < (L.length : Int) := by omega
    have HI := Lib.hid hi
    clear hs hok hx hh hpre hi
    gi_wp2
    refine ⟨ends_box (by have := HZV1.out; omega), trivial, HI.out.set ?_⟩
    simp
  rotate_left
  · rintro c pre W h _
    exact h.elim
  rintro U2 hi hK
  rw [XS.out] at hi
  have n0 := hi.2.cell
  have SA2 : Hid (Sa N q I0 w U2 stop (.slice a2 L.length c2) L o ({ target := .collected V1.heap.size, args := #[] } :: [])) := Lib.hid (SA1.out.more hb1 hi.1 hK)
  have q0 := SA2.out.qq.cell
  have hz2 : I0 ≤ U2.heap.size := SA2.out.sz
  clear hi hK hx1 hb1 SA1
  go_wp2_with fail
  clear n0 q0
  rw [rounds_succ]
  go_wp2_with fail
  obtain ⟨V2, hV2⟩ : ∃ V, V = U2.alloc (.cells #[.int .i64 0] 3) := ⟨_, rfl⟩
  have hb2 : Below U2.heap.size U2 V2 := by rw [hV2]; exact one_alloc _ _
  have hx2 : Bx V2 U2.heap.size (.int .i64 0) 3 := by rw [hV2]; exact Bx.new U2 _ _
  have HZV2 : Hid (V2.heap.size = U2.heap.size + 1) := Lib.hid (by rw [hV2, World.size_alloc])
  rw [← hV2]
  clear hV2
  refine wp_above I0 o rfl rfl (InNew U2 3 fun pre => .int .i64 (pre.length : Int)) (fun _ _ _ => False) (InNew.stands (by have := HZV2.out; omega)) (fun _ _ _ _ _ h _ _ => h) (fun pre A h => (SA2.out.keep h.1).it) ⟨hb2, hx2⟩ ?_ ?_ ?_
  · rintro l pre x W _ hpre Kr hKr
    gi_wp2
    rintro W' hi hok hlt
    have hs := SA2.out.keep hi.1
    rw [XS.out] at hok
    have i0 := pre_lt hok
    have hx := pre_par hok
    have hh := hs.row
    obtain ⟨b, off, rfl, c0⟩ := hh.at i0
    rw [hx] at c0
    have n0 := hi.2.cell; have n1 := hi.2.free
    have q0 := hs.qq.cell
    have d4 : (x != x) = false := bne_self_eq_false _
    have d3 : decide ((L.length : Int) ≤ (pre.length : Int)) = false := by rw [decide_eq_false_iff_not]; omega
    have i1 : (pre.length : Int) < (L.length : Int) := by omega
    have HI := Lib.hid hi
    clear hs hok hx hh hpre hi
    gi_wp2
    refine ⟨ends_box (by have := HZV2.out; omega), trivial, HI.out.set ?_⟩
    simp
  rotate_left
  · rintro c pre W h _
    exact h.elim
  rintro U3 hi hK
  rw [XS.out] at hi
  have n0 := hi.2.cell
  have SA3 : Hid (Sa N q I0 w U3 stop (.slice a2 L.length c2) L o ({ target := .collected V2.heap.size, args := #[] } :: [{ target := .collected V1.heap.size, args := #[] }])) := Lib.hid (SA2.out.more hb2 hi.1 hK)
  have q0 := SA3.out.qq.cell
  have hz3 : I0 ≤ U3.heap.size := SA3.out.sz
  clear hi hK hx2 hb2 SA2
  go_wp2_with fail
  clear n0 q0
  rw [rounds_succ]
  go_wp2_with fail
  obtain ⟨V3, hV3⟩ : ∃ V, V = U3.alloc (.cells #[.int .i64 0] 3) := ⟨_, rfl⟩
  have hb3 : Below U3.heap.size U3 V3 := by rw [hV3]; exact one_alloc _ _
  have hx3 : Bx V3 U3.heap.size (.int .i64 0) 3 := by rw [hV3]; exact Bx.new U3 _ _
  have HZV3 : Hid (V3.heap.size = U3.heap.size + 1) := Lib.hid (by rw [hV3, World.size_alloc])
  rw [← hV3]
  clear hV3
  refine wp_above I0 o rfl rfl (fun pre W => InNew U3 3 (fun pre => .int .i64 (pre.length : Int)) pre W ∧ (pre.length = 0 ∨ (pre.length : Int) < stop))
    (fun c pre W => c = .exit 4 ∧ InNew U3 3 (fun pre => .int .i64 (pre.length : Int)) pre W ∧ stop ≤ (pre.length : Int) ∧ (pre.length = 1 ∨ (pre.length : Int) - 1 < stop) ∧ pre.length ≤ L.length) ?_ ?_ (fun pre A h => (SA3.out.keep h.1.1).it) ⟨⟨hb3, hx3⟩, .inl rfl⟩ ?_ ?_ ?_
  · rintro pre A C row ⟨h1, h2⟩ hg hr
    exact ⟨InNew.stands (by have := HZV3.out; omega) _ _ _ _ h1 hg hr, h2⟩
  · rintro c pre A C row ⟨h0, h1, h2⟩ hg hr
    exact ⟨h0, InNew.stands (by have := HZV3.out; omega) _ _ _ _ h1 hg hr, h2⟩
  · rintro l pre x W _ _ Kr hKr
    gi_wp2
    rintro W' ⟨hi, hi3⟩ hok hlt
    rw [XS.out] at hok
    have i0 := pre_lt hok
    have n0 := hi.2.cell; have n1 := hi.2.free
    have hset : InNew U3 3 (fun pre => .int .i64 (pre.length : Int)) (pre ++ [x]) (W'.setCell ⟨U3.heap.size, 0, none⟩ (.int .i64 ((pre.length : Int) + 1))) := hi.set (by simp)
    have n2 : (W'.setCell ⟨U3.heap.size, 0, none⟩ (.int .i64 ((pre.length : Int) + 1))).cell? ⟨U3.heap.size, 0, none⟩ = some (.int .i64 ((pre.length : Int) + 1)) := (hi.2.set _).cell
    have st2 := (SA3.out.keep hset.1).s.cell
    have HS := Lib.hid hset; have H3 := Lib.hid hi3
    have HPL : Hid ((pre ++ [x]).length = pre.length + 1) := Lib.hid (by simp)
    have HEND := Lib.hid (ends_box (W := W') (D := V3.heap.size) (g := U3.heap.size) (v := .int .i64 ((pre.length : Int) + 1)) (by have := HZV3.out; omega))
    clear hok hi hset hi3
    by_cases hs : stop ≤ (pre.length : Int) + 1
    · have d5 : decide (stop ≤ (pre.length : Int) + 1) = true := by rw [decide_eq_true_eq]; exact hs
      gi_wp2
      refine ⟨HEND.out, rfl, HS.out, ?_, ?_, ?_⟩
      · rw [HPL.out]; omega
      · rw [HPL.out]; have := H3.out; omega
      · rw [HPL.out]; omega
    · have d5 : decide (stop ≤ (pre.length : Int) + 1) = false := by rw [decide_eq_false_iff_not]; exact hs
      gi_wp2
      refine ⟨HEND.out, trivial, HS.out, ?_⟩
      rw [HPL.out]; omega
  · rintro U4 ⟨hi, hi3⟩ hK
    rw [XS.out] at hi hi3
    have n0 := hi.2.cell
    have SA4 := Lib.hid (SA3.out.more hb3 hi.1 hK)
    have q0 := SA4.out.qq.cell; have st0 := SA4.out.s.cell
    have hz4 : I0 ≤ U4.heap.size := SA4.out.sz
    clear hi hK hx3 hb3 SA3
    by_cases hs1 : stop < 1
    · have d6 : decide (1 ≤ stop) = false := by rw [decide_eq_false_iff_not]; omega
      go_wp2_with fail
      clear st0 q0 n0
      have hbel := below_any a0 len0 cap0 z v U4 (HZ.out _ SA4.out.b) HL.out
      unfold BelowIt at hbel
      refine hbel.mono ?_
      rintro e W8 ⟨u8, rfl, ho, hb⟩
      have SA8 := Lib.hid (SA4.out.keep hb)
      obtain ⟨a8, c8, rfl, hr8, _⟩ := ho.has
      have R8 := Lib.hid hr8
      have q8 := SA8.out.qq.cell; have rf := SA8.out.r.free; have rc := SA8.out.r.cell
      clear hb ho hr8 hbel SA4
      by_cases hL0 : L.length = 0
      · have hbe : (belowS z v).length = 0 := by
          rw [above_empty (v := v) (z := z) (by rw [← HLL.out]; exact List.eq_nil_of_length_eq_zero hL0)]; rfl
        have hL0' : ((L.length : Int) == 0) = true := by rw [hL0]; rfl
        have hbe' : (((belowS z v).length : Int) == 0) = true := by rw [hbe]; rfl
        clear hbe hL0
        go_wp2
        exact ret_box rfl rfl SA8.out.m SA8.out.r (by omega) SA8.out.b
      · have hL0' : ((L.length : Int) == 0) = false := beq_eq_false_iff_ne.2 (by omega)
        have hfb : foundB z v = true := by
          cases h : foundB z v
          · rw [HLL.out, above_no h] at hL0; exact absurd rfl hL0
          · rfl
        have hrb := rbelow_any a0 len0 cap0 z v W8 (HZ.out _ SA8.out.b) HL.out
        unfold OwnIt at hrb
        have hre := ref_below hfb
        rw [HL.out] at hre
        rw [hre] at hrb
        clear hL0 hfb hre rf rc
        generalize belowS z v = G at *
        go_wp2_with fail
        clear q8
        refine hrb.mono ?_
        rintro e W9 ⟨u9, rfl, ho, hb⟩
        have SA9 := Lib.hid (SA8.out.keep hb)
        obtain ⟨a9, c9, rfl, hr9, _⟩ := ho.has
        have R9 := Lib.hid hr9; have R89 := Lib.hid (R8.out.keep hb)
        clear hb ho hr9 hrb SA8 R8
        go_wp2_with fail
        refine (same_any _ _ _ _ _ _ G G W9 R89.out rfl R9.out rfl).mono ?_
        rintro e Wa ⟨rfl, nd, rfl⟩
        have SAa := Lib.hid (SA9.out.keep (below_drew W9 nd))
        have rf := SAa.out.r.free; have rc := SAa.out.r.cell
        have dG : decide (G = G) = true := decide_eq_true rfl
        clear SA9
        go_wp2
        exact ret_box rfl rfl SAa.out.m SAa.out.r (by omega) SAa.out.b
    · have d6 : decide (1 ≤ stop) = true := by rw [decide_eq_true_eq]; omega
      have d7 : min stop (L.length : Int) = (L.length : Int) := by omega
      go_wp2_with fail
      clear st0 q0 n0
      have hbel := below_any a0 len0 cap0 z v U4 (HZ.out _ SA4.out.b) HL.out
      unfold BelowIt at hbel
      refine hbel.mono ?_
      rintro e W8 ⟨u8, rfl, ho, hb⟩
      have SA8 := Lib.hid (SA4.out.keep hb)
      obtain ⟨a8, c8, rfl, hr8, _⟩ := ho.has
      have R8 := Lib.hid hr8
      have q8 := SA8.out.qq.cell; have rf := SA8.out.r.free; have rc := SA8.out.r.cell
      clear hb ho hr8 hbel SA4
      by_cases hL0 : L.length = 0
      · have hbe : (belowS z v).length = 0 := by
          rw [above_empty (v := v) (z := z) (by rw [← HLL.out]; exact List.eq_nil_of_length_eq_zero hL0)]; rfl
        have hL0' : ((L.length : Int) == 0) = true := by rw [hL0]; rfl
        have hbe' : (((belowS z v).length : Int) == 0) = true := by rw [hbe]; rfl
        clear hbe hL0
        go_wp2
        exact ret_box rfl rfl SA8.out.m SA8.out.r (by omega) SA8.out.b
      · have hL0' : ((L.length : Int) == 0) = false := beq_eq_false_iff_ne.2 (by omega)
        have hfb : foundB z v = true := by
          cases h : foundB z v
          · rw [HLL.out, above_no h] at hL0; exact absurd rfl hL0
          · rfl
        have hrb := rbelow_any a0 len0 cap0 z v W8 (HZ.out _ SA8.out.b) HL.out
        unfold OwnIt at hrb
        have hre := ref_below hfb
        rw [HL.out] at hre
        rw [hre] at hrb
        clear hL0 hfb hre rf rc
        generalize belowS z v = G at *
        go_wp2_with fail
        clear q8
        refine hrb.mono ?_
        rintro e W9 ⟨u9, rfl, ho, hb⟩
        have SA9 := Lib.hid (SA8.out.keep hb)
        obtain ⟨a9, c9, rfl, hr9, _⟩ := ho.has
        have R9 := Lib.hid hr9; have R89 := Lib.hid (R8.out.keep hb)
        clear hb ho hr9 hrb SA8 R8
        go_wp2_with fail
        refine (same_any _ _ _ _ _ _ G G W9 R89.out rfl R9.out rfl).mono ?_
        rintro e Wa ⟨rfl, nd, rfl⟩
        have SAa := Lib.hid (SA9.out.keep (below_drew W9 nd))
        have rf := SAa.out.r.free; have rc := SAa.out.r.cell
        have dG : decide (G = G) = true := decide_eq_true rfl
        clear SA9
        go_wp2
        exact ret_box rfl rfl SAa.out.m SAa.out.r (by omega) SAa.out.b
  · rintro c pre U4 ⟨rfl, hi, hi3, hi4, hi5⟩ hK
    have n0 := hi.2.cell
    have SA4 := Lib.hid (SA3.out.more hb3 hi.1 hK)
    have q0 := SA4.out.qq.cell; have st0 := SA4.out.s.cell
    have hz4 : I0 ≤ U4.heap.size := SA4.out.sz
    clear hi hK hx3 hb3 SA3
    have d8 : decide ((L.length : Int) < (pre.length : Int)) = false := by rw [decide_eq_false_iff_not]; omega
    by_cases hs1 : stop < 1
    · have d6 : decide (1 ≤ stop) = false := by rw [decide_eq_false_iff_not]; omega
      go_wp2_with fail
      clear st0 q0 n0
      have hbel := below_any a0 len0 cap0 z v U4 (HZ.out _ SA4.out.b) HL.out
      unfold BelowIt at hbel
      refine hbel.mono ?_
      rintro e W8 ⟨u8, rfl, ho, hb⟩
      have SA8 := Lib.hid (SA4.out.keep hb)
      obtain ⟨a8, c8, rfl, hr8, _⟩ := ho.has
      have R8 := Lib.hid hr8
      have q8 := SA8.out.qq.cell; have rf := SA8.out.r.free; have rc := SA8.out.r.cell
      clear hb ho hr8 hbel SA4
      by_cases hL0 : L.length = 0
      · have hbe : (belowS z v).length = 0 := by
          rw [above_empty (v := v) (z := z) (by rw [← HLL.out]; exact List.eq_nil_of_length_eq_zero hL0)]; rfl
        have hL0' : ((L.length : Int) == 0) = true := by rw [hL0]; rfl
        have hbe' : (((belowS z v).length : Int) == 0) = true := by rw [hbe]; rfl
        clear hbe hL0
        go_wp2
        exact ret_box rfl rfl SA8.out.m SA8.out.r (by omega) SA8.out.b
      · have hL0' : ((L.length : Int) == 0) = false := beq_eq_false_iff_ne.2 (by omega)
        have hfb : foundB z v = true := by
          cases h : foundB z v
          · rw [HLL.out, above_no h] at hL0; exact absurd rfl hL0
          · rfl
        have hrb := rbelow_any a0 len0 cap0 z v W8 (HZ.out _ SA8.out.b) HL.out
        unfold OwnIt at hrb
        have hre := ref_below hfb
        rw [HL.out] at hre
        rw [hre] at hrb
        clear hL0 hfb hre rf rc
        generalize belowS z v = G at *
        go_wp2_with fail
        clear q8
        refine hrb.mono ?_
        rintro e W9 ⟨u9, rfl, ho, hb⟩
        have SA9 := Lib.hid (SA8.out.keep hb)
        obtain ⟨a9, c9, rfl, hr9, _⟩ := ho.has
        have R9 := Lib.hid hr9; have R89 := Lib.hid (R8.out.keep hb)
        clear hb ho hr9 hrb SA8 R8
        go_wp2_with fail
        refine (same_any _ _ _ _ _ _ G G W9 R89.out rfl R9.out rfl).mono ?_
        rintro e Wa ⟨rfl, nd, rfl⟩
        have SAa := Lib.hid (SA9.out.keep (below_drew W9 nd))
        have rf := SAa.out.r.free; have rc := SAa.out.r.cell
        have dG : decide (G = G) = true := decide_eq_true rfl
        clear SA9
        go_wp2
        exact ret_box rfl rfl SAa.out.m SAa.out.r (by omega) SAa.out.b
    · have d6 : decide (1 ≤ stop) = true := by rw [decide_eq_true_eq]; omega
      obtain rfl : stop = (pre.length : Int) := by omega
      have d7 : min (pre.length : Int) (L.length : Int) = (pre.length : Int) := by omega
      go_wp2_with fail
      clear st0 q0 n0
      have hbel := below_any a0 len0 cap0 z v U4 (HZ.out _ SA4.out.b) HL.out
      unfold BelowIt at hbel
      refine hbel.mono ?_
      rintro e W8 ⟨u8, rfl, ho, hb⟩
      have SA8 := Lib.hid (SA4.out.keep hb)
      obtain ⟨a8, c8, rfl, hr8, _⟩ := ho.has
      have R8 := Lib.hid hr8
      have q8 := SA8.out.qq.cell; have rf := SA8.out.r.free; have rc := SA8.out.r.cell
      clear hb ho hr8 hbel SA4
      by_cases hL0 : L.length = 0
      · have hbe : (belowS z v).length = 0 := by
          rw [above_empty (v := v) (z := z) (by rw [← HLL.out]; exact List.eq_nil_of_length_eq_zero hL0)]; rfl
        have hL0' : ((L.length : Int) == 0) = true := by rw [hL0]; rfl
        have hbe' : (((belowS z v).length : Int) == 0) = true := by rw [hbe]; rfl
        clear hbe hL0
        go_wp2
        exact ret_box rfl rfl SA8.out.m SA8.out.r (by omega) SA8.out.b
      · have hL0' : ((L.length : Int) == 0) = false := beq_eq_false_iff_ne.2 (by omega)
        have hfb : foundB z v = true := by
          cases h : foundB z v
          · rw [HLL.out, above_no h] at hL0; exact absurd rfl hL0
          · rfl
        have hrb := rbelow_any a0 len0 cap0 z v W8 (HZ.out _ SA8.out.b) HL.out
        unfold OwnIt at hrb
        have hre := ref_below hfb
        rw [HL.out] at hre
        rw [hre] at hrb
        clear hL0 hfb hre rf rc
        generalize belowS z v = G at *
        go_wp2_with fail
        clear q8
        refine hrb.mono ?_
        rintro e W9 ⟨u9, rfl, ho, hb⟩
        have SA9 := Lib.hid (SA8.out.keep hb)
        obtain ⟨a9, c9, rfl, hr9, _⟩ := ho.has
        have R9 := Lib.hid hr9; have R89 := Lib.hid (R8.out.keep hb)
        clear hb ho hr9 hrb SA8 R8
        go_wp2_with fail
        refine (same_any _ _ _ _ _ _ G G W9 R89.out rfl R9.out rfl).mono ?_
        rintro e Wa ⟨rfl, nd, rfl⟩
        have SAa := Lib.hid (SA9.out.keep (below_drew W9 nd))
        have rf := SAa.out.r.free; have rc := SAa.out.r.cell
        have dG : decide (G = G) = true := decide_eq_true rfl
        clear SA9
        go_wp2
        exact ret_box rfl rfl SAa.out.m SAa.out.r (by omega) SAa.out.b
end Go.Proofs.Ytnhaoalndlgakaa.Tr

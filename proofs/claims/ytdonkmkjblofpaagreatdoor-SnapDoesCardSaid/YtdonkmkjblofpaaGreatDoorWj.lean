/-
  Layer 5: must, readSegment.
-/
import Derived.Test.YtdonkmkjblofpaaGreatDoorWi
namespace Go.Proofs.YtdonkmkjblofpaaGreatDoor.Wl
open Go.RowKit Go.Sort Dx Sx Dk
set_option linter.unusedVariables false
set_option linter.unusedSimpArgs false
def fall (c : Int) : Ending := .panicked [{ v := .iface 24 (.int .i64 c), recovered := false }]
theorem must_ok (w : World) : Calls Tryz.prog 93 #[.int .i64 0] w fun e w' => e = .returned (.tuple #[]) ∧ w = w' := by
  go_enter Tryz.func93, Tryz.ntmps93
  go_wp2
  first | go_end0 | refine bodyPost_ret (results_none rfl _ _ _) rfl ?_
  exact ⟨rfl, rfl⟩
theorem must_no (c : Int) (hc : c ≠ 0) (w : World) : Calls Tryz.prog 93 #[.int .i64 c] w fun e w' => e = .panicked [{ v := .iface 24 (.int .i64 c), recovered := false }] ∧ w = w' := by
  have t1 : (c == 0) = false := by simpa using hc
  have t2 : (c != 0) = true := by simpa using hc
  go_enter Tryz.func93, Tryz.ntmps93
  go_wp2
  exact ⟨rfl, rfl, rfl⟩
/-- Records in memory, all of whose blocks are in A. -/
def WasS (A : Nat → Prop) (w : World) (C : List (List Int)) (j : Nat) (v : Value) : Prop := ∃ vs : List Value, w.ownsRow 0 22 1 v j vs ∧ (∀ b, v.ownBlock = some b → A b) ∧ ∀ i, i < j → ∃ u, vs[i]? = some u ∧ Ob.OwnB w 0 u (C.getD i []) ∧ ∀ b, u.ownBlock = some b → A b
theorem WasS.keep {A : Nat → Prop} {w w' : World} {C : List (List Int)} {j : Nat} {v : Value} (h : WasS A w C j v) (hk : ∀ b, A b → b < w.heap.size → w'.heap[b]? = w.heap[b]?) : WasS A w' C j v := by
  obtain ⟨vs, h1, h2, h3⟩ := h
  refine ⟨vs, irow_move h1 fun b e => hk b (h2 b e) (h1.lt b e).2, h2, fun i hi => ?_⟩
  obtain ⟨u, e, hu, ha⟩ := h3 i hi
  exact ⟨u, e, irow_move hu fun b eb => hk b (ha b eb) (World.ownsRow.lt hu b eb).2, ha⟩
theorem WasS.mono {A A' : Nat → Prop} {w : World} {C : List (List Int)} {j : Nat} {v : Value} (h : WasS A w C j v) (hA : ∀ b, A b → A' b) : WasS A' w C j v := by
  obtain ⟨vs, h1, h2, h3⟩ := h
  exact ⟨vs, h1, fun b e => hA b (h2 b e), fun i hi => (h3 i hi).elim fun u ⟨e, hu, ha⟩ => ⟨u, e, hu, fun b eb => hA b (ha b eb)⟩⟩
theorem WasS.of {N : Nat} {w : World} {C : List (List Int)} {j : Nat} {v : Value} (h : WasOk N w C j v) : WasS (fun b => N ≤ b ∧ b < w.heap.size) w C j v := by
  obtain ⟨vs, h1, h2⟩ := h
  refine ⟨vs, Joins.ownsRow_le h1 (Nat.zero_le _), fun b e => h1.lt b e, fun i hi => ?_⟩
  obtain ⟨u, e, hu⟩ := h2 i hi
  exact ⟨u, e, Joins.ownsRow_le hu (Nat.zero_le _), fun b eb => World.ownsRow.lt hu b eb⟩
theorem was_empty (A : Nat → Prop) (w : World) (C : List (List Int)) : WasS A w C 0 (.slice none 0 0) := ⟨[], ⟨rfl, .inl ⟨rfl, rfl⟩⟩, (fun b e => by cases e), fun i hi => absurd hi (Nat.not_lt_zero _)⟩
theorem own_slice {w : World} {N : Nat} {v : Value} {l : List Int} (h : Ob.OwnB w N v l) : v.oneCell' = true := by
  rcases h.2 with ⟨rfl, _⟩ | ⟨g, cap, cur, rfl, _⟩ <;> rfl
set_option maxRecDepth 100000 in
/-- append(records, records...). -/
theorem wp_wass {ops : Array Oper} {rest : List Oper} {o : Oper} {a : Act} {Q : Exit → Act → World → Prop} {w : World} (hgd : o.guard = none) (s x : Operand)
    (ho : o.op = .call { callee := .builtin .append, args := #[s, x], argTypes := #[27, 27] }) (A B : Nat → Prop) (C D : List (List Int)) (j m : Nat) (v u : Value) (hs : a.eval s = v) (hx : a.eval x = u) (hv : WasS A w C j v) (hu : WasS B w D m u)
    (hCD : ∀ i, i < m → C.getD (j + i) [] = D.getD i []) (hj : j + m ≤ 1048576)
    (h : ∀ v' w', WasS (fun b => A b ∨ B b ∨ (b = w.heap.size ∧ b < w'.heap.size)) w' C (j + m) v' → (∃ ad cap, v' = .slice ad (j + m) cap) → w.grownBy w' v.ownBlock → (∀ b, v.ownBlock = some b → A b) → wpList Tryz.prog ops Q rest (a.put o.dst v') w') : wpList Tryz.prog ops Q (o :: rest) a w := by
  obtain ⟨i0, hi, hz0, hz1, hz2⟩ := info_parts info_b
  have hv' := hv
  obtain ⟨vs, h1, h2, h3⟩ := hv
  obtain ⟨us, k1, k2, k3⟩ := hu
  have hvs : vs.length = j := by have := h1.1; omega
  have hus : us.length = m := by have := k1.1; omega
  have shape : ∀ {w1 : World} {v' : Value} {n : Nat} {xs : List Value}, w1.ownsRow 0 22 1 v' n xs → ∃ ad cap, v' = .slice ad n cap := fun hr => by
    rcases hr.2 with ⟨e, h0⟩ | ⟨g, cap, cur, e, _⟩
    · exact ⟨none, 0, by rw [e, h0]⟩
    · exact ⟨_, cap, e⟩
  rcases k1.2 with ⟨rfl, h0⟩ | ⟨g, cap, cur, rfl, hb0, hh, x1, x2, x3, x4⟩
  · subst h0
    refine wpList_append_own_none hgd s x 27 ho 0 22 i0 1 Tryz.underlying27 hi v j vs hs h1 hx ?_
    exact h v w (by rw [Nat.add_zero]; exact hv'.mono fun b hb => .inl hb) (by rw [Nat.add_zero]; exact shape h1) (World.grownBy.refl _ _) h2
  · refine wpList_append_own_at w hgd s x 27 ho 0 22 i0 (.slice none 0 0) 1 24 Tryz.underlying27 hi hz0 hz1 hz2 rfl (by decide) v j vs hs h1 ⟨g, 0, none⟩ m cap us hx (by omega) ?_ ?_ (by unfold maxLen; omega) (by omega) (Nat.zero_le _) ?_
    · intro i y hy
      have hlt : i < us.length := (List.getElem?_eq_some_iff.1 hy).1
      rw [show (⟨g, 0, none⟩ : Addr).add i = ⟨g, i, none⟩ by unfold Addr.add; split <;> simp_all]
      rw [World.ownsRow.cellAt k1 i (by omega), hy]
    · intro y hy
      obtain ⟨i, hi', rfl⟩ := List.mem_iff_getElem.1 hy
      obtain ⟨u', e, hu', _⟩ := k3 i (by omega)
      rw [List.getElem?_eq_getElem hi'] at e
      have e2 := Option.some.inj e
      rw [e2]; exact own_slice hu'
    · intro v' w' r1 r2 r3 r4
      have mv : ∀ (b : Nat) (cur' : Array Value), w.heap[b]? = some (Obj.cells cur' 5 (0, 0)) → w'.heap[b]? = w.heap[b]? := fun b cur' hb => r2.block b (lt_of_heap hb) fun e => by
        obtain ⟨_, c2, hc2⟩ := irow_kind h1 b e.symm
        rw [hb] at hc2; simp at hc2
      have mo : ∀ {u' : Value} {l : List Int}, Ob.OwnB w 0 u' l → Ob.OwnB w' 0 u' l := fun hu' => irow_move hu' fun b eb => by
        obtain ⟨_, cur', hc⟩ := irow_kind hu' b eb
        exact mv b cur' hc
      refine h v' w' ⟨vs ++ us, r1, fun b e => ?_, fun i hi' => ?_⟩ (shape r1) r2 h2
      · rcases r4 with r4 | r4
        · rw [r4] at e; exact .inl (h2 b e)
        · have hlt := (r1.lt b e).2
          rw [r4] at e; exact .inr (.inr ⟨(Option.some.inj e).symm, hlt⟩)
      · rcases Nat.lt_or_ge i j with hlt | hge
        · obtain ⟨y, e, hy, ha⟩ := h3 i hlt
          exact ⟨y, by rw [List.getElem?_append_left (by omega)]; exact e, mo hy, fun b eb => .inl (ha b eb)⟩
        · obtain ⟨y, e, hy, ha⟩ := k3 (i - j) (by omega)
          have := hCD (i - j) (by omega)
          rw [show j + (i - j) = i by omega] at this
          exact ⟨y, by rw [List.getElem?_append_right (by omega), hvs]; exact e, by rw [this]; exact mo hy, fun b eb => .inr (.inl (ha b eb))⟩
/-- What reading a segment leaves: its error (0: none), the disk. -/
def rdS (k : List UInt8) (S : St) : Int × St :=
  if sizeR (recsB (readL k S)) < (readL k S).length then
    (if (truncS k (sizeR (recsB (readL k S)) : Nat) S).1 ≠ 0 then truncS k (sizeR (recsB (readL k S)) : Nat) S else syncS k (truncS k (sizeR (recsB (readL k S)) : Nat) S).2)
  else syncS k S
def RdIt (w : World) (O : Nat → Prop) (d : Nat) (R : List (List Int)) (S : St) (e : Ending) (w' : World) : Prop := ∃ v O', e = .returned v ∧ WasS (fun b => w.heap.size ≤ b ∧ b < w'.heap.size ∧ ¬ O' b) w' R R.length v ∧ Step w O w' O' ∧ IsDisk w' O' d S
def FallIt (w : World) (O : Nat → Prop) (d : Nat) (r : Int × St) (e : Ending) (w' : World) : Prop := e = fall r.1 ∧ Has w O d r.2 w'
set_option maxRecDepth 100000 in
theorem records_nil (w : World) (ht : Sx.Tab w) : Calls Tryz.prog 9 #[.slice none 0 0] w (RecsIt w []) := by
  have F := Lib.hid (first_any none 0 0 [] w ht (fun j hj => by simp at hj) (row_zero _) rfl (Nat.le_refl _) (by decide))
  have e : one [] = none := rfl
  unfold FirstIt at F
  rw [e] at F
  clear e ht
  have D : Hid (∀ n, RecsIt w [] (.returned (.tuple #[.slice none 0 0, .int .i64 0])) (w.drewN n)) := Lib.hid fun n => ⟨_, rfl, ⟨[], ⟨rfl, .inl ⟨rfl, rfl⟩⟩, fun i hi => absurd hi (Nat.not_lt_zero _)⟩, bel_dn (Below.refl _ _) n⟩
  go_enter Tryz.func9, Tryz.ntmps9
  go_wp2
  go_loopg [4, 5] 1 (fun m o i wr => o = .slice none 0 0 ∧ i = .int .i64 0 ∧ wr = w)
  case atStart => exact ⟨rfl, rfl, rfl⟩
  case round =>
    obtain ⟨rfl, rfl, rfl⟩ := hrel
    go_wp2_with (go_at_call 47; (with_reducible refine F.out.mono ?_); rintro e w5 ⟨⟨nn, rfl⟩, v5, rfl⟩)
    go_ret2
    exact D.out _
theorem records_own (w : World) {N : Nat} {v : Value} {l : List Int} (h : Ob.OwnB w N v l) (ht : Sx.Tab w) (hb : Bytes l) (hbig : l.length ≤ 1048576) : Calls Tryz.prog 9 #[v] w (RecsIt w (recsB l)) := by
  have h' := h
  rcases h.2 with ⟨rfl, h0⟩ | ⟨g, cap, cur, rfl, hb0, hh, x1, x2, x3, x4⟩
  · obtain rfl : l = [] := List.eq_nil_of_length_eq_zero h0
    exact records_nil w ht
  · obtain ⟨ad, cap', e, r1, r2, r3, r4⟩ := Ob.own_row h'
    simp only [Value.slice.injEq, true_and] at e
    obtain ⟨e1, rfl⟩ := e
    subst e1
    exact records_some g 0 l.length cap l w ht hb r1 rfl x1 (by unfold maxLen at x2; omega) hbig
theorem was_low {N N' : Nat} {w : World} {C : List (List Int)} {j : Nat} {v : Value} (h : WasOk N w C j v) (hN : N' ≤ N) : WasOk N' w C j v := by
  obtain ⟨vs, h1, h2⟩ := h
  refine ⟨vs, Joins.ownsRow_le h1 hN, fun i hi => ?_⟩
  obtain ⟨u, e, hu⟩ := h2 i hi
  exact ⟨u, e, Joins.ownsRow_le hu hN⟩
theorem disk_low {w : World} {O : Nat → Prop} {d : Nat} {S : St} (h : IsDisk w O d S) : ∀ i, O i → i < w.heap.size := by
  obtain ⟨_, _, _, h⟩ := h; exact h.dom
theorem rd_done {w w1 w2 w' : World} {O O' : Nat → Prop} {d : Nat} {R : List (List Int)} {S' : St} {v : Value} (hl : ∀ i, O i → i < w.heap.size) (h1 : w.heap.size ≤ w1.heap.size) (hw : WasOk w1.heap.size w2 R R.length v) (hb : Below w.heap.size w w2) (hst : Step w2 O w' O') (hd : IsDisk w' O' d S') : RdIt w O d R S' (.returned v) w' := by
  refine ⟨v, O', rfl, ?_, (Step.of (Turned.of_below hb)).trans hst, hd⟩
  refine ((WasS.of hw).keep fun b hb' hlt => hst.block b hlt fun ho => by have := hl b ho; omega).mono fun b hb' => ⟨Nat.le_trans h1 hb'.1, Nat.lt_of_lt_of_le hb'.2 hst.size, fun ho => ?_⟩
  rcases hst.own b ho with h3 | h3
  · have := hl b h3; omega
  · omega
section
variable {w : World} {O : Nat → Prop} {d : Nat} {S : St}
set_option maxRecDepth 100000 in
set_option maxHeartbeats 800000 in
theorem rd_any (hd : IsDisk w O d S) (s : ByteArray) (hs : s.size ≤ maxLen) (hth : there s.data.toList S = 0) (ht : Tabs w) (hb : Bytes (readL s.data.toList S)) (hbig : (readL s.data.toList S).length ≤ 1048576) :
    Calls Tryz.prog 94 #[.pointer (some ⟨d, 0, none⟩), .string s] w fun e w' => if (rdS s.data.toList S).1 = 0 then RdIt w O d (recsB (readL s.data.toList S)) (rdS s.data.toList S).2 e w' else FallIt w O d (rdS s.data.toList S) e w' := by
  obtain ⟨l, hl⟩ : ∃ l, readL s.data.toList S = l := ⟨_, rfl⟩
  obtain ⟨R, hR⟩ : ∃ R, recsB l = R := ⟨_, rfl⟩
  have hrd : rdS s.data.toList S = (if sizeR R < l.length then (if (truncS s.data.toList (sizeR R : Nat) S).1 ≠ 0 then truncS s.data.toList (sizeR R : Nat) S else syncS s.data.toList (truncS s.data.toList (sizeR R : Nat) S).2) else syncS s.data.toList S) := by unfold rdS; rw [hl, hR]
  have LOW := Lib.hid (disk_low hd)
  have rd := read_disk hd s hs
  unfold ReadIt at rd
  rw [hth, hl] at rd
  rw [hl] at hb hbig ⊢
  rw [hR]
  have RC : Hid (∀ wx v N, Ob.OwnB wx N v l → Below w.heap.size w wx → Calls Tryz.prog 9 #[v] wx (RecsIt wx R)) := Lib.hid fun wx v N h hbx => by rw [← hR]; exact records_own wx h (tab_keep ht.crc hbx) hb hbig
  have TR : Hid (∀ wx, Below w.heap.size w wx → Calls Tryz.prog 103 #[.pointer (some ⟨d, 0, none⟩), .string s, .int .i64 ((sizeR R : Nat) : Int)] wx (Did wx O d (truncS s.data.toList (sizeR R : Nat) S))) := Lib.hid fun wx hbx => trunc_disk (hd.below hbx) s hs _
  have SY : Hid (∀ wx O' S', IsDisk wx O' d S' → Calls Tryz.prog 28 #[.pointer (some ⟨d, 0, none⟩), .string s] wx (Did wx O' d (syncS s.data.toList S'))) := Lib.hid fun wx O' S' h => sync_disk h s hs
  have H := Lib.hid hd
  obtain ⟨ll, hll⟩ : ∃ ll, l.length = ll := ⟨_, rfl⟩
  obtain ⟨sz, hsz⟩ : ∃ sz, sizeR R = sz := ⟨_, rfl⟩
  rw [hsz, hll] at hrd
  rw [hll] at hbig
  unfold RecsIt at RC
  rw [hsz] at RC TR
  obtain ⟨tr, htr⟩ : ∃ tr, truncS s.data.toList (sz : Int) S = tr := ⟨_, rfl⟩
  rw [htr] at hrd TR
  obtain ⟨c1, S1⟩ := tr
  unfold Did at TR SY
  simp only at hrd TR
  have RD := Lib.hid rd; have HLL := Lib.hid hll
  clear rd htr hR hl hsz hll hb ht hth
  by_cases hlt : sz < ll
  · rw [if_pos hlt] at hrd
    by_cases h1 : c1 = 0
    · subst h1
      rw [if_neg (by simp)] at hrd
      obtain ⟨sy, hsy⟩ : ∃ sy, syncS s.data.toList S1 = sy := ⟨_, rfl⟩
      have SY1 : Hid (∀ wx O', IsDisk wx O' d S1 → Calls Tryz.prog 28 #[.pointer (some ⟨d, 0, none⟩), .string s] wx (fun e w' => e = .returned (.int .i64 sy.1) ∧ ∃ O'', Step wx O' w' O'' ∧ IsDisk w' O'' d sy.2)) := Lib.hid fun wx O' h => by have := SY.out wx O' S1 h; rwa [hsy] at this
      rw [hsy] at hrd
      rw [hrd]
      obtain ⟨c2, S2⟩ := sy
      simp only at SY1 ⊢
      clear hrd hsy hd SY
      by_cases h2 : c2 = 0
      · subst h2
        simp only [if_true]
        go_enter Tryz.func94, Tryz.ntmps94
        go_wp2_with fail
        refine RD.out.mono ?_
        rintro e w1 ⟨v1, rfl, ho1, hb1⟩
        obtain ⟨ad1, cap1, e1, _⟩ := Ob.own_row ho1
        rw [HLL.out] at e1
        subst e1
        have HO1 := Lib.hid ho1; have HB1 := Lib.hid hb1
        clear ho1 hb1
        go_wp2_with fail
        refine (must_ok _).mono ?_
        rintro e w' ⟨rfl, rfl⟩
        go_wp2_with fail
        refine (RC.out _ _ _ HO1.out HB1.out).mono ?_
        rintro e w2 ⟨vr, rfl, hw2, hb2⟩
        have HW2 := Lib.hid hw2; have HB2 := Lib.hid (HB1.out.trans (hb2.mono HB1.out.size))
        clear hw2 hb2
        have tl : decide (sz < ll) = true := by simpa using hlt
        go_wp2_with fail
        refine (TR.out _ HB2.out).mono ?_
        rintro e w3 ⟨rfl, O3, hst3, hd3⟩
        have ST3 := Lib.hid hst3; have HD3 := Lib.hid hd3
        clear hst3 hd3
        go_wp2_with fail
        refine (must_ok _).mono ?_
        rintro e w' ⟨rfl, rfl⟩
        go_wp2_with fail
        refine (SY1.out _ _ HD3.out).mono ?_
        rintro e w4 ⟨rfl, O4, hst4, hd4⟩
        have ST4 := Lib.hid (ST3.out.trans hst4); have HD4 := Lib.hid hd4
        clear hst4 hd4
        go_wp2_with fail
        refine (must_ok _).mono ?_
        rintro e w' ⟨rfl, rfl⟩
        go_wp2
        go_ret
        exact rd_done LOW.out HB1.out.size HW2.out HB2.out ST4.out HD4.out
      · simp only [if_neg h2]
        go_enter Tryz.func94, Tryz.ntmps94
        go_wp2_with fail
        refine RD.out.mono ?_
        rintro e w1 ⟨v1, rfl, ho1, hb1⟩
        obtain ⟨ad1, cap1, e1, _⟩ := Ob.own_row ho1
        rw [HLL.out] at e1
        subst e1
        have HO1 := Lib.hid ho1; have HB1 := Lib.hid hb1
        clear ho1 hb1
        go_wp2_with fail
        refine (must_ok _).mono ?_
        rintro e w' ⟨rfl, rfl⟩
        go_wp2_with fail
        refine (RC.out _ _ _ HO1.out HB1.out).mono ?_
        rintro e w2 ⟨vr, rfl, hw2, hb2⟩
        have HW2 := Lib.hid hw2; have HB2 := Lib.hid (HB1.out.trans (hb2.mono HB1.out.size))
        clear hw2 hb2
        have tl : decide (sz < ll) = true := by simpa using hlt
        go_wp2_with fail
        refine (TR.out _ HB2.out).mono ?_
        rintro e w3 ⟨rfl, O3, hst3, hd3⟩
        have ST3 := Lib.hid hst3; have HD3 := Lib.hid hd3
        clear hst3 hd3
        go_wp2_with fail
        refine (must_ok _).mono ?_
        rintro e w' ⟨rfl, rfl⟩
        go_wp2_with fail
        refine (SY1.out _ _ HD3.out).mono ?_
        rintro e w4 ⟨rfl, O4, hst4, hd4⟩
        have ST4 := Lib.hid (ST3.out.trans hst4); have HD4 := Lib.hid hd4
        clear hst4 hd4
        go_wp2_with fail
        refine (must_no _ h2 _).mono ?_
        rintro e w' ⟨rfl, rfl⟩
        go_wp2
        exact ⟨rfl, rfl, _, (Step.of (Turned.of_below HB2.out)).trans ST4.out, HD4.out⟩
    · rw [if_pos (by simpa using h1)] at hrd
      rw [hrd]
      simp only [if_neg h1]
      clear hrd hd SY
      go_enter Tryz.func94, Tryz.ntmps94
      go_wp2_with fail
      refine RD.out.mono ?_
      rintro e w1 ⟨v1, rfl, ho1, hb1⟩
      obtain ⟨ad1, cap1, e1, _⟩ := Ob.own_row ho1
      rw [HLL.out] at e1
      subst e1
      have HO1 := Lib.hid ho1; have HB1 := Lib.hid hb1
      clear ho1 hb1
      go_wp2_with fail
      refine (must_ok _).mono ?_
      rintro e w' ⟨rfl, rfl⟩
      go_wp2_with fail
      refine (RC.out _ _ _ HO1.out HB1.out).mono ?_
      rintro e w2 ⟨vr, rfl, hw2, hb2⟩
      have HW2 := Lib.hid hw2; have HB2 := Lib.hid (HB1.out.trans (hb2.mono HB1.out.size))
      clear hw2 hb2
      have tl : decide (sz < ll) = true := by simpa using hlt
      go_wp2_with fail
      refine (TR.out _ HB2.out).mono ?_
      rintro e w3 ⟨rfl, O3, hst3, hd3⟩
      have ST3 := Lib.hid hst3; have HD3 := Lib.hid hd3
      clear hst3 hd3
      go_wp2_with fail
      refine (must_no _ h1 _).mono ?_
      rintro e w' ⟨rfl, rfl⟩
      go_wp2
      exact ⟨rfl, rfl, _, (Step.of (Turned.of_below HB2.out)).trans ST3.out, HD3.out⟩
  · rw [if_neg hlt] at hrd
    obtain ⟨sy, hsy⟩ : ∃ sy, syncS s.data.toList S = sy := ⟨_, rfl⟩
    have SY1 : Hid (∀ wx O', IsDisk wx O' d S → Calls Tryz.prog 28 #[.pointer (some ⟨d, 0, none⟩), .string s] wx (fun e w' => e = .returned (.int .i64 sy.1) ∧ ∃ O'', Step wx O' w' O'' ∧ IsDisk w' O'' d sy.2)) := Lib.hid fun wx O' h => by have := SY.out wx O' S h; rwa [hsy] at this
    rw [hsy] at hrd
    rw [hrd]
    obtain ⟨c2, S2⟩ := sy
    simp only at SY1 ⊢
    clear hrd hsy hd SY
    by_cases h2 : c2 = 0
    · subst h2
      simp only [if_true]
      go_enter Tryz.func94, Tryz.ntmps94
      go_wp2_with fail
      refine RD.out.mono ?_
      rintro e w1 ⟨v1, rfl, ho1, hb1⟩
      obtain ⟨ad1, cap1, e1, _⟩ := Ob.own_row ho1
      rw [HLL.out] at e1
      subst e1
      have HO1 := Lib.hid ho1; have HB1 := Lib.hid hb1
      clear ho1 hb1
      go_wp2_with fail
      refine (must_ok _).mono ?_
      rintro e w' ⟨rfl, rfl⟩
      go_wp2_with fail
      refine (RC.out _ _ _ HO1.out HB1.out).mono ?_
      rintro e w2 ⟨vr, rfl, hw2, hb2⟩
      have HW2 := Lib.hid hw2; have HB2 := Lib.hid (HB1.out.trans (hb2.mono HB1.out.size))
      clear hw2 hb2
      have tl : decide (sz < ll) = false := by simpa using hlt
      have ST3 := Lib.hid (Step.refl w2 O); have HD3 := Lib.hid (H.out.below HB2.out)
      go_wp2_with fail
      refine (SY1.out _ _ HD3.out).mono ?_
      rintro e w4 ⟨rfl, O4, hst4, hd4⟩
      have ST4 := Lib.hid (ST3.out.trans hst4); have HD4 := Lib.hid hd4
      clear hst4 hd4
      go_wp2_with fail
      refine (must_ok _).mono ?_
      rintro e w' ⟨rfl, rfl⟩
      go_wp2
      go_ret
      exact rd_done LOW.out HB1.out.size HW2.out HB2.out ST4.out HD4.out
    · simp only [if_neg h2]
      go_enter Tryz.func94, Tryz.ntmps94
      go_wp2_with fail
      refine RD.out.mono ?_
      rintro e w1 ⟨v1, rfl, ho1, hb1⟩
      obtain ⟨ad1, cap1, e1, _⟩ := Ob.own_row ho1
      rw [HLL.out] at e1
      subst e1
      have HO1 := Lib.hid ho1; have HB1 := Lib.hid hb1
      clear ho1 hb1
      go_wp2_with fail
      refine (must_ok _).mono ?_
      rintro e w' ⟨rfl, rfl⟩
      go_wp2_with fail
      refine (RC.out _ _ _ HO1.out HB1.out).mono ?_
      rintro e w2 ⟨vr, rfl, hw2, hb2⟩
      have HW2 := Lib.hid hw2; have HB2 := Lib.hid (HB1.out.trans (hb2.mono HB1.out.size))
      clear hw2 hb2
      have tl : decide (sz < ll) = false := by simpa using hlt
      have ST3 := Lib.hid (Step.refl w2 O); have HD3 := Lib.hid (H.out.below HB2.out)
      go_wp2_with fail
      refine (SY1.out _ _ HD3.out).mono ?_
      rintro e w4 ⟨rfl, O4, hst4, hd4⟩
      have ST4 := Lib.hid (ST3.out.trans hst4); have HD4 := Lib.hid hd4
      clear hst4 hd4
      go_wp2_with fail
      refine (must_no _ h2 _).mono ?_
      rintro e w' ⟨rfl, rfl⟩
      go_wp2
      exact ⟨rfl, rfl, _, (Step.of (Turned.of_below HB2.out)).trans ST4.out, HD4.out⟩
end
end Go.Proofs.YtdonkmkjblofpaaGreatDoor.Wl

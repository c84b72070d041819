/-
  Layer 4: Read, Names, Arm, Size, at a disk of the reference.
-/
import Derived.Test.YtjeemgcenmcplaaLb
import Derived.Deep.RegionHeld3
namespace Go.Proofs.Ytjeemgcenmcplaa.Dk
open Go.RowKit
set_option linter.unusedVariables false

theorem below_alloc {B : Nat} {w wx : World} {o : Obj} (h : Below B w wx) (hB : B ≤ w.heap.size) : Below B w (wx.alloc o) := h.alloc (Nat.le_trans hB h.size) o
/-- append(own bytes, bytes...) at a step of a region that draws. -/
theorem step_apd {ops : Array Oper} {o : Oper} {a : Act} {K : Act → World → Prop} {Q : Exit → Act → World → Prop} {E : Prop} {w : World} (hgd : o.guard = none) (s x : Operand)
    (ho : o.op = .call { callee := .builtin .append, args := #[s, x], argTypes := #[29, 29] }) (w0 : World) (base : Nat) (hB : Below base w0 w) (v : Value) (l : List Int) (hs : a.eval s = v) (hown : Ob.OwnB w base v l)
    (ad : Option Addr) (len cap : Nat) (zs : List Int) (hx : a.eval x = .slice ad len cap) (hrow : Fr.HasRow .u8 w ad len zs) (hn : ad = none → cap = 0)
    (hbytes : l.length + len ≤ 140737488355328) (hbase : base ≤ w0.heap.size)
    (h : ∀ v' w', Ob.OwnB w' base v' (l ++ zs.take len) → Below base w0 w' → w.grownBy w' v.ownBlock → K (a.put o.dst v') w') : if Region.wanted o (yielded ops a.tmps) = true then Oper.wp Try.prog o a w K Q else E := by
  have hw : Region.wanted o (yielded ops a.tmps) = true := by simp [Region.wanted, hgd]
  rw [if_pos hw]
  obtain ⟨i0, hi, hz0, hz1, hz2⟩ := info_parts info_u8
  obtain ⟨hr1, hr2, hr3⟩ := hrow
  have hln : (l ++ zs.take len).length = l.length + len := by simp; omega
  have hb' : base ≤ w.heap.size := Nat.le_trans hbase hB.size
  cases ad with
  | none =>
    obtain rfl : len = 0 := by
      rcases Nat.eq_zero_or_pos len with h0 | h0
      · exact h0
      · obtain ⟨b, off, e, _⟩ := hr3 h0; cases e
    obtain rfl := hn rfl
    have hrun := run_append_owned_none (P := Try.prog) (w := w) base 29 o.type 5 i0 1 Try.underlying29 hi v l.length (l.map (Value.int .u8)) hown
    unfold Oper.wp
    simp [execOp, ho, resolve, invoke, builtin, hs, hx, hrun, Result.andThen]
    exact h v w (by rw [List.take_zero, List.append_nil]; exact hown) hB (World.grownBy.refl _ _)
  | some ad =>
    obtain ⟨v', w', hr, h2, h3, _, _⟩ := run_append_own_at (P := Try.prog) w base 29 o.type 5 i0 (.int .u8 0) 1 1 Try.underlying29 hi hz0 hz1 hz2 rfl (by decide) v l.length (l.map (Value.int .u8)) hown ad len cap ((zs.take len).map (Value.int .u8)) (by simp; omega) (fun j u hj => by
      obtain ⟨h1, h2, rfl⟩ := Ob.take_at hj
      obtain ⟨b, off, e, hc⟩ := hr3 (by omega)
      cases e
      rw [show (⟨b, off, none⟩ : Addr).add j = ⟨b, off + j, none⟩ by simp [Addr.add]]
      exact hc j h1) (Ob.ints_one _) (by unfold maxLen; omega) (by omega) hb'
    unfold Oper.wp execOp
    simp only [ho, resolve, invoke, builtin, Sem.run_bind, Sem.run_pure, Result.andThen_ok, List.map_toArray, List.map_cons, List.map_nil, hs, hx, hr]
    refine h v' w' ?_ (hB.trans (below_row hown h3 hb')) h3
    unfold Ob.OwnB
    rw [hln, List.map_append]
    exact h2
theorem own_made_drew (w : World) {base : Nat} (hb : base ≤ w.heap.size) : Ob.OwnB (w.alloc (.cells #[] 5)).drew base (.slice (some ⟨w.heap.size, 0, none⟩) 0 0) [] := Ob.own_made w hb
section
variable {w w' : World} {O : Nat → Prop} {d : Nat} {fv : Value} {P Q : List UInt8 → Value} {S S' : St}
theorem Part.row {v : Value} {l : List Int} (h : Part w O v l) : ∃ ad cap, v = .slice ad l.length cap ∧ (ad = none → cap = 0) ∧ l.length ≤ cap ∧ cap ≤ maxLen ∧ Fr.HasRow .u8 w ad l.length l := by
  obtain ⟨ad, cap, e, h1, h2, h3, h4⟩ := h.own.row
  exact ⟨ad, cap, e, h2, h3, h4, h1⟩
/-- All that a call reads of the j-th file. -/
structure See (w : World) (d q n cap j : Nat) (nm : ByteArray) (p1 p2 : Option Addr) (x1 x2 c1 c2 : Nat) (l1 l2 : List Int) : Prop where
  z0 : w.cell? ⟨d, 0, none⟩ = some (.slice (some ⟨q, 0, none⟩) n cap)
  a0 : w.cell? ⟨q, j * 3, none⟩ = some (.string nm)
  a1 : w.cell? ⟨q, j * 3 + 1, none⟩ = some (.slice p1 x1 c1)
  a2 : w.cell? ⟨q, j * 3 + 2, none⟩ = some (.slice p2 x2 c2)
  fz : ∀ i, w.frozen? ⟨q, i, none⟩ = false
  r1 : Fr.HasRow .u8 w p1 x1 l1
  r2 : Fr.HasRow .u8 w p2 x2 l2
theorem RRep.see (h : RRep w O d fv P Q S) {j : Nat} {f : File} (hj : S.fs[j]? = some f) : ∃ q n cap p1 p2 x1 x2 c1 c2, S.fs.length = n ∧ n ≤ 16 ∧ j < n ∧ fv = .slice (some ⟨q, 0, none⟩) S.fs.length cap ∧ P f.nm = .slice p1 x1 c1 ∧ Q f.nm = .slice p2 x2 c2 ∧ (f.l.take f.s).length = x1 ∧ (f.l.drop f.s).length = x2 ∧ (p1 = none → c1 = 0) ∧ (p2 = none → c2 = 0) ∧
    x1 ≤ c1 ∧ x2 ≤ c2 ∧ c1 ≤ 9223372036854775807 ∧ c2 ≤ 9223372036854775807 ∧ Hid (x1 = f.s) ∧ x1 + x2 = f.l.length ∧ x1 + x2 ≤ 1048576 ∧ ∀ wx, Below w.heap.size w wx → See wx d q n cap j (str f.nm) p1 p2 x1 x2 c1 c2 (f.l.take f.s) (f.l.drop f.s) := by
  have hmem : f ∈ S.fs := List.mem_of_getElem? hj
  obtain ⟨q, cap, e, oq, a0, a1, a2, a3, _⟩ := h.at hj
  obtain ⟨p1, c1, e1, k1, k2, k3, r1⟩ := (h.files f hmem).safe.row
  obtain ⟨p2, c2, e2, m1, m2, m3, r2⟩ := (h.files f hmem).wait.row
  have hs := h.good.safe f hmem
  have hz := h.good.size f hmem
  refine ⟨q, _, cap, p1, p2, _, _, c1, c2, rfl, h.good.few, (List.getElem?_eq_some_iff.1 hj).1, e, e1, e2, rfl, rfl, k1, m1, k2, m2, by unfold maxLen at k3; exact k3, by unfold maxLen at m3; exact m3, Lib.hid (by simp; omega), by simp; omega, by simp; omega, fun wx hb => ?_⟩
  have hx := h.below hb
  obtain ⟨q', cap', e', _, b0, b1, b2, b3, _⟩ := hx.at hj
  have e3 := e'
  rw [e] at e3
  simp only [Value.slice.injEq, Option.some.injEq, Addr.mk.injEq, true_and, and_true] at e3
  obtain ⟨rfl, rfl⟩ := e3
  obtain ⟨z0, _⟩ := hx.cells
  obtain ⟨p1', c1', e1', _, _, _, r1'⟩ := (hx.files f hmem).safe.row
  obtain ⟨p2', c2', e2', _, _, _, r2'⟩ := (hx.files f hmem).wait.row
  rw [e1] at e1'; rw [e2] at e2'
  simp only [Value.slice.injEq, true_and] at e1' e2'
  obtain ⟨rfl, rfl⟩ := e1'
  obtain ⟨rfl, rfl⟩ := e2'
  exact ⟨by rw [z0, e], b0, by rw [← e1]; exact b1, by rw [← e2]; exact b2, b3, r1', r2'⟩
theorem ref_at_some (h : RRep w O d fv P Q S) (s : ByteArray) {f : File} (hl : look s.data.toList S.fs = some f) : ∃ j : Nat, S.fs[j]? = some f ∧ Calls Try.prog 42 #[.pointer (some ⟨d, 0, none⟩), .string s] w fun e w' => e = .returned (.int .i64 (j : Int)) ∧ Below w.heap.size w w' := by
  obtain ⟨hm, hn⟩ := look_some hl
  obtain ⟨j, hj, e⟩ := List.mem_iff_getElem.1 hm
  refine ⟨j, by rw [List.getElem?_eq_getElem hj, e], (ref_at_it h s).mono fun en w' ⟨⟨r, h1, h2⟩, hb⟩ => ⟨?_, hb⟩⟩
  rcases h2 with ⟨_, h3⟩ | ⟨j', f', rfl, h4, h5⟩
  · rw [hl] at h3; cases h3
  · rw [hl] at h5; cases h5
    obtain ⟨a1, a2⟩ := List.getElem?_eq_some_iff.1 h4
    have hdis := distinct h.good.sorted
    have : j' = j := by
      rcases Nat.lt_trichotomy j' j with h | h | h
      · exact absurd (by rw [a2, e]) (List.pairwise_iff_getElem.1 hdis j' j a1 hj h)
      · exact h
      · exact absurd (by rw [a2, e]) (List.pairwise_iff_getElem.1 hdis j j' hj a1 h)
    rw [h1, this]
theorem ref_at_none (h : RRep w O d fv P Q S) (s : ByteArray) (hl : look s.data.toList S.fs = none) : Calls Try.prog 42 #[.pointer (some ⟨d, 0, none⟩), .string s] w fun e w' => e = .returned (.int .i64 (-1)) ∧ Below w.heap.size w w' :=
  (ref_at_it h s).mono fun en w' ⟨⟨r, h1, h2⟩, hb⟩ => ⟨(by
    rcases h2 with ⟨rfl, _⟩ | ⟨j', f', rfl, h4, h5⟩
    · exact h1
    · rw [hl] at h5; cases h5), hb⟩

set_option maxRecDepth 100000 in
set_option maxHeartbeats 400000 in
theorem ref_read_yes (h : RRep w O d fv P Q S) (s : ByteArray) (hs : s.size ≤ maxLen) (ht : there s.data.toList S = 0) :
    Calls Try.prog 27 #[.pointer (some ⟨d, 0, none⟩), .string s] w (ReadIt w s.data.toList S) := by
  obtain ⟨hb, hd, f, hf⟩ := there_zero ht
  have cr := ref_ready h s hs
  have hr : ready s.data.toList S = 0 := by unfold ready; simp [hb, hd]
  rw [hr] at cr
  obtain ⟨j, hj, ca⟩ := ref_at_some h s hf
  obtain ⟨q, n, cap, p1, p2, x1, x2, c1, c2, hn, hfew, hjn, _, _, _, _, _, k1, k2, k3, k4, k5, k6, hx1, k8, k9, SEE⟩ := h.see hj
  have D : Hid (∀ v w', Ob.OwnB w' w.heap.size v f.l → Below w.heap.size w w' → ReadIt w s.data.toList S (.returned (.tuple #[v, .int .i64 0])) w') := Lib.hid fun v w' h1 h2 => ⟨v, by rw [ht], by unfold readL fileOf; rw [if_pos ht, hf]; exact h1, h2⟩
  have CR := Lib.hid cr; have CA := Lib.hid ca
  obtain ⟨l1, hl1⟩ : ∃ l1, List.take f.s f.l = l1 := ⟨_, rfl⟩
  obtain ⟨l2, hl2⟩ : ∃ l2, List.drop f.s f.l = l2 := ⟨_, rfl⟩
  have HL : Hid (l1.take x1 ++ l2.take x2 = f.l) := Lib.hid (by
    have hsf := h.good.safe f (look_some hf).1
    have hx1' := hx1.out
    rw [List.take_of_length_le (by rw [← hl1]; simp; omega), List.take_of_length_le (by rw [← hl2]; simp; omega), ← hl1, ← hl2, List.take_append_drop])
  rw [hl1, hl2] at SEE
  have SE := Lib.hid SEE
  clear cr ca h hf hj ht hb hd hr hs hl1 hl2 hn SEE k8
  have hj0 : (0 : Int) ≤ (j : Int) := by omega
  go_enter Try.func27, Try.ntmps27
  go_wp2_with (first | (go_at_call 41; (with_reducible refine CR.out.mono ?_); rintro e w' ⟨rfl, rfl⟩) | (go_at_call 42; (with_reducible refine CA.out.mono ?_); rintro e w1 ⟨rfl, hb1⟩; have hz := (SE.out _ hb1).z0; have ha := (SE.out _ hb1).a1; have hb2 := (SE.out _ hb1).a2))
  clear hz ha hb2
  have KS : Hid (∀ wx, Below w.heap.size w wx → Below w.heap.size w wx ∧ wx.cell? ⟨d, 0, none⟩ = some (.slice (some ⟨q, 0, none⟩) n cap) ∧ wx.cell? ⟨q, j * 3 + 1, none⟩ = some (.slice p1 x1 c1) ∧ wx.cell? ⟨q, j * 3 + 2, none⟩ = some (.slice p2 x2 c2)) := Lib.hid fun wx hb => ⟨hb, (SE.out _ hb).z0, (SE.out _ hb).a1, (SE.out _ hb).a2⟩
  have hsz1 := hb1.size
  go_region_held3 (fun wx => Below w.heap.size w wx ∧ wx.cell? ⟨d, 0, none⟩ = some (.slice (some ⟨q, 0, none⟩) n cap) ∧ wx.cell? ⟨q, j * 3 + 1, none⟩ = some (.slice p1 x1 c1) ∧ wx.cell? ⟨q, j * 3 + 2, none⟩ = some (.slice p2 x2 c2))
    (first | exact KS.out _ (by first | assumption | exact below_alloc (by assumption) (Nat.le_refl _) | exact Below.drew (by assumption) | exact Below.drew (below_alloc (by assumption) (Nat.le_refl _))) | (go_split_ands; exact KS.out _ (by first | assumption | exact below_alloc (by assumption) (Nat.le_refl _) | exact Below.drew (by assumption) | exact Below.drew (below_alloc (by assumption) (Nat.le_refl _)))))
    (first
      | (go_split_ands; refine step_apd (by rfl) (.tmp 19) (.tmp 27) (by rfl) w w.heap.size (by assumption) _ [] (by rfl) (own_made_drew _ (by assumption)) p1 x1 c1 l1 (by rfl) (SE.out _ (by assumption)).r1 k1 (by simp; omega) (Nat.le_refl _) ?_; intro v3 w3 ho3 hb3 hg3)
      | (go_split_ands; go_loud (refine step_apd (by rfl) (.tmp 28) (.tmp 36) (by rfl) w w.heap.size (by assumption) v3 ([] ++ l1.take x1) (by rfl) ho3 p2 x2 c2 l2 (by rfl) (SE.out _ (by assumption)).r2 k2 (by simp; omega) (Nat.le_refl _) ?_); intro v4 w4 ho4 hb4 hg4))
  have OW : Hid (Ob.OwnB w4 w.heap.size v4 f.l) := Lib.hid (by have := ho4; rw [List.nil_append, HL.out] at this; exact this)
  have HB4 := Lib.hid hb4
  go_split_ands
  go_wp2
  go_ret2
  exact D.out _ _ OW.out HB4.out
set_option maxRecDepth 100000 in
theorem ref_read (h : RRep w O d fv P Q S) (s : ByteArray) (hs : s.size ≤ maxLen) :
    Calls Try.prog 27 #[.pointer (some ⟨d, 0, none⟩), .string s] w (ReadIt w s.data.toList S) := by
  by_cases ht : there s.data.toList S = 0
  · exact ref_read_yes h s hs ht
  · have cr := ref_ready h s hs
    have D : Hid (∀ w', Below w.heap.size w w' → ReadIt w s.data.toList S (.returned (.tuple #[.slice none 0 0, .int .i64 (there s.data.toList S)])) w') := Lib.hid fun w' hb => ⟨_, rfl, by unfold readL; rw [if_neg ht]; exact ⟨rfl, .inl ⟨rfl, rfl⟩⟩, hb⟩
    by_cases hr : ready s.data.toList S = 0
    · have hl : look s.data.toList S.fs = none := by
        obtain ⟨hb, hd⟩ := ready_zero hr
        cases hl : look s.data.toList S.fs with
        | none => rfl
        | some f => exact absurd (by unfold there; simp [hb, hd, hl]) ht
      have e : there s.data.toList S = 21 := by
        obtain ⟨hb, hd⟩ := ready_zero hr
        unfold there; simp [hb, hd, hl]
      have ca := ref_at_none h s hl
      rw [hr] at cr
      rw [e] at D
      have CR := Lib.hid cr; have CA := Lib.hid ca
      clear cr ca h ht hr hl e hs
      go_enter Try.func27, Try.ntmps27
      go_wp2_with (first | (go_at_call 41; (with_reducible refine CR.out.mono ?_); rintro e w' ⟨rfl, rfl⟩) | (go_at_call 42; (with_reducible refine CA.out.mono ?_); rintro e w1 ⟨rfl, hb1⟩; have HB1 := Lib.hid hb1; clear hb1))
      go_ret2
      exact D.out _ HB1.out
    · have e : there s.data.toList S = ready s.data.toList S := by
        unfold there ready at *
        cases hb : badName s.data.toList
        · cases hd : S.down
          · simp [hb, hd] at hr
          · simp
        · simp
      rw [e] at D
      generalize ready s.data.toList S = r at *
      have CR := Lib.hid cr
      have t1 : (r == 0) = false := by simpa using hr
      have t2 : (r != 0) = true := by simpa using hr
      clear cr h ht hr e hs
      go_enter Try.func27, Try.ntmps27
      go_wp2_with (go_at_call 41; (with_reducible refine CR.out.mono ?_); rintro e w' ⟨rfl, rfl⟩)
      go_ret2
      exact D.out _ (Below.refl _ _)
theorem RRep.store (h : RRep w O d fv P Q S) (hsz : w'.heap.size = w.heap.size) (hblk : w'.heap[d]? = some (.cells (rcells fv S') 49 (0, 0))) (hk : ∀ k, k ≠ d → w'.heap[k]? = w.heap[k]?) (hf : S'.fs = S.fs) (ha : S'.arm ≤ 9223372036854775807) : RRep w' O d fv P Q S' := by
  have hne := h.ne
  refine ⟨fun j hj => by rw [hsz]; exact h.dom j hj, h.od, hblk, ?_, h.ov, ?_, good_same h.good hf ha⟩
  · rw [hf]; exact row_move h.row fun g e => hk g (hne.1 g e)
  · rw [hf]; exact fun f hf' => (h.files f hf').move (fun _ h => h) fun i cur _ hc => hk i (hne.2 i cur hc).1
theorem ref_arm (h : RRep w O d fv P Q S) (n keep : Int) (hn : n ≤ 9223372036854775807) : Calls Try.prog 28 #[.pointer (some ⟨d, 0, none⟩), .int .i64 n, .int .i64 keep] w (RUnit w O d (armS n keep S)) := by
  obtain ⟨_, _, _, _, c4, c5, fz⟩ := h.cells
  have f4 := fz 4; have f5 := fz 5
  have ha : (max n 0).toNat ≤ 9223372036854775807 := by omega
  have D1 : Hid (n < 0 → RUnit w O d (armS n keep S) (.returned (.tuple #[])) (((w.setCell ⟨d, 4, none⟩ (.int .i64 n)).setCell ⟨d, 4, none⟩ (.int .i64 0)).setCell ⟨d, 5, none⟩ (.int .i64 keep))) := Lib.hid fun h0 => by
    have e1 : (((max n 0).toNat : Nat) : Int) = 0 := by omega
    refine ⟨rfl, O, Step.of (((Turned.setCell _ 4 h.od _).trans (Turned.setCell _ 4 h.od _)).trans (Turned.setCell _ 5 h.od _)), fv, P, Q, h.store (by simp) ?_ (fun k hk => by rw [Below.heap_setCell _ _ _ k hk, Below.heap_setCell _ _ _ k hk, Below.heap_setCell _ _ _ k hk]) rfl ha⟩
    rw [Joins.block_setCell (i := 5) (Joins.block_setCell (i := 4) (Joins.block_setCell (i := 4) h.blk (.int .i64 n)) (.int .i64 0)) (.int .i64 keep)]
    simp [rcells, armS]; omega
  have D2 : Hid (¬ n < 0 → RUnit w O d (armS n keep S) (.returned (.tuple #[])) ((w.setCell ⟨d, 4, none⟩ (.int .i64 n)).setCell ⟨d, 5, none⟩ (.int .i64 keep))) := Lib.hid fun h0 => by
    have e1 : (((max n 0).toNat : Nat) : Int) = n := by omega
    refine ⟨rfl, O, Step.of ((Turned.setCell _ 4 h.od _).trans (Turned.setCell _ 5 h.od _)), fv, P, Q, h.store (by simp) ?_ (fun k hk => by rw [Below.heap_setCell _ _ _ k hk, Below.heap_setCell _ _ _ k hk]) rfl ha⟩
    rw [Joins.block_setCell (i := 5) (Joins.block_setCell (i := 4) h.blk (.int .i64 n)) (.int .i64 keep)]
    simp [rcells, armS]; omega
  clear h fz
  by_cases h0 : n < 0
  all_goals
    go_enter Try.func28, Try.ntmps28
    go_wp2
    (first | go_end0 | refine bodyPost_ret (results_none rfl _ _ _) rfl ?_)
    first | exact D1.out h0 | exact D2.out h0
end
end Go.Proofs.Ytjeemgcenmcplaa.Dk

/-
  Layer 4: Sync, at a disk of the reference, from Off's contract.
-/
import Derived.Test.YtjeemgcenmcplaaLe
namespace Go.Proofs.Ytjeemgcenmcplaa.Dk
open Go.RowKit
set_option linter.unusedVariables false

theorem part_own {w w' : World} {O : Nat → Prop} {base : Nat} {v : Value} {l : List Int} (h : Ob.OwnB w' base v l) (hb : w.heap.size ≤ base) : Part w' (OwnUp O w w') v l := by
  refine ⟨row_base h, fun b e => .inr ?_⟩
  obtain ⟨h1, cur, hc⟩ := row_kind h b e
  exact ⟨Nat.le_trans hb h1, (Array.getElem?_eq_some_iff.1 hc).1⟩
theorem part_nil (w : World) (O : Nat → Prop) : Part w O (.slice none 0 0) [] := ⟨⟨rfl, .inl ⟨rfl, rfl⟩⟩, fun b e => by cases e⟩
section
variable {w w' : World} {O : Nat → Prop} {d : Nat} {fv : Value} {P Q : List UInt8 → Value} {S S' : St}
/-- What a call reads of the j-th file, with the slices' values known. -/
theorem RRep.seen (h : RRep w O d fv P Q S) {j : Nat} {f : File} (hj : S.fs[j]? = some f) {q n cap : Nat} {p1 p2 : Option Addr} {x1 x2 c1 c2 : Nat} (hn : S.fs.length = n) (e0 : fv = .slice (some ⟨q, 0, none⟩) n cap) (e1 : P f.nm = .slice p1 x1 c1) (e2 : Q f.nm = .slice p2 x2 c2) :
    ∀ wx, Below w.heap.size w wx → See wx d q n cap j (str f.nm) p1 p2 x1 x2 c1 c2 (f.l.take f.s) (f.l.drop f.s) := by
  obtain ⟨q', n', cap', p1', p2', x1', x2', c1', c2', hn', _, _, e0', e1', e2', _, _, _, _, _, _, _, _, _, _, _, SEE⟩ := h.see hj
  rw [e0, ← hn] at e0'
  rw [e1] at e1'
  rw [e2] at e2'
  simp only [Value.slice.injEq, Option.some.injEq, Addr.mk.injEq, true_and, and_true] at e0' e1' e2'
  obtain ⟨rfl, rfl⟩ := e0'
  obtain ⟨rfl, rfl, rfl⟩ := e1'
  obtain ⟨rfl, rfl, rfl⟩ := e2'
  rw [← hn, hn']
  exact SEE
/-- The j-th file has been stored in its place. -/
theorem set_done {w2 w4 w3 : World} {S2 : St} (hst : Step w O w2 O) (hr : RRep w2 O d fv P Q S2) {j q cap : Nat} {f : File} (hj : S2.fs[j]? = some f) (e0 : fv = .slice (some ⟨q, 0, none⟩) S2.fs.length cap) (hb4 : Below w2.heap.size w2 w4) (φ : File → File) (hφ : (φ f).nm = f.nm) {p r : Value}
    (hfs : RFile w4 (OwnUp O w2 w4) p r (φ f)) (hg : Good { S2 with fs := upd f.nm φ S2.fs }) (hw : w3 = ((w4.setCell ⟨q, j * 3, none⟩ (.string (str f.nm))).setCell ⟨q, j * 3 + 1, none⟩ p).setCell ⟨q, j * 3 + 2, none⟩ r) {res : Int × St} (hres : res = (0, { S2 with fs := upd f.nm φ S2.fs })) : RDid w O d res (.returned (.int .i64 0)) w3 := by
  have h1 := hr.set hb4 hj e0 φ hφ hfs hg hw
  subst hres
  exact ⟨rfl, _, hst.trans h1.2, _, _, _, h1.1⟩
theorem far3 {wx : World} {q : Nat} {a : Addr} (i1 i2 i3 : Nat) (x y z : Value) (ha : a.block ≠ q) : (((wx.setCell ⟨q, i1, none⟩ x).setCell ⟨q, i2, none⟩ y).setCell ⟨q, i3, none⟩ z).cell? a = wx.cell? a := by
  rw [World.cell?_setCell_far _ _ _ _ (Ne.symm ha), World.cell?_setCell_far _ _ _ _ (Ne.symm ha), World.cell?_setCell_far _ _ _ _ (Ne.symm ha)]
theorem box_cells {wb w2 wx : World} {a b c : Value} {t : TypeId} (hwb : wb = w2.alloc (.cells #[a, b, c] t)) (hb : Below wb.heap.size wb wx) : wx.cell? ⟨w2.heap.size, 0, none⟩ = some a ∧ wx.cell? ⟨w2.heap.size, 1, none⟩ = some b ∧ wx.cell? ⟨w2.heap.size, 2, none⟩ = some c ∧ Below w2.heap.size w2 wx := by
  have hn : wb.heap[w2.heap.size]? = some (.cells #[a, b, c] t (0, 0)) := by rw [hwb]; exact (MapKept.heap_alloc w2 _).1
  have hx : wx.heap[w2.heap.size]? = some (.cells #[a, b, c] t (0, 0)) := (hb.block _ (Array.getElem?_eq_some_iff.1 hn).1).trans hn
  have h0 : Below w2.heap.size w2 wb := by rw [hwb]; exact (Below.refl _ _).alloc (Nat.le_refl _) _
  exact ⟨Joins.cell_of_block hx 0, Joins.cell_of_block hx 1, Joins.cell_of_block hx 2, h0.trans (hb.mono h0.size)⟩
/-- What every call has ahead of its raw write: the disk behind it, and what it then answers if the power goes. -/
theorem raw_tells (h : RRep w O d fv P Q S) (b : Bool) (hfl : failing S = b) : ∀ w1, Below w.heap.size w w1 → Calls Try.prog 45 #[.pointer (some ⟨d, 0, none⟩)] w1 (fun e w2 => e = .returned (.bool b) ∧ Turned O w1 w2 ∧ RRep w2 O d fv P Q (tick S)) :=
  fun w1 hb => (ref_raw (h.below hb)).mono fun e w2 ⟨x1, x2, x3⟩ => ⟨by rw [x1, hfl], x2, x3 _ _ _ (h.below hb)⟩
theorem failed (hfl : failing S = true) {res : Int × St} (e : res = (20, wrote S)) {w1 w2 w3 : World} (h1 : Below w.heap.size w w1) (h2 : Turned O w1 w2) (h : RUnit w2 O d (off S.keep (tick S)) (.returned (.tuple #[])) w3) : RDid w O d res (.returned (.int .i64 20)) w3 := by
  obtain ⟨_, O', h3, h4⟩ := h
  rw [e]
  exact ⟨rfl, O', ((Step.of (Turned.of_below h1)).trans (Step.of h2)).trans h3, by unfold wrote; rw [if_pos hfl]; exact h4⟩
theorem refused (h : RRep w O d fv P Q S) {res : Int × St} {c : Int} (e : res = (c, S)) {w' : World} (hb : Below w.heap.size w w') : RDid w O d res (.returned (.int .i64 c)) w' := by
  subst e
  exact ⟨rfl, O, Step.of (Turned.of_below hb), _, _, _, h.below hb⟩

set_option maxRecDepth 100000 in
set_option maxHeartbeats 1600000 in
theorem ref_sync_ok (h : RRep w O d fv P Q S) (s : ByteArray) (hs : s.size ≤ maxLen) (ht : there s.data.toList S = 0) (hfl : failing S = false) :
    Calls Try.prog 23 #[.pointer (some ⟨d, 0, none⟩), .string s] w (RDid w O d (syncS s.data.toList S)) := by
  obtain ⟨_, _, f, hf⟩ := there_zero ht
  have cr := ref_ready h s hs
  rw [there_ready0 ht] at cr
  obtain ⟨j, hj, ca⟩ := ref_at_some h s hf
  obtain ⟨q, n, cap, p1, p2, x1, x2, c1, c2, hn, hfew, hjn, e0, e1, e2, hx1, hx2, k1, k2, k3, k4, k5, k6, HX1, k8, k9, _⟩ := h.see hj
  have hfn := (look_some hf).2
  have hnm : str f.nm = s := by rw [hfn, str_of]
  obtain ⟨l1, hl1⟩ : ∃ l1, f.l.take f.s = l1 := ⟨_, rfl⟩
  obtain ⟨l2, hl2⟩ : ∃ l2, f.l.drop f.s = l2 := ⟨_, rfl⟩
  have SE : Hid (∀ w2, RRep w2 O d fv P Q (tick S) → ∀ wx, Below w2.heap.size w2 wx → See wx d q n cap j s p1 p2 x1 x2 c1 c2 l1 l2) := Lib.hid fun w2 hr => by
    have := hr.seen (S := tick S) hj hn (by rw [e0, hn]) e1 e2
    rwa [hnm, hl1, hl2] at this
  have D : Hid (∀ w2 w4 v4 w3, Step w O w2 O → RRep w2 O d fv P Q (tick S) → ∀ base, w2.heap.size ≤ base → Below w2.heap.size w2 w4 → Ob.OwnB w4 base v4 ([] ++ l1.take x1 ++ l2.take x2) → w3 = ((w4.setCell ⟨q, j * 3, none⟩ (.string s)).setCell ⟨q, j * 3 + 1, none⟩ v4).setCell ⟨q, j * 3 + 2, none⟩ (.slice none 0 0) → RDid w O d (syncS s.data.toList S) (.returned (.int .i64 0)) w3) := Lib.hid fun w2 w4 v4 w3 hst hr base hba hb4 ho hw => by
    have hsf := h.good.safe f (look_some hf).1
    have hx1' := HX1.out
    have hl : ([] ++ l1.take x1 ++ l2.take x2 : List Int) = f.l := by
      rw [List.nil_append, List.take_of_length_le (by rw [← hl1]; simp; omega), List.take_of_length_le (by rw [← hl2]; simp; omega), ← hl1, ← hl2, List.take_append_drop]
    rw [hl] at ho
    refine set_done hst hr hj (by rw [e0]; rfl) hb4 synced rfl ⟨?_, ?_⟩ ?_ (by rw [hnm]; exact hw) ?_
    · show Part _ _ _ (f.l.take f.l.length)
      rw [List.take_length]; exact part_own ho hba
    · show Part _ _ _ (f.l.drop f.l.length)
      rw [List.drop_length]; exact part_nil _ _
    · exact good_upd hr.good (fun _ _ => rfl) (fun g _ => Nat.le_refl _) (fun g hm => hr.good.size g hm)
    · unfold syncS; rw [if_neg (by simp [ht]), if_neg (by simp [hfl]), hfn]; rfl
  have hqd : q ≠ d := h.ne.1 q (by rw [e0]; rfl)
  have hlq : q < w.heap.size := by obtain ⟨q', _, e', _, a0, _⟩ := h.at hj; rw [e0] at e'; simp only [Value.slice.injEq, Option.some.injEq, Addr.mk.injEq, true_and, and_true] at e'; obtain ⟨rfl, _⟩ := e'; exact Fr.lt_of_cell a0
  have hld : d < w.heap.size := h.dom d h.od
  have TK := Lib.hid (raw_tells h false hfl)
  have CR := Lib.hid cr; have CA := Lib.hid ca
  have g3 : (([] : List Int) ++ l1.take x1 ++ l2.take x2).length = x1 + x2 := by rw [List.nil_append, List.length_append, List.length_take, List.length_take, ← hl1, ← hl2, hx1, hx2]; omega
  clear cr ca h hf ht hj hfl hs e0 e1 e2 hx1 hx2 HX1 hfn hnm hl1 hl2 hn k8
  go_enter Try.func23, Try.ntmps23
  go_wp2_with fail
  refine CR.out.mono ?_
  rintro e w' ⟨rfl, rfl⟩
  go_wp2_with fail
  refine CA.out.mono ?_
  rintro e w1 ⟨rfl, hb1⟩
  have HB1 := Lib.hid hb1
  have hs1 := hb1.size
  clear hb1
  go_wp2_with fail
  refine (TK.out _ HB1.out).mono ?_
  rintro e w2 ⟨rfl, ht2, hr2⟩
  have hs2 := ht2.size
  have ST := Lib.hid ((Step.of (Turned.of_below HB1.out)).trans (Step.of ht2)); have HR2 := Lib.hid hr2
  have S2 := Lib.hid (SE.out w2 hr2)
  obtain ⟨z0, a0, a1, a2, fz, _, _⟩ := S2.out w2 (Below.refl _ _)
  obtain ⟨wb, hwb⟩ : ∃ wb, wb = w2.alloc (.cells #[.string s, .slice p1 x1 c1, .slice p2 x2 c2] 65) := ⟨_, rfl⟩
  have HWB := Lib.hid hwb
  have PW : Hid (∀ wx, Below wb.heap.size wb wx → Below w2.heap.size w2 wx) := Lib.hid fun wx hb => (box_cells hwb hb).2.2.2
  have KS : Hid (∀ wx, Below wb.heap.size wb wx → wx.cell? ⟨d, 0, none⟩ = some (.slice (some ⟨q, 0, none⟩) n cap) ∧ wx.cell? ⟨w2.heap.size, 1, none⟩ = some (.slice p1 x1 c1) ∧ wx.cell? ⟨w2.heap.size, 2, none⟩ = some (.slice p2 x2 c2)) := Lib.hid fun wx hb => ⟨(S2.out wx (PW.out wx hb)).z0, (box_cells hwb hb).2.1, (box_cells hwb hb).2.2.1⟩
  have KS2 : Hid (∀ wx, Below wb.heap.size wb wx → ∀ x y z : Value, (((wx.setCell ⟨q, j * 3, none⟩ x).setCell ⟨q, j * 3 + 1, none⟩ y).setCell ⟨q, j * 3 + 2, none⟩ z).cell? ⟨d, 0, none⟩ = some (.slice (some ⟨q, 0, none⟩) n cap) ∧ (((wx.setCell ⟨q, j * 3, none⟩ x).setCell ⟨q, j * 3 + 1, none⟩ y).setCell ⟨q, j * 3 + 2, none⟩ z).cell? ⟨w2.heap.size, 1, none⟩ = some (.slice p1 x1 c1) ∧ (((wx.setCell ⟨q, j * 3, none⟩ x).setCell ⟨q, j * 3 + 1, none⟩ y).setCell ⟨q, j * 3 + 2, none⟩ z).cell? ⟨w2.heap.size, 2, none⟩ = some (.slice p2 x2 c2)) := Lib.hid fun wx hb x y z => by
    rw [far3 _ _ _ _ _ _ (Ne.symm hqd), far3 (a := ⟨w2.heap.size, 1, none⟩) _ _ _ _ _ _ (show w2.heap.size ≠ q by omega), far3 (a := ⟨w2.heap.size, 2, none⟩) _ _ _ _ _ _ (show w2.heap.size ≠ q by omega)]
    exact KS.out wx hb
  have hj0 : (0 : Int) ≤ (j : Int) := by omega
  have hj1 : (j : Int) < (n : Int) := by omega
  clear hwb ht2 hr2
  go_wp2
  rw [← HWB.out]
  clear z0 a0 a1 a2 fz
  have s0 := Below.refl wb.heap.size wb
  have g1 : ([] : List Int).length + x1 ≤ 140737488355328 := by simp; omega
  have g2 : (([] : List Int) ++ l1.take x1).length + x2 ≤ 140737488355328 := by simp; omega
  go_region_held3 (fun wx => wx.cell? ⟨d, 0, none⟩ = some (.slice (some ⟨q, 0, none⟩) n cap) ∧ wx.cell? ⟨w2.heap.size, 1, none⟩ = some (.slice p1 x1 c1) ∧ wx.cell? ⟨w2.heap.size, 2, none⟩ = some (.slice p2 x2 c2))
    (first | exact KS2.out _ hb4 _ _ _ | exact KS.out _ (by (repeat (first | assumption | exact s0 | (refine below_alloc ?_ (Nat.le_refl _)) | refine Below.drew ?_))))
    (first
      | (refine step_apd (by rfl) (.tmp 40) (.tmp 42) (by rfl) wb wb.heap.size (by (repeat (first | assumption | exact s0 | (refine below_alloc ?_ (Nat.le_refl _)) | refine Below.drew ?_))) _ [] (by rfl) (own_made_drew _ (Nat.le_refl _)) p1 x1 c1 l1 (by rfl) (S2.out _ (PW.out _ (by (repeat (first | assumption | exact s0 | (refine below_alloc ?_ (Nat.le_refl _)) | refine Below.drew ?_))))).r1 k1 g1 (Nat.le_refl _) ?_; intro v3 w3 ho3 hb3 hg3)
      | (refine step_apd (by rfl) (.tmp 43) (.tmp 45) (by rfl) wb wb.heap.size hb3 v3 ([] ++ l1.take x1) (by rfl) ho3 p2 x2 c2 l2 (by rfl) (S2.out _ (PW.out _ hb3)).r2 k2 g2 (Nat.le_refl _) ?_; intro v4 w4 ho4 hb4 hg4; obtain ⟨va4, vc4, e4, _⟩ := Ob.own_row ho4; rw [g3] at e4; subst e4; have s4 := S2.out _ (PW.out _ hb4); have t0 := s4.a0; have t1 := s4.a1; have t2 := s4.a2; have t3 := s4.fz (j * 3); have t4 := s4.fz (j * 3 + 1); have t5 := s4.fz (j * 3 + 2); clear s4))
  have HO4 := Lib.hid ho4; have HB4 := Lib.hid hb4
  have DD : Hid (RDid w O d (syncS s.data.toList S) (.returned (.int .i64 0)) (((w4.setCell ⟨q, j * 3, none⟩ (.string s)).setCell ⟨q, j * 3 + 1, none⟩ (.slice va4 (x1 + x2) vc4)).setCell ⟨q, j * 3 + 2, none⟩ (.slice none 0 0))) := Lib.hid (D.out w2 w4 (.slice va4 (x1 + x2) vc4) _ ST.out HR2.out wb.heap.size (by rw [HWB.out]; simp) (PW.out _ hb4) ho4 rfl)
  clear t0 t1 t2 t3 t4 t5 ho4 hb4 hg4 ho3 hb3 hg3
  go_split_ands
  go_wp2
  go_ret
  exact DD.out
end
end Go.Proofs.Ytjeemgcenmcplaa.Dk

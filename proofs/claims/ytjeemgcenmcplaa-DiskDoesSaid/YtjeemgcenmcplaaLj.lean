/-
  Layer 4: Truncate, at a disk of the reference, where it is performed. (Written by gen_trunc.py.)
-/
import Derived.Test.YtjeemgcenmcplaaLi
namespace Go.Proofs.Ytjeemgcenmcplaa.Dk
open Go.RowKit
set_option linter.unusedVariables false
set_option linter.unusedSimpArgs false
section
variable {w w' : World} {O : Nat → Prop} {d : Nat} {fv : Value} {P Q : List UInt8 → Value} {S S' : St}
set_option maxRecDepth 100000 in
set_option maxHeartbeats 1600000 in
theorem ref_trunc_a (h : RRep w O d fv P Q S) (s : ByteArray) (hs : s.size ≤ maxLen) (N : Nat) (ht : there s.data.toList S = 0) (hfl : failing S = false) {f : File} (hf : look s.data.toList S.fs = some f) (hN : N ≤ f.s) :
    Calls Try.prog 24 #[.pointer (some ⟨d, 0, none⟩), .string s, .int .i64 (N : Int)] w (RDid w O d (truncS s.data.toList (N : Int) S)) := by
  have cr := ref_ready h s hs
  rw [there_ready0 ht] at cr
  obtain ⟨j, hj, ca⟩ := ref_at_some h s hf
  obtain ⟨q, n, cap, p1, p2, x1, x2, c1, c2, l1, l2, K⟩ := h.looked hf hj
  have D : Hid (∀ w2 w4 va4 vc4 w3, Step w O w2 O → RRep w2 O d fv P Q (tick S) → Below w2.heap.size w2 w4 → Ob.OwnB w4 w2.heap.size (.slice va4 N vc4) ([] ++ l1.take N) → w3 = ((w4.setCell ⟨q, j * 3, none⟩ (.string s)).setCell ⟨q, j * 3 + 1, none⟩ (.slice va4 N vc4)).setCell ⟨q, j * 3 + 2, none⟩ (.slice none 0 0) → RDid w O d (truncS s.data.toList (N : Int) S) (.returned (.int .i64 0)) w3) := Lib.hid fun w2 w4 va4 vc4 w3 hst hr hb4 ho hw => by
    have hsf := h.good.safe f (look_some hf).1
    refine set_done hst hr K.hj (by show fv = .slice _ S.fs.length _; rw [K.hn]; exact K.e0) hb4 (short N) rfl ⟨?_, ?_⟩ ?_ (by rw [K.nm]; exact hw) ?_
    · show Part _ _ _ ((f.l.take N).take (min f.s N))
      have e : (f.l.take N).take (min f.s N) = [] ++ l1.take N := by rw [List.nil_append, ← K.l1e, List.take_take, List.take_take]; congr 1; omega
      rw [e]; exact part_own ho (Nat.le_refl _)
    · show Part _ _ _ ((f.l.take N).drop (min f.s N))
      have e : (f.l.take N).drop (min f.s N) = [] := by rw [List.drop_eq_nil_iff]; simp; omega
      rw [e]; exact part_nil _ _
    · exact good_upd hr.good (fun _ _ => rfl) (fun g hm => by have := hr.good.safe g hm; simp only [short, List.length_take]; omega) (fun g hm => by have := hr.good.size g hm; simp only [short, List.length_take]; omega)
    · unfold truncS; rw [if_neg (by simp [ht]), if_neg (by rw [lenOf_look hf]; omega), if_neg (by simp [hfl]), K.fn]; rfl
  have SE := Lib.hid (K.see)
  have hjn := K.jn; have hfew := K.few; have hsum := K.sum; have hbig := K.big; have hqd := K.qd; have hlq := K.lq; have hld := K.ld
  have k3 := K.x1c; have k4 := K.x2c; have k5 := K.c1m; have k6 := K.c2m; have nn := K.n1
  have hNx : N ≤ x1 := by have := K.x1s; omega
  have t1 : decide ((N : Int) ≤ (x1 : Int)) = true := by simp; omega
  have n0 : (0 : Int) ≤ (N : Int) := by omega
  have n9 : (N : Int) ≤ (c1 : Int) := by omega
  have n8 : N ≤ c1 := by omega
  have g3 : (([] : List Int) ++ l1.take N).length = N := by have h1 := K.l1e; have h2 := K.sum; have h3 := K.x1s; rw [List.nil_append, List.length_take, ← h1, List.length_take]; omega
  have g1 : ([] : List Int).length + N ≤ 140737488355328 := by simp only [List.length_nil]; omega
  have H := Lib.hid h
  have TK := Lib.hid (raw_tells h false hfl)
  have CR := Lib.hid cr; have CA := Lib.hid ca
  have hj0 : (0 : Int) ≤ (j : Int) := by omega
  have hj1 : (j : Int) < (n : Int) := by omega
  have tz : decide ((N : Int) < 0) = false := by rw [decide_eq_false_iff_not]; omega
  have tz2 : decide ((N : Int) > (x1 : Int) + (x2 : Int)) = false := by rw [decide_eq_false_iff_not]; omega
  have HG1 := Lib.hid g1; have HG3 := Lib.hid g3
  clear cr ca h hf ht hj hs K hN g1 g3 hfl
  go_enter Try.func24, Try.ntmps24
  go_wp2_with fail
  refine CR.out.mono ?_
  rintro e w' ⟨rfl, rfl⟩
  go_wp2_with fail
  refine CA.out.mono ?_
  rintro e w1 ⟨rfl, hb1⟩
  have HB1 := Lib.hid hb1
  have hs1 := hb1.size
  obtain ⟨z0, a0, a1, a2, fz, _, _⟩ := SE.out w S H.out rfl w1 hb1
  obtain ⟨wb, hwb⟩ : ∃ wb, wb = w1.alloc (.cells #[.string s, .slice p1 x1 c1, .slice p2 x2 c2] 65) := ⟨_, rfl⟩
  have HWB := Lib.hid hwb
  have hb2 : Below w.heap.size w wb := by rw [hwb]; exact hb1.alloc hb1.size _
  have HB2 := Lib.hid hb2
  have HBX : Hid (wb.heap[w1.heap.size]? = some (.cells #[.string s, .slice p1 x1 c1, .slice p2 x2 c2] 65 (0, 0))) := Lib.hid (by rw [hwb]; exact (MapKept.heap_alloc w1 _).1)
  clear hb1 hb2 hwb
  go_wp2_with fail
  rw [← HWB.out]
  clear z0 a0 a1 a2 fz
  refine (TK.out _ HB2.out).mono ?_
  rintro e w2 ⟨rfl, ht2, hr2⟩
  have ST := Lib.hid ((Step.of (Turned.of_below HB2.out)).trans (Step.of ht2)); have HR2 := Lib.hid hr2
  have S2 := Lib.hid (SE.out w2 (tick S) hr2 rfl)
  obtain ⟨g, hg⟩ : ∃ g, w1.heap.size = g := ⟨_, rfl⟩
  have hqg : g ≠ q := by omega
  have HN2 : Hid (w2.heap[g]? = some (.cells #[.string s, .slice p1 x1 c1, .slice p2 x2 c2] 65 (0, 0))) := Lib.hid (by
    have hlt := (Array.getElem?_eq_some_iff.1 HBX.out).1
    rw [← hg, ht2.block _ hlt fun ho => by have := H.out.dom _ ho; omega]
    exact HBX.out)
  rw [hg]
  have BX : Hid (∀ wx, Below w2.heap.size w2 wx → wx.cell? ⟨g, 1, none⟩ = some (.slice p1 x1 c1) ∧ wx.cell? ⟨g, 2, none⟩ = some (.slice p2 x2 c2)) := Lib.hid fun wx hb => by
    have hx := (hb.block _ (Array.getElem?_eq_some_iff.1 HN2.out).1).trans HN2.out
    exact ⟨Joins.cell_of_block hx 1, Joins.cell_of_block hx 2⟩
  have KS : Hid (∀ wx, Below w2.heap.size w2 wx → wx.cell? ⟨d, 0, none⟩ = some (.slice (some ⟨q, 0, none⟩) n cap) ∧ wx.cell? ⟨g, 1, none⟩ = some (.slice p1 x1 c1)) := Lib.hid fun wx hb => ⟨(S2.out wx hb).z0, (BX.out wx hb).1⟩
  have KS2 : Hid (∀ wx, Below w2.heap.size w2 wx → ∀ x y z : Value, (((wx.setCell ⟨q, j * 3, none⟩ x).setCell ⟨q, j * 3 + 1, none⟩ y).setCell ⟨q, j * 3 + 2, none⟩ z).cell? ⟨d, 0, none⟩ = some (.slice (some ⟨q, 0, none⟩) n cap) ∧ (((wx.setCell ⟨q, j * 3, none⟩ x).setCell ⟨q, j * 3 + 1, none⟩ y).setCell ⟨q, j * 3 + 2, none⟩ z).cell? ⟨g, 1, none⟩ = some (.slice p1 x1 c1)) := Lib.hid fun wx hb x y z => by
    rw [far3 _ _ _ _ _ _ (Ne.symm hqd), far3 (a := ⟨g, 1, none⟩) _ _ _ _ _ _ hqg]
    exact KS.out wx hb
  obtain ⟨y0, y1⟩ := BX.out w2 (Below.refl _ _)
  clear ht2 hr2 hg
  go_wp2
  clear y0 y1
  have s0 := Below.refl w2.heap.size w2
  have g1 := HG1.out
  go_region_held3 (fun wx => wx.cell? ⟨d, 0, none⟩ = some (.slice (some ⟨q, 0, none⟩) n cap) ∧ wx.cell? ⟨g, 1, none⟩ = some (.slice p1 x1 c1))
    (first | exact KS2.out _ hb4 _ _ _ | exact KS.out _ (by (repeat (first | assumption | exact s0 | (refine below_alloc ?_ (Nat.le_refl _)) | refine Below.drew ?_))))
    (first
      | (refine step_apd (by rfl) (.tmp 60) (.tmp 64) (by rfl) w2 w2.heap.size (by (repeat (first | assumption | exact s0 | (refine below_alloc ?_ (Nat.le_refl _)) | refine Below.drew ?_))) _ [] (by rfl) (own_made_drew _ (Nat.le_refl _)) p1 N c1 l1 (by rfl) (cut_row (S2.out _ (by (repeat (first | assumption | exact s0 | (refine below_alloc ?_ (Nat.le_refl _)) | refine Below.drew ?_)))).r1 hNx) nn g1 (Nat.le_refl _) ?_; intro v4 w4 ho4 hb4 hg4; obtain ⟨va4, vc4, e4, _⟩ := Ob.own_row ho4; rw [HG3.out] at e4; subst e4; have s4 := S2.out _ hb4; have t0 := s4.a0; have t1' := s4.a1; have t2 := s4.a2; have t3 := s4.fz (j * 3); have t4 := s4.fz (j * 3 + 1); have t5 := s4.fz (j * 3 + 2); clear s4))
  have DD : Hid (RDid w O d (truncS s.data.toList (N : Int) S) (.returned (.int .i64 0)) (((w4.setCell ⟨q, j * 3, none⟩ (.string s)).setCell ⟨q, j * 3 + 1, none⟩ (.slice va4 N vc4)).setCell ⟨q, j * 3 + 2, none⟩ (.slice none 0 0))) := Lib.hid (D.out w2 w4 va4 vc4 _ ST.out HR2.out hb4 ho4 rfl)
  clear t0 t1' t2 t3 t4 t5 ho4 hb4 hg4
  go_split_ands
  go_wp2
  go_ret
  exact DD.out
set_option maxRecDepth 100000 in
set_option maxHeartbeats 1600000 in
theorem ref_trunc_b (h : RRep w O d fv P Q S) (s : ByteArray) (hs : s.size ≤ maxLen) (N : Nat) (ht : there s.data.toList S = 0) (hfl : failing S = false) {f : File} (hf : look s.data.toList S.fs = some f) (hN : f.s < N) (hN2 : N ≤ f.l.length) :
    Calls Try.prog 24 #[.pointer (some ⟨d, 0, none⟩), .string s, .int .i64 (N : Int)] w (RDid w O d (truncS s.data.toList (N : Int) S)) := by
  have cr := ref_ready h s hs
  rw [there_ready0 ht] at cr
  obtain ⟨j, hj, ca⟩ := ref_at_some h s hf
  obtain ⟨q, n, cap, p1, p2, x1, x2, c1, c2, l1, l2, K⟩ := h.looked hf hj
  obtain ⟨M, hM⟩ : ∃ M, N - f.s = M := ⟨_, rfl⟩
  have D : Hid (∀ w2 w4 va4 vc4 w3, Step w O w2 O → RRep w2 O d fv P Q (tick S) → Below w2.heap.size w2 w4 → Ob.OwnB w4 w2.heap.size (.slice va4 M vc4) ([] ++ l2.take M) → w3 = ((w4.setCell ⟨q, j * 3, none⟩ (.string s)).setCell ⟨q, j * 3 + 1, none⟩ (.slice p1 x1 c1)).setCell ⟨q, j * 3 + 2, none⟩ (.slice va4 M vc4) → RDid w O d (truncS s.data.toList (N : Int) S) (.returned (.int .i64 0)) w3) := Lib.hid fun w2 w4 va4 vc4 w3 hst hr hb4 ho hw => by
    have hsf := h.good.safe f (look_some hf).1
    refine set_done hst hr K.hj (by show fv = .slice _ S.fs.length _; rw [K.hn]; exact K.e0) hb4 (short N) rfl ⟨?_, ?_⟩ ?_ (by rw [K.nm]; exact hw) ?_
    · show Part _ _ _ ((f.l.take N).take (min f.s N))
      have e : (f.l.take N).take (min f.s N) = f.l.take f.s := by rw [List.take_take]; congr 1; omega
      rw [e, ← K.e1]
      exact (hr.files f (List.mem_of_getElem? K.hj)).safe.move (fun i hi => .inl hi) fun b eb => hb4.block b (hr.dom b ((hr.files f (List.mem_of_getElem? K.hj)).safe.ov b eb))
    · show Part _ _ _ ((f.l.take N).drop (min f.s N))
      have e : (f.l.take N).drop (min f.s N) = [] ++ l2.take M := by rw [List.nil_append, ← K.l2e, List.drop_take, show min f.s N = f.s by omega, hM]
      rw [e]; exact part_own ho (Nat.le_refl _)
    · exact good_upd hr.good (fun _ _ => rfl) (fun g hm => by have := hr.good.safe g hm; simp only [short, List.length_take]; omega) (fun g hm => by have := hr.good.size g hm; simp only [short, List.length_take]; omega)
    · unfold truncS; rw [if_neg (by simp [ht]), if_neg (by rw [lenOf_look hf]; omega), if_neg (by simp [hfl]), K.fn]; rfl
  have SE := Lib.hid (K.see)
  have hjn := K.jn; have hfew := K.few; have hsum := K.sum; have hbig := K.big; have hqd := K.qd; have hlq := K.lq; have hld := K.ld
  have k3 := K.x1c; have k4 := K.x2c; have k5 := K.c1m; have k6 := K.c2m; have nn := K.n2
  have hNx : M ≤ x2 := by have := K.x1s; have := K.sum; omega
  have hNM : (N : Int) = (x1 : Int) + (M : Int) := by have := K.x1s; omega
  have t1 : decide ((N : Int) ≤ (x1 : Int)) = false := by simp; omega
  have t1n : decide (N ≤ x1) = false := by simp; omega
  have hw : IntKind.i64.wrap ((N : Int) - (x1 : Int)) = (M : Int) := by rw [IntWalk.i64_in _ (by omega)]; omega
  have n0 : (0 : Int) ≤ (M : Int) := by omega
  have n9 : (M : Int) ≤ (c2 : Int) := by omega
  have n8 : M ≤ c2 := by omega
  have g3 : (([] : List Int) ++ l2.take M).length = M := by have h1 := K.l2e; have h2 := K.sum; have h3 := K.x1s; rw [List.nil_append, List.length_take, ← h1, List.length_drop]; omega
  have g1 : ([] : List Int).length + M ≤ 140737488355328 := by simp only [List.length_nil]; omega
  have H := Lib.hid h
  have TK := Lib.hid (raw_tells h false hfl)
  have CR := Lib.hid cr; have CA := Lib.hid ca
  have hj0 : (0 : Int) ≤ (j : Int) := by omega
  have hj1 : (j : Int) < (n : Int) := by omega
  have tz : decide ((N : Int) < 0) = false := by rw [decide_eq_false_iff_not]; omega
  have tz2 : decide ((N : Int) > (x1 : Int) + (x2 : Int)) = false := by rw [decide_eq_false_iff_not]; omega
  have HG1 := Lib.hid g1; have HG3 := Lib.hid g3
  clear cr ca h hf ht hj hs K hN g1 g3 hfl hN2 hM hNM
  go_enter Try.func24, Try.ntmps24
  go_wp2_with fail
  refine CR.out.mono ?_
  rintro e w' ⟨rfl, rfl⟩
  go_wp2_with fail
  refine CA.out.mono ?_
  rintro e w1 ⟨rfl, hb1⟩
  have HB1 := Lib.hid hb1
  have hs1 := hb1.size
  obtain ⟨z0, a0, a1, a2, fz, _, _⟩ := SE.out w S H.out rfl w1 hb1
  obtain ⟨wb, hwb⟩ : ∃ wb, wb = w1.alloc (.cells #[.string s, .slice p1 x1 c1, .slice p2 x2 c2] 65) := ⟨_, rfl⟩
  have HWB := Lib.hid hwb
  have hb2 : Below w.heap.size w wb := by rw [hwb]; exact hb1.alloc hb1.size _
  have HB2 := Lib.hid hb2
  have HBX : Hid (wb.heap[w1.heap.size]? = some (.cells #[.string s, .slice p1 x1 c1, .slice p2 x2 c2] 65 (0, 0))) := Lib.hid (by rw [hwb]; exact (MapKept.heap_alloc w1 _).1)
  clear hb1 hb2 hwb
  go_wp2_with fail
  rw [← HWB.out]
  clear z0 a0 a1 a2 fz
  refine (TK.out _ HB2.out).mono ?_
  rintro e w2 ⟨rfl, ht2, hr2⟩
  have ST := Lib.hid ((Step.of (Turned.of_below HB2.out)).trans (Step.of ht2)); have HR2 := Lib.hid hr2
  have S2 := Lib.hid (SE.out w2 (tick S) hr2 rfl)
  obtain ⟨g, hg⟩ : ∃ g, w1.heap.size = g := ⟨_, rfl⟩
  have hqg : g ≠ q := by omega
  have HN2 : Hid (w2.heap[g]? = some (.cells #[.string s, .slice p1 x1 c1, .slice p2 x2 c2] 65 (0, 0))) := Lib.hid (by
    have hlt := (Array.getElem?_eq_some_iff.1 HBX.out).1
    rw [← hg, ht2.block _ hlt fun ho => by have := H.out.dom _ ho; omega]
    exact HBX.out)
  rw [hg]
  have BX : Hid (∀ wx, Below w2.heap.size w2 wx → wx.cell? ⟨g, 1, none⟩ = some (.slice p1 x1 c1) ∧ wx.cell? ⟨g, 2, none⟩ = some (.slice p2 x2 c2)) := Lib.hid fun wx hb => by
    have hx := (hb.block _ (Array.getElem?_eq_some_iff.1 HN2.out).1).trans HN2.out
    exact ⟨Joins.cell_of_block hx 1, Joins.cell_of_block hx 2⟩
  have KS : Hid (∀ wx, Below w2.heap.size w2 wx → wx.cell? ⟨d, 0, none⟩ = some (.slice (some ⟨q, 0, none⟩) n cap) ∧ wx.cell? ⟨g, 1, none⟩ = some (.slice p1 x1 c1) ∧ wx.cell? ⟨g, 2, none⟩ = some (.slice p2 x2 c2)) := Lib.hid fun wx hb => ⟨(S2.out wx hb).z0, (BX.out wx hb).1, (BX.out wx hb).2⟩
  have KS2 : Hid (∀ wx, Below w2.heap.size w2 wx → ∀ x y z : Value, (((wx.setCell ⟨q, j * 3, none⟩ x).setCell ⟨q, j * 3 + 1, none⟩ y).setCell ⟨q, j * 3 + 2, none⟩ z).cell? ⟨d, 0, none⟩ = some (.slice (some ⟨q, 0, none⟩) n cap) ∧ (((wx.setCell ⟨q, j * 3, none⟩ x).setCell ⟨q, j * 3 + 1, none⟩ y).setCell ⟨q, j * 3 + 2, none⟩ z).cell? ⟨g, 1, none⟩ = some (.slice p1 x1 c1) ∧ (((wx.setCell ⟨q, j * 3, none⟩ x).setCell ⟨q, j * 3 + 1, none⟩ y).setCell ⟨q, j * 3 + 2, none⟩ z).cell? ⟨g, 2, none⟩ = some (.slice p2 x2 c2)) := Lib.hid fun wx hb x y z => by
    rw [far3 _ _ _ _ _ _ (Ne.symm hqd), far3 (a := ⟨g, 1, none⟩) _ _ _ _ _ _ hqg, far3 (a := ⟨g, 2, none⟩) _ _ _ _ _ _ hqg]
    exact KS.out wx hb
  obtain ⟨y0, y1⟩ := BX.out w2 (Below.refl _ _)
  clear ht2 hr2 hg
  go_wp2
  clear y0 y1
  have s0 := Below.refl w2.heap.size w2
  have g1 := HG1.out
  go_region_held3 (fun wx => wx.cell? ⟨d, 0, none⟩ = some (.slice (some ⟨q, 0, none⟩) n cap) ∧ wx.cell? ⟨g, 1, none⟩ = some (.slice p1 x1 c1) ∧ wx.cell? ⟨g, 2, none⟩ = some (.slice p2 x2 c2))
    (first | exact KS2.out _ hb4 _ _ _ | exact KS.out _ (by (repeat (first | assumption | exact s0 | (refine below_alloc ?_ (Nat.le_refl _)) | refine Below.drew ?_))))
    (first
      | (refine step_apd (by rfl) (.tmp 76) (.tmp 84) (by rfl) w2 w2.heap.size (by (repeat (first | assumption | exact s0 | (refine below_alloc ?_ (Nat.le_refl _)) | refine Below.drew ?_))) _ [] (by rfl) (own_made_drew _ (Nat.le_refl _)) p2 M c2 l2 (by rfl) (cut_row (S2.out _ (by (repeat (first | assumption | exact s0 | (refine below_alloc ?_ (Nat.le_refl _)) | refine Below.drew ?_)))).r2 hNx) nn g1 (Nat.le_refl _) ?_; intro v4 w4 ho4 hb4 hg4; obtain ⟨va4, vc4, e4, _⟩ := Ob.own_row ho4; rw [HG3.out] at e4; subst e4; have s4 := S2.out _ hb4; have t0 := s4.a0; have t1' := s4.a1; have t2 := s4.a2; have t3 := s4.fz (j * 3); have t4 := s4.fz (j * 3 + 1); have t5 := s4.fz (j * 3 + 2); clear s4))
  have DD : Hid (RDid w O d (truncS s.data.toList (N : Int) S) (.returned (.int .i64 0)) (((w4.setCell ⟨q, j * 3, none⟩ (.string s)).setCell ⟨q, j * 3 + 1, none⟩ (.slice p1 x1 c1)).setCell ⟨q, j * 3 + 2, none⟩ (.slice va4 M vc4))) := Lib.hid (D.out w2 w4 va4 vc4 _ ST.out HR2.out hb4 ho4 rfl)
  clear t0 t1' t2 t3 t4 t5 ho4 hb4 hg4
  go_split_ands
  go_wp2
  go_ret
  exact DD.out
end
end Go.Proofs.Ytjeemgcenmcplaa.Dk

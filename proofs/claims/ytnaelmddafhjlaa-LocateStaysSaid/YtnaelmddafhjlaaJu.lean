/-
  Layer 14: the law LocateTurns.
-/
import Derived.Test.YtnaelmddafhjlaaJt
import Derived.Test.YtnaelmddafhjlaaJl
import Derived.Test.YtnaelmddafhjlaaJh
namespace Go.Proofs.Ytnaelmddafhjlaa.Bo
open Go.RowKit Rw
set_option linter.unusedVariables false
set_option linter.unusedSimpArgs false

theorem tidy_of {Z : List Int} {X : List Lo} (h : tidyS Z X = true) : (∀ j, j < Z.length → stockB (Z.getD j 0) = true) ∧ X.Pairwise (fun a b => ltK (keyl a) (keyl b) = true) ∧ ∀ x ∈ X, stockB x.qty = true := by
  unfold tidyS riseT at h
  rw [Bool.and_eq_true, Bool.and_eq_true, List.all_eq_true, List.all_eq_true] at h
  refine ⟨fun j hj => h.1 _ ?_, rise_pair h.2.1, h.2.2⟩
  rw [List.getD_eq_getElem?_getD, List.getElem?_eq_getElem hj]
  exact List.getElem_mem hj
theorem Dec.mem {α : Type} {key : α → K2} {X L R : List α} {p : K2} {o : Option α} (h : Dec key X p L o R) : ∀ y, o = some y → y ∈ X := fun y e => by subst e; rw [h.eq]; simp
set_option maxRecDepth 100000 in
set_option maxHeartbeats 8000000 in
theorem turns_walk (a0 : Option Addr) (len0 cap0 : Nat) (Z : List Int) (a1 : Option Addr) (len1 cap1 : Nat) (X : List Lo) (x2 : Lo) (w : World) (w0 : Inz w a0 len0 cap0 Z) (w1' : Inl w a1 len1 cap1 X) :
    Calls Try.prog 4 #[.slice a0 len0 cap0, .slice a1 len1 cap1, vl x2] w fun e w' => e = .returned (.bool true) ∧ Below w.heap.size w w' := by
  obtain ⟨hx0, hl0, hlc0, hn0, hcap0⟩ := w0
  obtain ⟨hx1, hl1, hlc1, hn1, hcap1⟩ := w1'
  obtain ⟨c, i, q⟩ := x2
  obtain ⟨N, hN⟩ : ∃ N, N = w.heap.size := ⟨_, rfl⟩
  obtain ⟨W0, hW0⟩ : ∃ W0, W0 = w.alloc (.cells #[.int .i64 c, .int .i64 i, .int .i64 q] 29) := ⟨_, rfl⟩
  have x0 : Blk W0 N #[.int .i64 c, .int .i64 i, .int .i64 q] 29 := by rw [hW0, hN]; exact Blk.new w _ _
  have hb : Below w.heap.size w W0 := by rw [hW0]; exact one_alloc _ _
  have KS : Hid (∀ wx, Below W0.heap.size W0 wx → wx.cell? ⟨N, 0, none⟩ = some (.int .i64 c) ∧ wx.cell? ⟨N, 1, none⟩ = some (.int .i64 i) ∧ wx.cell? ⟨N, 2, none⟩ = some (.int .i64 q)) := Lib.hid fun wx hb => ⟨(x0.keep hb).cell 0, (x0.keep hb).cell 1, (x0.keep hb).cell 2⟩
  have HX0 : Hid (∀ wx, Below W0.heap.size W0 wx → Has encz wx a0 Z) := Lib.hid fun wx h => (hx0.keep hb).keep h
  have HX1 : Hid (∀ wx, Below W0.heap.size W0 wx → Has encl wx a1 X) := Lib.hid fun wx h => (hx1.keep hb).keep h
  have HB := Lib.hid hb; have HN := Lib.hid hN; have HW := Lib.hid hW0; have HL0 := Lib.hid hl0; have HL1 := Lib.hid hl1; have HN0 := Lib.hid hn0; have HN1 := Lib.hid hn1
  clear hx0 hx1 hN hW0 x0 hb hl0 hl1 hn0 hn1
  go_enter Try.func4, Try.ntmps4
  go_wp2_with fail
  rw [← HN.out, ← HW.out]
  clear HN HW
  refine (wakes_any W0).mono ?_
  rintro e w1 ⟨rfl, hb1⟩
  have B1 := Lib.hid hb1
  clear hb1
  go_wp2_with fail
  refine (rtidy_any a0 len0 cap0 Z a1 len1 cap1 X w1 (HX0.out _ B1.out) HL0.out (HX1.out _ B1.out) HL1.out).mono ?_
  rintro e w2 ⟨rfl, hb2⟩
  have B2 := Lib.hid (below_next B1.out hb2)
  clear hb2 B1
  cases hR : tidyS Z X with
  | false =>
    clear hR
    go_wp2
    go_ret
    exact ⟨rfl, below_next HB.out B2.out⟩
  | true =>
  by_cases h512 : 512 < len1
  · have i0 : (512 : Int) < (len1 : Int) := by omega
    clear hR
    go_wp2
    go_ret
    exact ⟨rfl, below_next HB.out B2.out⟩
  have i0 : ¬ (512 : Int) < (len1 : Int) := by omega
  obtain ⟨hZ, hP, hQ⟩ := tidy_of hR
  obtain ⟨L, o, R, hd⟩ := dec_of (key := keyl) (c, i) hP
  have hqo : ∀ y, o = some y → stockB y.qty = true := fun y e => hQ y (hd.mem y e)
  have hz : ∀ j, j < len0 → stockB (Z.getD j 0) = true := fun j hj => hZ j (by rw [HL0.out]; exact hj)
  obtain ⟨c0, c1, c2⟩ := KS.out w2 B2.out
  have C1 := Lib.hid (sup_any a0 len0 cap0 Z i q w2 (HX0.out _ B2.out) HL0.out HN0.out (by omega) hz)
  have C2 := Lib.hid fun wx (h : Below W0.heap.size W0 wx) => rsup_any a0 len0 cap0 Z i q wx (HX0.out _ h) HL0.out (by omega) hz
  have C3 := Lib.hid fun wx (h : Below W0.heap.size W0 wx) => held_any a1 len1 cap1 X L R o c i wx (HX1.out _ h) HL1.out (by omega) hd
  have C4 := Lib.hid fun wx (h : Below W0.heap.size W0 wx) => rheld_any a1 len1 cap1 X L R o c i wx (HX1.out _ h) HL1.out hd
  have C5 := Lib.hid fun wx (h : Below W0.heap.size W0 wx) => res_any a0 len0 cap0 Z a1 len1 cap1 X L R o c i q wx (HX0.out _ h) HL0.out HN0.out (by omega) (HX1.out _ h) HL1.out hlc1 HN1.out (by omega) (by omega) hd hz hqo
  have C6 := Lib.hid fun wx (h : Below W0.heap.size W0 wx) => rres_any a0 len0 cap0 Z a1 len1 cap1 X L R o c i q wx (HX0.out _ h) HL0.out (by omega) (HX1.out _ h) HL1.out (by omega) hd hz hqo
  unfold SupIt at C1 C2
  unfold ResIt at C5
  unfold RResIt at C6
  clear hR hP hQ hd hqo hZ hz
  generalize supE Z i q = E at *
  generalize supL Z i q = Y at *
  generalize resE Z X.length o i q = E2 at *
  generalize resZ Z X.length o i q = Y2 at *
  generalize resX Z X.length L o R c i q = Y3 at *
  generalize heldO o = QQ at *
  go_wp2_with fail
  refine C1.out.mono ?_
  rintro e w3 ⟨v3, rfl, ho3, hb3⟩
  obtain ⟨a3, c3, rfl, hh3, -⟩ := ho3.has okz
  have B3 := Lib.hid (below_next B2.out hb3); have H3 := Lib.hid hh3
  clear ho3 hb3 hh3 B2 C1 c0 c1 c2
  obtain ⟨c0, c1, c2⟩ := KS.out w3 B3.out
  go_wp2_with fail
  refine (C2.out w3 B3.out).mono ?_
  rintro e w4 ⟨v4, rfl, ho4, hb4⟩
  obtain ⟨a4, c4, rfl, hh4, -⟩ := ho4.has okz
  have B4 := Lib.hid (below_next B3.out hb4); have H4 := Lib.hid hh4; have H34 := Lib.hid (H3.out.keep hb4)
  clear ho4 hb4 hh4 C2 H3 c0 c1 c2
  obtain ⟨c0, c1, c2⟩ := KS.out w4 B4.out
  have KS4 : Hid (∀ wx, Below w4.heap.size w4 wx → wx.cell? ⟨N, 0, none⟩ = some (.int .i64 c) ∧ wx.cell? ⟨N, 1, none⟩ = some (.int .i64 i) ∧ wx.cell? ⟨N, 2, none⟩ = some (.int .i64 q)) := Lib.hid fun wx h => KS.out _ (below_next B4.out h)
  have S1 : Hid (∀ wx, Below w4.heap.size w4 wx → Calls Try.prog 14 #[.slice a3 Y.length c3, .slice a4 Y.length c4] wx fun e w' => e = .returned (.bool true) ∧ Below w4.heap.size w4 w') := Lib.hid fun wx h => by
    have := same_z a3 a4 Y.length c3 Y.length c4 Y Y wx (H34.out.keep h) (H4.out.keep h) rfl rfl
    rw [decide_eq_true (rfl : Y = Y)] at this
    exact this.mono fun e w' ⟨h1, h2⟩ => ⟨h1, h.trans (h2.mono h.size)⟩
  have S2 : Hid (∀ wx, Below w4.heap.size w4 wx → Calls Try.prog 15 #[.slice a1 len1 cap1, .int .i64 c, .int .i64 i] wx fun e w' => e = .returned (.int .i64 QQ) ∧ Below w4.heap.size w4 w') := Lib.hid fun wx h => (C3.out wx (below_next B4.out h)).mono fun e w' ⟨h1, h2⟩ => ⟨h1, h.trans (h2.mono h.size)⟩
  have S3 : Hid (∀ wx, Below w4.heap.size w4 wx → Calls Try.prog 16 #[.slice a1 len1 cap1, .int .i64 c, .int .i64 i] wx fun e w' => e = .returned (.int .i64 QQ) ∧ Below w4.heap.size w4 w') := Lib.hid fun wx h => (C4.out wx (below_next B4.out h)).mono fun e w' ⟨h1, h2⟩ => ⟨h1, h.trans (h2.mono h.size)⟩
  have q1 : (E != E) = false := by simp
  have q2 : (QQ != QQ) = false := by simp
  generalize Y.length = YL at *
  go_upto_region 7 with (fail)
  go_region_held3 (fun wx => wx.cell? ⟨N, 0, none⟩ = some (.int .i64 c) ∧ wx.cell? ⟨N, 1, none⟩ = some (.int .i64 i) ∧ wx.cell? ⟨N, 2, none⟩ = some (.int .i64 q))
    (first | exact KS4.out _ (Below.refl _ _).drew | exact KS4.out _ (Below.refl _ _) | exact KS4.out _ (by assumption))
    (first
      | (go_split_ands; go_at_call 14; (with_reducible refine (S1.out _ (by first | assumption | exact (Below.refl _ _).drew)).mono ?_); rintro e w5 ⟨rfl, hb5⟩)
      | (go_split_ands; go_at_call 15; (with_reducible refine (S2.out _ (by first | assumption | exact (Below.refl _ _).drew)).mono ?_); rintro e w6 ⟨rfl, hb6⟩)
      | (go_split_ands; go_at_call 16; (with_reducible refine (S3.out _ (by first | assumption | exact (Below.refl _ _).drew)).mono ?_); rintro e w7 ⟨rfl, hb7⟩)
      | fail)
  have B7 := Lib.hid (below_next B4.out hb7)
  clear S1 S2 S3 KS4 H34 H4 hb5 hb6 hb7 c0 c1 c2 C3 C4 B4
  obtain ⟨c0, c1, c2⟩ := KS.out w7 B7.out
  go_wp2_with fail
  refine (C5.out w7 B7.out).mono ?_
  rintro e w8 ⟨v8, u8, s8, rfl, ho8, _, hp8, _, hb8⟩
  obtain ⟨a8, c8, rfl, hh8, -⟩ := ho8.has okz
  obtain ⟨b8, d8, rfl, hg8, -⟩ := hp8.has okl
  have B8 := Lib.hid (below_next B7.out hb8); have H8 := Lib.hid hh8; have G8 := Lib.hid hg8
  clear ho8 hp8 hb8 hh8 hg8 B7 C5 c0 c1 c2
  obtain ⟨c0, c1, c2⟩ := KS.out w8 B8.out
  go_wp2_with fail
  refine (C6.out w8 B8.out).mono ?_
  rintro e w9 ⟨v9, u9, rfl, ho9, hp9, hb9⟩
  obtain ⟨a9, c9, rfl, hh9, -⟩ := ho9.has okz
  obtain ⟨b9, d9, rfl, hg9, -⟩ := hp9.has okl
  have B9 := Lib.hid (below_next B8.out hb9)
  have T1 := Lib.hid (same_z a8 a9 Y2.length c8 Y2.length c9 Y2 Y2 w9 (H8.out.keep hb9) hh9 rfl rfl)
  rw [decide_eq_true (rfl : Y2 = Y2)] at T1
  have T2 : Hid (∀ wx, Below w9.heap.size w9 wx → Calls Try.prog 19 #[.slice b8 Y3.length d8, .slice b9 Y3.length d9] wx fun e w' => e = .returned (.bool true) ∧ Below wx.heap.size wx w') := Lib.hid fun wx h => by
    have := same_l b8 b9 Y3.length d8 Y3.length d9 Y3 Y3 wx ((G8.out.keep hb9).keep h) (hg9.keep h) rfl rfl
    rw [decide_eq_true (rfl : Y3 = Y3)] at this
    exact this
  clear ho9 hp9 hb9 hh9 hg9 H8 G8 C6 c0 c1 c2 B8
  have q3 : (E2 == E2) = true := beq_self_eq_true _
  generalize Y2.length = Y2L at *
  generalize Y3.length = Y3L at *
  go_wp2_with fail
  refine T1.out.mono ?_
  rintro e w10 ⟨rfl, hb10⟩
  have B10 := Lib.hid hb10
  clear hb10
  go_wp2_with fail
  refine (T2.out w10 B10.out).mono ?_
  rintro e w11 ⟨rfl, hb11⟩
  go_wp2
  go_ret
  exact ⟨rfl, below_next HB.out (below_next B9.out (below_next B10.out hb11))⟩
end Go.Proofs.Ytnaelmddafhjlaa.Bo

/-
  Layer 4: a disk and a disk of the reference with the same files, power and count are alike.
-/
import Derived.Test.YtjeemgcenmcplaaLn
namespace Go.Proofs.Ytjeemgcenmcplaa.Dk
open Go.RowKit Fo
set_option linter.unusedVariables false
set_option linter.unusedSimpArgs false

theorem refnames_hi {N : Nat} {w : World} {O : Nat → Prop} {d : Nat} {S : St} (h : IsRef w O d S) (hN : N ≤ w.heap.size) : Calls Try.prog 31 #[.pointer (some ⟨d, 0, none⟩)] w fun e w' => ∃ ad cap, e = .returned (.slice ad (namesL S).length cap) ∧ (namesL S).length ≤ cap ∧ cap ≤ 9223372036854775807 ∧ NmOk N w' ad (namesL S) ∧ Below w.heap.size w w' := by
  obtain ⟨fv, P, Q, h⟩ := h
  refine (ref_names h).mono fun e w' ⟨v, h1, h2, h3⟩ => ?_
  subst h1
  rcases h2.2 with ⟨rfl, h0⟩ | ⟨g, cap, cur, rfl, hb, hh, x1, x2, x3, x4⟩
  · exact ⟨none, 0, by rw [h0], by omega, by decide, (fun h => by omega), h3⟩
  · refine ⟨some ⟨g, 0, none⟩, cap, rfl, x1, by unfold maxLen at x2; exact x2, fun _ => ⟨g, cur, rfl, Nat.le_trans hN hb, hh, fun j hj => ?_⟩, h3⟩
    rw [World.ownsRow.cellAt h2 j (by omega), List.getElem?_map, List.getElem?_eq_getElem hj]
    simp [List.getD, hj]
theorem refread_nm {w : World} {O : Nat → Prop} {d : Nat} {S : St} (h : IsRef w O d S) {j : Nat} (hj : j < (namesL S).length) :
    Calls Try.prog 27 #[.pointer (some ⟨d, 0, none⟩), .string (nmV (namesL S) j)] w (RowOut w 0 ((contL S).getD j [])) := by
  obtain ⟨t1, t2, t3⟩ := nc_read h.good hj
  refine (read_ref h (nmV (namesL S) j) (by unfold nmV maxLen; show (((namesL S).getD j []).toArray).size ≤ _; simp only [List.size_toArray]; omega)).mono fun e w' ⟨v, x1, x2, x3⟩ => ?_
  rw [nmV_list] at x1 x2
  rw [t1] at x1
  rw [t2] at x2
  obtain ⟨ad, cap, rfl, y1, y2, y3, _⟩ := Ob.own_row x2
  exact ⟨ad, cap, x1, x2, y1, y2, y3, x3⟩
set_option maxRecDepth 100000 in
set_option maxHeartbeats 1600000 in
theorem alike_any {w : World} {O1 O2 : Nat → Prop} {d m : Nat} {S : St} (hd : IsDisk w O1 d S) (hm : IsRef w O2 m S) :
    Calls Try.prog 11 #[.pointer (some ⟨d, 0, none⟩), .pointer (some ⟨m, 0, none⟩)] w fun e w' => e = .returned (.bool true) ∧ Below w.heap.size w w' := by
  have HD := Lib.hid hd; have HM := Lib.hid hm
  obtain ⟨q, hq⟩ : ∃ q, (namesL S).length = q := ⟨_, rfl⟩
  have hq16 : q ≤ 16 := by rw [← hq]; exact few_names hd.good
  have HQ := Lib.hid hq
  obtain ⟨dn, hdn⟩ : ∃ dn, S.down = dn := ⟨_, rfl⟩
  obtain ⟨wrn, hwr⟩ : ∃ x, S.wr = x := ⟨_, rfl⟩
  have MC : Hid (∀ wx, Below w.heap.size w wx → wx.cell? ⟨m, 2, none⟩ = some (.bool (!dn)) ∧ wx.cell? ⟨m, 3, none⟩ = some (.int .i64 wrn)) := Lib.hid fun wx hb => by
    obtain ⟨_, _, _, hr⟩ := HM.out.below hb
    rw [← hdn, ← hwr]
    exact ⟨hr.cells.2.2.1, hr.cells.2.2.2.1⟩
  have DWN : Hid (∀ wx, Below w.heap.size w wx → Calls Try.prog 32 #[.pointer (some ⟨d, 0, none⟩)] wx fun e w' => e = .returned (.bool dn) ∧ wx = w') := Lib.hid fun wx hb => by rw [← hdn]; exact down_disk (HD.out.below hb)
  have WRT : Hid (∀ wx, Below w.heap.size w wx → Calls Try.prog 33 #[.pointer (some ⟨d, 0, none⟩)] wx fun e w' => e = .returned (.int .i64 wrn) ∧ wx = w') := Lib.hid fun wx hb => by rw [← hwr]; exact writes_disk (HD.out.below hb)
  have n1 := names_hi (N := w.heap.size) hd (Nat.le_refl _)
  rw [hq] at n1
  have N1 := Lib.hid n1
  have N2 : Hid (∀ wx, Below w.heap.size w wx → Calls Try.prog 31 #[.pointer (some ⟨m, 0, none⟩)] wx fun e w' => ∃ ad cap, e = .returned (.slice ad q cap) ∧ q ≤ cap ∧ cap ≤ 9223372036854775807 ∧ NmOk w.heap.size w' ad (namesL S) ∧ Below wx.heap.size wx w') := Lib.hid fun wx hb => by
    have := refnames_hi (N := w.heap.size) (HM.out.below hb) hb.size
    rwa [hq] at this
  clear hd hm hq n1 hdn hwr
  go_enter Try.func11, Try.ntmps11
  go_wp2_with fail
  refine N1.out.mono ?_
  rintro e w1 ⟨ad1, cap1, rfl, hc1, hc1b, nm1, hb1⟩
  have NM1 := Lib.hid nm1; have B1 := Lib.hid hb1
  clear nm1 hb1
  go_wp2_with fail
  refine (N2.out _ B1.out).mono ?_
  rintro e w2 ⟨ad2, cap2, rfl, hc2, hc2b, nm2, hb2⟩
  have B2 := Lib.hid (B1.out.trans (hb2.mono B1.out.size))
  have NM1b := Lib.hid (NM1.out.keep (KeepHi.of_below hb2)); have NM2 := Lib.hid nm2
  clear nm2 hb2
  have tq : ((q : Int) == (q : Int)) = true := by simp
  have tq2 : ((q : Int) != (q : Int)) = false := by simp
  have td : (dn == !dn) = false := by cases dn <;> rfl
  have tw : (wrn != wrn) = false := by simp
  go_wp2
  go_region_held3 (fun wx => wx.cell? ⟨m, 2, none⟩ = some (.bool (!dn)) ∧ wx.cell? ⟨m, 3, none⟩ = some (.int .i64 wrn))
    (exact MC.out _ (Below.drew B2.out))
    (first
      | (go_at_call 32; (with_reducible refine (DWN.out _ (Below.drew B2.out)).mono ?_); rintro e w' ⟨rfl, rfl⟩)
      | (go_at_call 33; (with_reducible refine (WRT.out _ (Below.drew B2.out)).mono ?_); rintro e w' ⟨rfl, rfl⟩))
  go_split_ands
  go_wp2
  have B2d : Hid (Below w.heap.size w w2.drew) := Lib.hid B2.out.drew
  go_loopg [41] q (fun mm i wr => ∃ j : Nat, j + mm = q ∧ i = .int .i64 (j : Int) ∧ Hid (Below w2.heap.size w2 wr))
  case atStart => exact ⟨0, by omega, rfl, Lib.hid (Below.drew (Below.refl _ _))⟩
  case round =>
    obtain ⟨j, hj, rfl, HB⟩ := hrel
    by_cases hlt : j < q
    · have hjl : j < (namesL S).length := by rw [HQ.out]; exact hlt
      have BW : Hid (Below w.heap.size w wr) := Lib.hid (B2.out.trans (HB.out.mono B2.out.size))
      obtain ⟨g1, e1, n1⟩ := nm_cell (b := 0) (off := 0) (NM1b.out.keep (KeepHi.of_below HB.out)) hjl
      obtain ⟨g2, e2, n2⟩ := nm_cell (b := 0) (off := 0) (NM2.out.keep (KeepHi.of_below HB.out)) hjl
      have rd := read_nm (HD.out.below BW.out) hjl
      have rr : ∀ wx, Below w.heap.size w wx → Calls Try.prog 27 #[.pointer (some ⟨m, 0, none⟩), .string (nmV (namesL S) j)] wx (RowOut wx 0 ((contL S).getD j [])) := fun wx hb => refread_nm (HM.out.below hb) hjl
      obtain ⟨lj, hlj⟩ : ∃ lj, (contL S).getD j [] = lj := ⟨_, rfl⟩
      obtain ⟨nj, hnj⟩ : ∃ nj, nmV (namesL S) j = nj := ⟨_, rfl⟩
      rw [hlj, hnj] at rd
      rw [hlj, hnj] at rr
      rw [hnj] at n1 n2
      obtain ⟨ll, hll⟩ : ∃ ll, lj.length = ll := ⟨_, rfl⟩
      unfold RowOut at rd rr
      rw [hll] at rd rr
      have RD := Lib.hid rd; have RR := Lib.hid rr; have N1c := Lib.hid n1; have N2c := Lib.hid n2
      subst e1
      subst e2
      have hj0 : (0 : Int) ≤ (j : Int) := by omega
      have hj1 : (j : Int) < (q : Int) := by omega
      have hjc1 : (j : Int) < (cap1 : Int) := by omega
      clear rd rr hlj hnj hjl n1
      have n1 := N1c.out
      clear n2
      go_wp2_with fail
      clear n1
      refine RD.out.mono ?_
      rintro e w5 ⟨ad5, cap5, rfl, _, row5, _, _, hb5⟩
      have ROW5 := Lib.hid row5; have B5 := Lib.hid (HB.out.trans (hb5.mono HB.out.size))
      have BW5 := Lib.hid (B2.out.trans (B5.out.mono B2.out.size))
      have n2 := (hb5.cell (p := ⟨g2, j, none⟩) (Fr.lt_of_cell N2c.out)).trans N2c.out
      have N1d := Lib.hid ((hb5.cell (p := ⟨g1, j, none⟩) (Fr.lt_of_cell N1c.out)).trans N1c.out)
      clear row5 hb5
      go_wp2_with fail
      have N2d := Lib.hid n2
      clear n2
      refine (RR.out _ BW5.out).mono ?_
      rintro e w6 ⟨ad6, cap6, rfl, _, row6, _, _, hb6⟩
      have B6 := Lib.hid (B5.out.trans (hb6.mono B5.out.size))
      have KS : Hid (∀ wx, Below w6.heap.size w6 wx → wx.cell? ⟨g1, j, none⟩ = some (.string nj) ∧ wx.cell? ⟨g2, j, none⟩ = some (.string nj)) := Lib.hid fun wx hb => by
        have m1 := (hb6.cell (p := ⟨g1, j, none⟩) (Fr.lt_of_cell N1d.out)).trans N1d.out
        have m2 := (hb6.cell (p := ⟨g2, j, none⟩) (Fr.lt_of_cell N2d.out)).trans N2d.out
        exact ⟨(hb.cell (p := ⟨g1, j, none⟩) (Fr.lt_of_cell m1)).trans m1, (hb.cell (p := ⟨g2, j, none⟩) (Fr.lt_of_cell m2)).trans m2⟩
      have SM : Hid (∀ wx, Below w6.heap.size w6 wx → Calls Try.prog 10 #[.slice ad5 ll cap5, .slice ad6 ll cap6] wx fun e w' => e = .returned (.bool true) ∧ Below wx.heap.size wx w') := Lib.hid fun wx hb => by
        have := same_any ad5 ll cap5 lj ad6 ll cap6 lj wx ((ROW5.out.keep hb6).keep hb) (row6.keep hb)
        rwa [sameB_self] at this
      have s0 := Below.refl w6.heap.size w6
      have tn : (nj.toList == nj.toList) = true := by simp
      clear row6 hb6 hll
      go_wp2
      go_region_held3 (fun wx => wx.cell? ⟨g1, j, none⟩ = some (.string nj) ∧ wx.cell? ⟨g2, j, none⟩ = some (.string nj))
        (first | exact KS.out _ hb7 | exact KS.out _ (Below.drew s0))
        (first | (go_at_call 10; (with_reducible refine (SM.out _ (Below.drew s0)).mono ?_); rintro e w7 ⟨rfl, hb7'⟩; have hb7 : Below w6.heap.size w6 w7 := (Below.drew s0).trans (hb7'.mono (Nat.le_refl _)); clear hb7'))
      have B7 := Lib.hid (B6.out.trans (hb7.mono B6.out.size))
      clear hb7
      go_split_ands
      go_wp2
      go_roundg (q - (j + 1))
      case measure => omega
      case rel => exact ⟨j + 1, by omega, by go_num, B7⟩
    · obtain rfl : q = j := by omega
      have BE := Lib.hid (B2.out.trans (HB.out.mono B2.out.size))
      go_wp2
      go_ret
      exact ⟨rfl, BE.out⟩
end Go.Proofs.Ytjeemgcenmcplaa.Dk

/-
  Layer 12: what the small functions of package grid and of its reference answer: bounds, shifts, points.
-/
import Derived.Test.YtbnihoimhfcjiaaDoorHa
import Derived.Lib.LaidTab
namespace Go.Proofs.YtbnihoimhfcjiaaDoor.Gr
open Go.RowKit
open Go.Proofs.YtbnihoimhfcjiaaDoor.Fx Ot Ao
set_option linter.unusedVariables false
set_option linter.unusedSimpArgs false

/-- The two tables of the program, as they are laid. -/
structure Tabs (w : World) : Prop where
  p : Lib.TabIs Tryd.prog w "bulwark/grid.priceShifts" .i64 tabP
  v : Lib.TabIs Tryd.prog w "bulwark/grid.volShifts" .i64 tabV
theorem Tabs.cellP {w : World} (h : Tabs w) (s : Nat) (hs : s < 21) : w.cell? ⟨0, s / 3, none⟩ = some (.int .i64 (shP s)) :=
  h.p.cell (g := 0) (by kernel_rfl) (s / 3) (show s / 3 < 7 by omega)
theorem Tabs.cellV {w : World} (h : Tabs w) (s : Nat) : w.cell? ⟨1, s % 3, none⟩ = some (.int .i64 (shV s)) :=
  h.v.cell (g := 1) (by kernel_rfl) (s % 3) (show s % 3 < 3 by omega)

theorem quoted_any (p v : Int) (w : World) :
    Calls Tryd.prog 18 #[.int .i64 p, .int .i64 v] w fun e w' => e = .returned (.bool (quB p v)) ∧ w = w' := by
  by_cases h1 : 0 ≤ p
  · by_cases h2 : p ≤ 1000000000000
    · by_cases h3 : 0 ≤ v
      · cases h4 : decide (v ≤ 50000)
        · have EE := Lib.hid (quB_no (p := p) (v := v).2 (by have := of_decide_eq_false h4; omega))
          go_enter Tryd.func18, Tryd.ntmps18
          go_wp2
          go_ret
          exact ⟨by rw [EE.out] <;> rfl, rfl⟩
        · have EE := Lib.hid (quB_iff (p := p) (v := v).2 ⟨h1, h2, h3, of_decide_eq_true h4⟩)
          go_enter Tryd.func18, Tryd.ntmps18
          go_wp2
          go_ret
          exact ⟨by rw [EE.out] <;> rfl, rfl⟩
      · have EE := Lib.hid (quB_no (p := p) (v := v).2 (by omega))
        go_enter Tryd.func18, Tryd.ntmps18
        go_wp2
        go_ret
        exact ⟨by rw [EE.out] <;> rfl, rfl⟩
    · have EE := Lib.hid (quB_no (p := p) (v := v).2 (by omega))
      go_enter Tryd.func18, Tryd.ntmps18
      go_wp2
      go_ret
      exact ⟨by rw [EE.out] <;> rfl, rfl⟩
  · have EE := Lib.hid (quB_no (p := p) (v := v).2 (by omega))
    go_enter Tryd.func18, Tryd.ntmps18
    go_wp2
    go_ret
    exact ⟨by rw [EE.out] <;> rfl, rfl⟩
theorem tab_lt {g : Nat} {w : World} {nm : String} {zs : List Int} (hg : Tryd.prog.globalNamed nm = some g) (hz : 0 < zs.length) (h : Lib.TabIs Tryd.prog w nm .i64 zs) : g < w.heap.size := by
  have := h.cell hg 0 hz
  rcases Nat.lt_or_ge g w.heap.size with h1 | h1
  · exact h1
  · simp [World.cell?, Array.getElem?_eq_none h1] at this
theorem tab_keep {g : Nat} {w w' : World} {nm : String} {zs : List Int} (hg : Tryd.prog.globalNamed nm = some g) (hz : 0 < zs.length) (hb : Below w.heap.size w w') (h : Lib.TabIs Tryd.prog w nm .i64 zs) : Lib.TabIs Tryd.prog w' nm .i64 zs := by
  have hlt := tab_lt hg hz h
  unfold Lib.TabIs at *
  unfold World.var? at h ⊢
  simp only [hg, Option.bind_some] at h ⊢
  rw [hb.block g hlt]
  exact h
theorem Tabs.keep {w w' : World} (h : Tabs w) (hb : Below w.heap.size w w') : Tabs w' :=
  ⟨tab_keep (g := 0) (by kernel_rfl) (by decide) hb h.p, tab_keep (g := 1) (by kernel_rfl) (by decide) hb h.v⟩
set_option maxRecDepth 100000 in
theorem shifts_any (s : Nat) (hs : s < 21) (w : World) (h : Tabs w) :
    Calls Tryd.prog 23 #[.int .i64 (s : Int)] w fun e w' => e = .returned (.agg #[.int .i64 (shP s), .int .i64 (shV s)]) ∧ Below w.heap.size w w' := by
  have HK := Lib.hid (show Tabs (w.alloc (.cells #[.int .i64 0, .int .i64 0] 29)) from h.keep (one_alloc _ _))
  have HB := Lib.hid (one_alloc w (.cells #[.int .i64 0, .int .i64 0] 29))
  have HX := Lib.hid (Bk.new w #[.int .i64 0, .int .i64 0] 29)
  have c1 := HK.out.cellP s hs
  have c2 := HK.out.cellV s
  obtain ⟨b1, b2⟩ := Bk.two HX.out
  generalize shP s = P at *
  generalize shV s = V at *
  go_enter Tryd.func23, Tryd.ntmps23
  go_wp2
  go_wp2
  go_region
  go_wp2
  refine bodyPost_ret (v := .agg #[.int .i64 P, .int .i64 V]) ?_ rfl ⟨rfl, ?_⟩
  · simp [results, Tryd.results23, go_sem]
  · exact (one_alloc _ _).drew
set_option maxRecDepth 100000 in
theorem shifted_any (x d : Int) (w : World) (h1 : 0 ≤ x) (h2 : x ≤ 1000000000000) (h3 : -2500 ≤ d) (h4 : d ≤ 2500) :
    Calls Tryd.prog 27 #[.int .i64 x, .int .i64 d] w fun e w' => e = .returned (.int .i64 (shS x d)) ∧ w = w' := by
  have hm := mul_range h1 h2 (show 0 ≤ 10000 + d by omega) (by omega)
  have HS := Lib.hid (show shS x d = x * (10000 + d) / 10000 from rfl)
  go_enter Tryd.func27, Tryd.ntmps27
  go_wp2
  go_ret
  exact ⟨by rw [HS.out] <;> rfl, rfl⟩
set_option maxRecDepth 100000 in
theorem point_any (p v : Int) (s : Nat) (hs : s < 21) (w : World) (h : Tabs w) (hq : quB p v = true) :
    Calls Tryd.prog 19 #[.int .i64 p, .int .i64 v, .int .i64 (s : Int)] w fun e w' => e = .returned (.tuple #[.int .i64 (shS p (shP s)), .int .i64 (shS v (shV s))]) ∧ Below w.heap.size w w' := by
  obtain ⟨q1, q2, q3, q4⟩ := quB_iff.1 hq
  have HT := Lib.hid h
  have S1 := Lib.hid fun w => shifted_any p (shP s) w q1 q2 (by have := shP_range s; omega) (by have := shP_range s; omega)
  have S2 := Lib.hid fun w => shifted_any v (shV s) w q3 (by omega) (by have := shV_range s; omega) (by have := shV_range s; omega)
  have S3 := Lib.hid fun w (h : Tabs w) => shifts_any s hs w h
  clear h hq q1 q2 q3 q4
  go_enter Tryd.func19, Tryd.ntmps19
  go_wp2_with fail
  refine (S3.out _ HT.out).mono ?_
  rintro e w1 ⟨rfl, hb⟩
  obtain ⟨g, hg⟩ : ∃ g, g = w1.heap.size := ⟨_, rfl⟩
  obtain ⟨W0, hW0⟩ : ∃ W0, W0 = w1.alloc (.cells #[.int .i64 (shP s), .int .i64 (shV s)] 29) := ⟨_, rfl⟩
  have HX := Lib.hid (show Bk W0 g #[.int .i64 (shP s), .int .i64 (shV s)] 29 by rw [hW0, hg]; exact Bk.new w1 _ _)
  have HB := Lib.hid (show Below w.heap.size w W0 by rw [hW0]; exact below_next hb (one_alloc _ _))
  have HG := Lib.hid hg; have HW := Lib.hid hW0
  clear hb hg hW0 S3 HT
  go_upto_region 2 with (fail)
  rw [← HG.out, ← HW.out]
  have KS := Lib.hid (Bk.two HX.out)
  obtain ⟨b1, b2⟩ := Bk.two HX.out
  clear HX HG HW
  go_region_held3 (fun wx => wx.cell? ⟨g, 0, none⟩ = some (.int .i64 (shP s)) ∧ wx.cell? ⟨g, 1, none⟩ = some (.int .i64 (shV s)))
    (first | exact KS.out)
    (first | (go_split_ands; go_at_call 27; (with_reducible refine (S1.out _).mono ?_); rintro e w5 ⟨rfl, rfl⟩) | (go_split_ands; go_at_call 27; (with_reducible refine (S2.out _).mono ?_); rintro e w5 ⟨rfl, rfl⟩) | fail)
  go_wp2
  go_ret2
  exact ⟨rfl, HB.out.drew⟩
set_option maxRecDepth 100000 in
theorem gpoint_any (p v s : Int) (w : World) (h : Tabs w) :
    Calls Tryd.prog 9 #[.int .i64 p, .int .i64 v, .int .i64 s] w fun e w' => e = .returned (.tuple #[.int .i64 (pntS p v s).1, .int .i64 (pntS p v s).2.1, .int .i64 (pntS p v s).2.2]) ∧ Below w.heap.size w w' := by
  by_cases h1 : s < 0
  · have HS := Lib.hid (pnt_no (p := p) (v := v) (s := s) (by omega))
    go_enter Tryd.func9, Tryd.ntmps9
    go_wp2
    go_ret3
    exact ⟨by rw [HS.out] <;> rfl, Below.refl _ _⟩
  by_cases h2 : 21 ≤ s
  · have HS := Lib.hid (pnt_no (p := p) (v := v) (s := s) (by omega))
    go_enter Tryd.func9, Tryd.ntmps9
    go_wp2
    go_ret3
    exact ⟨by rw [HS.out] <;> rfl, Below.refl _ _⟩
  obtain ⟨n, rfl⟩ : ∃ n : Nat, s = (n : Int) := ⟨s.toNat, by omega⟩
  cases hq : quB p v
  · have HS := Lib.hid (pnt_no (p := p) (v := v) (s := (n : Int)) (by rw [hq]; simp))
    go_enter Tryd.func9, Tryd.ntmps9
    go_wp2_with (go_at_call 18; refine (quoted_any _ _ _).mono ?_; rintro e w' ⟨rfl, rfl⟩)
    go_ret3
    exact ⟨by rw [HS.out] <;> rfl, Below.refl _ _⟩
  · have HS := Lib.hid (pnt_ok (p := p) (v := v) (s := n) (by omega) hq)
    have HQ := Lib.hid (quoted_any p v)
    have HP := Lib.hid (point_any p v n (by omega) w h hq)
    clear h
    go_enter Tryd.func9, Tryd.ntmps9
    go_wp2_with (first | (go_at_call 18; (with_reducible refine (HQ.out _).mono ?_); rintro e w' ⟨rfl, rfl⟩) | (go_at_call 19; (with_reducible refine HP.out.mono ?_); rintro e w' ⟨rfl, hb⟩; have HB := Lib.hid hb; clear hb))
    go_ret3
    exact ⟨by rw [HS.out] <;> rfl, HB.out⟩
end Go.Proofs.YtbnihoimhfcjiaaDoor.Gr

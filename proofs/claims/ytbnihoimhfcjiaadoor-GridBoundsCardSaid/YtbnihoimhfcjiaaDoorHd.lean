/-
  Layer 12: the program's units in each scenario, and as things are.
-/
import Derived.Test.YtbnihoimhfcjiaaDoorHc
import Derived.Test.YtbnihoimhfcjiaaDoorGp
import Derived.Deep.LoopGhost
namespace Go.Proofs.YtbnihoimhfcjiaaDoor.Gr
open Go.RowKit
open Go.Proofs.YtbnihoimhfcjiaaDoor.Fx Ot Ao
set_option linter.unusedVariables false
set_option linter.unusedSimpArgs false

/-- The first k of 21 integers. -/
def Row21 (f : Nat → Int) (k : Nat) (cs : Array Value) : Prop := cs.size = 21 ∧ ∀ j, j < k → cs[j]? = some (.int .i64 (f j))
theorem Row21.next {f : Nat → Int} {k : Nat} {cs : Array Value} (h : Row21 f k cs) (hk : k < 21) : Row21 f (k + 1) (cs.setIfInBounds k (.int .i64 (f k))) := by
  refine ⟨by simpa using h.1, fun j hj => ?_⟩
  rw [Array.getElem?_setIfInBounds]
  by_cases e : k = j
  · subst e
    rw [if_pos rfl, if_pos (by rw [h.1]; exact hk)]
  · rw [if_neg e]
    exact h.2 j (by omega)
/-- 21 integers, one by one. -/
abbrev row21 (f : Nat → Int) : Array Value := #[.int .i64 (f 0), .int .i64 (f 1), .int .i64 (f 2), .int .i64 (f 3), .int .i64 (f 4), .int .i64 (f 5), .int .i64 (f 6), .int .i64 (f 7), .int .i64 (f 8), .int .i64 (f 9), .int .i64 (f 10), .int .i64 (f 11), .int .i64 (f 12), .int .i64 (f 13), .int .i64 (f 14), .int .i64 (f 15), .int .i64 (f 16), .int .i64 (f 17), .int .i64 (f 18), .int .i64 (f 19), .int .i64 (f 20)]
theorem row21_at (f : Nat → Int) {j : Nat} (hj : j < 21) : (row21 f)[j]? = some (.int .i64 (f j)) := by
  match j, hj with
  | 0, _ | 1, _ | 2, _ | 3, _ | 4, _ | 5, _ | 6, _ | 7, _ | 8, _ | 9, _ | 10, _ | 11, _ | 12, _ | 13, _ | 14, _ | 15, _ | 16, _ | 17, _ | 18, _ | 19, _ | 20, _ => rfl
  | n + 21, h => exact absurd h (by omega)
theorem row21_one (f : Nat → Int) : ∀ v ∈ (row21 f).toList, v.oneCell' = true := by simp [Value.oneCell']
theorem Row21.whole {f : Nat → Int} {cs : Array Value} (h : Row21 f 21 cs) : cs = row21 f := by
  apply Array.ext_getElem?
  intro j
  by_cases hj : j < 21
  · rw [h.2 j hj, row21_at f hj]
  · rw [Array.getElem?_eq_none (by rw [h.1]; omega), Array.getElem?_eq_none (by show 21 ≤ j; omega)]

abbrev insC (i : Ins) : Array Value := #[.int .i64 i.kind, .int .i64 i.under, .int .i64 i.mult, .int .i64 i.strike, .int .i64 i.expiry, .bool i.call, .int .i64 i.mark]
/-- What Units answers, scenario by scenario. -/
def unF (i : Ins) (p v d : Int) (s : Nat) : Int := if allS i p v d = 0 then (atS i p v d s).1 else 0
theorem unF_ok {i : Ins} {p v d : Int} (h : allS i p v d = 0) : unF i p v d = fun s => (atS i p v d s).1 := funext fun s => if_pos h
theorem unF_no {i : Ins} {p v d : Int} (h : allS i p v d ≠ 0) : unF i p v d = fun _ => 0 := funext fun s => if_neg h
set_option maxRecDepth 100000 in
set_option maxHeartbeats 1000000 in
theorem unitsAt_any (i : Ins) (p v d : Int) (w : World) (h : Tabs w) (hq : quB p v = true) :
    Calls Tryd.prog 24 #[.agg (insC i), .int .i64 p, .int .i64 v, .int .i64 d] w fun e w' => e = .returned (.tuple #[.agg (row21 (unF i p v d)), .int .i64 (allS i p v d)]) ∧ Below w.heap.size w w' := by
  have HA : Hid (allS i p v d = errS i p v d 0 21) := Lib.hid (if_pos hq)
  have HT := Lib.hid h; have HQ := Lib.hid hq
  obtain ⟨N, hN⟩ : ∃ N, N = w.heap.size := ⟨_, rfl⟩
  obtain ⟨x0, x1, x2, b0⟩ := three_boxes w (insC i) nil21 nil21 33 36 36
  obtain ⟨W0, hW0⟩ : ∃ W0, W0 = (((w.alloc (.cells (insC i) 33)).alloc (.cells nil21 36)).alloc (.cells nil21 36)) := ⟨_, rfl⟩
  rw [← hW0, ← hN] at x0 x1 x2
  rw [← hW0] at b0
  have X0 := Lib.hid x0; have X1 := Lib.hid x1; have X2 := Lib.hid x2; have B0 := Lib.hid b0; have HN := Lib.hid hN; have HW := Lib.hid hW0
  clear h hq x0 x1 x2 b0 hN hW0
  go_enter Tryd.func24, Tryd.ntmps24
  go_wp2
  rw [← HN.out, ← HW.out]
  clear HW
  go_loopg [16] 21 (fun m j wr => ∃ (k : Nat) (cs : Array Value), k + m = 21 ∧ j = .int .i64 (k : Int) ∧ Hid (allS i p v d = errS i p v d k m) ∧ Hid (Bk wr N (insC i) 33) ∧ Hid (Bk wr (N + 1) nil21 36) ∧ Hid (Bk wr (N + 1 + 1) cs 36) ∧ Hid (Row21 (fun s => (atS i p v d s).1) k cs) ∧ Hid (Below w.heap.size w wr))
  case atStart => exact ⟨0, nil21, by omega, rfl, Lib.hid HA.out, X0, X1, X2, Lib.hid ⟨rfl, fun j hj => absurd hj (Nat.not_lt_zero _)⟩, B0⟩
  case round =>
    obtain ⟨k, cs, hk, rfl, HE, X0, X1, X2, HR, HB⟩ := hrel
    by_cases hlt : k < 21
    · obtain ⟨m, rfl⟩ : ∃ m, gk = m + 1 := ⟨gk - 1, by omega⟩
      have P1 := Lib.hid (point_any p v k hlt wr (HT.out.keep HB.out) HQ.out)
      obtain ⟨x, c, hx⟩ : ∃ x c, atS i p v d k = (x, c) := ⟨_, _, rfl⟩
      have U1 : Hid (∀ w, Calls Tryd.prog 26 #[.agg (insC i), .int .i64 (shS p (shP k)), .int .i64 (shS v (shV k)), .int .i64 d] w fun e w' => e = .returned (.tuple #[.int .i64 x, .int .i64 c]) ∧ Below w.heap.size w w') := Lib.hid fun w => by
        have := unit_any i (shS p (shP k)) (shS v (shV k)) d w
        rw [show unitS i (shS p (shP k)) (shS v (shV k)) d = (x, c) from hx] at this
        exact this
      by_cases hc : c = 0
      · subst hc
        have HE2 : Hid (allS i p v d = errS i p v d (k + 1) m) := Lib.hid (HE.out.trans (err_step (by rw [hx])))
        have HR2 := Lib.hid (HR.out.next hlt)
        rw [hx] at HR2
        have hsz := HR.out.1
        clear hx
        go_wp2_with (first | (go_at_call 19; (with_reducible refine P1.out.mono ?_); rintro e w1 ⟨rfl, hb⟩; have B1 := Lib.hid (below_next HB.out hb); have Y0 := Lib.hid (Bk.keep X0.out hb); have Y1 := Lib.hid (Bk.keep X1.out hb); have Y2 := Lib.hid (Bk.keep X2.out hb); obtain ⟨c0, c1, c2, c3, c4, c5, c6⟩ := Bk.seven Y0.out; clear hb) | (go_at_call 26; (with_reducible refine (U1.out _).mono ?_); rintro e w2 ⟨rfl, hb⟩; have B2 := Lib.hid (below_next B1.out hb); have Z0 := Lib.hid (Bk.keep Y0.out hb); have Z1 := Lib.hid (Bk.keep Y1.out hb); have Z2 := Lib.hid (Bk.keep Y2.out hb); have f2 := Bk.free Z2.out k; obtain ⟨o2, d2⟩ : ∃ o, w2.cell? ⟨N + 1 + 1, k, none⟩ = some o := ⟨_, (Bk.cell Z2.out k).trans (Array.getElem?_eq_getElem (by rw [hsz]; exact hlt))⟩; clear hb))
        go_roundg m
        case measure => omega
        case rel => exact ⟨k + 1, _, by omega, by go_num, HE2, Lib.hid (Bk.other Z0.out _ _ (by show N + 1 + 1 ≠ N; omega)), Lib.hid (Bk.other Z1.out _ _ (by show N + 1 + 1 ≠ N + 1; omega)), Lib.hid (Bk.set Z2.out k _), HR2, Lib.hid (B2.out.setCell (p := ⟨N + 1 + 1, k, none⟩) (by show w.heap.size ≤ N + 1 + 1; rw [HN.out]; omega) _)⟩
      · have HE2 : Hid (allS i p v d = c) := Lib.hid (HE.out.trans ((err_stop (by rw [hx]; exact hc)).trans (by rw [hx])))
        have HF : Hid (unF i p v d = fun _ => 0) := Lib.hid (unF_no (by rw [HE2.out]; exact hc))
        clear hx
        go_wp2_with (first | (go_at_call 19; (with_reducible refine P1.out.mono ?_); rintro e w1 ⟨rfl, hb⟩; have B1 := Lib.hid (below_next HB.out hb); have Y0 := Lib.hid (Bk.keep X0.out hb); have Y1 := Lib.hid (Bk.keep X1.out hb); have Y2 := Lib.hid (Bk.keep X2.out hb); obtain ⟨c0, c1, c2, c3, c4, c5, c6⟩ := Bk.seven Y0.out; clear hb) | (go_at_call 26; (with_reducible refine (U1.out _).mono ?_); rintro e w2 ⟨rfl, hb⟩; have B2 := Lib.hid (below_next B1.out hb); have Z1 := Lib.hid (Bk.keep Y1.out hb); clear hb) | (with_reducible refine wp_store21 rfl (.tmp 8) (.tmp 36) rfl rfl rfl Z1.out rfl rfl (row21_one fun _ => 0) ?_))
        refine bodyPost_ret (res_box rfl rfl (Bk.row Z1.out (row21 fun _ => 0)) rfl) rfl ⟨?_, below_row B2.out (by rw [HN.out]; omega) _⟩
        rw [HF.out, HE2.out]
        rfl
    · have h21 : k = 21 := by omega
      subst h21
      have h0 : allS i p v d = 0 := by have := HE.out; rw [show gk = 0 by omega] at this; exact this
      have hcs := HR.out.whole
      rw [hcs] at X2
      have HF : Hid (row21 (unF i p v d) = row21 fun s => (atS i p v d s).1) := Lib.hid (by rw [unF_ok h0])
      have HB2 := Lib.hid (below_row HB.out (g := N + 1) (by rw [HN.out]; omega) (row21 fun s => (atS i p v d s).1))
      have R1 := Lib.hid (Bk.row X1.out (row21 fun s => (atS i p v d s).1))
      have H0 := Lib.hid h0
      obtain ⟨g, hg⟩ : ∃ g : Nat → Int, (fun s => (atS i p v d s).1) = g := ⟨_, rfl⟩
      rw [hg] at X2 R1 HB2 HF
      clear hcs HR h0 hg
      go_wp2_with (first | (with_reducible refine wp_load21 rfl (.tmp 10) rfl rfl X2.out rfl ?_) | (with_reducible refine wp_store21 rfl (.tmp 8) (.tmp 42) rfl rfl rfl X1.out rfl rfl (row21_one g) ?_))
      refine bodyPost_ret (res_box rfl rfl R1.out rfl) rfl ⟨?_, HB2.out⟩
      rw [HF.out, H0.out]
      rfl
abbrev undC (u : Un) : Array Value := #[.string u.name, .int .i64 u.cur, .int .i64 u.price, .int .i64 u.vol]
theorem nowS_no {i : Ins} {p v d : Int} (h : quB p v = false) : nowS i p v d = (0, 1) := by unfold nowS; rw [h]; rfl
theorem nowS_yes {i : Ins} {p v d : Int} (h : quB p v = true) : nowS i p v d = unitS i p v d := by unfold nowS; rw [h]; rfl
theorem allS_no {i : Ins} {p v d : Int} (h : quB p v = false) : allS i p v d = 1 := by unfold allS; rw [h]; rfl
set_option maxRecDepth 100000 in
set_option maxHeartbeats 1000000 in
theorem units_any (i : Ins) (u : Un) (d : Int) (w : World) (h : Tabs w) :
    Calls Tryd.prog 13 #[.agg (insC i), .agg (undC u), .int .i64 d] w fun e w' => e = .returned (.tuple #[.agg (row21 (unF i u.price u.vol d)), .int .i64 (allS i u.price u.vol d)]) ∧ Below w.heap.size w w' := by
  obtain ⟨N, hN⟩ : ∃ N, N = w.heap.size := ⟨_, rfl⟩
  obtain ⟨x0, x1, x2, b0⟩ := three_boxes w (insC i) (undC u) nil21 33 35 36
  obtain ⟨W0, hW0⟩ : ∃ W0, W0 = (((w.alloc (.cells (insC i) 33)).alloc (.cells (undC u) 35)).alloc (.cells nil21 36)) := ⟨_, rfl⟩
  rw [← hW0, ← hN] at x0 x1 x2
  rw [← hW0] at b0
  have X0 := Lib.hid x0; have X1 := Lib.hid x1; have X2 := Lib.hid x2; have B0 := Lib.hid b0; have HN := Lib.hid hN; have HW := Lib.hid hW0
  have HT := Lib.hid (h.keep b0)
  clear h x0 x1 x2 b0 hN hW0
  have HQ := Lib.hid (quoted_any u.price u.vol)
  cases hq : quB u.price u.vol
  · have HE := Lib.hid (allS_no (i := i) (d := d) hq)
    have HF : Hid (unF i u.price u.vol d = fun _ => 0) := Lib.hid (unF_no (by rw [HE.out]; decide))
    rw [hq] at HQ
    clear hq
    go_enter Tryd.func13, Tryd.ntmps13
    go_wp2_with fail
    rw [← HN.out, ← HW.out]
    refine (HQ.out _).mono ?_
    rintro e w1 ⟨rfl, rfl⟩
    go_wp2_with (with_reducible refine wp_store21 rfl (.tmp 6) (.tmp 14) rfl rfl rfl X2.out rfl rfl (row21_one fun _ => 0) ?_)
    refine bodyPost_ret (res_box rfl rfl (Bk.row X2.out (row21 fun _ => 0)) rfl) rfl ⟨?_, below_row B0.out (by rw [HN.out]; omega) _⟩
    rw [HF.out, HE.out]
    rfl
  · have HU := Lib.hid (unitsAt_any i u.price u.vol d W0 HT.out hq)
    rw [hq] at HQ
    clear hq
    go_enter Tryd.func13, Tryd.ntmps13
    go_wp2_with fail
    rw [← HN.out, ← HW.out]
    refine (HQ.out _).mono ?_
    rintro e w1 ⟨rfl, rfl⟩
    obtain ⟨c0, c1, c2, c3, c4, c5, c6⟩ := Bk.seven X0.out
    obtain ⟨d0, d1, d2, d3⟩ := Bk.four X1.out
    go_wp2_with fail
    refine HU.out.mono ?_
    rintro e w1 ⟨rfl, hb⟩
    have Y2 := Lib.hid (Bk.keep X2.out hb); have B1 := Lib.hid (below_next B0.out hb)
    clear hb c0 c1 c2 c3 c4 c5 c6 d0 d1 d2 d3
    go_wp2_with (with_reducible refine wp_store21 rfl (.tmp 6) (.tmp 22) rfl rfl rfl Y2.out rfl rfl (row21_one _) ?_)
    exact bodyPost_ret (res_box rfl rfl (Bk.row Y2.out (row21 (unF i u.price u.vol d))) rfl) rfl ⟨rfl, below_row B1.out (by rw [HN.out]; omega) _⟩
set_option maxRecDepth 100000 in
theorem now_any (i : Ins) (u : Un) (d : Int) (w : World) :
    Calls Tryd.prog 15 #[.agg (insC i), .agg (undC u), .int .i64 d] w fun e w' => e = .returned (.tuple #[.int .i64 (nowS i u.price u.vol d).1, .int .i64 (nowS i u.price u.vol d).2]) ∧ Below w.heap.size w w' := by
  have b0 := below_two w (.cells (insC i) 33) (.cells (undC u) 35)
  have x0 := (Bk.new w (insC i) 33).more (.cells (undC u) 35)
  have x1 := Bk.new (w.alloc (.cells (insC i) 33)) (undC u) 35
  rw [World.size_alloc] at x1
  obtain ⟨N, hN⟩ : ∃ N, N = w.heap.size := ⟨_, rfl⟩
  obtain ⟨W0, hW0⟩ : ∃ W0, W0 = ((w.alloc (.cells (insC i) 33)).alloc (.cells (undC u) 35)) := ⟨_, rfl⟩
  rw [← hW0, ← hN] at x0 x1
  rw [← hW0] at b0
  have X0 := Lib.hid x0; have X1 := Lib.hid x1; have B0 := Lib.hid b0; have HN := Lib.hid hN; have HW := Lib.hid hW0
  have HQ := Lib.hid (quoted_any u.price u.vol)
  have HU := Lib.hid (unit_any i u.price u.vol d)
  clear x0 x1 b0 hN hW0
  cases hq : quB u.price u.vol
  · have HE := Lib.hid (nowS_no (i := i) (d := d) hq)
    rw [hq] at HQ
    clear hq
    go_enter Tryd.func15, Tryd.ntmps15
    go_wp2_with fail
    rw [← HN.out, ← HW.out]
    refine (HQ.out _).mono ?_
    rintro e w1 ⟨rfl, rfl⟩
    go_wp2
    go_ret2
    exact ⟨by rw [HE.out] <;> rfl, B0.out⟩
  · have HE := Lib.hid (nowS_yes (i := i) (d := d) hq)
    rw [hq] at HQ
    clear hq
    go_enter Tryd.func15, Tryd.ntmps15
    go_wp2_with fail
    rw [← HN.out, ← HW.out]
    refine (HQ.out _).mono ?_
    rintro e w1 ⟨rfl, rfl⟩
    obtain ⟨c0, c1, c2, c3, c4, c5, c6⟩ := Bk.seven X0.out
    obtain ⟨d0, d1, d2, d3⟩ := Bk.four X1.out
    go_wp2_with fail
    refine (HU.out _).mono ?_
    rintro e w1 ⟨rfl, hb⟩
    have B1 := Lib.hid (below_next B0.out hb)
    clear hb
    go_wp2
    go_ret2
    exact ⟨by rw [HE.out] <;> rfl, B1.out⟩
end Go.Proofs.YtbnihoimhfcjiaaDoor.Gr

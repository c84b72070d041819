/-
  Layer 10: law10's same and wakes.
-/
import Derived.Test.YtnhaoalndlgakaaPg
import Derived.BigQuiet
import Derived.Deep.QuietTactic
namespace Go.Proofs.Ytnhaoalndlgakaa.Tr
open Go.RowKit Go.Sort
set_option linter.unusedVariables false
set_option linter.unusedSimpArgs false

theorem ext_par {x y : List Int} (hl : x.length = y.length) (h : ∀ j, j < x.length → par x j = par y j) : x = y := by
  refine List.ext_getElem hl fun j h1 h2 => ?_
  have := h j h1
  unfold par at this
  rwa [List.getD_eq_getElem?_getD, List.getD_eq_getElem?_getD, List.getElem?_eq_getElem h1, List.getElem?_eq_getElem h2] at this
set_option maxRecDepth 100000 in
set_option maxHeartbeats 1000000 in
theorem same_any (a b : Option Addr) (len c len2 c2 : Nat) (x y : List Int) (w : World) (hx : HasZ w a x) (hl : x.length = len) (hy : HasZ w b y) (hl2 : y.length = len2) :
    Calls Try.prog 10 #[.slice a len c, .slice b len2 c2] w fun e w' => e = .returned (.bool (decide (x = y))) ∧ ∃ n, w' = w.drewN n := by
  have hm := hx.2.1
  rw [hl] at hm
  have HX := Lib.hid hx; have HL := Lib.hid hl; have HY := Lib.hid hy; have HL2 := Lib.hid hl2
  clear hx hl hy hl2
  by_cases he : len = len2
  · subst he
    go_enter Try.func10, Try.ntmps10
    go_wp2
    go_loopg [13] len (fun m i wr => ∃ k : Nat, k + m = len ∧ i = .int .i64 (k : Int) ∧ Hid (∀ j, j < k → par x j = par y j) ∧ ∃ n, wr = w.drewN n)
    case atStart => exact ⟨0, by omega, rfl, Lib.hid fun j hj => absurd hj (Nat.not_lt_zero _), 0, rfl⟩
    case round =>
      obtain ⟨k, hk, rfl, HA, nd, rfl⟩ := hrel
      by_cases hlt : k < len
      · obtain ⟨bb, off, rfl, c0⟩ := HX.out.at (show k < x.length by rw [HL.out]; exact hlt)
        obtain ⟨bb2, off2, rfl, d0⟩ := HY.out.at (show k < y.length by rw [HL2.out]; exact hlt)
        by_cases hq : par x k = par y k
        · have HA2 : Hid (∀ j, j < k + 1 → par x j = par y j) := Lib.hid fun j hj => by
            rcases Nat.lt_or_ge j k with h | h
            · exact HA.out j h
            · obtain rfl : j = k := by omega
              exact hq
          rw [← hq] at d0
          generalize par x k = f at *
          clear hq
          go_wp2
          go_quiet (fail)
          go_wp2
          go_roundg (len - (k + 1))
          case measure => omega
          case rel => exact ⟨k + 1, by omega, by go_num, HA2, _, rfl⟩
        · have HN : Hid (decide (x = y) = false) := Lib.hid (decide_eq_false fun e => hq (by rw [e]))
          have b0 : (par x k != par y k) = true := by rw [bne_iff_ne]; exact hq
          generalize par x k = f at *
          generalize par y k = g at *
          clear hq
          go_wp2
          go_quiet (fail)
          go_wp2
          go_ret
          exact ⟨by rw [HN.out] <;> rfl, _, World.drewN_drewN ..⟩
      · have HE : Hid (decide (x = y) = true) := Lib.hid (decide_eq_true (ext_par (by rw [HL.out, HL2.out]) fun j hj => HA.out j (by rw [HL.out] at hj; omega)))
        go_wp2
        go_ret
        exact ⟨by rw [HE.out] <;> rfl, _, rfl⟩
  · have HN : Hid (decide (x = y) = false) := Lib.hid (decide_eq_false fun e => he (by rw [← HL.out, ← HL2.out, e]))
    go_enter Try.func10, Try.ntmps10
    go_wp2
    go_ret
    exact ⟨by rw [HN.out] <;> rfl, 0, rfl⟩

/-! ### wakes -/
def wk : List Int := [-1, -1, -1, 2, 3]
theorem lit5 (w : World) (T : TypeId) (g : Nat) (hg : g = w.heap.size) : HasZ (w.alloc (.cells #[.int .i64 (-1), .int .i64 (-1), .int .i64 (-1), .int .i64 2, .int .i64 3] T)) (some ⟨g, 0, none⟩) wk := lit_row w wk T g hg (by decide)
theorem lit3 (w : World) (T : TypeId) (g : Nat) (hg : g = w.heap.size) : HasZ (w.alloc (.cells #[.int .i64 2, .int .i64 3, .int .i64 4] T)) (some ⟨g, 0, none⟩) [2, 3, 4] := lit_row w [2, 3, 4] T g hg (by decide)
theorem wk_check : checkS wk = (0, 0) := by decide
theorem wk_below : belowS wk 2 = [2, 3, 4] := by decide
theorem wk_above : (aboveS wk 4).length = 3 := by decide
set_option maxRecDepth 100000 in
set_option maxHeartbeats 2000000 in
theorem wakes_any (w : World) : Calls Try.prog 7 #[] w fun e w' => e = .returned (.bool true) ∧ Below w.heap.size w w' := by
  go_enter Try.func7, Try.ntmps7
  go_wp2_with fail
  refine (check_any _ 5 5 wk _ (lit5 w _ _ rfl) rfl).mono ?_
  rintro e w1 ⟨rfl, hb⟩
  rw [wk_check]
  have H1 := Lib.hid (below_next (one_alloc w _) hb)
  clear hb
  go_wp2_with fail
  refine (below_any _ 5 5 wk 2 _ (lit5 w1 _ _ rfl) rfl).mono ?_
  rintro e w2 ⟨u, rfl, ho, hb⟩
  rw [wk_below] at ho
  obtain ⟨a2, c2, rfl, hh, _⟩ := ho.has
  have HH := Lib.hid hh
  have H2 := Lib.hid (below_next H1.out (below_next (one_alloc w1 _) hb))
  clear hb ho hh H1
  go_wp2_with fail
  refine (same_any _ _ _ _ _ _ [2, 3, 4] [2, 3, 4] _ (HH.out.keep (one_alloc _ _)) rfl (lit3 w2 _ _ rfl) rfl).mono ?_
  rintro e w3 ⟨rfl, n, rfl⟩
  have H3 := Lib.hid (below_next H2.out (below_next (one_alloc w2 (.cells #[.int .i64 2, .int .i64 3, .int .i64 4] 3)) (below_drew _ n)))
  clear H2
  obtain ⟨w4, hw4⟩ : ∃ w4, w4 = (w2.alloc (.cells #[.int .i64 2, .int .i64 3, .int .i64 4] 3)).drewN n := ⟨_, rfl⟩
  rw [← hw4] at H3 ⊢
  clear hw4
  go_wp2_with fail
  refine (depth_any _ 5 5 wk 4 _ (lit5 w4 _ _ rfl) rfl (fun h => by cases h)).mono ?_
  rintro e w5 ⟨rfl, hb⟩
  rw [wk_above]
  have H5 := Lib.hid (below_next H3.out (below_next (one_alloc w4 _) hb))
  clear hb H3
  go_wp2
  go_ret
  exact ⟨rfl, H5.out⟩
end Go.Proofs.Ytnhaoalndlgakaa.Tr

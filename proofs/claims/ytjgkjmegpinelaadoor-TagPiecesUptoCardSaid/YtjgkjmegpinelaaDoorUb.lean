/-
  Layer 7: the reference's Same.
-/
import Derived.Test.YtjgkjmegpinelaaDoorTl
import Derived.Test.YtjgkjmegpinelaaDoorTt
import Derived.BigQuiet
import Derived.Deep.QuietTactic
namespace Go.Proofs.YtjgkjmegpinelaaDoor.Tg
open Go.RowKit Go.Sort Dx Sx
set_option linter.unusedVariables false
set_option linter.unusedSimpArgs false

set_option maxRecDepth 100000 in
set_option maxHeartbeats 1000000 in
theorem same_any (a b : Option Addr) (len c len2 c2 : Nat) (F G : List Fld) (w : World) (hF : HasF w a F) (hl : F.length = len) (hG : HasF w b G) (hl2 : G.length = len2) :
    Calls Tryd.prog 18 #[.slice a len c, .slice b len2 c2] w fun e w' => e = .returned (.bool (decide (F = G))) ∧ Below w.heap.size w w' := by
  have hm := hF.1
  rw [hl] at hm
  have HF := Lib.hid hF; have HL := Lib.hid hl; have HG := Lib.hid hG; have HL2 := Lib.hid hl2; clear hF hl hG hl2
  by_cases he : len = len2
  · subst he
    go_enter Tryd.func18, Tryd.ntmps18
    go_wp2
    go_loopg [13] len (fun m i wr => ∃ k : Nat, k + m = len ∧ i = .int .i64 (k : Int) ∧ Hid (∀ j, j < k → F.getD j fld0 = G.getD j fld0) ∧ Hid (Below w.heap.size w wr))
    case atStart => exact ⟨0, by omega, rfl, Lib.hid fun j hj => absurd hj (Nat.not_lt_zero _), Lib.hid (Below.refl _ _)⟩
    case round =>
      obtain ⟨k, hk, rfl, HA, HB⟩ := hrel
      by_cases hlt : k < len
      · obtain ⟨bb, off, rfl, c0, c1⟩ := (HF.out.keep HB.out).at (show k < F.length by rw [HL.out]; exact hlt)
        obtain ⟨bb2, off2, rfl, d0, d1⟩ := (HG.out.keep HB.out).at (show k < G.length by rw [HL2.out]; exact hlt)
        by_cases hq : F.getD k fld0 = G.getD k fld0
        · have HA2 : Hid (∀ j, j < k + 1 → F.getD j fld0 = G.getD j fld0) := Lib.hid fun j hj => by
            rcases Nat.lt_or_ge j k with h | h
            · exact HA.out j h
            · obtain rfl : j = k := by omega
              exact hq
          generalize F.getD k fld0 = f at *
          generalize G.getD k fld0 = g at *
          go_wp2
          go_quiet (fail)
          go_wp2
          go_roundg (len - (k + 1))
          case measure => omega
          case rel => exact ⟨k + 1, by omega, by go_num, HA2, Lib.hid (HB.out.trans ⟨rfl, rfl, rfl, Nat.le_refl _, fun _ _ => rfl⟩)⟩
        · have hne : decide (F = G) = false := by
            rw [decide_eq_false_iff_not]
            intro e
            exact hq (by rw [e])
          have HN := Lib.hid hne; clear hne
          generalize F.getD k fld0 = f at *
          generalize G.getD k fld0 = g at *
          have hq2 : (f.1 == g.1) = false ∨ (f.1 = g.1 ∧ ((bs f.2).toList == (bs g.2).toList) = false) := by
            by_cases h1 : f.1 = g.1
            · refine .inr ⟨h1, ?_⟩
              rw [sumT_ne, decide_eq_false_iff_not]
              intro h2
              exact hq (Prod.ext h1 h2)
            · exact .inl (by rw [beq_eq_false_iff_ne]; exact h1)
          clear hq
          rcases hq2 with q1 | ⟨q1, q2⟩
          · go_wp2
            go_quiet (fail)
            go_wp2
            go_ret
            exact ⟨by rw [HN.out] <;> rfl, HB.out.trans ⟨rfl, rfl, rfl, Nat.le_refl _, fun _ _ => rfl⟩⟩
          · go_wp2
            go_quiet (fail)
            go_wp2
            go_ret
            exact ⟨by rw [HN.out] <;> rfl, HB.out.trans ⟨rfl, rfl, rfl, Nat.le_refl _, fun _ _ => rfl⟩⟩
      · have hkl : k = len := by omega
        have hE : decide (F = G) = true := by
          rw [decide_eq_true_eq]
          refine List.ext_getElem (by rw [HL.out, HL2.out]) fun j h1 h2 => ?_
          have := HA.out j (by rw [HL.out] at h1; omega)
          simpa [List.getD, h1, h2] using this
        have HE := Lib.hid hE; clear hE
        go_wp2
        go_ret
        exact ⟨by rw [HE.out] <;> rfl, HB.out⟩
  · have hne : decide (F = G) = false := by
      rw [decide_eq_false_iff_not]
      intro e
      apply he
      rw [← HL.out, ← HL2.out, e]
    have hm2 := HG.out.1
    rw [HL2.out] at hm2
    have d1 : ((len : Int) != (len2 : Int)) = true := by rw [bne_iff_ne]; omega
    rw [hne]
    clear hne
    go_enter Tryd.func18, Tryd.ntmps18
    go_wp2
    go_ret
    exact ⟨rfl, Below.refl _ _⟩
end Go.Proofs.YtjgkjmegpinelaaDoor.Tg

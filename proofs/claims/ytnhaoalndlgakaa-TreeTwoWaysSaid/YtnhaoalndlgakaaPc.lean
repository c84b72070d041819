/-
  Layer 10: the program's Check and found.
-/
import Derived.Test.YtnhaoalndlgakaaPb
import Derived.Deep.LoopGhost
namespace Go.Proofs.Ytnhaoalndlgakaa.Tr
open Go.RowKit
set_option linter.unusedVariables false
set_option linter.unusedSimpArgs false

/-- The depths of the first k accounts. -/
def Deps (z : List Int) (k : Nat) (cs : Array Value) : Prop := cs.size = 16 ∧ ∀ j, j < k → cs[j]? = some (.int .i64 ((pth z j).length : Int))
theorem Deps.next {z : List Int} {k : Nat} {cs : Array Value} (h : Deps z k cs) (hk : k < 16) : Deps z (k + 1) (cs.setIfInBounds k (.int .i64 ((pth z k).length : Int))) := by
  refine ⟨by simpa using h.1, fun j hj => ?_⟩
  rw [Array.getElem?_setIfInBounds]
  by_cases e : k = j
  · subst e
    rw [if_pos rfl, if_pos (by rw [h.1]; exact hk)]
  · rw [if_neg e]
    exact h.2 j (by omega)
theorem Deps.at {z : List Int} {k : Nat} {cs : Array Value} {W : World} {D : Nat} {T : TypeId} (h : Deps z k cs) (hb : Blk W D cs T) {j : Nat} (hj : j < 16) : ∃ v, W.cell? ⟨D, j, none⟩ = some v :=
  ⟨_, (hb.cell j).trans (Array.getElem?_eq_getElem (show j < cs.size by rw [h.1]; exact hj))⟩
theorem okB_root {z : List Int} {k : Nat} (h : par z k = -1) : okB z k = true := ok_iff.2 (.inl h)
theorem okB_yes {z : List Int} {k q : Nat} (h : par z k = (q : Int)) (h2 : 2 ≤ q) (hq : q < k) (hd : (pth z q).length < 4) : okB z k = true := ok_iff.2 (.inr ⟨by omega, by omega, by rw [h]; exact hd⟩)
theorem okB_no {z : List Int} {k : Nat} (h : par z k ≠ -1) (h2 : 2 ≤ par z k → par z k < (k : Int) → 4 ≤ (pth z (par z k).toNat).length) : okB z k ≠ true := fun h3 => by
  rcases ok_iff.1 h3 with e | ⟨e1, e2, e3⟩
  · exact h e
  · have := h2 e1 e2; omega
theorem good_next {z : List Int} {k : Nat} (h : Good z k) (hk : okB z k = true) : Good z (k + 1) := fun v hv => by
  by_cases e : v = k
  · rw [e]; exact hk
  · exact h v (by omega)
set_option maxRecDepth 100000 in
set_option maxHeartbeats 2000000 in
theorem check_any (a : Option Addr) (len cap : Nat) (z : List Int) (w : World) (h : HasZ w a z) (hl : z.length = len) :
    Calls Try.prog 8 #[.slice a len cap] w fun e w' => e = .returned (.tuple #[.int .i64 (checkS z).1, .int .i64 (checkS z).2]) ∧ Below w.heap.size w w' := by
  have hm := h.2.1
  rw [hl] at hm
  have H := Lib.hid h; have HL := Lib.hid hl
  clear h hl
  by_cases h1 : len < 2
  · have HC := Lib.hid (check_few (z := z) (by rw [HL.out]; exact h1))
    go_enter Try.func8, Try.ntmps8
    go_wp2
    go_ret2
    exact ⟨by rw [HC.out] <;> rfl, Below.refl _ _⟩
  by_cases h2 : 16 < len
  · have HC := Lib.hid (check_room (z := z) (by rw [HL.out]; exact h2))
    go_enter Try.func8, Try.ntmps8
    go_wp2
    go_ret2
    exact ⟨by rw [HC.out] <;> rfl, Below.refl _ _⟩
  have HC := Lib.hid (check_scan (z := z) (by rw [HL.out]; exact h1) (by rw [HL.out]; exact h2))
  go_enter Try.func8, Try.ntmps8
  go_wp2
  go_loopg [15] len (fun m i wr => ∃ (k : Nat) (cs : Array Value), k + m = len ∧ i = .int .i64 (k : Int) ∧ Hid (checkS z = scan z (z.length - k)) ∧ Hid (Good z k) ∧ Hid (Blk wr w.heap.size cs 40) ∧ Hid (Below w.heap.size w wr) ∧ Hid (Deps z k cs))
  case atStart => exact ⟨0, _, by omega, rfl, Lib.hid HC.out, Lib.hid (fun v hv => absurd hv (Nat.not_lt_zero _)), Lib.hid (Blk.new w _ _), Lib.hid (one_alloc _ _), Lib.hid ⟨by simp, fun j hj => absurd hj (Nat.not_lt_zero _)⟩⟩
  case round =>
    obtain ⟨k, cs, hk, rfl, HS, HG, HB, HW, HD⟩ := hrel
    by_cases hlt : k < len
    · obtain ⟨b, off, rfl, c0⟩ := (H.out.keep HW.out).at (show k < z.length by rw [HL.out]; exact hlt)
      have hkz : k < z.length := by rw [HL.out]; exact hlt
      have fk := HB.out.free
      by_cases hr : par z k = -1
      · have HD2 : Hid (Deps z (k + 1) (cs.setIfInBounds k (.int .i64 1))) := Lib.hid (by have := HD.out.next (show k < 16 by omega); rw [pth_root hr] at this; exact this)
        have HS2 : Hid (checkS z = scan z (z.length - (k + 1))) := Lib.hid (HS.out.trans (scan_ok hkz (okB_root hr)))
        have HG2 := Lib.hid (good_next HG.out (okB_root hr))
        rw [hr] at c0
        clear hr hkz
        have fk0 := fk k
        obtain ⟨old, dk⟩ := HD.out.at HB.out (show k < 16 by omega)
        go_wp2
        go_roundg (len - (k + 1))
        case measure => omega
        case rel => exact ⟨k + 1, _, by omega, by go_num, HS2, HG2, Lib.hid (HB.out.set k _), Lib.hid (HW.out.setCell (p := ⟨w.heap.size, k, none⟩) (Nat.le_refl _) _), HD2⟩
      · obtain ⟨x, hx⟩ : ∃ x, par z k = x := ⟨_, rfl⟩
        have hno : (2 ≤ x → x < (k : Int) → 4 ≤ (pth z x.toNat).length) → Hid (checkS z = ((k : Int), 33)) := fun h2 => Lib.hid (HS.out.trans (scan_no hkz (okB_no hr (by rw [hx]; exact h2))))
        rw [hx] at c0 hr
        have b0 : (x == -1) = false := beq_eq_false_iff_ne.2 hr
        by_cases g1 : 2 ≤ x
        · obtain ⟨q, rfl⟩ : ∃ q : Nat, x = (q : Int) := ⟨x.toNat, by omega⟩
          have g2 : 2 ≤ q := by omega
          by_cases g3 : q < k
          · have dq := (HB.out.cell q).trans (HD.out.2 q g3)
            by_cases g4 : (pth z q).length < 4
            · have hok := okB_yes hx g2 g3 g4
              have hpk : (pth z k).length = (pth z q).length + 1 := by
                rw [pth_step (good_next HG.out hok).dn (by rw [hx]; exact hr), hx]
                simp
              have HD2 := Lib.hid (HD.out.next (show k < 16 by omega))
              rw [hpk] at HD2
              have HS2 : Hid (checkS z = scan z (z.length - (k + 1))) := Lib.hid (HS.out.trans (scan_ok hkz hok))
              have HG2 := Lib.hid (good_next HG.out hok)
              obtain ⟨old, dk⟩ := HD.out.at HB.out (show k < 16 by omega)
              have fk0 := fk k
              obtain ⟨d, hd⟩ : ∃ d, (pth z q).length = d := ⟨_, rfl⟩
              rw [hd] at dq g4 HD2
              have HX := Lib.hid hx
              clear hr hkz hx hno hok hpk hd
              go_wp2
              go_roundg (len - (k + 1))
              case measure => omega
              case rel => exact ⟨k + 1, _, by omega, by go_num, HS2, HG2, Lib.hid (HB.out.set k _), Lib.hid (HW.out.setCell (p := ⟨w.heap.size, k, none⟩) (Nat.le_refl _) _), by simpa using HD2⟩
            · have HE := hno (fun _ _ => by rw [Int.toNat_natCast]; omega)
              obtain ⟨d, hd⟩ : ∃ d, (pth z q).length = d := ⟨_, rfl⟩
              rw [hd] at dq g4
              clear hr hkz hx hno hd
              go_wp2
              go_ret2
              exact ⟨by rw [HE.out] <;> rfl, HW.out⟩
          · have HE := hno (fun _ h => by omega)
            clear hr hkz hx hno
            go_wp2
            go_ret2
            exact ⟨by rw [HE.out] <;> rfl, HW.out⟩
        · have HE := hno (fun h => absurd h g1)
          clear hr hkz hx hno
          go_wp2
          go_ret2
          exact ⟨by rw [HE.out] <;> rfl, HW.out⟩
    · have HE : Hid (checkS z = (0, 0)) := Lib.hid (HS.out.trans (scan_end (by rw [HL.out]; omega)))
      go_wp2
      go_ret2
      exact ⟨by rw [HE.out] <;> rfl, HW.out⟩
end Go.Proofs.Ytnhaoalndlgakaa.Tr

/-
  Layer 4: what the small functions of package disk return, at a disk in whatever state.
-/
import Derived.Test.YtdonkmkjblofpaaGreatDoorKb
import Derived.IntWalk
import Derived.WalkSmall
namespace Go.Proofs.YtdonkmkjblofpaaGreatDoor.Dk
open Go.RowKit
set_option linter.unusedVariables false

theorem bad_size (s : ByteArray) : badName s.data.toList = (decide (s.size < 1) || decide (16 < s.size)) := by
  unfold badName
  rw [show s.data.toList.length = s.size from (Array.length_toList : s.data.toList.length = s.data.size)]
theorem notName_any (s : ByteArray) (w : World) (hs : s.size ≤ maxLen) :
    Calls Tryz.prog 85 #[.string s] w fun e w' => e = .returned (.bool (badName s.data.toList)) ∧ w = w' := by
  rw [bad_size]
  unfold maxLen at hs
  by_cases h1 : s.size < 1
  · have t1 : decide ((s.size : Int) < 1) = true := by simp; omega
    have e : (decide (s.size < 1) || decide (16 < s.size)) = true := by simp [h1]
    rw [e]
    clear e
    go_enter Tryz.func85, Tryz.ntmps85
    go_wp2
    go_ret
    exact ⟨rfl, rfl⟩
  · have t1 : decide ((s.size : Int) < 1) = false := by simp; omega
    have e : (decide (s.size < 1) || decide (16 < s.size)) = decide (16 < (s.size : Int)) := by simp [h1]; omega
    rw [e]
    clear e h1
    go_enter Tryz.func85, Tryz.ntmps85
    go_wp2
    go_ret
    exact ⟨by simp, rfl⟩

section
variable {w : World} {O : Nat → Prop} {d m : Nat} {G : List UInt8 → Nat} {V : List UInt8 → Value} {S : St}

theorem ready_any (h : Rep w O d m G V S) (s : ByteArray) (hs : s.size ≤ maxLen) :
    Calls Tryz.prog 54 #[.pointer (some ⟨d, 0, none⟩), .string s] w fun e w' => e = .returned (.int .i64 (ready s.data.toList S)) ∧ w = w' := by
  obtain ⟨_, _, c2, _⟩ := h.cells
  clear h
  have cn := fun w => notName_any s w hs
  unfold ready
  generalize S.down = dn at *
  generalize badName s.data.toList = bn at *
  have CN := Lib.hid cn; clear cn
  cases bn
  · cases dn
    all_goals
      go_enter Tryz.func54, Tryz.ntmps54
      go_wp2_with (go_at_call 85; (with_reducible refine (CN.out _).mono ?_); rintro e w' ⟨rfl, rfl⟩)
      go_ret
      exact ⟨rfl, rfl⟩
  · go_enter Tryz.func54, Tryz.ntmps54
    go_wp2_with (go_at_call 85; (with_reducible refine (CN.out _).mono ?_); rintro e w' ⟨rfl, rfl⟩)
    go_ret
    exact ⟨rfl, rfl⟩

theorem find_yes (h : Rep w O d m G V S) (s : ByteArray) (hs : s.size ≤ maxLen) {f : File} (ht : there s.data.toList S = 0) (hf : look s.data.toList S.fs = some f) :
    Calls Tryz.prog 62 #[.pointer (some ⟨d, 0, none⟩), .string s] w fun e w' => e = .returned (.tuple #[.pointer (some ⟨G f.nm, 0, none⟩), .int .i64 0]) ∧ w = w' := by
  have hr : ready s.data.toList S = 0 := by
    unfold there at ht; unfold ready
    repeat (split at ht; · first | exact absurd ht (by decide) | simp_all)
    simp_all
  have cr := ready_any h s hs
  rw [hr] at cr
  have lk := h.find hs hf
  obtain ⟨c0, _⟩ := h.cells
  have CR := Lib.hid cr
  clear h hf ht hr cr hs
  go_enter Tryz.func62, Tryz.ntmps62
  go_wp2_with (go_at_call 54; (with_reducible refine CR.out.mono ?_); rintro e w' ⟨rfl, rfl⟩)
  go_ret2
  exact ⟨rfl, rfl⟩

theorem find_no (h : Rep w O d m G V S) (s : ByteArray) (hs : s.size ≤ maxLen) (ht : there s.data.toList S ≠ 0) :
    Calls Tryz.prog 62 #[.pointer (some ⟨d, 0, none⟩), .string s] w fun e w' => e = .returned (.tuple #[.pointer none, .int .i64 (there s.data.toList S)]) ∧ w = w' := by
  have cr := ready_any h s hs
  obtain ⟨c0, _⟩ := h.cells
  by_cases hr : ready s.data.toList S = 0
  · have hl : look s.data.toList S.fs = none := by
      unfold there at ht; unfold ready at hr
      cases hb : badName s.data.toList
      · cases hd : S.down
        · simp only [hb, hd] at ht
          cases hl : look s.data.toList S.fs
          · rfl
          · simp [hl] at ht
        · simp [hb, hd] at hr
      · simp [hb] at hr
    have e : there s.data.toList S = 21 := by
      unfold there; unfold ready at hr
      cases hb : badName s.data.toList
      · cases hd : S.down
        · simp [hl]
        · simp [hb, hd] at hr
      · simp [hb] at hr
    rw [e]
    rw [hr] at cr
    have lk := h.lacks hs hl
    have CR := Lib.hid cr
    clear h ht hr cr hs hl e
    go_enter Tryz.func62, Tryz.ntmps62
    go_wp2_with (go_at_call 54; (with_reducible refine CR.out.mono ?_); rintro e w' ⟨rfl, rfl⟩)
    go_ret2
    exact ⟨rfl, rfl⟩
  · have e : there s.data.toList S = ready s.data.toList S := by
      unfold there ready at *
      cases hb : badName s.data.toList
      · cases hd : S.down
        · simp [hb, hd] at hr
        · simp
      · simp
    rw [e]
    generalize ready s.data.toList S = r at *
    have CR := Lib.hid cr
    have t1 : (r == 0) = false := by simpa using hr
    have t2 : (r != 0) = true := by simpa using hr
    clear h ht hr cr hs e c0
    go_enter Tryz.func62, Tryz.ntmps62
    go_wp2_with (go_at_call 54; (with_reducible refine CR.out.mono ?_); rintro e w' ⟨rfl, rfl⟩)
    go_ret2
    exact ⟨rfl, rfl⟩

theorem down_any (h : Rep w O d m G V S) : Calls Tryz.prog 63 #[.pointer (some ⟨d, 0, none⟩)] w fun e w' => e = .returned (.bool S.down) ∧ w = w' := by
  obtain ⟨_, _, c2, _⟩ := h.cells
  generalize S.down = dn at *
  clear h
  go_enter Tryz.func63, Tryz.ntmps63
  go_wp2
  go_ret
  exact ⟨rfl, rfl⟩
theorem writes_any (h : Rep w O d m G V S) : Calls Tryz.prog 76 #[.pointer (some ⟨d, 0, none⟩)] w fun e w' => e = .returned (.int .i64 S.wr) ∧ w = w' := by
  obtain ⟨_, _, _, c3, _⟩ := h.cells
  generalize S.wr = n at *
  clear h
  go_enter Tryz.func76, Tryz.ntmps76
  go_wp2
  go_ret
  exact ⟨rfl, rfl⟩
theorem on_any (h : Rep w O d m G V S) : Calls Tryz.prog 38 #[.pointer (some ⟨d, 0, none⟩)] w fun e w' => e = .returned (.tuple #[]) ∧ w' = w.setCell ⟨d, 2, none⟩ (.bool false) := by
  obtain ⟨_, _, c2, _, _, _, fz⟩ := h.cells
  have f2 := fz 2
  clear h fz
  go_enter Tryz.func38, Tryz.ntmps38
  go_wp2
  (first | go_end0 | refine bodyPost_ret (results_none rfl _ _ _) rfl ?_)
  exact ⟨rfl, rfl⟩
theorem room_any (h : Rep w O d m G V S) (n : Int) : Calls Tryz.prog 39 #[.pointer (some ⟨d, 0, none⟩), .int .i64 n] w fun e w' => e = .returned (.tuple #[]) ∧ w' = w.setCell ⟨d, 1, none⟩ (.int .i64 n) := by
  obtain ⟨_, c1, _, _, _, _, fz⟩ := h.cells
  have f1 := fz 1
  clear h fz
  go_enter Tryz.func39, Tryz.ntmps39
  go_wp2
  (first | go_end0 | refine bodyPost_ret (results_none rfl _ _ _) rfl ?_)
  exact ⟨rfl, rfl⟩
theorem arm_any (h : Rep w O d m G V S) (n keep : Int) : Calls Tryz.prog 34 #[.pointer (some ⟨d, 0, none⟩), .int .i64 n, .int .i64 keep] w fun e w' => e = .returned (.tuple #[]) ∧ w' = (w.setCell ⟨d, 4, none⟩ (.int .i64 (max n 0))).setCell ⟨d, 5, none⟩ (.int .i64 keep) := by
  obtain ⟨_, _, _, _, c4, c5, fz⟩ := h.cells
  have f4 := fz 4; have f5 := fz 5
  clear h fz
  go_enter Tryz.func34, Tryz.ntmps34
  go_wp2
  all_goals
    (first | go_end0 | refine bodyPost_ret (results_none rfl _ _ _) rfl ?_)
    first | exact ⟨rfl, by rw [show max n 0 = 0 by omega]⟩ | exact ⟨rfl, by rw [show max n 0 = n by omega]⟩
end
end Go.Proofs.YtdonkmkjblofpaaGreatDoor.Dk

/-
  Layer 4: the law DiskRefuses.
-/
import Derived.Test.YtdonkmkjblofpaaGreatDoorKs
namespace Go.Proofs.YtdonkmkjblofpaaGreatDoor.Dk
open Go.RowKit Fo
set_option linter.unusedVariables false

def contL (S : St) : List (List Int) := if S.down then [] else S.fs.map File.l
theorem nc_len (S : St) : (contL S).length = (namesL S).length := by unfold contL namesL; split <;> simp
/-- What Read answers of the j-th name. -/
theorem nc_read {S : St} (hg : Good S) {j : Nat} (hj : j < (namesL S).length) : there ((namesL S).getD j []) S = 0 ∧ readL ((namesL S).getD j []) S = (contL S).getD j [] ∧ ((namesL S).getD j []).length ≤ 16 := by
  have hu : S.down = false := by
    cases h : S.down
    · rfl
    · simp [namesL, h] at hj
  have hnl : namesL S = S.fs.map File.nm := by simp [namesL, hu]
  have hcl : contL S = S.fs.map File.l := by simp [contL, hu]
  rw [hnl] at hj ⊢
  rw [hcl]
  have hjf : j < S.fs.length := by simpa using hj
  have e1 : (S.fs.map File.nm).getD j [] = S.fs[j].nm := by simp [List.getD, hjf]
  have e2 : (S.fs.map File.l).getD j [] = S.fs[j].l := by simp [List.getD, hjf]
  rw [e1, e2]
  have hmem : S.fs[j] ∈ S.fs := List.getElem_mem hjf
  obtain ⟨t1, t2⟩ := there_mem hg hu hmem
  have hn := hg.name _ hmem
  simp [badName] at hn
  exact ⟨t1, t2, by omega⟩
theorem few_names {S : St} (hg : Good S) : (namesL S).length ≤ 16 := by
  unfold namesL; split
  · simp
  · simpa using hg.few
theorem names_hi {N : Nat} {w : World} {O : Nat → Prop} {d : Nat} {S : St} (h : IsDisk w O d S) (hN : N ≤ w.heap.size) : Calls Tryz.prog 50 #[.pointer (some ⟨d, 0, none⟩)] w fun e w' => ∃ ad cap, e = .returned (.slice ad (namesL S).length cap) ∧ (namesL S).length ≤ cap ∧ cap ≤ 9223372036854775807 ∧ NmOk N w' ad (namesL S) ∧ Below w.heap.size w w' := by
  refine (names_out h).mono fun e w' ⟨ad, cap, h1, h2, h3, h4, h5⟩ => ⟨ad, cap, h1, h2, h3, fun h0 => ?_, h5⟩
  obtain ⟨g, cur, x1, x2, x3, x4⟩ := h4 h0
  exact ⟨g, cur, x1, Nat.le_trans hN x2, x3, x4⟩
/-- The name at j, as a value. -/
def nmV (L : List (List UInt8)) (j : Nat) : ByteArray := ⟨(L.getD j []).toArray⟩
theorem nmV_list (L : List (List UInt8)) (j : Nat) : (nmV L j).data.toList = L.getD j [] := by simp [nmV]
theorem nm_cell {N : Nat} {w : World} {b : Nat} {L : List (List UInt8)} {off : Nat} {ad : Option Addr} (h : NmOk N w ad L) {j : Nat} (hj : j < L.length) : ∃ g, ad = some ⟨g, 0, none⟩ ∧ w.cell? ⟨g, j, none⟩ = some (.string (nmV L j)) := by
  obtain ⟨g, cur, e, _, _, hc⟩ := h (by omega)
  exact ⟨g, e, hc j hj⟩
theorem read_nm {w : World} {O : Nat → Prop} {d : Nat} {S : St} (h : IsDisk w O d S) {j : Nat} (hj : j < (namesL S).length) :
    Calls Tryz.prog 74 #[.pointer (some ⟨d, 0, none⟩), .string (nmV (namesL S) j)] w (RowOut w 0 ((contL S).getD j [])) := by
  obtain ⟨t1, t2, t3⟩ := nc_read h.good hj
  refine (read_disk h (nmV (namesL S) j) (by unfold nmV maxLen; show (((namesL S).getD j []).toArray).size ≤ _; simp only [List.size_toArray]; omega)).mono fun e w' ⟨v, x1, x2, x3⟩ => ?_
  rw [nmV_list] at x1 x2
  rw [t1] at x1
  rw [t2] at x2
  obtain ⟨ad, cap, rfl, y1, y2, y3, _⟩ := Ob.own_row x2
  exact ⟨ad, cap, x1, x2, y1, y2, y3, x3⟩

theorem was_at {N : Nat} {w : World} {C : List (List Int)} {j : Nat} {v : Value} (h : WasOk N w C j v) {ad : Option Addr} {cap : Nat} (hv : v = .slice ad j cap) {i : Nat} (hi : i < j) :
    ∃ g ad' cap', ad = some ⟨g, 0, none⟩ ∧ w.cell? ⟨g, i, none⟩ = some (.slice ad' (C.getD i []).length cap') ∧ Fr.HasRow .u8 w ad' (C.getD i []).length (C.getD i []) := by
  obtain ⟨vs, h1, h2⟩ := h
  obtain ⟨u, e, hu⟩ := h2 i hi
  obtain ⟨ad', cap', rfl, hr, _, _, _⟩ := Ob.own_row hu
  rcases h1.2 with ⟨h0, _⟩ | ⟨g, cap2, cur, hv2, _⟩
  · rw [hv] at h0; simp at h0; omega
  · rw [hv] at hv2
    simp only [Value.slice.injEq] at hv2
    refine ⟨g, ad', cap', hv2.1, ?_, hr⟩
    have := World.ownsRow.cellAt (h := by rw [hv, hv2.1] at h1; exact h1) i (by omega)
    rw [this, e]

theorem nil_arm (w : World) (n k : Int) : Calls Tryz.prog 34 #[.pointer none, .int .i64 n, .int .i64 k] w fun e w' => e = .returned (.tuple #[]) ∧ w = w' := by
  go_enter Tryz.func34, Tryz.ntmps34
  go_wp2
  first | go_end0 | refine bodyPost_ret (results_none rfl _ _ _) rfl ?_
  exact ⟨rfl, rfl⟩
theorem nil_off (w : World) (k : Int) : Calls Tryz.prog 36 #[.pointer none, .int .i64 k] w fun e w' => e = .returned (.tuple #[]) ∧ w = w' := by
  go_enter Tryz.func36, Tryz.ntmps36
  go_wp2
  first | go_end0 | refine bodyPost_ret (results_none rfl _ _ _) rfl ?_
  exact ⟨rfl, rfl⟩
theorem nil_on (w : World)  : Calls Tryz.prog 38 #[.pointer none] w fun e w' => e = .returned (.tuple #[]) ∧ w = w' := by
  go_enter Tryz.func38, Tryz.ntmps38
  go_wp2
  first | go_end0 | refine bodyPost_ret (results_none rfl _ _ _) rfl ?_
  exact ⟨rfl, rfl⟩
theorem nil_room (w : World) (n : Int) : Calls Tryz.prog 39 #[.pointer none, .int .i64 n] w fun e w' => e = .returned (.tuple #[]) ∧ w = w' := by
  go_enter Tryz.func39, Tryz.ntmps39
  go_wp2
  first | go_end0 | refine bodyPost_ret (results_none rfl _ _ _) rfl ?_
  exact ⟨rfl, rfl⟩
theorem nil_down (w : World) : Calls Tryz.prog 63 #[.pointer none] w fun e w' => e = .returned (.bool false) ∧ w = w' := by
  go_enter Tryz.func63, Tryz.ntmps63
  go_wp2
  go_ret
  exact ⟨rfl, rfl⟩
theorem nil_writes (w : World) : Calls Tryz.prog 76 #[.pointer none] w fun e w' => e = .returned (.int .i64 0) ∧ w = w' := by
  go_enter Tryz.func76, Tryz.ntmps76
  go_wp2
  go_ret
  exact ⟨rfl, rfl⟩
theorem nil_names (w : World) : Calls Tryz.prog 50 #[.pointer none] w fun e w' => e = .returned (.slice none 0 0) ∧ w = w' := by
  go_enter Tryz.func50, Tryz.ntmps50
  go_wp2
  go_ret
  exact ⟨rfl, rfl⟩

end Go.Proofs.YtdonkmkjblofpaaGreatDoor.Dk

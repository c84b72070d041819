/-
  Layer 4: the law DiskRefuses.
-/
import Derived.Test.YtjeemgcenmcplaaKs
namespace Go.Proofs.Ytjeemgcenmcplaa.Dk
open Go.RowKit Fo
set_option linter.unusedVariables false

def contL (S : St) : List (List Int) := if S.down then [] else S.fs.map File.l
theorem nc_len (S : St) : (contL S).length = (namesL S).length := by unfold contL namesL; split <;> simp
/-- What Read answers of the j-th name. -/
theorem nc_read {S : St} (hg : Good S) {j : Nat} (hj : j < (namesL S).length) : there ((namesL S).getD j []) S = 0 ∧ readL ((namesL S).getD j []) S = (contL S).getD j [] ∧ ((namesL S).getD j []).length ≤ 16 := by
  have hu : S.down = false := by
    cases h : S.down
    · rfl
    · simp [namesL, h] at hj
  have hnl : namesL S = S.fs.map File.nm := by simp [namesL, hu]
  have hcl : contL S = S.fs.map File.l := by simp [contL, hu]
  rw [hnl] at hj ⊢
  rw [hcl]
  have hjf : j < S.fs.length := by simpa using hj
  have e1 : (S.fs.map File.nm).getD j [] = S.fs[j].nm := by simp [List.getD, hjf]
  have e2 : (S.fs.map File.l).getD j [] = S.fs[j].l := by simp [List.getD, hjf]
  rw [e1, e2]
  have hmem : S.fs[j] ∈ S.fs := List.getElem_mem hjf
  obtain ⟨t1, t2⟩ := there_mem hg hu hmem
  have hn := hg.name _ hmem
  simp [badName] at hn
  exact ⟨t1, t2, by omega⟩
theorem few_names {S : St} (hg : Good S) : (namesL S).length ≤ 16 := by
  unfold namesL; split
  · simp
  · simpa using hg.few
theorem names_hi {N : Nat} {w : World} {O : Nat → Prop} {d : Nat} {S : St} (h : IsDisk w O d S) (hN : N ≤ w.heap.size) : Calls Try.prog 30 #[.pointer (some ⟨d, 0, none⟩)] w fun e w' => ∃ ad cap, e = .returned (.slice ad (namesL S).length cap) ∧ (namesL S).length ≤ cap ∧ cap ≤ 9223372036854775807 ∧ NmOk N w' ad (namesL S) ∧ Below w.heap.size w w' := by
  refine (names_out h).mono fun e w' ⟨ad, cap, h1, h2, h3, h4, h5⟩ => ⟨ad, cap, h1, h2, h3, fun h0 => ?_, h5⟩
  obtain ⟨g, cur, x1, x2, x3, x4⟩ := h4 h0
  exact ⟨g, cur, x1, Nat.le_trans hN x2, x3, x4⟩
/-- The name at j, as a value. -/
def nmV (L : List (List UInt8)) (j : Nat) : ByteArray := ⟨(L.getD j []).toArray⟩
theorem nmV_list (L : List (List UInt8)) (j : Nat) : (nmV L j).data.toList = L.getD j [] := by simp [nmV]
theorem nm_cell {N : Nat} {w : World} {b : Nat} {L : List (List UInt8)} {off : Nat} {ad : Option Addr} (h : NmOk N w ad L) {j : Nat} (hj : j < L.length) : ∃ g, ad = some ⟨g, 0, none⟩ ∧ w.cell? ⟨g, j, none⟩ = some (.string (nmV L j)) := by
  obtain ⟨g, cur, e, _, _, hc⟩ := h (by omega)
  exact ⟨g, e, hc j hj⟩
theorem read_nm {w : World} {O : Nat → Prop} {d : Nat} {S : St} (h : IsDisk w O d S) {j : Nat} (hj : j < (namesL S).length) :
    Calls Try.prog 17 #[.pointer (some ⟨d, 0, none⟩), .string (nmV (namesL S) j)] w (RowOut w 0 ((contL S).getD j [])) := by
  obtain ⟨t1, t2, t3⟩ := nc_read h.good hj
  refine (read_disk h (nmV (namesL S) j) (by unfold nmV maxLen; show (((namesL S).getD j []).toArray).size ≤ _; simp only [List.size_toArray]; omega)).mono fun e w' ⟨v, x1, x2, x3⟩ => ?_
  rw [nmV_list] at x1 x2
  rw [t1] at x1
  rw [t2] at x2
  obtain ⟨ad, cap, rfl, y1, y2, y3, _⟩ := Ob.own_row x2
  exact ⟨ad, cap, x1, x2, y1, y2, y3, x3⟩

/-- A round of the law, from block N on: the disk below N, the script's call at N, the names, what was read. -/
structure Rnd (W w : World) (N : Nat) (O : Nat → Prop) (d : Nat) (S : St) (x : Opv) (ad : Option Addr) (j : Nat) (v : Value) : Prop where
  lone : Lone W w O d S
  low : ∀ i, O i → i < N
  hi : W.heap.size ≤ N
  size : N + 1 ≤ w.heap.size
  box : w.heap[N]? = some (.cells (opCells x) 31 (0, 0))
  nm : NmOk N w ad (namesL S)
  was : WasOk N w (contL S) j v
theorem Rnd.below {W w w' : World} {N : Nat} {O : Nat → Prop} {d : Nat} {S : St} {x : Opv} {ad : Option Addr} {j : Nat} {v : Value} (h : Rnd W w N O d S x ad j v) (hb : Below w.heap.size w w') : Rnd W w' N O d S x ad j v :=
  ⟨h.lone.below hb, h.low, h.hi, Nat.le_trans h.size hb.size, (hb.block N (lt_of_heap h.box)).trans h.box, h.nm.keep (KeepHi.of_below hb), h.was.keep (KeepHi.of_below hb)⟩
theorem Rnd.grow {W w w' : World} {N : Nat} {O : Nat → Prop} {d : Nat} {S : St} {x : Opv} {ad : Option Addr} {j j' : Nat} {v v' : Value} (h : Rnd W w N O d S x ad j v) (hw : WasOk N w' (contL S) j' v') (hg : w.grownBy w' v.ownBlock) (hk : ∀ g, v.ownBlock = some g → N ≤ g ∧ ∃ cur, w.heap[g]? = some (.cells cur 29 (0, 0))) : Rnd W w' N O d S x ad j' v' := by
  obtain ⟨m, G, V, hd⟩ := h.lone.disk
  have hO : ∀ i, O i → w'.heap[i]? = w.heap[i]? := fun i hi => hg.block i (hd.dom i hi) fun e => by have := (hk i e.symm).1; have := h.low i hi; omega
  refine ⟨⟨⟨m, G, V, hd.same hg.size hO⟩, h.lone.high, h.lone.frame.trans (Turned.below (O := fun b => v.ownBlock = some b) (Turned.of_grown hg fun b e => e) fun k hk' => ⟨Nat.lt_of_lt_of_le hk' h.lone.frame.size, fun e => by have := (hk k e).1; have := h.hi; omega⟩)⟩, h.low, h.hi, Nat.le_trans h.size hg.size, ?_, ?_, hw⟩
  · rw [hg.block N (lt_of_heap h.box) fun e => ?_]
    · exact h.box
    · obtain ⟨_, cur, hc⟩ := hk N e.symm
      rw [h.box] at hc; simp at hc
  · refine h.nm.move fun g cur h1 h2 => hg.block g (lt_of_heap h2) fun e => ?_
    obtain ⟨_, cur', hc⟩ := hk g e.symm
    rw [h2] at hc; simp at hc
theorem Rnd.step {W w w' : World} {N : Nat} {O O' : Nat → Prop} {d : Nat} {S S' : St} {x : Opv} {ad : Option Addr} {j : Nat} {v : Value} (h : Rnd W w N O d S x ad j v) (hs : Step w O w' O') (hd : IsDisk w' O' d S') :
    Lone W w' O' d S' ∧ NmOk N w' ad (namesL S) ∧ WasOk N w' (contL S) j v :=
  ⟨h.lone.step hs hd, h.nm.keep (KeepHi.of_step hs h.low), h.was.keep (KeepHi.of_step hs h.low)⟩
theorem was_at {N : Nat} {w : World} {C : List (List Int)} {j : Nat} {v : Value} (h : WasOk N w C j v) {ad : Option Addr} {cap : Nat} (hv : v = .slice ad j cap) {i : Nat} (hi : i < j) :
    ∃ g ad' cap', ad = some ⟨g, 0, none⟩ ∧ w.cell? ⟨g, i, none⟩ = some (.slice ad' (C.getD i []).length cap') ∧ Fr.HasRow .u8 w ad' (C.getD i []).length (C.getD i []) := by
  obtain ⟨vs, h1, h2⟩ := h
  obtain ⟨u, e, hu⟩ := h2 i hi
  obtain ⟨ad', cap', rfl, hr, _, _, _⟩ := Ob.own_row hu
  rcases h1.2 with ⟨h0, _⟩ | ⟨g, cap2, cur, hv2, _⟩
  · rw [hv] at h0; simp at h0; omega
  · rw [hv] at hv2
    simp only [Value.slice.injEq] at hv2
    refine ⟨g, ad', cap', hv2.1, ?_, hr⟩
    have := World.ownsRow.cellAt (h := by rw [hv, hv2.1] at h1; exact h1) i (by omega)
    rw [this, e]

theorem nil_arm (w : World) (n k : Int) : Calls Try.prog 21 #[.pointer none, .int .i64 n, .int .i64 k] w fun e w' => e = .returned (.tuple #[]) ∧ w = w' := by
  go_enter Try.func21, Try.ntmps21
  go_wp2
  first | go_end0 | refine bodyPost_ret (results_none rfl _ _ _) rfl ?_
  exact ⟨rfl, rfl⟩
theorem nil_off (w : World) (k : Int) : Calls Try.prog 15 #[.pointer none, .int .i64 k] w fun e w' => e = .returned (.tuple #[]) ∧ w = w' := by
  go_enter Try.func15, Try.ntmps15
  go_wp2
  first | go_end0 | refine bodyPost_ret (results_none rfl _ _ _) rfl ?_
  exact ⟨rfl, rfl⟩
theorem nil_on (w : World)  : Calls Try.prog 16 #[.pointer none] w fun e w' => e = .returned (.tuple #[]) ∧ w = w' := by
  go_enter Try.func16, Try.ntmps16
  go_wp2
  first | go_end0 | refine bodyPost_ret (results_none rfl _ _ _) rfl ?_
  exact ⟨rfl, rfl⟩
theorem nil_room (w : World) (n : Int) : Calls Try.prog 20 #[.pointer none, .int .i64 n] w fun e w' => e = .returned (.tuple #[]) ∧ w = w' := by
  go_enter Try.func20, Try.ntmps20
  go_wp2
  first | go_end0 | refine bodyPost_ret (results_none rfl _ _ _) rfl ?_
  exact ⟨rfl, rfl⟩
theorem nil_down (w : World) : Calls Try.prog 32 #[.pointer none] w fun e w' => e = .returned (.bool false) ∧ w = w' := by
  go_enter Try.func32, Try.ntmps32
  go_wp2
  go_ret
  exact ⟨rfl, rfl⟩
theorem nil_writes (w : World) : Calls Try.prog 33 #[.pointer none] w fun e w' => e = .returned (.int .i64 0) ∧ w = w' := by
  go_enter Try.func33, Try.ntmps33
  go_wp2
  go_ret
  exact ⟨rfl, rfl⟩
theorem nil_names (w : World) : Calls Try.prog 30 #[.pointer none] w fun e w' => e = .returned (.slice none 0 0) ∧ w = w' := by
  go_enter Try.func30, Try.ntmps30
  go_wp2
  go_ret
  exact ⟨rfl, rfl⟩

end Go.Proofs.Ytjeemgcenmcplaa.Dk

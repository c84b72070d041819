/-
  Layer 5: the law on losses, its mathematics.
-/
import Derived.Test.YtdonkmkjblofpaaDoorVh
import Derived.Deep.CutBlock
import Derived.Deep.CutRange
import Derived.Deep.DeepCutAuto
namespace Go.Proofs.YtdonkmkjblofpaaDoor.Wl
open Go.RowKit Go.Sort Dx Sx Dk Fo
set_option linter.unusedVariables false
set_option linter.unusedSimpArgs false
def recsK (R : Nat → Rw) (k : Nat) : List (List Int) := (List.range k).map (recOf R)
theorem recsK_succ (R : Nat → Rw) (k : Nat) : recsK R (k + 1) = recsK R k ++ [recOf R k] := by simp [recsK, List.range_succ]
theorem recsK_len (R : Nat → Rw) (k : Nat) : (recsK R k).length = k := by simp [recsK]
theorem recsK_size (R : Nat → Rw) : ∀ {k n : Nat}, k ≤ n → sizeR (recsK R k) ≤ sizeR (recsK R n)
  | k, 0, h => by obtain rfl : k = 0 := by omega
                  exact Nat.le_refl _
  | k, n + 1, h => by
    rcases Nat.lt_or_eq_of_le h with h1 | rfl
    · have := recsK_size R (k := k) (n := n) (by omega)
      rw [recsK_succ, sizeR_append]; omega
    · exact Nat.le_refl _
theorem few_q {per : Int} {D : List (List (List Int))} {c : List (List Int)} {S : St} {n k : Nat} {B q : Int} (h : Jn per D c S) (hper : 1 ≤ per) (hn : (D.flatten ++ c).length = n) (hk : n < k) (hlim : per < B → (k : Int) ≤ q * per) (hB : (k : Int) < B) (hq : q ≤ 16) : (nxD per D c).length < 16 := by
  have hx := (nx_len h).2
  rw [hn] at hx
  rcases Int.lt_or_le per B with h1 | h1
  · have h3 := hlim h1
    rcases Nat.lt_or_ge (nxD per D c).length 16 with h2 | h2
    · exact h2
    · exfalso
      have h4 : (16 : Int) * per ≤ ((nxD per D c).length : Int) * per := Int.mul_le_mul_of_nonneg_right (by omega) (by omega)
      have h5 : q * per ≤ 16 * per := Int.mul_le_mul_of_nonneg_right hq (by omega)
      omega
  · rcases Nat.eq_zero_or_pos (nxD per D c).length with h2 | h2
    · omega
    · exfalso
      have : (1 : Int) * per ≤ ((nxD per D c).length : Int) * per := Int.mul_le_mul_of_nonneg_right (by omega) (by omega)
      omega
theorem ok_arm {W w : World} {d : Nat} {S : St} (h : Ok W w d S) (n keep : Int) (hn : n ≤ 9223372036854775807) : Calls Tryd.prog 11 #[.pointer (some ⟨d, 0, none⟩), .int .i64 n, .int .i64 keep] w fun e w' => e = .returned (.tuple #[]) ∧ Ok W w' d (armS n keep S) := by
  obtain ⟨O, h1, h2, h3⟩ := h
  refine (arm_disk h1 n keep hn).mono ?_
  rintro e w' ⟨rfl, hs⟩
  exact ⟨rfl, Ok.step h1 h2 h3 hs⟩
theorem ok_down {W w : World} {d : Nat} {S : St} (h : Ok W w d S) : Calls Tryd.prog 14 #[.pointer (some ⟨d, 0, none⟩)] w fun e w' => e = .returned (.bool S.down) ∧ w = w' := by
  obtain ⟨O, h1, h2, h3⟩ := h
  exact down_disk h1
/-- The law's argument, in a box. -/
structure Bx (w : World) (B : Nat) (a : Option Addr) (len cap : Nat) (x1 x2 x3 x4 x5 : Int) : Prop where
  c0 : w.cell? ⟨B, 0, none⟩ = some (.slice a len cap)
  c1 : w.cell? ⟨B, 1, none⟩ = some (.int .i64 x1)
  c2 : w.cell? ⟨B, 2, none⟩ = some (.int .i64 x2)
  c3 : w.cell? ⟨B, 3, none⟩ = some (.int .i64 x3)
  c4 : w.cell? ⟨B, 4, none⟩ = some (.int .i64 x4)
  c5 : w.cell? ⟨B, 5, none⟩ = some (.int .i64 x5)
theorem Bx.keep {w w' : World} {B : Nat} {a : Option Addr} {len cap : Nat} {x1 x2 x3 x4 x5 : Int} (h : Bx w B a len cap x1 x2 x3 x4 x5) (hb : Below w.heap.size w w') : Bx w' B a len cap x1 x2 x3 x4 x5 :=
  ⟨(hb.cell (Fr.lt_of_cell h.c0)).trans h.c0, (hb.cell (Fr.lt_of_cell h.c1)).trans h.c1, (hb.cell (Fr.lt_of_cell h.c2)).trans h.c2, (hb.cell (Fr.lt_of_cell h.c3)).trans h.c3, (hb.cell (Fr.lt_of_cell h.c4)).trans h.c4, (hb.cell (Fr.lt_of_cell h.c5)).trans h.c5⟩
/-- What the power leaves of the records: m of them, where k were answered. -/
def Left (R : Nat → Rw) (len k m : Nat) (C : List (List (List Int))) (t : List Int) (S : St) : Prop := S.fs = jfs 1 C t ∧ one t = none ∧ Bytes t ∧ (∀ c ∈ C, Rok c) ∧ C.flatten = recsK R m ∧ k ≤ m ∧ m ≤ k + 1 ∧ m ≤ len
theorem Left.rows {R : Nat → Rw} {len k m : Nat} {C : List (List (List Int))} {t : List Int} {S : St} (h : Left R len k m C t S) : C.flatten.length = m := by rw [h.2.2.2.2.1, recsK_len]
theorem left_jn {per keep : Int} {R : Nat → Rw} {len k : Nat} {D : List (List (List Int))} {c : List (List Int)} {S : St} (h : Jn per D c S) (hc : D.flatten ++ c = recsK R k) (hk : k ≤ len) : Left R len k k (Cs D c) [] { off keep S with down := false } := by
  obtain ⟨h1, h2, h3⟩ := h.cs
  refine ⟨?_, one_nil, bytes_nil, h3, h2.trans hc, Nat.le_refl _, by omega, hk⟩
  show (off keep S).fs = _
  rw [off_fs keep (by rw [h1]; exact jfs_safe _ _ _), h1]
theorem left_torn {per keep : Int} {R : Nat → Rw} {len k : Nat} {D : List (List (List Int))} {c : List (List Int)} {S0 S : St} (h : Jn per D c S0) (hc : D.flatten ++ c = recsK R k) (hk : k < len) (hr : (recOf R k).length ≤ 65536 ∧ Bytes (recOf R k)) (ht : Torn (nxD per D c) (nxc per c) (recOf R k) S) : ∃ m C t, Left R len k m C t { off keep S with down := false } := by
  obtain ⟨h1, h2⟩ := ht
  have hfs : ({ off keep S with down := false } : St).fs = S.fs := by
    show (off keep S).fs = S.fs
    unfold off; rw [if_pos h1]
  have hfl := nx_flat per D c
  have hok : ∀ x, x ∈ nxD per D c ++ [nxc per c] → Rok x := fun x hx y hy => by
    refine h.ok y ?_
    rw [← hfl]
    rcases List.mem_append.1 hx with hx | hx
    · exact List.mem_append_left _ (List.mem_flatten.2 ⟨x, hx, hy⟩)
    · rw [List.mem_singleton] at hx; subst hx; exact List.mem_append_right _ hy
  rcases h2 with ⟨t, t1, t2, t3⟩ | t3
  · refine ⟨k, nxD per D c ++ [nxc per c], t, hfs.trans t3, t1, t2, hok, ?_, Nat.le_refl _, by omega, by omega⟩
    rw [List.flatten_append]; simp [hfl, hc]
  · refine ⟨k + 1, nxD per D c ++ [nxc per c ++ [recOf R k]], [], hfs.trans t3, one_nil, bytes_nil, fun x hx => ?_, ?_, by omega, Nat.le_refl _, by omega⟩
    · rcases List.mem_append.1 hx with hx | hx
      · exact hok x (List.mem_append_left _ hx)
      · rw [List.mem_singleton] at hx; subst hx
        intro y hy
        rcases List.mem_append.1 hy with hy | hy
        · exact hok (nxc per c) (by simp) y hy
        · rw [List.mem_singleton] at hy; subst hy; exact hr
    · rw [List.flatten_append, recsK_succ, ← hc, ← hfl]; simp
/-- One record more, or the power is gone. -/
def LossA (W : World) (d g : Nat) (per keep : Int) (R : Nat → Rw) (len j : Nat) (e : Ending) (w' : World) : Prop :=
  (e = .returned (.tuple #[.int .i64 ((j : Int) + 1), .int .i64 0]) ∧ ∃ D' c' S', JW W w' d g per D' c' S' ∧ D'.flatten ++ c' = recsK R (j + 1) ∧ S'.room = 1048576) ∨
  (e = .returned (.tuple #[.int .i64 0, .int .i64 20]) ∧ ∃ S', Ok W w' d S' ∧ S'.down = true ∧ ∃ m C t, Left R len j m C t { off keep S' with down := false })
theorem loss_append {W w : World} {d g : Nat} {per keep : Int} {D : List (List (List Int))} {c : List (List Int)} {S : St} {R : Nat → Rw} {len j : Nat} {a : Option Addr} (h : JW W w d g per D c S) (ht : Tabs W) (hper : 1 ≤ per) (rows : HasRows W a len R) (hby : ∀ i, i < len → Bytes (R i).zs) (hle : ∀ i, i < len → (R i).len ≤ 65536) (hs : sizeR (recsK R len) ≤ 262144) (hlim : per < 1048576 → (len : Int) ≤ 15 * per) (hn : len ≤ 1024) (hc : D.flatten ++ c = recsK R j) (hj : j < len) (hr : S.room = 1048576) :
    Calls Tryd.prog 13 #[.pointer (some ⟨g, 0, none⟩), .slice (R j).a (R j).len (R j).cap] w (LossA W d g per keep R len j) := by
  obtain ⟨O, _, hj0, hbw, _⟩ := id h
  have hok := (rows.keep hbw).2.2 j hj
  have hlen := hle j hj
  have hsz := recsK_size R (k := j) (n := len) (by omega)
  have hzl : (recOf R j).length = (R j).len := rec_len hok
  have hcl : (D.flatten ++ c).length = j := by rw [hc, recsK_len]
  have hzs : (R j).zs.take (R j).len = recOf R j := rfl
  have A := jw_append h ht hper (R j).a (R j).len (R j).cap (R j).zs (hby j hj) hok.row hok.nil hlen (by omega) (by rw [hc]; omega) (few_q (q := 15) (B := 1048576) hj0 hper hcl hj hlim (by omega) (by omega))
  refine A.mono ?_
  rintro e w' ⟨_, h2⟩
  rw [hzs] at h2
  obtain ⟨x, S', e1, e2, e3⟩ := h2 (by rw [hc, hzl, hr]; omega)
  by_cases hx : x = 0
  · obtain ⟨k1, k2⟩ := e2 hx
    have hnext : 1 + tot D + c.length = j + 1 := by
      rw [List.length_append, ← tot_flat] at hcl; omega
    refine .inl ⟨by rw [k1, hnext]; rfl, _, _, S', k2, ?_, e1.2.2.trans hr⟩
    rw [← List.append_assoc, nx_flat, hc, recsK_succ]
  · obtain ⟨k1, k2, k3⟩ := e3 hx
    exact .inr ⟨k1, S', k3, k2.1, left_torn hj0 hc hj ⟨by omega, bytes_take (hby j hj) _⟩ k2⟩
/-- The opening behind a loss. -/
def LossO (W w1 : World) (d : Nat) (C : List (List (List Int))) (t : List Int) (S : St) (e : Ending) (w' : World) : Prop := ∃ (x : Int) (S' : St) (t' : List Int) (p ra : Option Addr) (rl rc : Nat) (f : Int), e = .returned (.tuple #[.pointer p, .slice ra rl rc, .int .i64 f, .int .i64 x]) ∧ (x = 0 ∨ x = 20 ∧ S'.down = true) ∧ S'.fs = jfs 1 C t' ∧ one t' = none ∧ Bytes t' ∧ Ok W w' d S' ∧ (S.arm = 0 → x = 0) ∧ (x = 0 → f = 1 ∧ rl = C.flatten.length ∧ RowsV w' ra rl C.flatten)
theorem loss_open {W w1 : World} {d : Nat} {C : List (List (List Int))} {t : List Int} {S : St} (h : Ok W w1 d S) (ht : Tabs W) (hfs : S.fs = jfs 1 C t) (hup : S.down = false) (hR : ∀ c ∈ C, Rok c) (hb : Bytes t) (ho : one t = none) (hn : C.flatten.length ≤ 1024) (per : Int) (hper : 1 ≤ per) :
    Calls Tryd.prog 12 #[.pointer (some ⟨d, 0, none⟩), .int .i64 per] w1 (LossO W w1 d C t S) := by
  refine (jw_open h ht hfs hup hR hb ho (Nat.le_refl _) (by rw [tot_flat]; omega) per hper).mono ?_
  rintro e w' ⟨x, S', e1, ⟨t', k1, k2⟩, hok, e3, e4⟩
  have ht' : one t' = none ∧ Bytes t' := by rcases k1 with rfl | rfl; exact ⟨ho, hb⟩; exact ⟨one_nil, bytes_nil⟩
  have hx : x = 0 ∨ x = 20 ∧ S'.down = true := by
    rcases e1.1 with h | h
    · exact .inl h.1
    · exact .inr ⟨h.1, h.2.1⟩
  have harm : S.arm = 0 → x = 0 := fun ha => by
    rcases e1.1 with h | h
    · exact h.1
    · exact absurd ha h.2.2
  by_cases h0 : x = 0
  · obtain ⟨g, ad, cap, rfl, was⟩ := e3 h0
    refine ⟨x, S', t', some ⟨g, 0, none⟩, ad, C.flatten.length, cap, 1, ?_, hx, k2, ht'.1, ht'.2, hok, harm, fun _ => ⟨rfl, rfl, rows_was was⟩⟩
    rw [ite_self, h0]; rfl
  · have := e4 h0
    rcases hx with hx | hx
    · exact absurd hx h0
    exact ⟨x, S', t', none, none, 0, 0, 0, by rw [this, hx.1], .inr hx, k2, ht'.1, ht'.2, hok, harm, fun h => absurd h h0⟩
theorem rowsV_has {w : World} {a : Option Addr} {len m : Nat} {R : Nat → Rw} (h : HasRows w a len R) (hm : m ≤ len) : RowsV w a m (recsK R m) := fun i hi => by
  obtain ⟨b, off, rfl, hc⟩ := h.2.1 (by omega)
  have hr := h.2.2 i (by omega)
  have e : (recsK R m).getD i [] = recOf R i := by simp [recsK, List.getD, hi]
  have el : (recOf R i).length = (R i).len := rec_len hr
  rw [e, el]
  exact ⟨b, off, (R i).a, (R i).cap, rfl, hc i (by omega), hr.le, row_take hr.row (Nat.le_refl _)⟩
theorem loss_lim {per M : Int} {k : Nat} (hp : ¬ per < 1) (hM : IntKind.i64.wrap (15 * per) = M) (h : ¬ ((k : Int) > M ∧ per < 1048576)) : per < 1048576 → (k : Int) ≤ 15 * per := fun h1 => by
  have : M = 15 * per := by rw [← hM, IntWalk.i64_in _ (by omega)]
  omega
theorem loss_alt {per M : Int} {k : Nat} (h : ¬ ((k : Int) > M ∧ per < 1048576)) : (¬ (k : Int) > M) ∨ ((k : Int) > M ∧ ¬ per < 1048576) := by omega
theorem loss_inc {j k : Nat} (hk : k ≤ 1024) (hj : j < k) : IntKind.i64.wrap ((j : Int) + 1) = (j : Int) + 1 := IntWalk.i64_in _ (by omega)
theorem loss_big {m k : Nat} (hm : m ≤ k) (hk : k ≤ 1024) : m ≤ 9223372036854775807 := by omega
theorem loss_end {j m k cap : Nat} (h : j ≤ m ∧ m ≤ j + 1 ∧ m ≤ k) (hk : k ≤ 1024) (hc : k ≤ cap) : ¬ ((m : Int) < (j : Int)) ∧ IntKind.i64.wrap ((j : Int) + 1) = (j : Int) + 1 ∧ ¬ ((m : Int) > (j : Int) + 1) ∧ ¬ ((m : Int) > (k : Int)) ∧ (0 : Int) ≤ (m : Int) ∧ (m : Int) ≤ (cap : Int) :=
  ⟨by omega, IntWalk.i64_in _ (by omega), by omega, by omega, by omega, by omega⟩
theorem loss_k {k : Nat} (h : ¬ (k : Int) > 1024) : k ≤ 1024 := by omega
theorem loss_sum {l tt : Nat} (hl : l ≤ 140737488351232) (ht : tt ≤ 262144) : IntKind.i64.wrap ((l : Int) + 8) = (l : Int) + 8 ∧ RowKit.wrap64 ((l : Int) + 8) = (l : Int) + 8 ∧ RowKit.wrap64 ((tt : Int) + ((l : Int) + 8)) = ((tt + (l + 8) : Nat) : Int) ∧ IntKind.i64.wrap ((tt : Int) + ((l : Int) + 8)) = ((tt + (l + 8) : Nat) : Int) :=
  ⟨IntWalk.i64_in _ (by omega), IntWalk.wrap64_in _ (by omega), by rw [IntWalk.wrap64_in _ (by omega)]; omega, by rw [IntWalk.i64_in _ (by omega)]; omega⟩
theorem loss_next {R : Nat → Rw} {k tt l : Nat} (h : tt = sizeR (recsK R k)) (hl : (recOf R k).length = l) : tt + (l + 8) = sizeR (recsK R (k + 1)) := by
  rw [recsK_succ, sizeR_append, ← h]; simp [sizeR, hl]; omega
end Go.Proofs.YtdonkmkjblofpaaDoor.Wl

/-
  Layer 14: reservations and integers in memory; small functions. (The first part is written by gen_ja.py.)
-/
import Derived.Test.YtnaelmddafhjlaaRw
import Derived.Test.YtnaelmddafhjlaaIa
import Derived.Deep.LoopGhost
import Derived.Deep.Cut
import Derived.BigQuiet
import Derived.Deep.QuietTactic
import Derived.IntWalk
namespace Go.Proofs.Ytnaelmddafhjlaa.Bo
open Go.RowKit Rw
set_option linter.unusedVariables false
set_option linter.unusedSimpArgs false

structure Lo where
  acct : Int
  instr : Int
  qty : Int
deriving DecidableEq
def zl : Lo := ⟨0, 0, 0⟩
def keyl (x : Lo) : K2 := (x.acct, x.instr)
abbrev vl (x : Lo) : Value := .agg #[.int .i64 x.acct, .int .i64 x.instr, .int .i64 x.qty]
def encl : Enc Lo := ⟨42, 23, 3, 24, .agg #[.int .i64 0, .int .i64 0, .int .i64 0], fun x => [.int .i64 x.acct, .int .i64 x.instr, .int .i64 x.qty], zl⟩
theorem okl : encl.Ok := ⟨by decide, fun x => rfl, fun x u hu => by
  simp [encl] at hu
  rcases hu with rfl | rfl | rfl <;> rfl, Try.underlying23, by kernel_rfl, by kernel_rfl⟩
theorem atl {w : World} {a : Option Addr} {X : List Lo} (h : Has encl w a X) {j : Nat} (hj : j < X.length) : ∃ b off, a = some ⟨b, off, none⟩ ∧ w.cell? ⟨b, off + j * 3, none⟩ = some (.int .i64 (X.getD j zl).acct) ∧ w.cell? ⟨b, off + j * 3 + 1, none⟩ = some (.int .i64 (X.getD j zl).instr) ∧ w.cell? ⟨b, off + j * 3 + 2, none⟩ = some (.int .i64 (X.getD j zl).qty) := by
  obtain ⟨b, off, e, hc⟩ := h.at okl hj
  exact ⟨b, off, e, hc 0 _ rfl, hc 1 _ rfl, hc 2 _ rfl⟩
theorem own_atl {w : World} {base g c : Nat} {X : List Lo} (h : Own encl w base (.slice (some ⟨g, 0, none⟩) X.length c) X) {j : Nat} (hj : j < X.length) : w.cell? ⟨g, j * 3, none⟩ = some (.int .i64 (X.getD j zl).acct) ∧ w.cell? ⟨g, j * 3 + 1, none⟩ = some (.int .i64 (X.getD j zl).instr) ∧ w.cell? ⟨g, j * 3 + 2, none⟩ = some (.int .i64 (X.getD j zl).qty) := by
  obtain ⟨a, c', e, hh, _⟩ := h.has okl
  injection e with e1 _ _
  subst e1
  obtain ⟨b, off, e2, hc⟩ := atl hh hj
  cases e2
  simpa using hc
theorem own_setl_acct {w : World} {base g c : Nat} {X : List Lo} (h : Own encl w base (.slice (some ⟨g, 0, none⟩) X.length c) X) {j : Nat} (hj : j < X.length) (v : Int) :
    Own encl (w.setCell ⟨g, j * 3, none⟩ (.int .i64 v)) base (.slice (some ⟨g, 0, none⟩) X.length c) (X.set j { X.getD j zl with acct := v }) :=
  h.set okl (i := 0) hj (by decide) rfl
theorem own_setl_instr {w : World} {base g c : Nat} {X : List Lo} (h : Own encl w base (.slice (some ⟨g, 0, none⟩) X.length c) X) {j : Nat} (hj : j < X.length) (v : Int) :
    Own encl (w.setCell ⟨g, j * 3 + 1, none⟩ (.int .i64 v)) base (.slice (some ⟨g, 0, none⟩) X.length c) (X.set j { X.getD j zl with instr := v }) :=
  h.set okl (i := 1) hj (by decide) rfl
theorem own_setl_qty {w : World} {base g c : Nat} {X : List Lo} (h : Own encl w base (.slice (some ⟨g, 0, none⟩) X.length c) X) {j : Nat} (hj : j < X.length) (v : Int) :
    Own encl (w.setCell ⟨g, j * 3 + 2, none⟩ (.int .i64 v)) base (.slice (some ⟨g, 0, none⟩) X.length c) (X.set j { X.getD j zl with qty := v }) :=
  h.set okl (i := 2) hj (by decide) rfl
theorem own_alll {w : World} {base g c : Nat} {X : List Lo} (h : Own encl w base (.slice (some ⟨g, 0, none⟩) X.length c) X) {j : Nat} (hj : j < X.length) (x : Lo) :
    Own encl (((w.setCell ⟨g, j * 3, none⟩ (.int .i64 x.acct)).setCell ⟨g, j * 3 + 1, none⟩ (.int .i64 x.instr)).setCell ⟨g, j * 3 + 2, none⟩ (.int .i64 x.qty)) base (.slice (some ⟨g, 0, none⟩) X.length c) (X.set j x) := by
  have hs : ∀ (Y : List Lo) (a b : Lo), j < Y.length → (Y.set j a).getD j zl = a ∧ (Y.set j a).set j b = Y.set j b := fun Y a b h => ⟨by simp [List.getD, h], by simp⟩
  obtain ⟨y, hy⟩ : ∃ y, X.getD j zl = y := ⟨_, rfl⟩
  have h0 := h.set okl (i := 0) (x' := (⟨x.acct, y.instr, y.qty⟩ : Lo)) (u := .int .i64 x.acct) hj (by decide) (by show _ = (encl.cells (X.getD j zl)).set 0 _; rw [hy]; rfl)
  have l1 : j < (X.set j (⟨x.acct, y.instr, y.qty⟩ : Lo)).length := by rw [List.length_set]; exact hj
  rw [show X.length = (X.set j (⟨x.acct, y.instr, y.qty⟩ : Lo)).length from (List.length_set ..).symm] at h0
  have h1 := Own.set okl h0 (i := 1) (x' := (⟨x.acct, x.instr, y.qty⟩ : Lo)) (u := .int .i64 x.instr) l1 (by decide) (by show _ = (encl.cells ((X.set j _).getD j zl)).set 1 _; rw [(hs X _ x hj).1]; rfl)
  rw [(hs X _ _ hj).2, List.length_set] at h1
  have l2 : j < (X.set j (⟨x.acct, x.instr, y.qty⟩ : Lo)).length := by rw [List.length_set]; exact hj
  rw [show X.length = (X.set j (⟨x.acct, x.instr, y.qty⟩ : Lo)).length from (List.length_set ..).symm] at h1
  have h2 := Own.set okl h1 (i := 2) (x' := (⟨x.acct, x.instr, x.qty⟩ : Lo)) (u := .int .i64 x.qty) l2 (by decide) (by show _ = (encl.cells ((X.set j _).getD j zl)).set 2 _; rw [(hs X _ x hj).1]; rfl)
  rw [(hs X _ _ hj).2, List.length_set] at h2
  exact h2
theorem onel (w : World) (x : Lo) (T : TypeId) (g : Nat) (hg : g = w.heap.size) : Has encl (w.alloc (.cells #[.int .i64 x.acct, .int .i64 x.instr, .int .i64 x.qty] T)) (some ⟨g, 0, none⟩) [x] := Has.lit w [x] _ T g rfl hg (by simp)
/-! ### Integers -/
def encz : Enc Int := ⟨3, 22, 1, 8, .int .i64 0, fun x => [.int .i64 x], 0⟩
theorem okz : encz.Ok := ⟨by decide, fun x => rfl, fun x u hu => by simp [encz] at hu; rcases hu with rfl; rfl, Try.underlying22, by kernel_rfl, by kernel_rfl⟩
theorem atz {w : World} {a : Option Addr} {X : List Int} (h : Has encz w a X) {j : Nat} (hj : j < X.length) : ∃ b off, a = some ⟨b, off, none⟩ ∧ w.cell? ⟨b, off + j, none⟩ = some (.int .i64 (X.getD j 0)) := by
  obtain ⟨b, off, e, hc⟩ := h.at okz hj
  have h1 := hc 0 _ rfl
  have e1 : j * encz.k + 0 = j := by show j * 1 + 0 = j; omega
  rw [e1] at h1
  exact ⟨b, off, e, h1⟩
theorem own_atz {w : World} {base g c : Nat} {X : List Int} (h : Own encz w base (.slice (some ⟨g, 0, none⟩) X.length c) X) {j : Nat} (hj : j < X.length) : w.cell? ⟨g, j, none⟩ = some (.int .i64 (X.getD j 0)) := by
  obtain ⟨a, c', e, hh, _⟩ := h.has okz
  injection e with e1 _ _
  subst e1
  obtain ⟨b, off, e2, hc⟩ := atz hh hj
  cases e2
  simpa using hc
theorem own_setz {w : World} {base g c : Nat} {X : List Int} (h : Own encz w base (.slice (some ⟨g, 0, none⟩) X.length c) X) {j : Nat} (hj : j < X.length) (v : Int) :
    Own encz (w.setCell ⟨g, j, none⟩ (.int .i64 v)) base (.slice (some ⟨g, 0, none⟩) X.length c) (X.set j v) := by
  have h1 := h.set okz (j := j) (i := 0) (x' := v) (u := .int .i64 v) hj (by decide) rfl
  have e1 : j * encz.k + 0 = j := by show j * 1 + 0 = j; omega
  rw [e1] at h1
  exact h1

/-! ### Small functions -/
def qtyB (q : Int) : Bool := decide (-1000000000 ≤ q) && decide (q ≤ 1000000000)
def stockB (q : Int) : Bool := decide (0 ≤ q) && decide (q ≤ 1000000000)
def exB (n : Nat) (i : Int) : Bool := decide (0 ≤ i) && decide (i < (n : Int))
theorem qtyB_iff {q : Int} : qtyB q = true ↔ -1000000000 ≤ q ∧ q ≤ 1000000000 := by simp [qtyB]
theorem stockB_iff {q : Int} : stockB q = true ↔ 0 ≤ q ∧ q ≤ 1000000000 := by simp [stockB]
theorem exB_iff {n : Nat} {i : Int} : exB n i = true ↔ 0 ≤ i ∧ i < (n : Int) := by simp [exB]
theorem within_any (x lo hi : Int) (w : World) : Calls Try.prog 25 #[.int .i64 x, .int .i64 lo, .int .i64 hi] w fun e w' => e = .returned (.bool (decide (lo ≤ x) && decide (x ≤ hi))) ∧ w = w' := by
  by_cases h1 : lo ≤ x
  · have HE : Hid ((decide (lo ≤ x) && decide (x ≤ hi)) = decide (x ≤ hi)) := Lib.hid (by simp [h1])
    go_enter Try.func25, Try.ntmps25
    go_wp2
    go_ret
    exact ⟨by rw [HE.out] <;> rfl, rfl⟩
  · have HE : Hid ((decide (lo ≤ x) && decide (x ≤ hi)) = false) := Lib.hid (by simp [h1])
    go_enter Try.func25, Try.ntmps25
    go_wp2
    go_ret
    exact ⟨by rw [HE.out] <;> rfl, rfl⟩
theorem quantity_any (x : Int) (w : World) : Calls Try.prog 27 #[.int .i64 x] w fun e w' => e = .returned (.bool (qtyB x)) ∧ w = w' := by
  have HQ := Lib.hid (show (decide (-1000000000 ≤ x) && decide (x ≤ 1000000000)) = qtyB x from rfl)
  have hw := within_any x (-1000000000) 1000000000 w
  rw [HQ.out] at hw
  go_enter Try.func27, Try.ntmps27
  go_wp2_with (go_at_call 25; (with_reducible refine hw.mono ?_); rintro e w1 ⟨rfl, rfl⟩)
  go_ret
  exact ⟨rfl, rfl⟩
theorem stock_any (x : Int) (w : World) : Calls Try.prog 23 #[.int .i64 x] w fun e w' => e = .returned (.bool (stockB x)) ∧ w = w' := by
  have HQ := Lib.hid (show (decide (0 ≤ x) && decide (x ≤ 1000000000)) = stockB x from rfl)
  have hw := within_any x 0 1000000000 w
  rw [HQ.out] at hw
  go_enter Try.func23, Try.ntmps23
  go_wp2_with (go_at_call 25; (with_reducible refine hw.mono ?_); rintro e w1 ⟨rfl, rfl⟩)
  go_ret
  exact ⟨rfl, rfl⟩
theorem exists_any (a : Option Addr) (len cap : Nat) (i : Int) (w : World) (hm : len ≤ 9223372036854775807) : Calls Try.prog 24 #[.slice a len cap, .int .i64 i] w fun e w' => e = .returned (.bool (exB len i)) ∧ w = w' := by
  have HQ : Hid ((decide (0 ≤ i) && decide (i ≤ (len : Int) - 1)) = exB len i) := Lib.hid (by unfold exB; congr 1; exact decide_eq_decide.2 (by omega))
  have hw := within_any i 0 ((len : Int) - 1) w
  rw [HQ.out] at hw
  have i1 : IntKind.i64.wrap ((len : Int) - 1) = (len : Int) - 1 := IntWalk.i64_in _ (by omega)
  go_enter Try.func24, Try.ntmps24
  go_wp2_with (go_at_call 25; (with_reducible refine hw.mono ?_); rintro e w1 ⟨rfl, rfl⟩)
  go_ret
  exact ⟨rfl, rfl⟩
theorem fits_any (x : Int) (w : World) : Calls Try.prog 26 #[.int .i64 x] w fun e w' => e = .returned (.bool (stockB x)) ∧ w = w' := by
  by_cases h1 : 0 ≤ x
  · have HE : Hid (stockB x = decide (x ≤ 1000000000)) := Lib.hid (by simp [stockB, h1])
    go_enter Try.func26, Try.ntmps26
    go_wp2
    go_ret
    exact ⟨by rw [HE.out] <;> rfl, rfl⟩
  · have HE : Hid (stockB x = false) := Lib.hid (by simp [stockB, h1])
    go_enter Try.func26, Try.ntmps26
    go_wp2
    go_ret
    exact ⟨by rw [HE.out] <;> rfl, rfl⟩
theorem bound_any (x : Int) (w : World) : Calls Try.prog 29 #[.int .i64 x] w fun e w' => e = .returned (.bool (qtyB x)) ∧ w = w' := by
  by_cases h1 : -1000000000 ≤ x
  · have HE : Hid (qtyB x = decide (x ≤ 1000000000)) := Lib.hid (by simp [qtyB, h1])
    go_enter Try.func29, Try.ntmps29
    go_wp2
    go_ret
    exact ⟨by rw [HE.out] <;> rfl, rfl⟩
  · have HE : Hid (qtyB x = false) := Lib.hid (by simp [qtyB, h1])
    go_enter Try.func29, Try.ntmps29
    go_wp2
    go_ret
    exact ⟨by rw [HE.out] <;> rfl, rfl⟩
theorem nan_any (x : Int) (w : World) : Calls Try.prog 39 #[.int .i64 x] w fun e w' => e = .returned (.bool false) ∧ w = w' := by
  have h : (x == x) = true := beq_self_eq_true _
  go_enter Try.func39, Try.ntmps39
  go_wp2
  go_ret
  exact ⟨by simp, rfl⟩
theorem cmp_any (x y : Int) (w : World) : Calls Try.prog 38 #[.int .i64 x, .int .i64 y] w fun e w' => e = .returned (.int .i64 (cmp1 x y)) ∧ w = w' := by
  by_cases h1 : x < y
  · have HE : Hid (cmp1 x y = -1) := Lib.hid (by simp [cmp1, h1])
    go_enter Try.func38, Try.ntmps38
    go_wp2_with (go_at_call 39; (with_reducible refine (nan_any _ _).mono ?_); rintro e w1 ⟨rfl, rfl⟩)
    go_ret
    exact ⟨by rw [HE.out] <;> rfl, rfl⟩
  by_cases h2 : y < x
  · have HE : Hid (cmp1 x y = 1) := Lib.hid (by simp [cmp1, h1, h2])
    go_enter Try.func38, Try.ntmps38
    go_wp2_with (go_at_call 39; (with_reducible refine (nan_any _ _).mono ?_); rintro e w1 ⟨rfl, rfl⟩)
    go_ret
    exact ⟨by rw [HE.out] <;> rfl, rfl⟩
  have HE : Hid (cmp1 x y = 0) := Lib.hid (by simp [cmp1, h1, h2])
  go_enter Try.func38, Try.ntmps38
  go_wp2_with (go_at_call 39; (with_reducible refine (nan_any _ _).mono ?_); rintro e w1 ⟨rfl, rfl⟩)
  go_ret
  exact ⟨by rw [HE.out] <;> rfl, rfl⟩
def orS (x y : Int) : Int := if x ≠ 0 then x else y
/-- The first that is no nought, of two. -/
theorem or_any (w : World) (g : Nat) (x y : Int) (h0 : w.cell? ⟨g, 0, none⟩ = some (.int .i64 x)) (h1 : w.cell? ⟨g, 1, none⟩ = some (.int .i64 y)) :
    Calls Try.prog 37 #[.slice (some ⟨g, 0, none⟩) 2 2] w fun e w' => e = .returned (.int .i64 (orS x y)) ∧ w = w' := by
  go_enter Try.func37, Try.ntmps37
  go_wp2
  go_loopg [8] 2 (fun m i wr => ∃ k : Nat, k + m = 2 ∧ i = .int .i64 (k : Int) ∧ Hid (1 ≤ k → x = 0) ∧ Hid (2 ≤ k → y = 0) ∧ w = wr)
  case atStart => exact ⟨0, by omega, rfl, Lib.hid (by omega), Lib.hid (by omega), rfl⟩
  case round =>
    obtain ⟨k, hk, rfl, HX, HY, rfl⟩ := hrel
    rcases (show k = 0 ∨ k = 1 ∨ k = 2 by omega) with rfl | rfl | rfl
    · by_cases hx : x = 0
      · subst hx
        go_wp2
        go_roundg 1
        case measure => omega
        case rel => exact ⟨1, by omega, by go_num, Lib.hid (by simp), Lib.hid (by omega), rfl⟩
      · have HE : Hid (orS x y = x) := Lib.hid (by unfold orS; rw [if_pos hx])
        have b0 : (x == 0) = false := beq_eq_false_iff_ne.2 hx
        clear hx
        go_wp2
        go_ret
        exact ⟨by rw [HE.out] <;> rfl, rfl⟩
    · have hx0 := HX.out (by omega)
      subst hx0
      have HE : Hid (orS 0 y = y) := Lib.hid (by simp [orS])
      by_cases hy : y = 0
      · subst hy
        go_wp2
        go_roundg 0
        case measure => omega
        case rel => exact ⟨2, by omega, by go_num, Lib.hid (by simp), Lib.hid (by simp), rfl⟩
      · have b0 : (y == 0) = false := beq_eq_false_iff_ne.2 hy
        clear hy
        go_wp2
        go_ret
        exact ⟨by rw [HE.out] <;> rfl, rfl⟩
    · have hx0 := HX.out (by omega)
      have hy0 := HY.out (by omega)
      subst hx0 hy0
      go_wp2
      go_ret
      exact ⟨by simp [orS], rfl⟩
set_option maxRecDepth 100000 in
set_option maxHeartbeats 1000000 in
theorem compare_any (a b f c d h : Int) (w : World) : Calls Try.prog 33 #[.agg #[.int .i64 a, .int .i64 b, .int .i64 f], .agg #[.int .i64 c, .int .i64 d, .int .i64 h]] w fun e w' => e = .returned (.int .i64 (cmpK (a, b) (c, d))) ∧ Below w.heap.size w w' := by
  have HE : Hid (cmpK (a, b) (c, d) = orS (cmp1 a c) (cmp1 b d)) := Lib.hid rfl
  obtain ⟨g, hg⟩ : ∃ g, g = w.heap.size := ⟨_, rfl⟩
  obtain ⟨W0, hW0⟩ : ∃ W0, W0 = (w.alloc (.cells #[.int .i64 a, .int .i64 b, .int .i64 f] 42)).alloc (.cells #[.int .i64 c, .int .i64 d, .int .i64 h] 42) := ⟨_, rfl⟩
  have x0 : Blk W0 g #[.int .i64 a, .int .i64 b, .int .i64 f] 42 := by rw [hW0, hg]; exact (Blk.new w _ _).keep (one_alloc _ _)
  have y0 : Blk W0 (g + 1) #[.int .i64 c, .int .i64 d, .int .i64 h] 42 := by
    have := Blk.new (w.alloc (.cells #[.int .i64 a, .int .i64 b, .int .i64 f] 42)) #[.int .i64 c, .int .i64 d, .int .i64 h] 42
    rw [World.size_alloc, ← hg, ← hW0] at this; exact this
  have HB : Hid (Below w.heap.size w W0) := Lib.hid (by rw [hW0]; repeat' (first | exact Below.refl _ _ | refine Below.alloc ?_ (by simp) _))
  have KS : Hid (∀ wx, Below W0.heap.size W0 wx → (wx.cell? ⟨g, 0, none⟩ = some (.int .i64 a) ∧ wx.cell? ⟨g, 1, none⟩ = some (.int .i64 b)) ∧ (wx.cell? ⟨g + 1, 0, none⟩ = some (.int .i64 c) ∧ wx.cell? ⟨g + 1, 1, none⟩ = some (.int .i64 d))) := Lib.hid fun wx hb => ⟨⟨(x0.keep hb).cell 0, (x0.keep hb).cell 1⟩, (y0.keep hb).cell 0, (y0.keep hb).cell 1⟩
  have HG := Lib.hid hg; have HW := Lib.hid hW0
  obtain ⟨⟨c0, c1⟩, c2, c3⟩ := KS.out W0 (Below.refl _ _)
  have C1 := Lib.hid fun w => cmp_any a c w
  have C2 := Lib.hid fun w => cmp_any b d w
  clear hg hW0 x0 y0
  generalize cmp1 a c = X at *
  generalize cmp1 b d = Y at *
  go_enter Try.func33, Try.ntmps33
  go_upto_region 1 with (fail)
  rw [← HG.out, ← HW.out]
  clear HG HW
  have q0 : (W0.alloc (.cells #[.int .i64 X, .int .i64 Y] 3)).drew.cell? ⟨W0.heap.size, 0, none⟩ = some (.int .i64 X) := by
    have h2 := Blk.new W0 #[.int .i64 X, .int .i64 Y] 3
    exact h2.cell 0
  have q1 : (W0.alloc (.cells #[.int .i64 X, .int .i64 Y] 3)).drew.cell? ⟨W0.heap.size, 1, none⟩ = some (.int .i64 Y) := by
    have h2 := Blk.new W0 #[.int .i64 X, .int .i64 Y] 3
    exact h2.cell 1
  go_region_held3 (fun wx => (wx.cell? ⟨g, 0, none⟩ = some (.int .i64 a) ∧ wx.cell? ⟨g, 1, none⟩ = some (.int .i64 b)) ∧ (wx.cell? ⟨g + 1, 0, none⟩ = some (.int .i64 c) ∧ wx.cell? ⟨g + 1, 1, none⟩ = some (.int .i64 d)))
    (focus (refine KS.out _ ?_; (repeat' (first | exact Below.refl _ _ | refine Below.drew ?_ | refine Below.alloc ?_ (by simp) _))))
    (first | (go_split_ands; go_at_call 38; (with_reducible refine (C1.out _).mono ?_); rintro e w5 ⟨rfl, rfl⟩) | (go_split_ands; go_at_call 38; (with_reducible refine (C2.out _).mono ?_); rintro e w5 ⟨rfl, rfl⟩) | (go_at_call 37; (with_reducible refine (or_any _ _ _ _ q0 q1).mono ?_); rintro e w6 ⟨rfl, rfl⟩) | fail)
  go_wp2
  go_ret
  exact ⟨by rw [HE.out] <;> rfl, below_next HB.out (by repeat' (first | exact Below.refl _ _ | refine Below.drew ?_ | refine Below.alloc ?_ (by simp) _))⟩
end Go.Proofs.Ytnaelmddafhjlaa.Bo

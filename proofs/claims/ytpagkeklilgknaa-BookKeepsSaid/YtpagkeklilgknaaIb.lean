/-
  Layer 13: positions and orders in memory; small functions. (The first part is written by gen_ib.py.)
-/
import Derived.Test.YtpagkeklilgknaaRw
import Derived.Test.YtpagkeklilgknaaIa
import Derived.Deep.LoopGhost
import Derived.Deep.Cut
import Derived.BigQuiet
import Derived.Deep.QuietTactic
import Derived.IntWalk
namespace Go.Proofs.Ytpagkeklilgknaa.Bo
open Go.RowKit Rw
set_option linter.unusedVariables false
set_option linter.unusedSimpArgs false

structure Ps where
  acct : Int
  instr : Int
  qty : Int
deriving DecidableEq
def zp : Ps := ⟨0, 0, 0⟩
def keyp (x : Ps) : K2 := (x.acct, x.instr)
abbrev vp (x : Ps) : Value := .agg #[.int .i64 x.acct, .int .i64 x.instr, .int .i64 x.qty]
def encp : Enc Ps := ⟨48, 22, 3, 24, .agg #[.int .i64 0, .int .i64 0, .int .i64 0], fun x => [.int .i64 x.acct, .int .i64 x.instr, .int .i64 x.qty], zp⟩
theorem okp : encp.Ok := ⟨by decide, fun x => rfl, fun x u hu => by
  simp [encp] at hu
  rcases hu with rfl | rfl | rfl <;> rfl, Try.underlying22, by kernel_rfl, by kernel_rfl⟩
theorem atp {w : World} {a : Option Addr} {X : List Ps} (h : Has encp w a X) {j : Nat} (hj : j < X.length) : ∃ b off, a = some ⟨b, off, none⟩ ∧ w.cell? ⟨b, off + j * 3, none⟩ = some (.int .i64 (X.getD j zp).acct) ∧ w.cell? ⟨b, off + j * 3 + 1, none⟩ = some (.int .i64 (X.getD j zp).instr) ∧ w.cell? ⟨b, off + j * 3 + 2, none⟩ = some (.int .i64 (X.getD j zp).qty) := by
  obtain ⟨b, off, e, hc⟩ := h.at okp hj
  exact ⟨b, off, e, hc 0 _ rfl, hc 1 _ rfl, hc 2 _ rfl⟩
theorem own_atp {w : World} {base g c : Nat} {X : List Ps} (h : Own encp w base (.slice (some ⟨g, 0, none⟩) X.length c) X) {j : Nat} (hj : j < X.length) : w.cell? ⟨g, j * 3, none⟩ = some (.int .i64 (X.getD j zp).acct) ∧ w.cell? ⟨g, j * 3 + 1, none⟩ = some (.int .i64 (X.getD j zp).instr) ∧ w.cell? ⟨g, j * 3 + 2, none⟩ = some (.int .i64 (X.getD j zp).qty) := by
  obtain ⟨a, c', e, hh, _⟩ := h.has okp
  injection e with e1 _ _
  subst e1
  obtain ⟨b, off, e2, hc⟩ := atp hh hj
  cases e2
  simpa using hc
theorem own_setp_acct {w : World} {base g c : Nat} {X : List Ps} (h : Own encp w base (.slice (some ⟨g, 0, none⟩) X.length c) X) {j : Nat} (hj : j < X.length) (v : Int) :
    Own encp (w.setCell ⟨g, j * 3, none⟩ (.int .i64 v)) base (.slice (some ⟨g, 0, none⟩) X.length c) (X.set j { X.getD j zp with acct := v }) :=
  h.set okp (i := 0) hj (by decide) rfl
theorem own_setp_instr {w : World} {base g c : Nat} {X : List Ps} (h : Own encp w base (.slice (some ⟨g, 0, none⟩) X.length c) X) {j : Nat} (hj : j < X.length) (v : Int) :
    Own encp (w.setCell ⟨g, j * 3 + 1, none⟩ (.int .i64 v)) base (.slice (some ⟨g, 0, none⟩) X.length c) (X.set j { X.getD j zp with instr := v }) :=
  h.set okp (i := 1) hj (by decide) rfl
theorem own_setp_qty {w : World} {base g c : Nat} {X : List Ps} (h : Own encp w base (.slice (some ⟨g, 0, none⟩) X.length c) X) {j : Nat} (hj : j < X.length) (v : Int) :
    Own encp (w.setCell ⟨g, j * 3 + 2, none⟩ (.int .i64 v)) base (.slice (some ⟨g, 0, none⟩) X.length c) (X.set j { X.getD j zp with qty := v }) :=
  h.set okp (i := 2) hj (by decide) rfl
theorem own_allp {w : World} {base g c : Nat} {X : List Ps} (h : Own encp w base (.slice (some ⟨g, 0, none⟩) X.length c) X) {j : Nat} (hj : j < X.length) (x : Ps) :
    Own encp (((w.setCell ⟨g, j * 3, none⟩ (.int .i64 x.acct)).setCell ⟨g, j * 3 + 1, none⟩ (.int .i64 x.instr)).setCell ⟨g, j * 3 + 2, none⟩ (.int .i64 x.qty)) base (.slice (some ⟨g, 0, none⟩) X.length c) (X.set j x) := by
  have hs : ∀ (Y : List Ps) (a b : Ps), j < Y.length → (Y.set j a).getD j zp = a ∧ (Y.set j a).set j b = Y.set j b := fun Y a b h => ⟨by simp [List.getD, h], by simp⟩
  obtain ⟨y, hy⟩ : ∃ y, X.getD j zp = y := ⟨_, rfl⟩
  have h0 := h.set okp (i := 0) (x' := (⟨x.acct, y.instr, y.qty⟩ : Ps)) (u := .int .i64 x.acct) hj (by decide) (by show _ = (encp.cells (X.getD j zp)).set 0 _; rw [hy]; rfl)
  have l1 : j < (X.set j (⟨x.acct, y.instr, y.qty⟩ : Ps)).length := by rw [List.length_set]; exact hj
  rw [show X.length = (X.set j (⟨x.acct, y.instr, y.qty⟩ : Ps)).length from (List.length_set ..).symm] at h0
  have h1 := Own.set okp h0 (i := 1) (x' := (⟨x.acct, x.instr, y.qty⟩ : Ps)) (u := .int .i64 x.instr) l1 (by decide) (by show _ = (encp.cells ((X.set j _).getD j zp)).set 1 _; rw [(hs X _ x hj).1]; rfl)
  rw [(hs X _ _ hj).2, List.length_set] at h1
  have l2 : j < (X.set j (⟨x.acct, x.instr, y.qty⟩ : Ps)).length := by rw [List.length_set]; exact hj
  rw [show X.length = (X.set j (⟨x.acct, x.instr, y.qty⟩ : Ps)).length from (List.length_set ..).symm] at h1
  have h2 := Own.set okp h1 (i := 2) (x' := (⟨x.acct, x.instr, x.qty⟩ : Ps)) (u := .int .i64 x.qty) l2 (by decide) (by show _ = (encp.cells ((X.set j _).getD j zp)).set 2 _; rw [(hs X _ x hj).1]; rfl)
  rw [(hs X _ _ hj).2, List.length_set] at h2
  exact h2
theorem onep (w : World) (x : Ps) (T : TypeId) (g : Nat) (hg : g = w.heap.size) : Has encp (w.alloc (.cells #[.int .i64 x.acct, .int .i64 x.instr, .int .i64 x.qty] T)) (some ⟨g, 0, none⟩) [x] := Has.lit w [x] _ T g rfl hg (by simp)
structure Od where
  acct : Int
  id : Int
  instr : Int
  qty : Int
  price : Int
deriving DecidableEq
def zo : Od := ⟨0, 0, 0, 0, 0⟩
def keyo (x : Od) : K2 := (x.acct, x.id)
abbrev vo (x : Od) : Value := .agg #[.int .i64 x.acct, .int .i64 x.id, .int .i64 x.instr, .int .i64 x.qty, .int .i64 x.price]
def enco : Enc Od := ⟨37, 23, 5, 40, .agg #[.int .i64 0, .int .i64 0, .int .i64 0, .int .i64 0, .int .i64 0], fun x => [.int .i64 x.acct, .int .i64 x.id, .int .i64 x.instr, .int .i64 x.qty, .int .i64 x.price], zo⟩
theorem oko : enco.Ok := ⟨by decide, fun x => rfl, fun x u hu => by
  simp [enco] at hu
  rcases hu with rfl | rfl | rfl | rfl | rfl <;> rfl, Try.underlying23, by kernel_rfl, by kernel_rfl⟩
theorem ato {w : World} {a : Option Addr} {X : List Od} (h : Has enco w a X) {j : Nat} (hj : j < X.length) : ∃ b off, a = some ⟨b, off, none⟩ ∧ w.cell? ⟨b, off + j * 5, none⟩ = some (.int .i64 (X.getD j zo).acct) ∧ w.cell? ⟨b, off + j * 5 + 1, none⟩ = some (.int .i64 (X.getD j zo).id) ∧ w.cell? ⟨b, off + j * 5 + 2, none⟩ = some (.int .i64 (X.getD j zo).instr) ∧ w.cell? ⟨b, off + j * 5 + 3, none⟩ = some (.int .i64 (X.getD j zo).qty) ∧ w.cell? ⟨b, off + j * 5 + 4, none⟩ = some (.int .i64 (X.getD j zo).price) := by
  obtain ⟨b, off, e, hc⟩ := h.at oko hj
  exact ⟨b, off, e, hc 0 _ rfl, hc 1 _ rfl, hc 2 _ rfl, hc 3 _ rfl, hc 4 _ rfl⟩
theorem own_ato {w : World} {base g c : Nat} {X : List Od} (h : Own enco w base (.slice (some ⟨g, 0, none⟩) X.length c) X) {j : Nat} (hj : j < X.length) : w.cell? ⟨g, j * 5, none⟩ = some (.int .i64 (X.getD j zo).acct) ∧ w.cell? ⟨g, j * 5 + 1, none⟩ = some (.int .i64 (X.getD j zo).id) ∧ w.cell? ⟨g, j * 5 + 2, none⟩ = some (.int .i64 (X.getD j zo).instr) ∧ w.cell? ⟨g, j * 5 + 3, none⟩ = some (.int .i64 (X.getD j zo).qty) ∧ w.cell? ⟨g, j * 5 + 4, none⟩ = some (.int .i64 (X.getD j zo).price) := by
  obtain ⟨a, c', e, hh, _⟩ := h.has oko
  injection e with e1 _ _
  subst e1
  obtain ⟨b, off, e2, hc⟩ := ato hh hj
  cases e2
  simpa using hc
theorem own_seto_acct {w : World} {base g c : Nat} {X : List Od} (h : Own enco w base (.slice (some ⟨g, 0, none⟩) X.length c) X) {j : Nat} (hj : j < X.length) (v : Int) :
    Own enco (w.setCell ⟨g, j * 5, none⟩ (.int .i64 v)) base (.slice (some ⟨g, 0, none⟩) X.length c) (X.set j { X.getD j zo with acct := v }) :=
  h.set oko (i := 0) hj (by decide) rfl
theorem own_seto_id {w : World} {base g c : Nat} {X : List Od} (h : Own enco w base (.slice (some ⟨g, 0, none⟩) X.length c) X) {j : Nat} (hj : j < X.length) (v : Int) :
    Own enco (w.setCell ⟨g, j * 5 + 1, none⟩ (.int .i64 v)) base (.slice (some ⟨g, 0, none⟩) X.length c) (X.set j { X.getD j zo with id := v }) :=
  h.set oko (i := 1) hj (by decide) rfl
theorem own_seto_instr {w : World} {base g c : Nat} {X : List Od} (h : Own enco w base (.slice (some ⟨g, 0, none⟩) X.length c) X) {j : Nat} (hj : j < X.length) (v : Int) :
    Own enco (w.setCell ⟨g, j * 5 + 2, none⟩ (.int .i64 v)) base (.slice (some ⟨g, 0, none⟩) X.length c) (X.set j { X.getD j zo with instr := v }) :=
  h.set oko (i := 2) hj (by decide) rfl
theorem own_seto_qty {w : World} {base g c : Nat} {X : List Od} (h : Own enco w base (.slice (some ⟨g, 0, none⟩) X.length c) X) {j : Nat} (hj : j < X.length) (v : Int) :
    Own enco (w.setCell ⟨g, j * 5 + 3, none⟩ (.int .i64 v)) base (.slice (some ⟨g, 0, none⟩) X.length c) (X.set j { X.getD j zo with qty := v }) :=
  h.set oko (i := 3) hj (by decide) rfl
theorem own_seto_price {w : World} {base g c : Nat} {X : List Od} (h : Own enco w base (.slice (some ⟨g, 0, none⟩) X.length c) X) {j : Nat} (hj : j < X.length) (v : Int) :
    Own enco (w.setCell ⟨g, j * 5 + 4, none⟩ (.int .i64 v)) base (.slice (some ⟨g, 0, none⟩) X.length c) (X.set j { X.getD j zo with price := v }) :=
  h.set oko (i := 4) hj (by decide) rfl
theorem own_allo {w : World} {base g c : Nat} {X : List Od} (h : Own enco w base (.slice (some ⟨g, 0, none⟩) X.length c) X) {j : Nat} (hj : j < X.length) (x : Od) :
    Own enco (((((w.setCell ⟨g, j * 5, none⟩ (.int .i64 x.acct)).setCell ⟨g, j * 5 + 1, none⟩ (.int .i64 x.id)).setCell ⟨g, j * 5 + 2, none⟩ (.int .i64 x.instr)).setCell ⟨g, j * 5 + 3, none⟩ (.int .i64 x.qty)).setCell ⟨g, j * 5 + 4, none⟩ (.int .i64 x.price)) base (.slice (some ⟨g, 0, none⟩) X.length c) (X.set j x) := by
  have hs : ∀ (Y : List Od) (a b : Od), j < Y.length → (Y.set j a).getD j zo = a ∧ (Y.set j a).set j b = Y.set j b := fun Y a b h => ⟨by simp [List.getD, h], by simp⟩
  obtain ⟨y, hy⟩ : ∃ y, X.getD j zo = y := ⟨_, rfl⟩
  have h0 := h.set oko (i := 0) (x' := (⟨x.acct, y.id, y.instr, y.qty, y.price⟩ : Od)) (u := .int .i64 x.acct) hj (by decide) (by show _ = (enco.cells (X.getD j zo)).set 0 _; rw [hy]; rfl)
  have l1 : j < (X.set j (⟨x.acct, y.id, y.instr, y.qty, y.price⟩ : Od)).length := by rw [List.length_set]; exact hj
  rw [show X.length = (X.set j (⟨x.acct, y.id, y.instr, y.qty, y.price⟩ : Od)).length from (List.length_set ..).symm] at h0
  have h1 := Own.set oko h0 (i := 1) (x' := (⟨x.acct, x.id, y.instr, y.qty, y.price⟩ : Od)) (u := .int .i64 x.id) l1 (by decide) (by show _ = (enco.cells ((X.set j _).getD j zo)).set 1 _; rw [(hs X _ x hj).1]; rfl)
  rw [(hs X _ _ hj).2, List.length_set] at h1
  have l2 : j < (X.set j (⟨x.acct, x.id, y.instr, y.qty, y.price⟩ : Od)).length := by rw [List.length_set]; exact hj
  rw [show X.length = (X.set j (⟨x.acct, x.id, y.instr, y.qty, y.price⟩ : Od)).length from (List.length_set ..).symm] at h1
  have h2 := Own.set oko h1 (i := 2) (x' := (⟨x.acct, x.id, x.instr, y.qty, y.price⟩ : Od)) (u := .int .i64 x.instr) l2 (by decide) (by show _ = (enco.cells ((X.set j _).getD j zo)).set 2 _; rw [(hs X _ x hj).1]; rfl)
  rw [(hs X _ _ hj).2, List.length_set] at h2
  have l3 : j < (X.set j (⟨x.acct, x.id, x.instr, y.qty, y.price⟩ : Od)).length := by rw [List.length_set]; exact hj
  rw [show X.length = (X.set j (⟨x.acct, x.id, x.instr, y.qty, y.price⟩ : Od)).length from (List.length_set ..).symm] at h2
  have h3 := Own.set oko h2 (i := 3) (x' := (⟨x.acct, x.id, x.instr, x.qty, y.price⟩ : Od)) (u := .int .i64 x.qty) l3 (by decide) (by show _ = (enco.cells ((X.set j _).getD j zo)).set 3 _; rw [(hs X _ x hj).1]; rfl)
  rw [(hs X _ _ hj).2, List.length_set] at h3
  have l4 : j < (X.set j (⟨x.acct, x.id, x.instr, x.qty, y.price⟩ : Od)).length := by rw [List.length_set]; exact hj
  rw [show X.length = (X.set j (⟨x.acct, x.id, x.instr, x.qty, y.price⟩ : Od)).length from (List.length_set ..).symm] at h3
  have h4 := Own.set oko h3 (i := 4) (x' := (⟨x.acct, x.id, x.instr, x.qty, x.price⟩ : Od)) (u := .int .i64 x.price) l4 (by decide) (by show _ = (enco.cells ((X.set j _).getD j zo)).set 4 _; rw [(hs X _ x hj).1]; rfl)
  rw [(hs X _ _ hj).2, List.length_set] at h4
  exact h4
theorem oneo (w : World) (x : Od) (T : TypeId) (g : Nat) (hg : g = w.heap.size) : Has enco (w.alloc (.cells #[.int .i64 x.acct, .int .i64 x.id, .int .i64 x.instr, .int .i64 x.qty, .int .i64 x.price] T)) (some ⟨g, 0, none⟩) [x] := Has.lit w [x] _ T g rfl hg (by simp)
/-! ### Small functions -/
def qtyB (q : Int) : Bool := decide (-1000000000 ≤ q) && decide (q ≤ 1000000000)
def absS (q : Int) : Int := if q < 0 then -q else q
def holdsB (acct instr qty accts instrs : Int) : Bool := decide (2 ≤ acct) && decide (acct < accts) && decide (0 ≤ instr) && decide (instr < instrs) && qtyB qty && !(qty == 0)
theorem qtyB_iff {q : Int} : qtyB q = true ↔ -1000000000 ≤ q ∧ q ≤ 1000000000 := by simp [qtyB]
theorem within_any (x lo hi : Int) (w : World) : Calls Try.prog 37 #[.int .i64 x, .int .i64 lo, .int .i64 hi] w fun e w' => e = .returned (.bool (decide (lo ≤ x) && decide (x ≤ hi))) ∧ w = w' := by
  by_cases h1 : lo ≤ x
  · have HE : Hid ((decide (lo ≤ x) && decide (x ≤ hi)) = decide (x ≤ hi)) := Lib.hid (by simp [h1])
    go_enter Try.func37, Try.ntmps37
    go_wp2
    go_ret
    exact ⟨by rw [HE.out] <;> rfl, rfl⟩
  · have HE : Hid ((decide (lo ≤ x) && decide (x ≤ hi)) = false) := Lib.hid (by simp [h1])
    go_enter Try.func37, Try.ntmps37
    go_wp2
    go_ret
    exact ⟨by rw [HE.out] <;> rfl, rfl⟩
theorem quantity_any (x : Int) (w : World) : Calls Try.prog 39 #[.int .i64 x] w fun e w' => e = .returned (.bool (qtyB x)) ∧ w = w' := by
  have HQ := Lib.hid (show (decide (-1000000000 ≤ x) && decide (x ≤ 1000000000)) = qtyB x from rfl)
  have hw := within_any x (-1000000000) 1000000000 w
  rw [HQ.out] at hw
  go_enter Try.func39, Try.ntmps39
  go_wp2_with (go_at_call 37; (with_reducible refine hw.mono ?_); rintro e w1 ⟨rfl, rfl⟩)
  go_ret
  exact ⟨rfl, rfl⟩
theorem fits_any (x : Int) (w : World) : Calls Try.prog 38 #[.int .i64 x] w fun e w' => e = .returned (.bool (qtyB x)) ∧ w = w' := by
  by_cases h1 : -1000000000 ≤ x
  · have HE : Hid (qtyB x = decide (x ≤ 1000000000)) := Lib.hid (by simp [qtyB, h1])
    go_enter Try.func38, Try.ntmps38
    go_wp2
    go_ret
    exact ⟨by rw [HE.out] <;> rfl, rfl⟩
  · have HE : Hid (qtyB x = false) := Lib.hid (by simp [qtyB, h1])
    go_enter Try.func38, Try.ntmps38
    go_wp2
    go_ret
    exact ⟨by rw [HE.out] <;> rfl, rfl⟩
theorem abs_any (q : Int) (w : World) (hq : qtyB q = true) : Calls Try.prog 47 #[.int .i64 q] w fun e w' => e = .returned (.int .i64 (absS q)) ∧ w = w' := by
  obtain ⟨q1, q2⟩ := qtyB_iff.1 hq
  clear hq
  by_cases h : q < 0
  · have HE : Hid (absS q = -q) := Lib.hid (by simp [absS, h])
    have h2 : q < -q := by omega
    go_enter Try.func47, Try.ntmps47
    go_wp2
    go_ret
    exact ⟨by rw [HE.out] <;> first | rfl | (congr 2; omega), rfl⟩
  · have HE : Hid (absS q = q) := Lib.hid (by simp [absS, h])
    have h2 : -q ≤ q := by omega
    go_enter Try.func47, Try.ntmps47
    go_wp2
    go_ret
    exact ⟨by rw [HE.out] <;> first | rfl | (congr 2; omega), rfl⟩
theorem rabs_any (q : Int) (w : World) (hq : qtyB q = true) : Calls Try.prog 46 #[.int .i64 q] w fun e w' => e = .returned (.int .i64 (absS q)) ∧ w = w' := by
  obtain ⟨q1, q2⟩ := qtyB_iff.1 hq
  clear hq
  by_cases h : q < 0
  · have HE : Hid (absS q = -q) := Lib.hid (by simp [absS, h])
    go_enter Try.func46, Try.ntmps46
    go_wp2
    go_ret
    exact ⟨by rw [HE.out] <;> rfl, rfl⟩
  · have HE : Hid (absS q = q) := Lib.hid (by simp [absS, h])
    go_enter Try.func46, Try.ntmps46
    go_wp2
    go_ret
    exact ⟨by rw [HE.out] <;> rfl, rfl⟩
theorem holds_any (acct instr qty accts instrs : Int) (w : World) : Calls Try.prog 34 #[.int .i64 acct, .int .i64 instr, .int .i64 qty, .int .i64 accts, .int .i64 instrs] w fun e w' => e = .returned (.bool (holdsB acct instr qty accts instrs)) ∧ w = w' := by
  have hq := quantity_any qty w
  by_cases h1 : 2 ≤ acct
  rotate_left
  · have HE : Hid (holdsB acct instr qty accts instrs = false) := Lib.hid (by simp [holdsB, h1])
    go_enter Try.func34, Try.ntmps34
    go_wp2_with (go_at_call 39; (with_reducible refine hq.mono ?_); rintro e w1 ⟨rfl, rfl⟩)
    go_ret
    exact ⟨by rw [HE.out] <;> rfl, rfl⟩
  by_cases h2 : acct < accts
  rotate_left
  · have HE : Hid (holdsB acct instr qty accts instrs = false) := Lib.hid (by simp [holdsB, h1, h2])
    go_enter Try.func34, Try.ntmps34
    go_wp2_with (go_at_call 39; (with_reducible refine hq.mono ?_); rintro e w1 ⟨rfl, rfl⟩)
    go_ret
    exact ⟨by rw [HE.out] <;> rfl, rfl⟩
  by_cases h3 : 0 ≤ instr
  rotate_left
  · have HE : Hid (holdsB acct instr qty accts instrs = false) := Lib.hid (by simp [holdsB, h1, h2, h3])
    go_enter Try.func34, Try.ntmps34
    go_wp2_with (go_at_call 39; (with_reducible refine hq.mono ?_); rintro e w1 ⟨rfl, rfl⟩)
    go_ret
    exact ⟨by rw [HE.out] <;> rfl, rfl⟩
  by_cases h4 : instr < instrs
  rotate_left
  · have HE : Hid (holdsB acct instr qty accts instrs = false) := Lib.hid (by simp [holdsB, h1, h2, h3, h4])
    go_enter Try.func34, Try.ntmps34
    go_wp2_with (go_at_call 39; (with_reducible refine hq.mono ?_); rintro e w1 ⟨rfl, rfl⟩)
    go_ret
    exact ⟨by rw [HE.out] <;> rfl, rfl⟩
  obtain ⟨Q, hQ⟩ : ∃ Q, qtyB qty = Q := ⟨_, rfl⟩
  have HQ := Lib.hid hQ
  rw [hQ] at hq
  clear hQ
  cases Q with
  | false =>
    have HE : Hid (holdsB acct instr qty accts instrs = false) := Lib.hid (by simp [holdsB, HQ.out])
    go_enter Try.func34, Try.ntmps34
    go_wp2_with (go_at_call 39; (with_reducible refine hq.mono ?_); rintro e w1 ⟨rfl, rfl⟩)
    go_ret
    exact ⟨by rw [HE.out] <;> rfl, rfl⟩
  | true =>
    have HE : Hid (holdsB acct instr qty accts instrs = !(qty == 0)) := Lib.hid (by simp [holdsB, h1, h2, h3, h4, HQ.out])
    go_enter Try.func34, Try.ntmps34
    go_wp2_with (go_at_call 39; (with_reducible refine hq.mono ?_); rintro e w1 ⟨rfl, rfl⟩)
    go_ret
    exact ⟨by rw [HE.out] <;> rfl, rfl⟩
theorem nan_any (x : Int) (w : World) : Calls Try.prog 61 #[.int .i64 x] w fun e w' => e = .returned (.bool false) ∧ w = w' := by
  have h : (x == x) = true := beq_self_eq_true _
  go_enter Try.func61, Try.ntmps61
  go_wp2
  go_ret
  exact ⟨by simp, rfl⟩
theorem cmp_any (x y : Int) (w : World) : Calls Try.prog 58 #[.int .i64 x, .int .i64 y] w fun e w' => e = .returned (.int .i64 (cmp1 x y)) ∧ w = w' := by
  by_cases h1 : x < y
  · have HE : Hid (cmp1 x y = -1) := Lib.hid (by simp [cmp1, h1])
    go_enter Try.func58, Try.ntmps58
    go_wp2_with (go_at_call 61; (with_reducible refine (nan_any _ _).mono ?_); rintro e w1 ⟨rfl, rfl⟩)
    go_ret
    exact ⟨by rw [HE.out] <;> rfl, rfl⟩
  by_cases h2 : y < x
  · have HE : Hid (cmp1 x y = 1) := Lib.hid (by simp [cmp1, h1, h2])
    go_enter Try.func58, Try.ntmps58
    go_wp2_with (go_at_call 61; (with_reducible refine (nan_any _ _).mono ?_); rintro e w1 ⟨rfl, rfl⟩)
    go_ret
    exact ⟨by rw [HE.out] <;> rfl, rfl⟩
  have HE : Hid (cmp1 x y = 0) := Lib.hid (by simp [cmp1, h1, h2])
  go_enter Try.func58, Try.ntmps58
  go_wp2_with (go_at_call 61; (with_reducible refine (nan_any _ _).mono ?_); rintro e w1 ⟨rfl, rfl⟩)
  go_ret
  exact ⟨by rw [HE.out] <;> rfl, rfl⟩
def encz : Enc Int := ⟨3, 82, 1, 8, .int .i64 0, fun x => [.int .i64 x], 0⟩
theorem okz : encz.Ok := ⟨by decide, fun x => rfl, fun x u hu => by simp [encz] at hu; rcases hu with rfl; rfl, Try.underlying82, by kernel_rfl, by kernel_rfl⟩
def orS (x y : Int) : Int := if x ≠ 0 then x else y
/-- The first that is no nought, of two. -/
theorem or_any (w : World) (g : Nat) (x y : Int) (h0 : w.cell? ⟨g, 0, none⟩ = some (.int .i64 x)) (h1 : w.cell? ⟨g, 1, none⟩ = some (.int .i64 y)) :
    Calls Try.prog 57 #[.slice (some ⟨g, 0, none⟩) 2 2] w fun e w' => e = .returned (.int .i64 (orS x y)) ∧ w = w' := by
  go_enter Try.func57, Try.ntmps57
  go_wp2
  go_loopg [8] 2 (fun m i wr => ∃ k : Nat, k + m = 2 ∧ i = .int .i64 (k : Int) ∧ Hid (1 ≤ k → x = 0) ∧ Hid (2 ≤ k → y = 0) ∧ w = wr)
  case atStart => exact ⟨0, by omega, rfl, Lib.hid (by omega), Lib.hid (by omega), rfl⟩
  case round =>
    obtain ⟨k, hk, rfl, HX, HY, rfl⟩ := hrel
    rcases (show k = 0 ∨ k = 1 ∨ k = 2 by omega) with rfl | rfl | rfl
    · by_cases hx : x = 0
      · subst hx
        go_wp2
        go_roundg 1
        case measure => omega
        case rel => exact ⟨1, by omega, by go_num, Lib.hid (by simp), Lib.hid (by omega), rfl⟩
      · have HE : Hid (orS x y = x) := Lib.hid (by unfold orS; rw [if_pos hx])
        have b0 : (x == 0) = false := beq_eq_false_iff_ne.2 hx
        clear hx
        go_wp2
        go_ret
        exact ⟨by rw [HE.out] <;> rfl, rfl⟩
    · have hx0 := HX.out (by omega)
      subst hx0
      have HE : Hid (orS 0 y = y) := Lib.hid (by simp [orS])
      by_cases hy : y = 0
      · subst hy
        go_wp2
        go_roundg 0
        case measure => omega
        case rel => exact ⟨2, by omega, by go_num, Lib.hid (by simp), Lib.hid (by simp), rfl⟩
      · have b0 : (y == 0) = false := beq_eq_false_iff_ne.2 hy
        clear hy
        go_wp2
        go_ret
        exact ⟨by rw [HE.out] <;> rfl, rfl⟩
    · have hx0 := HX.out (by omega)
      have hy0 := HY.out (by omega)
      subst hx0 hy0
      go_wp2
      go_ret
      exact ⟨by simp [orS], rfl⟩
/-- What a list is ordered by. -/
theorem of_p (a b c : Int) (w : World) : Calls Try.prog 33 #[.agg #[.int .i64 a, .int .i64 b, .int .i64 c]] w fun e w' => e = .returned (.agg #[.int .i64 a, .int .i64 b]) ∧ Below w.heap.size w w' := by
  go_enter Try.func33, Try.ntmps33
  go_wp2
  refine bodyPost_ret (v := .agg #[.int .i64 a, .int .i64 b]) ?_ rfl ⟨rfl, ?_⟩
  · simp [results, Try.results33, go_sem]
  · repeat' (first | exact Below.refl _ _ | refine Below.drew ?_ | refine Below.setCell ?_ (by simp) _ | refine Below.alloc ?_ (by simp) _)
theorem of_o (a b c d f : Int) (w : World) : Calls Try.prog 36 #[.agg #[.int .i64 a, .int .i64 b, .int .i64 c, .int .i64 d, .int .i64 f]] w fun e w' => e = .returned (.agg #[.int .i64 a, .int .i64 b]) ∧ Below w.heap.size w w' := by
  go_enter Try.func36, Try.ntmps36
  go_wp2
  refine bodyPost_ret (v := .agg #[.int .i64 a, .int .i64 b]) ?_ rfl ⟨rfl, ?_⟩
  · simp [results, Try.results36, go_sem]
  · repeat' (first | exact Below.refl _ _ | refine Below.drew ?_ | refine Below.setCell ?_ (by simp) _ | refine Below.alloc ?_ (by simp) _)
set_option maxRecDepth 100000 in
set_option maxHeartbeats 1000000 in
theorem compare_any (a b c d : Int) (w : World) : Calls Try.prog 50 #[.agg #[.int .i64 a, .int .i64 b], .agg #[.int .i64 c, .int .i64 d]] w fun e w' => e = .returned (.int .i64 (cmpK (a, b) (c, d))) ∧ Below w.heap.size w w' := by
  have HE : Hid (cmpK (a, b) (c, d) = orS (cmp1 a c) (cmp1 b d)) := Lib.hid rfl
  obtain ⟨g, hg⟩ : ∃ g, g = w.heap.size := ⟨_, rfl⟩
  obtain ⟨W0, hW0⟩ : ∃ W0, W0 = (w.alloc (.cells #[.int .i64 a, .int .i64 b] 63)).alloc (.cells #[.int .i64 c, .int .i64 d] 63) := ⟨_, rfl⟩
  have x0 : Blk W0 g #[.int .i64 a, .int .i64 b] 63 := by rw [hW0, hg]; exact (Blk.new w _ _).keep (one_alloc _ _)
  have y0 : Blk W0 (g + 1) #[.int .i64 c, .int .i64 d] 63 := by
    have := Blk.new (w.alloc (.cells #[.int .i64 a, .int .i64 b] 63)) #[.int .i64 c, .int .i64 d] 63
    rw [World.size_alloc, ← hg, ← hW0] at this; exact this
  have HB : Hid (Below w.heap.size w W0) := Lib.hid (by rw [hW0]; repeat' (first | exact Below.refl _ _ | refine Below.alloc ?_ (by simp) _))
  have KS : Hid (∀ wx, Below W0.heap.size W0 wx → (wx.cell? ⟨g, 0, none⟩ = some (.int .i64 a) ∧ wx.cell? ⟨g, 1, none⟩ = some (.int .i64 b)) ∧ (wx.cell? ⟨g + 1, 0, none⟩ = some (.int .i64 c) ∧ wx.cell? ⟨g + 1, 1, none⟩ = some (.int .i64 d))) := Lib.hid fun wx hb => ⟨⟨(x0.keep hb).cell 0, (x0.keep hb).cell 1⟩, (y0.keep hb).cell 0, (y0.keep hb).cell 1⟩
  have HG := Lib.hid hg; have HW := Lib.hid hW0
  obtain ⟨⟨c0, c1⟩, c2, c3⟩ := KS.out W0 (Below.refl _ _)
  have C1 := Lib.hid fun w => cmp_any a c w
  have C2 := Lib.hid fun w => cmp_any b d w
  clear hg hW0 x0 y0
  generalize cmp1 a c = X at *
  generalize cmp1 b d = Y at *
  go_enter Try.func50, Try.ntmps50
  go_upto_region 1 with (fail)
  rw [← HG.out, ← HW.out]
  clear HG HW
  have q0 : (W0.alloc (.cells #[.int .i64 X, .int .i64 Y] 3)).drew.cell? ⟨W0.heap.size, 0, none⟩ = some (.int .i64 X) := by
    have h2 := Blk.new W0 #[.int .i64 X, .int .i64 Y] 3
    exact h2.cell 0
  have q1 : (W0.alloc (.cells #[.int .i64 X, .int .i64 Y] 3)).drew.cell? ⟨W0.heap.size, 1, none⟩ = some (.int .i64 Y) := by
    have h2 := Blk.new W0 #[.int .i64 X, .int .i64 Y] 3
    exact h2.cell 1
  go_region_held3 (fun wx => (wx.cell? ⟨g, 0, none⟩ = some (.int .i64 a) ∧ wx.cell? ⟨g, 1, none⟩ = some (.int .i64 b)) ∧ (wx.cell? ⟨g + 1, 0, none⟩ = some (.int .i64 c) ∧ wx.cell? ⟨g + 1, 1, none⟩ = some (.int .i64 d)))
    (focus (refine KS.out _ ?_; (repeat' (first | exact Below.refl _ _ | refine Below.drew ?_ | refine Below.alloc ?_ (by simp) _))))
    (first | (go_split_ands; go_at_call 58; (with_reducible refine (C1.out _).mono ?_); rintro e w5 ⟨rfl, rfl⟩) | (go_split_ands; go_at_call 58; (with_reducible refine (C2.out _).mono ?_); rintro e w5 ⟨rfl, rfl⟩) | (go_at_call 57; (with_reducible refine (or_any _ _ _ _ q0 q1).mono ?_); rintro e w6 ⟨rfl, rfl⟩) | fail)
  go_wp2
  go_ret
  exact ⟨by rw [HE.out] <;> rfl, below_next HB.out (by repeat' (first | exact Below.refl _ _ | refine Below.drew ?_ | refine Below.alloc ?_ (by simp) _))⟩
end Go.Proofs.Ytpagkeklilgknaa.Bo

/-
  Layer 4: long; a call out of a script; calls of no disk.
-/
import Derived.Test.YtjeemgcenmcplaaKp
import Derived.Test.YtjeemgcenmcplaaKo
namespace Go.Proofs.Ytjeemgcenmcplaa.Dk
open Go.RowKit Fo
set_option linter.unusedVariables false

/-! ### long -/
def costL (X : Nat → Opv) : Nat → Nat
  | 0 => 0
  | k + 1 => costL X k + ((X k).b.len + 64)
theorem costL_le (X : Nat → Opv) {k n : Nat} (h : k ≤ n) : costL X k ≤ costL X n := by
  induction n with
  | zero => have : k = 0 := by omega
            subst this; exact Nat.le_refl _
  | succ n ih =>
    rcases Nat.lt_or_ge k (n + 1) with h1 | h1
    · have := ih (by omega); simp only [costL]; omega
    · have : k = n + 1 := by omega
      subst this; exact Nat.le_refl _
theorem costL_len (X : Nat → Opv) : ∀ n, n * 64 ≤ costL X n
  | 0 => Nat.zero_le _
  | n + 1 => by have := costL_len X n; simp only [costL]; omega
theorem costL_one (X : Nat → Opv) {k n : Nat} (h : k < n) : (X k).b.len ≤ costL X n := by
  have := costL_le X (show k + 1 ≤ n from h); simp only [costL] at this; omega
def longB (X : Nat → Opv) (n : Nat) : Bool := decide (4194304 < costL X n)
theorem op_cells {w : World} {b off j : Nat} {x : Opv} (h : ∀ i, i < 6 → w.cell? ⟨b, off + (j * 6 + i), none⟩ = (opCells x)[i]?) :
    w.cell? ⟨b, off + j * 6, none⟩ = some (.int .i64 x.kind) ∧ w.cell? ⟨b, off + j * 6 + 1, none⟩ = some (.string x.f) ∧ w.cell? ⟨b, off + j * 6 + 2, none⟩ = some (.string x.g) ∧ w.cell? ⟨b, off + j * 6 + 3, none⟩ = some (.int .i64 x.n) ∧ w.cell? ⟨b, off + j * 6 + 4, none⟩ = some (.int .i64 x.k) ∧
      w.cell? ⟨b, off + j * 6 + 5, none⟩ = some (.slice x.b.a x.b.len x.b.cap) :=
  ⟨h 0 (by decide), by have := h 1 (by decide); rwa [← Nat.add_assoc] at this, by have := h 2 (by decide); rwa [← Nat.add_assoc] at this, by have := h 3 (by decide); rwa [← Nat.add_assoc] at this, by have := h 4 (by decide); rwa [← Nat.add_assoc] at this, by have := h 5 (by decide); rwa [← Nat.add_assoc] at this⟩
set_option maxRecDepth 100000 in
set_option maxHeartbeats 1600000 in
theorem long_any (a : Option Addr) (len cap : Nat) (X : Nat → Opv) (w : World) (ops : HasOps w a len X) :
    Calls Try.prog 5 #[.slice a len cap] w fun e w' => e = .returned (.bool (longB X len)) ∧ Below w.heap.size w w' := by
  have hm := ops.1
  have HO := Lib.hid ops
  clear ops
  go_enter Try.func5, Try.ntmps5
  go_wp2
  go_loopg [3, 8] len (fun m t i wr => ∃ k u : Nat, k + m = len ∧ i = .int .i64 (k : Int) ∧ t = .int .i64 (u : Int) ∧ Hid (costL X k = u) ∧ u ≤ 4194304 ∧ Hid (Below w.heap.size w wr))
  case atStart => exact ⟨0, 0, by omega, rfl, rfl, Lib.hid rfl, by decide, Lib.hid (Below.refl _ _)⟩
  case round =>
    obtain ⟨k, u, hk, rfl, rfl, HU, hu, HB⟩ := hrel
    by_cases hlt : k < len
    · have ho := HO.out.keep HB.out
      obtain ⟨b, off, e1, hc⟩ := ho.2.1 (by omega)
      obtain ⟨c0, c1, c2, c3, c4, c5⟩ := op_cells (hc k hlt)
      have hok := (ho.2.2 k hlt).row
      have hL := hok.le; have hC := hok.cap
      have hs : costL X (k + 1) = u + ((X k).b.len + 64) := by rw [← HU.out]; rfl
      have hle := costL_le X (show k + 1 ≤ len by omega)
      subst e1
      have HS := Lib.hid hs; have HLE := Lib.hid hle
      clear hc hok ho hs hle
      obtain ⟨L, hLL⟩ : ∃ L, (X k).b.len = L := ⟨_, rfl⟩
      rw [hLL] at c5 hL HS
      clear hLL
      generalize (X k).b.cap = rc at *
      generalize (X k).b.a = ra at *
      generalize (X k).kind = x0 at *
      generalize (X k).f = x1 at *
      generalize (X k).g = x2 at *
      generalize (X k).n = x3 at *
      generalize (X k).k = x4 at *
      have B1 : Hid (Below w.heap.size w (wr.alloc (.cells #[.int .i64 x0, .string x1, .string x2, .int .i64 x3, .int .i64 x4, .slice ra L rc] 31))) := HB.out.alloc HB.out.size _
      by_cases hbig : 4194304 < u + (L + 64)
      · have t1 : decide ((4194304 : Int) < (u : Int) + ((L : Int) + 64)) = true := by simp; omega
        have D : Hid (longB X len = true) := Lib.hid (by unfold longB; have := HLE.out; rw [HS.out] at this; simp; omega)
        go_wp2
        go_ret
        exact ⟨by rw [D.out] <;> rfl, B1.out⟩
      · have t1 : decide ((4194304 : Int) < (u : Int) + ((L : Int) + 64)) = false := by simp; omega
        go_wp2
        go_roundg (len - (k + 1))
        case measure => omega
        case rel => exact ⟨k + 1, u + (L + 64), by omega, by go_num, by go_num, HS, by omega, B1⟩
    · obtain rfl : len = k := by omega
      have D : Hid (longB X len = false) := Lib.hid (by unfold longB; rw [HU.out]; simp; omega)
      go_wp2
      go_ret
      exact ⟨by rw [D.out] <;> rfl, HB.out⟩

/-! ### a call out of a script -/
/-- What a call answers (bytes, an error), and what it leaves. -/
def doesS (x : Opv) (S : St) : (List Int × Int) × St :=
  if x.kind = 0 then (([], (appendS x.f.data.toList (x.b.zs.take x.b.len) S).1), (appendS x.f.data.toList (x.b.zs.take x.b.len) S).2)
  else if x.kind = 1 then (([], (syncS x.f.data.toList S).1), (syncS x.f.data.toList S).2)
  else if x.kind = 2 then (([], (truncS x.f.data.toList x.n S).1), (truncS x.f.data.toList x.n S).2)
  else if x.kind = 3 then (([], (renameS x.f.data.toList x.g.data.toList S).1), (renameS x.f.data.toList x.g.data.toList S).2)
  else if x.kind = 4 then (([], (removeS x.f.data.toList S).1), (removeS x.f.data.toList S).2)
  else if x.kind = 5 then ((readL x.f.data.toList S, there x.f.data.toList S), S)
  else if x.kind = 6 then (([], 0), { S with room := x.n })
  else if x.kind = 7 then (([], 0), armS x.n x.k S)
  else if x.kind = 8 then (([], 0), off x.k S)
  else if x.kind = 9 then (([], 0), { S with down := false })
  else (([], 0), S)
def DoesIt (w : World) (O : Nat → Prop) (d : Nat) (r : (List Int × Int) × St) (e : Ending) (w' : World) : Prop :=
  ∃ ad cap O', e = .returned (.tuple #[.slice ad r.1.1.length cap, .int .i64 r.1.2]) ∧ Fr.HasRow .u8 w' ad r.1.1.length r.1.1 ∧ (ad = none → cap = 0) ∧ r.1.1.length ≤ cap ∧ Step w O w' O' ∧ IsDisk w' O' d r.2
def argOf (x : Opv) : Value := .agg #[.int .i64 x.kind, .string x.f, .string x.g, .int .i64 x.n, .int .i64 x.k, .slice x.b.a x.b.len x.b.cap]
theorem none_row (w : World) : Fr.HasRow .u8 w none 0 [] := ⟨Nat.le_refl _, by decide, fun h => absurd h (by decide)⟩
theorem does_nil {w wa w' : World} {O : Nat → Prop} {d : Nat} {c : Int} {S' : St} (hb : Below w.heap.size w wa) (h : Has wa O d S' w') {r : (List Int × Int) × St} (e1 : r = (([], c), S')) : DoesIt w O d r (.returned (.tuple #[.slice none 0 0, .int .i64 c])) w' := by
  obtain ⟨O', h1, h2⟩ := h
  subst e1
  exact ⟨none, 0, O', rfl, none_row _, (fun _ => rfl), Nat.le_refl _, (Step.of (Turned.of_below hb)).trans h1, h2⟩
end Go.Proofs.Ytjeemgcenmcplaa.Dk

/-
  Layer 14: Held and Supply of the program, Short of both.
-/
import Derived.Test.YtnaelmddafhjlaaJc
namespace Go.Proofs.Ytnaelmddafhjlaa.Bo
open Go.RowKit Rw
set_option linter.unusedVariables false
set_option linter.unusedSimpArgs false

theorem getD_mid {α : Type} (L : List α) (y d : α) (R : List α) : (L ++ (y :: R)).getD L.length d = y := by simp [List.getD]
def heldO (o : Option Lo) : Int := match o with | none => 0 | some y => y.qty
set_option maxRecDepth 100000 in
set_option maxHeartbeats 2000000 in
theorem held_any (a : Option Addr) (len cap : Nat) (X L R : List Lo) (o : Option Lo) (c d : Int) (w : World) (h : Has encl w a X) (hl : X.length = len) (hm : len ≤ 4611686018427387903) (hd : Dec keyl X (c, d) L o R) :
    Calls Try.prog 15 #[.slice a len cap, .int .i64 c, .int .i64 d] w fun e w' => e = .returned (.int .i64 (heldO o)) ∧ Below w.heap.size w w' := by
  have hp := place_l a len cap X L R o c d w h hl hm hd
  have H := Lib.hid h
  cases o with
  | none =>
    clear h hd hl
    go_enter Try.func15, Try.ntmps15
    go_wp2_with (go_at_call 30; (with_reducible refine hp.mono ?_); rintro e w5 ⟨rfl, hb5⟩)
    go_ret
    exact ⟨rfl, hb5⟩
  | some y =>
    have hX : X = L ++ (y :: R) := hd.eq
    have hlt : L.length < X.length := hd.isSome_lt rfl
    have hg : X.getD L.length zl = y := by rw [hX]; exact getD_mid _ _ _ _
    obtain ⟨k, hk⟩ : ∃ k, k = L.length := ⟨_, rfl⟩
    rw [← hk] at hp hlt hg
    have i0 : (0 : Int) ≤ (k : Int) := by omega
    have i1 : (k : Int) < (len : Int) := by omega
    have HE : Hid (heldO (some y) = y.qty) := Lib.hid rfl
    have HC : Hid (∀ wx, Below w.heap.size w wx → ∃ b off, a = some ⟨b, off, none⟩ ∧ wx.cell? ⟨b, off + k * 3 + 2, none⟩ = some (.int .i64 y.qty)) := Lib.hid fun wx hb => by
      obtain ⟨b, off, e, _, _, c2⟩ := atl (H.out.keep hb) hlt
      rw [hg] at c2
      exact ⟨b, off, e, c2⟩
    obtain ⟨b, off, rfl, _⟩ := HC.out w (Below.refl _ _)
    clear h hd hl hX hg hlt hk
    go_enter Try.func15, Try.ntmps15
    go_wp2_with (go_at_call 30; (with_reducible refine hp.mono ?_); rintro e w5 ⟨rfl, hb5⟩; obtain ⟨b', off', e, c2⟩ := HC.out w5 hb5; cases e)
    go_ret
    exact ⟨by rw [HE.out] <;> rfl, hb5⟩

/-! ### Supply -/
def supE (Z : List Int) (i q : Int) : Int := if exB Z.length i = false then 32 else if qtyB q = false ∨ stockB (Z.getD i.toNat 0 + q) = false then 36 else 0
def supL (Z : List Int) (i q : Int) : List Int := if supE Z i q = 0 then Z.set i.toNat (Z.getD i.toNat 0 + q) else []
def SupIt (Z : List Int) (i q : Int) (w : World) (e : Ending) (w' : World) : Prop := ∃ v, e = .returned (.tuple #[v, .int .i64 (supE Z i q)]) ∧ Own encz w' w.heap.size v (supL Z i q) ∧ Below w.heap.size w w'
theorem ex_nat {n : Nat} {i : Int} (h : exB n i = true) : ∃ k : Nat, i = (k : Int) ∧ k < n := by
  obtain ⟨h1, h2⟩ := exB_iff.1 h
  exact ⟨i.toNat, by omega, by omega⟩
set_option maxRecDepth 100000 in
set_option maxHeartbeats 4000000 in
theorem sup_any (a : Option Addr) (len cap : Nat) (Z : List Int) (i q : Int) (w : World) (h : Has encz w a Z) (hl : Z.length = len) (hn : a = none → cap = 0) (hm : len * 8 ≤ 140737488351232) (hz : ∀ j, j < len → stockB (Z.getD j 0) = true) :
    Calls Try.prog 12 #[.slice a len cap, .int .i64 i, .int .i64 q] w (SupIt Z i q w) := by
  unfold SupIt
  have hex := exists_any a len cap i w (by omega)
  have hqq := quantity_any q w
  cases hE : exB len i with
  | false =>
    have HE : Hid (supE Z i q = 32) := Lib.hid (by simp [supE, hl, hE])
    have HL : Hid (supL Z i q = []) := Lib.hid (by unfold supL; rw [HE.out]; rfl)
    rw [hE] at hex
    rw [HE.out, HL.out]
    clear hE h hl hz
    go_enter Try.func12, Try.ntmps12
    go_wp2_with (go_at_call 24; (with_reducible refine hex.mono ?_); rintro e w5 ⟨rfl, rfl⟩)
    go_ret2
    exact ⟨_, rfl, Own.nil _ _, Below.refl _ _⟩
  | true =>
  rw [hE] at hex
  obtain ⟨k, rfl, hk⟩ := ex_nat hE
  cases hQ : qtyB q with
  | false =>
    have HE : Hid (supE Z (k : Int) q = 36) := Lib.hid (by simp [supE, hl, hE, hQ])
    have HL : Hid (supL Z (k : Int) q = []) := Lib.hid (by unfold supL; rw [HE.out]; rfl)
    rw [hQ] at hqq
    rw [HE.out, HL.out]
    clear hE h hl hz hQ
    go_enter Try.func12, Try.ntmps12
    go_wp2_with (first | (go_at_call 24; (with_reducible refine hex.mono ?_); rintro e w5 ⟨rfl, rfl⟩) | (go_at_call 27; (with_reducible refine hqq.mono ?_); rintro e w5 ⟨rfl, rfl⟩))
    go_ret2
    exact ⟨_, rfl, Own.nil _ _, Below.refl _ _⟩
  | true =>
  rw [hQ] at hqq
  obtain ⟨b, off, rfl, c0⟩ := atz h (show k < Z.length by rw [hl]; exact hk)
  have hzk := hz k hk
  obtain ⟨z, hzz⟩ : ∃ z, Z.getD k 0 = z := ⟨_, rfl⟩
  rw [hzz] at c0 hzk
  obtain ⟨z1, z2⟩ := stockB_iff.1 hzk
  obtain ⟨q1, q2⟩ := qtyB_iff.1 hQ
  obtain ⟨t, ht⟩ : ∃ t, z + q = t := ⟨_, rfl⟩
  have iw : IntKind.i64.wrap (z + q) = t := by rw [← ht]; exact IntWalk.i64_in _ (by omega)
  have hst := stock_any t w
  have i0 : (0 : Int) ≤ (k : Int) := by omega
  have i1 : (k : Int) < (len : Int) := by omega
  cases hT : stockB t with
  | false =>
    have HE : Hid (supE Z (k : Int) q = 36) := Lib.hid (by unfold supE; rw [hl, hE, hQ, Int.toNat_natCast, hzz, ht, hT]; rfl)
    have HL : Hid (supL Z (k : Int) q = []) := Lib.hid (by unfold supL; rw [HE.out]; rfl)
    rw [hT] at hst
    rw [HE.out, HL.out]
    clear hE h hl hz hQ hzk hzz ht hT
    go_enter Try.func12, Try.ntmps12
    go_wp2_with (first | (go_at_call 24; (with_reducible refine hex.mono ?_); rintro e w5 ⟨rfl, rfl⟩) | (go_at_call 27; (with_reducible refine hqq.mono ?_); rintro e w5 ⟨rfl, rfl⟩) | (go_at_call 23; (with_reducible refine hst.mono ?_); rintro e w5 ⟨rfl, rfl⟩))
    go_ret2
    exact ⟨_, rfl, Own.nil _ _, Below.refl _ _⟩
  | true =>
    have HE : Hid (supE Z (k : Int) q = 0) := Lib.hid (by unfold supE; rw [hl, hE, hQ, Int.toNat_natCast, hzz, ht, hT]; rfl)
    have HL : Hid (supL Z (k : Int) q = Z.set k t) := Lib.hid (by unfold supL; rw [HE.out, if_pos rfl, Int.toNat_natCast, hzz, ht])
    rw [hT] at hst
    rw [HE.out, HL.out]
    have HP := Lib.hid (plus_any (some ⟨b, off, none⟩) len cap k q t Z w h hl (fun e => by cases e) hm hk (by rw [hzz]; exact iw))
    clear hE h hl hz hQ hzk hzz ht hT
    go_enter Try.func12, Try.ntmps12
    go_wp2_with (first | (go_at_call 24; (with_reducible refine hex.mono ?_); rintro e w5 ⟨rfl, rfl⟩) | (go_at_call 27; (with_reducible refine hqq.mono ?_); rintro e w5 ⟨rfl, rfl⟩) | (go_at_call 23; (with_reducible refine hst.mono ?_); rintro e w5 ⟨rfl, rfl⟩) | (go_at_call 28; (with_reducible refine HP.out.mono ?_); rintro e w6 ⟨v6, rfl, ho6, hb6⟩; have HO6 := Lib.hid ho6; clear ho6))
    go_ret2
    exact ⟨_, rfl, HO6.out, hb6⟩

/-! ### Short -/
def shortS (p s q : Int) : Int := if 0 ≤ q then 0 else if s - q - p < 0 then 0 else s - q - p
theorem short_any (p s q : Int) (w : World) (p1 : -1000000000 ≤ p) (p2 : p ≤ 1000000000) (s1 : 0 ≤ s) (s2 : s ≤ 1099511627776) (q1 : -1000000000 ≤ q) :
    Calls Try.prog 20 #[.int .i64 p, .int .i64 s, .int .i64 q] w fun e w' => e = .returned (.int .i64 (shortS p s q)) ∧ w = w' := by
  by_cases h0 : 0 ≤ q
  · have HE : Hid (shortS p s q = 0) := Lib.hid (if_pos h0)
    go_enter Try.func20, Try.ntmps20
    go_wp2
    go_ret
    exact ⟨by rw [HE.out] <;> rfl, rfl⟩
  · obtain ⟨t, ht⟩ : ∃ t, s - q - p = t := ⟨_, rfl⟩
    have i1 : IntKind.i64.wrap (s - q) = s - q := IntWalk.i64_in _ (by omega)
    have i2 : IntKind.i64.wrap (s - q - p) = t := by rw [← ht]; exact IntWalk.i64_in _ (by omega)
    by_cases h1 : t < 0
    · have HE : Hid (shortS p s q = 0) := Lib.hid (by unfold shortS; rw [if_neg h0, if_pos (by rw [ht]; exact h1)])
      have im : max (0 : Int) t = 0 := by omega
      clear ht
      go_enter Try.func20, Try.ntmps20
      go_wp2
      all_goals
        go_ret
        exact ⟨by rw [HE.out] <;> first | rfl | simp [im] | (congr 2; omega), rfl⟩
    · have HE : Hid (shortS p s q = t) := Lib.hid (by unfold shortS; rw [if_neg h0, if_neg (by rw [ht]; exact h1), ht])
      clear ht
      rcases (show t = 0 ∨ 0 < t by omega) with h2 | h2
      · subst h2
        go_enter Try.func20, Try.ntmps20
        go_wp2
        all_goals
          go_ret
          exact ⟨by rw [HE.out] <;> rfl, rfl⟩
      · clear h1
        go_enter Try.func20, Try.ntmps20
        go_wp2
        all_goals
          go_ret
          exact ⟨by rw [HE.out] <;> rfl, rfl⟩
theorem rshort_any (p s q : Int) (w : World) (p1 : -1000000000 ≤ p) (p2 : p ≤ 1000000000) (s1 : 0 ≤ s) (s2 : s ≤ 1099511627776) (q1 : -1000000000 ≤ q) :
    Calls Try.prog 21 #[.int .i64 p, .int .i64 s, .int .i64 q] w fun e w' => e = .returned (.int .i64 (shortS p s q)) ∧ w = w' := by
  by_cases h0 : 0 ≤ q
  · have HE : Hid (shortS p s q = 0) := Lib.hid (if_pos h0)
    go_enter Try.func21, Try.ntmps21
    go_wp2
    go_ret
    exact ⟨by rw [HE.out] <;> rfl, rfl⟩
  · obtain ⟨t, ht⟩ : ∃ t, s - q - p = t := ⟨_, rfl⟩
    have i1 : IntKind.i64.wrap (s - q) = s - q := IntWalk.i64_in _ (by omega)
    have i2 : IntKind.i64.wrap (s - q - p) = t := by rw [← ht]; exact IntWalk.i64_in _ (by omega)
    by_cases h1 : t < 0
    · have HE : Hid (shortS p s q = 0) := Lib.hid (by unfold shortS; rw [if_neg h0, if_pos (by rw [ht]; exact h1)])
      clear ht
      go_enter Try.func21, Try.ntmps21
      go_wp2
      go_ret
      exact ⟨by rw [HE.out] <;> rfl, rfl⟩
    · have HE : Hid (shortS p s q = t) := Lib.hid (by unfold shortS; rw [if_neg h0, if_neg (by rw [ht]; exact h1), ht])
      clear ht
      go_enter Try.func21, Try.ntmps21
      go_wp2
      go_ret
      exact ⟨by rw [HE.out] <;> rfl, rfl⟩
end Go.Proofs.Ytnaelmddafhjlaa.Bo

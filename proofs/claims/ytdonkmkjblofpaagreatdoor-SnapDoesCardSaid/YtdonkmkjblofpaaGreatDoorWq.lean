/-
  Layer 5: the law's same and alike.
-/
import Derived.Test.YtdonkmkjblofpaaGreatDoorWo
import Derived.Test.YtdonkmkjblofpaaGreatDoorKk
import Derived.Deep.RegionHeld3
namespace Go.Proofs.YtdonkmkjblofpaaGreatDoor.Wl
open Go.RowKit Go.Sort Dx Sx Dk
set_option linter.unusedVariables false
set_option linter.unusedSimpArgs false
set_option maxRecDepth 100000 in
set_option maxHeartbeats 1000000 in
theorem wsame_any (a : Option Addr) (la ca : Nat) (za : List Int) (b : Option Addr) (lb cb : Nat) (zb : List Int) (w : World) (ra : Fr.HasRow .u8 w a la za) (rb : Fr.HasRow .u8 w b lb zb) :
    Calls Tryz.prog 13 #[.slice a la ca, .slice b lb cb] w fun e w' => e = .returned (.bool (sameB (za.take la) (zb.take lb))) ∧ Below w.heap.size w w' := by
  have lA := Dk.take_len ra; have lB := Dk.take_len rb
  have hm := ra.2.1; have hm2 := rb.2.1
  by_cases hl : la = lb
  · subst hl
    have RA := Lib.hid ra; have RB := Lib.hid rb; have LA := Lib.hid lA; have LB := Lib.hid lB
    clear ra rb lA lB hm2
    go_enter Tryz.func13, Tryz.ntmps13
    go_wp2
    go_loopg [13] la (fun m i wr => ∃ k : Nat, k + m = la ∧ i = .int .i64 (k : Int) ∧ Hid (∀ j, j < k → za.getD j 0 = zb.getD j 0) ∧ Hid (Below w.heap.size w wr))
    case atStart => exact ⟨0, by omega, rfl, Lib.hid fun j hj => absurd hj (Nat.not_lt_zero _), Lib.hid (Below.refl _ _)⟩
    case round =>
      obtain ⟨k, hk, rfl, HP, HB⟩ := hrel
      by_cases hlt : k < la
      · obtain ⟨b1, o1, e1, hc1⟩ := (RA.out.keep HB.out).2.2 (by omega)
        obtain ⟨b2, o2, e2, hc2⟩ := (RB.out.keep HB.out).2.2 (by omega)
        have c1 := hc1 k hlt; have c2 := hc2 k hlt
        have hne := fun h => sameB_ne hlt LA.out LB.out (k := k) h
        have hp := HP.out
        by_cases hxy : za.getD k 0 = zb.getD k 0
        · have hp2 : ∀ j, j < k + 1 → za.getD j 0 = zb.getD j 0 := fun j hj => by
            rcases Nat.lt_or_ge j k with h | h
            · exact hp j h
            · have : j = k := by omega
              subst this; exact hxy
          rw [hxy] at c1
          subst e1 e2
          have HP2 := Lib.hid hp2
          generalize zb.getD k 0 = y at *
          clear hc1 hc2 hne hp hp2 hxy
          go_wp2
          go_quiet (fail)
          go_wp2
          go_roundg (la - (k + 1))
          case measure => omega
          case rel => exact ⟨k + 1, by omega, by go_num, HP2, Lib.hid (below_drewN HB.out _)⟩
        · have hf := hne hxy
          have HF := Lib.hid hf
          obtain ⟨x, hx⟩ : ∃ x, za.getD k 0 = x := ⟨_, rfl⟩
          obtain ⟨y, hy⟩ : ∃ y, zb.getD k 0 = y := ⟨_, rfl⟩
          rw [hx] at c1 hxy; rw [hy] at c2 hxy
          have t1 : (x == y) = false := by simpa using hxy
          have t2 : (x != y) = true := by simpa using hxy
          subst e1 e2
          clear hc1 hc2 hne hp hf hx hy hxy
          go_wp2
          go_quiet (fail)
          go_wp2
          go_ret
          exact ⟨by rw [HF.out] <;> rfl, below_drewN HB.out _⟩
      · have hkl : k = la := by omega
        have ht : sameB (za.take la) (zb.take la) = true := sameB_eq LA.out LB.out (by rw [← hkl]; exact HP.out)
        have HT := Lib.hid ht
        clear ht hkl
        go_wp2
        go_ret
        exact ⟨by rw [HT.out] <;> rfl, HB.out⟩
  · have hf : sameB (za.take la) (zb.take lb) = false := sameB_len (by rw [lA, lB]; exact hl)
    have t1 : ((la : Int) == (lb : Int)) = false := by simp; omega
    have t2 : (la == lb) = false := by simpa using hl
    have t3 : ((la : Int) != (lb : Int)) = true := by simp; omega
    have HF := Lib.hid hf
    clear ra rb lA lB hf hl
    go_enter Tryz.func13, Tryz.ntmps13
    go_wp2
    go_ret
    exact ⟨by rw [HF.out] <;> rfl, Below.refl _ _⟩

/-- One of the records in memory. -/
theorem was_at {N : Nat} {w : World} {R : List (List Int)} {n i : Nat} {a : Option Addr} {cp : Nat} (h : WasOk N w R n (.slice a n cp)) (hi : i < n) :
    ∃ g ad c, a = some ⟨g, 0, none⟩ ∧ w.cell? ⟨g, i, none⟩ = some (.slice ad (R.getD i []).length c) ∧ Fr.HasRow .u8 w ad (R.getD i []).length (R.getD i []) := by
  obtain ⟨vs, h1, h2⟩ := h
  obtain ⟨u, e, hu⟩ := h2 i hi
  obtain ⟨ad, c, rfl, hr, _, _, _⟩ := Ob.own_row hu
  have h1' := h1
  rcases h1.2 with ⟨_, h0⟩ | ⟨g, cap, cur, ev, hb, hh, k1, k2, k3, k4⟩
  · omega
  · injection ev with e1 e2 e3
    subst e1 e3
    exact ⟨g, ad, c, rfl, by rw [World.ownsRow.cellAt h1' i (by omega)]; exact e, hr⟩
theorem wsame_self {ad ad' : Option Addr} {l c c' : Nat} {r : List Int} {w : World} (h : Fr.HasRow .u8 w ad l r) (h' : Fr.HasRow .u8 w ad' l r) : Calls Tryz.prog 13 #[.slice ad l c, .slice ad' l c'] w fun e w' => e = .returned (.bool true) ∧ Below w.heap.size w w' := by
  have := wsame_any ad l c r ad' l c' r w h h'
  rwa [sameB_self] at this
set_option maxRecDepth 100000 in
set_option maxHeartbeats 1600000 in
theorem alike_any {N M : Nat} {R : List (List Int)} {n : Nat} {a b : Option Addr} {ca cb : Nat} {w : World} (hn : n ≤ 9223372036854775807) (hv : WasOk N w R n (.slice a n ca)) (hu : WasOk M w R n (.slice b n cb)) :
    Calls Tryz.prog 14 #[.slice a n ca, .slice b n cb] w fun e w' => e = .returned (.bool true) ∧ Below w.heap.size w w' := by
  have HV := Lib.hid hv; have HU := Lib.hid hu
  clear hv hu
  go_enter Tryz.func14, Tryz.ntmps14
  go_wp2
  go_loopg [13] n (fun m i wr => ∃ k : Nat, k + m = n ∧ i = .int .i64 (k : Int) ∧ Hid (Below w.heap.size w wr))
  case atStart => exact ⟨0, by omega, rfl, Lib.hid (Below.refl _ _)⟩
  case round =>
    obtain ⟨k, hk, rfl, HB⟩ := hrel
    by_cases hlt : k < n
    · obtain ⟨g1, d1, p1, rfl, c1, r1⟩ := was_at (HV.out.keep (KeepHi.of_below HB.out)) hlt
      obtain ⟨g2, d2, p2, rfl, c2, r2⟩ := was_at (HU.out.keep (KeepHi.of_below HB.out)) hlt
      obtain ⟨r, hr⟩ : ∃ r, R.getD k [] = r := ⟨_, rfl⟩
      obtain ⟨l, hl⟩ : ∃ l, r.length = l := ⟨_, rfl⟩
      rw [hr] at c1 c2 r1 r2
      rw [hl] at c1 c2 r1 r2
      have K : Hid (∀ wx, Below wr.heap.size wr wx → Below wr.heap.size wr wx ∧ wx.cell? ⟨g1, k, none⟩ = some (.slice d1 l p1) ∧ wx.cell? ⟨g2, k, none⟩ = some (.slice d2 l p2)) := Lib.hid fun wx hb => ⟨hb, (hb.cell (Fr.lt_of_cell c1)).trans c1, (hb.cell (Fr.lt_of_cell c2)).trans c2⟩
      have SM : Hid (Calls Tryz.prog 13 #[.slice d1 l p1, .slice d2 l p2] wr.drew fun e w' => e = .returned (.bool true) ∧ Below wr.heap.size wr w') := Lib.hid ((wsame_self (r1.keep (Below.refl _ _).drew) (r2.keep (Below.refl _ _).drew)).mono fun e w' ⟨h1, h2⟩ => ⟨h1, ((Below.refl _ _).drew).trans h2⟩)
      have tk : decide ((k : Int) < (n : Int)) = true := by rw [decide_eq_true_eq]; omega
      have k0 : (0 : Int) ≤ (k : Int) := by omega
      have k1 : (k : Int) < (n : Int) := by omega
      clear r1 r2 hr hl
      go_upto_region 6 with (fail)
      go_region_held3 (fun wx => Below wr.heap.size wr wx ∧ wx.cell? ⟨g1, k, none⟩ = some (.slice d1 l p1) ∧ wx.cell? ⟨g2, k, none⟩ = some (.slice d2 l p2))
        (first | exact K.out _ (Below.refl _ _).drew | exact K.out _ (Below.refl _ _) | exact K.out _ (by assumption))
        (first | (go_at_call 13; (with_reducible refine SM.out.mono ?_); rintro e w5 ⟨rfl, hb5⟩))
      go_split_ands
      go_wp2
      go_roundg (n - (k + 1))
      case measure => omega
      case rel => exact ⟨k + 1, by omega, by go_num, Lib.hid (HB.out.trans ((by assumption : Below wr.heap.size wr _).mono HB.out.size))⟩
    · have tk : decide ((k : Int) < (n : Int)) = false := by rw [decide_eq_false_iff_not]; omega
      go_wp2
      go_ret
      exact ⟨rfl, HB.out⟩
end Go.Proofs.YtdonkmkjblofpaaGreatDoor.Wl

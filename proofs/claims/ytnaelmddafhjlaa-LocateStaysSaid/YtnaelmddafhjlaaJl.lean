/-
  Layer 14: the reference's Held, Supply and Reserve. (Written by gen_jl.py.)
-/
import Derived.Test.YtnaelmddafhjlaaJg
import Derived.Test.YtnaelmddafhjlaaIk
namespace Go.Proofs.Ytnaelmddafhjlaa.Bo
open Go.RowKit Rw
set_option linter.unusedVariables false
set_option linter.unusedSimpArgs false

set_option maxRecDepth 100000 in
set_option maxHeartbeats 4000000 in
theorem rheld_any (a : Option Addr) (len cap : Nat) (X L R : List Lo) (o : Option Lo) (c d : Int) (w : World) (h : Has encl w a X) (hl : X.length = len) (hd : Dec keyl X (c, d) L o R) :
    Calls Try.prog 16 #[.slice a len cap, .int .i64 c, .int .i64 d] w fun e w' => e = .returned (.int .i64 (heldO o)) ∧ Below w.heap.size w w' := by
  have hm := h.1
  rw [hl] at hm
  have H := Lib.hid h; have HL := Lib.hid hl
  have HEQ : Hid (∀ j, j < len → j ≤ L.length → (o.isSome = true → (j = L.length → (X.getD j zl).acct = c ∧ (X.getD j zl).instr = d ∧ (X.getD j zl).qty = heldO o)) ∧ ((o.isSome = true ∧ j = L.length) ∨ (X.getD j zl).acct ≠ c ∨ (X.getD j zl).instr ≠ d)) := Lib.hid fun j h1 h2 => by
    refine ⟨fun h3 h4 => ?_, ?_⟩
    · subst h4
      cases o with
      | none => cases h3
      | some y =>
        obtain ⟨e1, e2, e3⟩ := hd.at_key (d := zl)
        rw [e1]
        exact ⟨e2, e3, rfl⟩
    · rcases Nat.lt_or_ge j L.length with h3 | h3
      · have : (X.getD j zl).acct < c ∨ ((X.getD j zl).acct = c ∧ (X.getD j zl).instr < d) := hd.lt_lo (d := zl) h3
        exact .inr (by omega)
      · cases o with
        | some y => exact .inl ⟨rfl, by omega⟩
        | none =>
          have : c < (X.getD j zl).acct ∨ (c = (X.getD j zl).acct ∧ d < (X.getD j zl).instr) := hd.lt_hi (d := zl) h3 (by rw [hl]; exact h1)
          exact .inr (by omega)
  have HHI : Hid (∀ j, j < len → L.length < j → (X.getD j zl).acct ≠ c ∨ (X.getD j zl).instr ≠ d) := Lib.hid fun j h1 h2 => by
    have : c < (X.getD j zl).acct ∨ (c = (X.getD j zl).acct ∧ d < (X.getD j zl).instr) := hd.lt_hi (d := zl) (by cases o <;> simp <;> omega) (by rw [hl]; exact h1)
    omega
  have HNO : Hid (o.isSome = false → heldO o = 0) := Lib.hid fun h => by
    cases o with
    | none => rfl
    | some y => cases h
  have HLT : Hid (o.isSome = true → L.length < len) := Lib.hid fun h1 => by rw [← hl]; exact hd.isSome_lt h1
  clear h hl hd
  generalize heldO o = QQ at *
  generalize o.isSome = B at *
  generalize L.length = P at *
  go_enter Try.func16, Try.ntmps16
  go_wp2
  go_loopg [11] len (fun m i wr => ∃ k : Nat, k + m = len ∧ i = .int .i64 (k : Int) ∧ Hid (B = true → k ≤ P) ∧ Hid (Below w.heap.size w wr))
  case atStart => exact ⟨0, by omega, rfl, Lib.hid (fun _ => Nat.zero_le _), Lib.hid (Below.refl _ _)⟩
  case round =>
    obtain ⟨k, hk, rfl, HK, HB⟩ := hrel
    by_cases hlt : k < len
    · obtain ⟨b, off, rfl, c0, c1, c2⟩ := atl (H.out.keep HB.out) (show k < X.length by rw [HL.out]; exact hlt)
      have hcase : Hid ((B = true ∧ k = P ∧ (X.getD k zl).acct = c ∧ (X.getD k zl).instr = d ∧ (X.getD k zl).qty = QQ) ∨ ((B = true → k + 1 ≤ P) ∧ ((X.getD k zl).acct ≠ c ∨ (X.getD k zl).instr ≠ d))) := Lib.hid (by
        rcases Nat.lt_or_ge P k with h1 | h1
        · exact .inr ⟨fun h2 => by have := HK.out h2; omega, HHI.out k hlt h1⟩
        · obtain ⟨h2, h3⟩ := HEQ.out k hlt h1
          rcases h3 with ⟨h3, h4⟩ | h3
          · exact .inl ⟨h3, h4, h2 h3 h4⟩
          · by_cases h5 : B = true ∧ k = P
            · obtain ⟨e1, e2, _⟩ := h2 h5.1 h5.2
              omega
            · exact .inr ⟨fun h6 => by have : k ≠ P := fun e => h5 ⟨h6, e⟩; omega, h3⟩)
      generalize X.getD k zl = x at *
      have i1 : (0 : Int) ≤ (k : Int) := by omega
      have i2 : (k : Int) < (len : Int) := by omega
      obtain ⟨g, hg⟩ : ∃ g, g = wr.heap.size := ⟨_, rfl⟩
      obtain ⟨W1, hW1⟩ : ∃ W1, W1 = wr.alloc (.cells #[.int .i64 x.acct, .int .i64 x.instr, .int .i64 x.qty] 42) := ⟨_, rfl⟩
      have x0 : Blk W1 g #[.int .i64 x.acct, .int .i64 x.instr, .int .i64 x.qty] 42 := by rw [hW1, hg]; exact Blk.new wr _ _
      have hb1 : Below wr.heap.size wr W1 := by rw [hW1]; exact one_alloc _ _
      have HG := Lib.hid hg; have HW1 := Lib.hid hW1; have HX0 := Lib.hid x0; have Hb1 := Lib.hid hb1
      have hsz1 : W1.heap.size = wr.heap.size + 1 := by rw [hW1]; simp
      have HSZ := Lib.hid hsz1
      clear hW1 x0 hb1 hsz1
      have d0 : W1.cell? ⟨g, 0, none⟩ = some (.int .i64 x.acct) := HX0.out.cell 0
      have d1 : W1.cell? ⟨g, 1, none⟩ = some (.int .i64 x.instr) := HX0.out.cell 1
      have d2 : W1.cell? ⟨g, 2, none⟩ = some (.int .i64 x.qty) := HX0.out.cell 2
      clear hg
      go_upto_region 4 with (fail)
      rw [← HG.out, ← HW1.out]
      have HB1 := Lib.hid (below_next HB.out Hb1.out)
      clear HEQ HHI HNO HLT
      rcases hcase.out with ⟨h1, h2, e1, e2, e3⟩ | ⟨h1, h2⟩
      · have b1 : (x.acct == c) = true := beq_iff_eq.2 e1
        have b2 : (x.instr == d) = true := beq_iff_eq.2 e2
        have HE := Lib.hid e3
        clear hcase e1 e2 e3 h1 h2
        go_wp2
        go_ret
        exact ⟨by rw [← HE.out] <;> rfl, HB1.out⟩
      · by_cases e1 : x.acct = c
        · have b1 : (x.acct == c) = true := beq_iff_eq.2 e1
          have b2 : (x.instr == d) = false := beq_eq_false_iff_ne.2 (by omega)
          have HK2 := Lib.hid h1
          clear hcase h1 h2 e1
          go_wp2
          go_roundg (len - (k + 1))
          case measure => omega
          case rel => exact ⟨k + 1, by omega, by go_num, HK2, HB1⟩
        · have b1 : (x.acct == c) = false := beq_eq_false_iff_ne.2 e1
          have HK2 := Lib.hid h1
          clear hcase h1 h2 e1
          go_wp2
          go_roundg (len - (k + 1))
          case measure => omega
          case rel => exact ⟨k + 1, by omega, by go_num, HK2, HB1⟩
    · have HE : Hid (QQ = 0) := Lib.hid (HNO.out (by
        cases hB : B with
        | false => rfl
        | true => have h1 := HK.out hB; have h2 := HLT.out hB; omega))
      go_wp2
      go_ret
      exact ⟨by rw [HE.out] <;> rfl, HB.out⟩
def RResIt (Z : List Int) (n : Nat) (L : List Lo) (o : Option Lo) (R : List Lo) (c i q : Int) (w : World) (e : Ending) (w' : World) : Prop :=
  ∃ v u, e = .returned (.tuple #[v, u, .int .i64 (resE Z n o i q)]) ∧ Own encz w' w.heap.size v (resZ Z n o i q) ∧ Own encl w' w.heap.size u (resX Z n L o R c i q) ∧ Below w.heap.size w w'
theorem one_alloc' {W : World} {N : Nat} {o : Obj} (h : N ≤ W.heap.size) : Below N W (W.alloc o) := (Below.refl _ _).alloc h _
theorem made_z (w : World) : Own encz (w.alloc (.cells #[] 3)) w.heap.size (.slice (some ⟨w.heap.size, 0, none⟩) 0 0) [] := Own.made w _ (Nat.le_refl _)
theorem resO_no {c i s : Int} (h : s = 0) : resO c i s = none := if_pos h
theorem resO_yes {c i s : Int} (h : ¬ s = 0) : resO c i s = some ⟨c, i, s⟩ := if_neg h
set_option maxRecDepth 100000 in
set_option maxHeartbeats 16000000 in
theorem rres_any (a0 : Option Addr) (len0 cap0 : Nat) (Z : List Int) (a1 : Option Addr) (len1 cap1 : Nat) (X L R : List Lo) (o : Option Lo) (c i q : Int) (w : World)
    (h0 : Has encz w a0 Z) (hl0 : Z.length = len0) (hm0 : len0 * 8 ≤ 140737488351232)
    (hh1 : Has encl w a1 X) (hl1 : X.length = len1) (hm1 : len1 ≤ 900)
    (hd : Dec keyl X (c, i) L o R) (hz : ∀ j, j < len0 → stockB (Z.getD j 0) = true) (hq : ∀ y, o = some y → stockB y.qty = true) :
    Calls Try.prog 18 #[.slice a0 len0 cap0, .slice a1 len1 cap1, .int .i64 c, .int .i64 i, .int .i64 q] w (RResIt Z X.length L o R c i q w) := by
  unfold RResIt
  by_cases hi0 : i < 0
  · have hE : exB Z.length i = false := by unfold exB; rw [decide_eq_false (by omega), Bool.false_and]
    have HE : Hid (resE Z X.length o i q = 32) := Lib.hid (by unfold resE; rw [hE]; rfl)
    rw [HE.out, resZ_no (by rw [HE.out]; decide), resX_no (by rw [HE.out]; decide)]
    clear h0 hh1 hd hz hq hE
    go_enter Try.func18, Try.ntmps18
    go_wp2
    go_ret3
    exact ⟨_, _, rfl, Own.nil _ _, Own.nil _ _, Below.refl _ _⟩
  by_cases hi1 : (len0 : Int) ≤ i
  · have hE : exB Z.length i = false := by unfold exB; rw [hl0, decide_eq_false (show ¬ i < (len0 : Int) by omega), Bool.and_false]
    have HE : Hid (resE Z X.length o i q = 32) := Lib.hid (by unfold resE; rw [hE]; rfl)
    rw [HE.out, resZ_no (by rw [HE.out]; decide), resX_no (by rw [HE.out]; decide)]
    clear h0 hh1 hd hz hq hE
    go_enter Try.func18, Try.ntmps18
    go_wp2
    go_ret3
    exact ⟨_, _, rfl, Own.nil _ _, Own.nil _ _, Below.refl _ _⟩
  obtain ⟨k, hik⟩ : ∃ k : Nat, i = (k : Int) := ⟨i.toNat, by omega⟩
  subst hik
  have hk : k < len0 := by omega
  have hkp : exB Z.length (k : Int) = true := by rw [hl0]; exact exB_iff.2 ⟨by omega, by omega⟩
  have hzk := hz k hk
  obtain ⟨z, hzz⟩ : ∃ z, Z.getD k 0 = z := ⟨_, rfl⟩
  rw [hzz] at hzk
  obtain ⟨z1, z2⟩ := stockB_iff.1 hzk
  have HZC : Hid (∀ wx, Below w.heap.size w wx → ∃ b off, a0 = some ⟨b, off, none⟩ ∧ wx.cell? ⟨b, off + k, none⟩ = some (.int .i64 z)) := Lib.hid fun wx hb => by
    obtain ⟨b, off, e, c0⟩ := atz (h0.keep hb) (show k < Z.length by rw [hl0]; exact hk)
    rw [hzz] at c0
    exact ⟨b, off, e, c0⟩
  obtain ⟨b0, off0, ea0, _⟩ := HZC.out w (Below.refl _ _)
  subst ea0
  have h1y : 0 ≤ heldO o ∧ heldO o ≤ 1000000000 := by
    cases o with
    | none => exact ⟨by decide, by decide⟩
    | some y => exact stockB_iff.1 (hq y rfl)
  obtain ⟨hO, hhO⟩ : ∃ hO, heldO o = hO := ⟨_, rfl⟩
  rw [hhO] at h1y
  have hh := rheld_any a1 len1 cap1 X L R o c (k : Int) w hh1 hl1 hd
  rw [hhO] at hh
  obtain ⟨s, hs⟩ : ∃ s, IntKind.i64.wrap (hO + q) = s := ⟨_, rfl⟩
  cases hQ : qtyB q with
  | false =>
    have HQQ : Hid (∀ wx, Calls Try.prog 29 #[.int .i64 q] wx fun e w' => e = .returned (.bool false) ∧ wx = w') := Lib.hid fun wx => by
      have := bound_any q wx
      rwa [hQ] at this
    have HE : Hid (resE Z X.length o (k : Int) q = 36) := Lib.hid (by simp [resE, hkp, hQ])
    rw [HE.out, resZ_no (by rw [HE.out]; decide), resX_no (by rw [HE.out]; decide)]
    clear h0 hh1 hd hz hq hzk hQ h1y hkp
    go_enter Try.func18, Try.ntmps18
    go_wp2_with (first | (go_at_call 16; (with_reducible refine hh.mono ?_); rintro e w3 ⟨rfl, hb3⟩; obtain ⟨b', off', e', c0⟩ := HZC.out w3 hb3; cases e'; have B3 := Lib.hid hb3; clear hb3) | (go_at_call 29; (with_reducible refine (HQQ.out _).mono ?_); rintro e w5 ⟨rfl, rfl⟩))
    go_ret3
    exact ⟨_, _, rfl, Own.nil _ _, Own.nil _ _, B3.out⟩
  | true =>
  have HQQ : Hid (∀ wx, Calls Try.prog 29 #[.int .i64 q] wx fun e w' => e = .returned (.bool true) ∧ wx = w') := Lib.hid fun wx => by
    have := bound_any q wx
    rwa [hQ] at this
  obtain ⟨q1, q2⟩ := qtyB_iff.1 hQ
  have hs2 : heldO o + q = s := by rw [← hs, hhO]; exact (IntWalk.i64_in _ (by omega)).symm
  cases hS : stockB s with
  | false =>
    have HST : Hid (∀ wx, Calls Try.prog 26 #[.int .i64 s] wx fun e w' => e = .returned (.bool false) ∧ wx = w') := Lib.hid fun wx => by
      have := fits_any s wx
      rwa [hS] at this
    have HE : Hid (resE Z X.length o (k : Int) q = 36) := Lib.hid (by simp only [resE, hkp, hQ, hs2, hS]; rfl)
    rw [HE.out, resZ_no (by rw [HE.out]; decide), resX_no (by rw [HE.out]; decide)]
    clear h0 hh1 hd hz hq hzk hQ h1y hkp hS hs2
    go_enter Try.func18, Try.ntmps18
    go_wp2_with (first | (go_at_call 16; (with_reducible refine hh.mono ?_); rintro e w3 ⟨rfl, hb3⟩; obtain ⟨b', off', e', c0⟩ := HZC.out w3 hb3; cases e'; have B3 := Lib.hid hb3; clear hb3) | (go_at_call 29; (with_reducible refine (HQQ.out _).mono ?_); rintro e w5 ⟨rfl, rfl⟩) | (go_at_call 26; (with_reducible refine (HST.out _).mono ?_); rintro e w5 ⟨rfl, rfl⟩))
    go_ret3
    exact ⟨_, _, rfl, Own.nil _ _, Own.nil _ _, B3.out⟩
  | true =>
  have HST : Hid (∀ wx, Calls Try.prog 26 #[.int .i64 s] wx fun e w' => e = .returned (.bool true) ∧ wx = w') := Lib.hid fun wx => by
    have := fits_any s wx
    rwa [hS] at this
  obtain ⟨s1, s2⟩ := stockB_iff.1 hS
  have i0 : (0 : Int) ≤ (k : Int) := by omega
  have i1 : (k : Int) < (len0 : Int) := by omega
  obtain ⟨u, hu⟩ : ∃ u, z - q = u := ⟨_, rfl⟩
  have iu : IntKind.i64.wrap (z - q) = u := by rw [← hu]; exact IntWalk.i64_in _ (by omega)
  by_cases hc : z < q
  · skip
    have HE : Hid (resE Z X.length o (k : Int) q = 39) := Lib.hid (by simp only [resE, hkp, hQ, hs2, hS, Int.toNat_natCast, hzz, if_pos hc]; rfl)
    rw [HE.out, resZ_no (by rw [HE.out]; decide), resX_no (by rw [HE.out]; decide)]
    clear h0 hh1 hd hz hq hzk hQ h1y hkp hS hs2 hu
    go_enter Try.func18, Try.ntmps18
    go_wp2_with (first | (go_at_call 16; (with_reducible refine hh.mono ?_); rintro e w3 ⟨rfl, hb3⟩; obtain ⟨b', off', e', c0⟩ := HZC.out w3 hb3; cases e'; have B3 := Lib.hid hb3; clear hb3) | (go_at_call 29; (with_reducible refine (HQQ.out _).mono ?_); rintro e w5 ⟨rfl, rfl⟩) | (go_at_call 26; (with_reducible refine (HST.out _).mono ?_); rintro e w5 ⟨rfl, rfl⟩))
    go_ret3
    exact ⟨_, _, rfl, Own.nil _ _, Own.nil _ _, B3.out⟩
  by_cases hu2 : 1000000000 < u
  · skip
    have HE : Hid (resE Z X.length o (k : Int) q = 36) := Lib.hid (by simp only [resE, hkp, hQ, hs2, hS, Int.toNat_natCast, hzz, if_neg hc, hu, if_pos hu2]; rfl)
    rw [HE.out, resZ_no (by rw [HE.out]; decide), resX_no (by rw [HE.out]; decide)]
    clear h0 hh1 hd hz hq hzk hQ h1y hkp hS hs2 hu
    go_enter Try.func18, Try.ntmps18
    go_wp2_with (first | (go_at_call 16; (with_reducible refine hh.mono ?_); rintro e w3 ⟨rfl, hb3⟩; obtain ⟨b', off', e', c0⟩ := HZC.out w3 hb3; cases e'; have B3 := Lib.hid hb3; clear hb3) | (go_at_call 29; (with_reducible refine (HQQ.out _).mono ?_); rintro e w5 ⟨rfl, rfl⟩) | (go_at_call 26; (with_reducible refine (HST.out _).mono ?_); rintro e w5 ⟨rfl, rfl⟩))
    go_ret3
    exact ⟨_, _, rfl, Own.nil _ _, Own.nil _ _, B3.out⟩
  have HU : Hid (z - q = u) := Lib.hid hu
  have HZZ : Hid (Z.getD k 0 = z) := Lib.hid hzz
  have HS0 : Hid (heldO o + q = s) := Lib.hid hs2
  have HEE : Hid (resE Z X.length o (k : Int) q = if o.isNone = true ∧ 0 < s ∧ 32 ≤ X.length then 40 else 0) := Lib.hid (by
    simp only [resE, hkp, hQ, hs2, hS, Int.toNat_natCast, hzz, if_neg hc, hu, if_neg hu2]
    simp)
  have HKZ : Hid (k < Z.length) := Lib.hid (by rw [hl0]; exact hk)
  have HL0 := Lib.hid hl0; have HL := Lib.hid hl1
  have HZ0 : Hid (∀ wx, Below w.heap.size w wx → Has encz wx (some ⟨b0, off0, none⟩) Z) := Lib.hid fun wx hb => h0.keep hb
  have HX1 : Hid (∀ wx, Below w.heap.size w wx → Has encl wx a1 X) := Lib.hid fun wx hb => hh1.keep hb
  have HD := Lib.hid hd
  have HLO : Hid (∀ j, j < L.length → (X.getD j zl).acct < c ∨ ((X.getD j zl).acct = c ∧ (X.getD j zl).instr < (k : Int))) := Lib.hid fun j hj => hd.lt_lo (d := zl) hj
  have HHI : Hid (∀ j, L.length + o.toList.length ≤ j → j < len1 → c < (X.getD j zl).acct ∨ (c = (X.getD j zl).acct ∧ (k : Int) < (X.getD j zl).instr)) := Lib.hid fun j h1 h2 => hd.lt_hi (d := zl) h1 (by rw [hl1]; exact h2)
  have HAT : Hid (∀ y, o = some y → X.getD L.length zl = y ∧ y.acct = c ∧ y.instr = (k : Int)) := Lib.hid fun y e => by subst e; exact hd.at_key
  have HLE : Hid (L.length ≤ len1) := Lib.hid (by rw [← hl1, hd.len]; omega)
  have HIS : Hid (∀ y, o = some y → L.length < len1) := Lib.hid fun y e => by subst e; rw [← hl1]; exact hd.isSome_lt rfl
  have hmL := HLE.out
  clear h0 hl0 hh1 hl1 hd hz hq hzk hQ h1y hkp hS hs2 hu hhO hzz
  go_enter Try.func18, Try.ntmps18
  go_upto_region 12 with (first | (go_at_call 16; (with_reducible refine hh.mono ?_); rintro e w3 ⟨rfl, hb3⟩; obtain ⟨b', off', e', c0⟩ := HZC.out w3 hb3; cases e'; have B3 := Lib.hid hb3; clear hb3) | (go_at_call 29; (with_reducible refine (HQQ.out _).mono ?_); rintro e w5 ⟨rfl, rfl⟩) | (go_at_call 26; (with_reducible refine (HST.out _).mono ?_); rintro e w5 ⟨rfl, rfl⟩) | (at_builtin; (refine wp_ap okz rfl (.tmp 57) (.tmp 58) rfl w3.heap.size _ [] rfl (made_z w3) _ _ _ Z rfl (HZ0.out _ (below_next B3.out (one_alloc _ _))) HL0.out (fun h => by cases h) (by simp [maxLen]; omega) (by simp [encz]; omega) (by simp) ?_; intro v5 w5 ho5 hb5 hg5 hv5; rw [List.nil_append] at ho5; obtain ⟨g5, c5, rfl, hg5', _, hf5⟩ := ho5.block (by have := HL0.out; omega); have m0 := own_atz ho5 HKZ.out; rw [HZZ.out] at m0; have HS5 := Lib.hid (own_setz ho5 HKZ.out u); rw [HL0.out] at HS5 ⊢; have hfz := hf5 k; have HB5 := Lib.hid (below_next B3.out ((one_alloc w3 (.cells #[] 3)).trans hb5)); have HG5 : Hid (w.heap.size ≤ g5) := Lib.hid (Nat.le_trans B3.out.size hg5'); have HS3 := Lib.hid B3.out.size; clear ho5 hf5 hb5 hg5 hg5' hv5 c0)))
  have HBL0 := Lib.hid (HB5.out.setCell (p := ⟨g5, k, none⟩) HG5.out (.int .i64 u))
  obtain ⟨wL, hwL⟩ : ∃ wL, wL = w5.setCell ⟨g5, k, none⟩ (.int .i64 u) := ⟨_, rfl⟩
  rw [← hwL]
  have HBL : Hid (Below w.heap.size w wL) := Lib.hid (by rw [hwL]; exact HBL0.out)
  have HOL : Hid (Own encz wL w3.heap.size (.slice (some ⟨g5, 0, none⟩) len0 c5) (Z.set k u)) := Lib.hid (by rw [hwL]; exact HS5.out)
  have HNL : Hid (w.heap.size ≤ w3.heap.size) := HS3
  obtain ⟨N, hN⟩ : ∃ N, N = wL.heap.size := ⟨_, rfl⟩
  have HN := Lib.hid hN
  have HNN : Hid (w.heap.size ≤ N) := Lib.hid (by rw [hN]; exact HBL.out.size)
  have H : Hid (∀ wx, Below N wL wx → Has encl wx a1 X) := Lib.hid fun wx hb => HX1.out wx (HBL.out.trans (hb.mono HNN.out))
  clear hwL hN HBL0 HS5 HB5 HG5 B3 hfz m0 HZC HQQ HST hh HZ0 HX1 iu HS3
  go_wp2
  go_loopg [17, 75] len1 (fun m t i wr => ∃ kk : Nat, kk + m = len1 ∧ t = .bool (o.isSome && decide (L.length < kk)) ∧ i = .int .i64 (kk : Int) ∧ Hid (Below N wL wr))
  case atStart => exact ⟨0, by omega, by simp, rfl, Lib.hid (Below.refl _ _)⟩
  case round =>
    obtain ⟨kk, hkk, rfl, rfl, HB⟩ := hrel
    by_cases hlt : kk < len1
    · obtain ⟨b, off, rfl, c0, c1, c2⟩ := atl (H.out wr HB.out) (show kk < X.length by rw [HL.out]; exact hlt)
      have hcase : Hid ((((X.getD kk zl).acct = c ∧ (X.getD kk zl).instr = (k : Int)) ∧ (o.isSome && decide (L.length < kk + 1)) = true) ∨ (((X.getD kk zl).acct ≠ c ∨ (X.getD kk zl).instr ≠ (k : Int)) ∧ (o.isSome && decide (L.length < kk + 1)) = (o.isSome && decide (L.length < kk)))) := Lib.hid (by
        rcases Nat.lt_trichotomy kk L.length with h1 | h1 | h1
        · refine .inr ⟨by have := HLO.out kk h1; omega, ?_⟩
          rw [decide_eq_false (show ¬ L.length < kk + 1 by omega), decide_eq_false (show ¬ L.length < kk by omega)]
        · cases o with
          | none => refine .inr ⟨by have := HHI.out kk (by simp; omega) hlt; omega, by simp⟩
          | some y =>
            obtain ⟨e1, e2, e3⟩ := HAT.out y rfl
            rw [h1, e1]
            exact .inl ⟨⟨e2, e3⟩, by simp⟩
        · refine .inr ⟨by have := HHI.out kk (by cases o <;> simp <;> omega) hlt; omega, ?_⟩
          rw [decide_eq_true (show L.length < kk + 1 by omega), decide_eq_true h1])
      generalize X.getD kk zl = x at *
      obtain ⟨T0, hT0⟩ : ∃ T0, (o.isSome && decide (L.length < kk)) = T0 := ⟨_, rfl⟩
      have hcase2 := hcase.out
      rw [hT0]
      rw [hT0] at hcase2
      have hcase := Lib.hid hcase2
      clear hT0 hcase2
      have j1 : (0 : Int) ≤ (kk : Int) := by omega
      have j2 : (kk : Int) < (len1 : Int) := by omega
      have HNB := HB.out.size
      have HNW : Hid (N ≤ wr.heap.size) := Lib.hid (by rw [HN.out]; exact HNB)
      obtain ⟨g, hg⟩ : ∃ g, g = wr.heap.size := ⟨_, rfl⟩
      obtain ⟨W1, hW1⟩ : ∃ W1, W1 = wr.alloc (.cells #[.int .i64 x.acct, .int .i64 x.instr, .int .i64 x.qty] 42) := ⟨_, rfl⟩
      have x0 : Blk W1 g #[.int .i64 x.acct, .int .i64 x.instr, .int .i64 x.qty] 42 := by rw [hW1, hg]; exact Blk.new wr _ _
      have hb1 : Below wr.heap.size wr W1 := by rw [hW1]; exact one_alloc _ _
      have HG := Lib.hid hg; have HW1 := Lib.hid hW1; have HX0 := Lib.hid x0; have Hb1 := Lib.hid hb1
      have hsz1 : W1.heap.size = wr.heap.size + 1 := by rw [hW1]; simp
      have HSZ := Lib.hid hsz1
      clear hW1 x0 hb1 hsz1
      have d0 : W1.cell? ⟨g, 0, none⟩ = some (.int .i64 x.acct) := HX0.out.cell 0
      have d1 : W1.cell? ⟨g, 1, none⟩ = some (.int .i64 x.instr) := HX0.out.cell 1
      have d2 : W1.cell? ⟨g, 2, none⟩ = some (.int .i64 x.qty) := HX0.out.cell 2
      clear hg
      go_upto_region 18 with (fail)
      rw [← HG.out, ← HW1.out]
      have HB1 := Lib.hid (HB.out.trans (Hb1.out.mono HNW.out))
      rcases hcase.out with ⟨⟨e1, e2⟩, e3⟩ | ⟨e1, e3⟩
      · have b1 : (x.acct == c) = true := beq_iff_eq.2 e1
        have b2 : (x.instr == (k : Int)) = true := beq_iff_eq.2 e2
        have HT1 := Lib.hid e3
        clear hcase e1 e2 e3
        go_wp2
        go_roundg (len1 - (kk + 1))
        case measure => omega
        case rel => exact ⟨kk + 1, by omega, by rw [HT1.out], by go_num, HB1⟩
      · have HT1 := Lib.hid e3
        clear e3
        by_cases e2 : x.acct = c
        · have b1 : (x.acct == c) = true := beq_iff_eq.2 e2
          have b2 : (x.instr == (k : Int)) = false := beq_eq_false_iff_ne.2 (by omega)
          clear hcase e1 e2
          go_wp2
          go_roundg (len1 - (kk + 1))
          case measure => omega
          case rel => exact ⟨kk + 1, by omega, by rw [HT1.out], by go_num, HB1⟩
        · have b1 : (x.acct == c) = false := beq_eq_false_iff_ne.2 e2
          clear hcase e1 e2
          go_wp2
          go_roundg (len1 - (kk + 1))
          case measure => omega
          case rel => exact ⟨kk + 1, by omega, by rw [HT1.out], by go_num, HB1⟩
    · have hT : (o.isSome && decide (L.length < kk)) = o.isSome := by
        cases o with
        | none => rfl
        | some y => simp; have := HIS.out y rfl; omega
      rw [hT]
      have HKL : Hid (kk = len1) := Lib.hid (by omega)
      clear hT hkk hlt
      have j0 : (len1 : Int) ≤ (kk : Int) := by have := HKL.out; omega
      obtain ⟨w1, hw1⟩ : ∃ w1, w1 = wr := ⟨_, rfl⟩
      subst hw1
      have HBa := HB
      clear HB
      go_upto_region 21 with (fail)
      try rw [show decide (kk < len1) = false from decide_eq_false (by have := HKL.out; omega)]
      cases o with
      | none =>
        rw [show (none : Option Lo).isSome = false from rfl]
        by_cases hs0 : s = 0
        · have bs : (s == 0) = true := beq_iff_eq.2 hs0
          rw [bs]
          obtain ⟨AA, hAA⟩ : ∃ AA : List Lo, AA = [] := ⟨_, rfl⟩
          have HA1 : Hid (AA.length ≤ 1) := Lib.hid (by rw [hAA]; simp)
          have HAA := Lib.hid hAA
          have HE : Hid (resE Z X.length none (k : Int) q = 0) := Lib.hid (HEE.out.trans (by simp [hs0]))
          have HLZ : Hid (resZ Z X.length none (k : Int) q = Z.set k u) := Lib.hid (by rw [resZ_yes HE.out, Int.toNat_natCast, HZZ.out, HU.out])
          have HLX : Hid (resX Z X.length L none R c (k : Int) q = L ++ ([] ++ R)) := Lib.hid (by rw [resX_yes HE.out, HS0.out, resO_no hs0]; rfl)
          clear hAA hs0
          go_wp2
          go_loopg [15, 16, 103] len1 (fun m v ld i wr => ∃ j : Nat, j + m = len1 ∧ i = .int .i64 (j : Int) ∧ Hid (Own encl wr N v (outS X L AA 0 j)) ∧ ld = .bool true ∧ Hid (Below N wL wr))
          case atStart => exact ⟨0, by omega, rfl, by rw [outS_zero]; exact Lib.hid (Own.nil _ _), rfl, HBa⟩
          case round =>
            obtain ⟨j, hj, rfl, HO, rfl, HB⟩ := hrel
            have HNB := HB.out.size
            have HNW : Hid (N ≤ wr.heap.size) := Lib.hid (by rw [HN.out]; exact HNB)
            by_cases hlt : j < len1
            · obtain ⟨b, off, rfl, c0, c1, c2⟩ := atl (H.out wr HB.out) (show j < X.length by rw [HL.out]; exact hlt)
              have j1 : (0 : Int) ≤ (j : Int) := by omega
              have j2 : (j : Int) < (len1 : Int) := by omega
              obtain ⟨x, hx⟩ : ∃ x, X.getD j zl = x := ⟨_, rfl⟩
              rw [hx] at c0 c1 c2
              have HT : Hid ((outS X L AA 0 j).length ≤ 901) := Lib.hid (Nat.le_trans (outS_le (by rw [HL.out]; exact HLE.out) HA1.out) (by rw [HL.out]; omega))
              obtain ⟨g, hg⟩ : ∃ g, g = wr.heap.size := ⟨_, rfl⟩
              obtain ⟨W1, hW1⟩ : ∃ W1, W1 = wr.alloc (.cells #[.int .i64 x.acct, .int .i64 x.instr, .int .i64 x.qty] 42) := ⟨_, rfl⟩
              have x0 : Blk W1 g #[.int .i64 x.acct, .int .i64 x.instr, .int .i64 x.qty] 42 := by rw [hW1, hg]; exact Blk.new wr _ _
              have hb1 : Below wr.heap.size wr W1 := by rw [hW1]; exact one_alloc _ _
              have HG := Lib.hid hg; have HW1 := Lib.hid hW1; have HX0 := Lib.hid x0; have Hb1 := Lib.hid hb1
              have hsz1 : W1.heap.size = wr.heap.size + 1 := by rw [hW1]; simp
              have HSZ := Lib.hid hsz1
              clear hW1 x0 hb1 hsz1
              have d0 : W1.cell? ⟨g, 0, none⟩ = some (.int .i64 x.acct) := HX0.out.cell 0
              have d1 : W1.cell? ⟨g, 1, none⟩ = some (.int .i64 x.instr) := HX0.out.cell 1
              have d2 : W1.cell? ⟨g, 2, none⟩ = some (.int .i64 x.qty) := HX0.out.cell 2
              clear hg
              go_upto_region 26 with (fail)
              rw [← HG.out, ← HW1.out]
              have HB1 := Lib.hid (HB.out.trans (Hb1.out.mono HNW.out))
              have HO1 := Lib.hid (HO.out.keep Hb1.out)
              have HNW1 : Hid (N ≤ W1.heap.size) := Lib.hid (by have := HSZ.out; have := HNW.out; omega)
              rcases Nat.lt_trichotomy j L.length with hjl | hjl | hjl
              · have HO2 : Hid (outS X L AA 0 (j + 1) = outS X L AA 0 j ++ [x]) := Lib.hid (by rw [← hx]; exact outS_lo zl hjl (by rw [HL.out]; exact hlt))
                have hkey := HLO.out j hjl
                rw [hx] at hkey
                generalize outS X L AA 0 j = Y at *
                rcases hkey with e1 | ⟨e1, e2⟩
                · have b1 : (x.acct == c) = false := beq_eq_false_iff_ne.2 (by omega)
                  have g1 : ¬ c < x.acct := by omega
                  clear e1 hx
                  go_wp2_with (at_builtin; (refine wp_ap okl rfl (.tmp 161) (.tmp 163) rfl N _ Y rfl (HO1.out.keep (one_alloc _ _)) _ _ _ [x] rfl (onel _ x _ _ rfl) rfl (fun h => by cases h) (by have := HT.out; simp only [List.length_append, List.length_cons, List.length_nil, maxLen] at *; omega) (by have := HT.out; simp only [encl, List.length_append, List.length_cons, List.length_nil] at *; omega) (by rw [World.size_alloc]; exact Nat.le_trans HNW1.out (Nat.le_add_right _ 1)) ?_; intro v6 w6 ho6 hb6 hg6 hv6; have HO6 := Lib.hid ho6; have HB6 := Lib.hid ((HB1.out.trans (one_alloc' HNW1.out)).trans hb6); clear ho6 hb6 hg6 hv6))
                  go_roundg (len1 - (j + 1))
                  case measure => omega
                  case rel => exact ⟨j + 1, by omega, by go_num, by rw [HO2.out]; exact HO6, rfl, HB6⟩
                · have b1 : (x.acct == c) = true := beq_iff_eq.2 e1
                  have b2 : (x.instr == (k : Int)) = false := beq_eq_false_iff_ne.2 (by omega)
                  have g1 : ¬ c < x.acct := by omega
                  have g2 : ¬ (k : Int) < x.instr := by omega
                  clear e1 e2 hx
                  go_wp2_with (at_builtin; (refine wp_ap okl rfl (.tmp 161) (.tmp 163) rfl N _ Y rfl (HO1.out.keep (one_alloc _ _)) _ _ _ [x] rfl (onel _ x _ _ rfl) rfl (fun h => by cases h) (by have := HT.out; simp only [List.length_append, List.length_cons, List.length_nil, maxLen] at *; omega) (by have := HT.out; simp only [encl, List.length_append, List.length_cons, List.length_nil] at *; omega) (by rw [World.size_alloc]; exact Nat.le_trans HNW1.out (Nat.le_add_right _ 1)) ?_; intro v6 w6 ho6 hb6 hg6 hv6; have HO6 := Lib.hid ho6; have HB6 := Lib.hid ((HB1.out.trans (one_alloc' HNW1.out)).trans hb6); clear ho6 hb6 hg6 hv6))
                  go_roundg (len1 - (j + 1))
                  case measure => omega
                  case rel => exact ⟨j + 1, by omega, by go_num, by rw [HO2.out]; exact HO6, rfl, HB6⟩
              · have HO2 : Hid (outS X L AA 0 (j + 1) = outS X L AA 0 j ++ [x]) := Lib.hid (by
                  have hX : X = L ++ R := HD.out.eq
                  have hlx : L.length < X.length := by rw [HL.out, ← hjl]; exact hlt
                  have t1 := outS_mid0 (A := AA) zl hX hlx
                  have t2 := outS_at (A := AA) (ol := 0) (O := []) (R := R) hX
                  rw [← hjl] at t1 t2
                  rw [t1, t2, hx, HAA.out, List.nil_append])
                have hkey := HHI.out j (by show L.length + 0 ≤ j; omega) hlt
                rw [hx] at hkey
                generalize outS X L AA 0 j = Y at *
                rcases hkey with e1 | ⟨e1, e2⟩
                · have b1 : (x.acct == c) = false := beq_eq_false_iff_ne.2 (by omega)
                  clear hx hjl
                  go_wp2_with (at_builtin; (refine wp_ap okl rfl (.tmp 161) (.tmp 163) rfl N _ Y rfl (HO1.out.keep (one_alloc _ _)) _ _ _ [x] rfl (onel _ x _ _ rfl) rfl (fun h => by cases h) (by have := HT.out; simp only [List.length_append, List.length_cons, List.length_nil, maxLen] at *; omega) (by have := HT.out; simp only [encl, List.length_append, List.length_cons, List.length_nil] at *; omega) (by rw [World.size_alloc]; exact Nat.le_trans HNW1.out (Nat.le_add_right _ 1)) ?_; intro v6 w6 ho6 hb6 hg6 hv6; have HO6 := Lib.hid ho6; have HB6 := Lib.hid ((HB1.out.trans (one_alloc' HNW1.out)).trans hb6); clear ho6 hb6 hg6 hv6))
                  go_roundg (len1 - (j + 1))
                  case measure => omega
                  case rel => exact ⟨j + 1, by omega, by go_num, by rw [HO2.out]; exact HO6, rfl, HB6⟩
                · have b1 : (x.acct == c) = true := beq_iff_eq.2 e1.symm
                  have b2 : (x.instr == (k : Int)) = false := beq_eq_false_iff_ne.2 (by omega)
                  have g1 : ¬ c < x.acct := by omega
                  clear e1 hx hjl
                  go_wp2_with (at_builtin; (refine wp_ap okl rfl (.tmp 161) (.tmp 163) rfl N _ Y rfl (HO1.out.keep (one_alloc _ _)) _ _ _ [x] rfl (onel _ x _ _ rfl) rfl (fun h => by cases h) (by have := HT.out; simp only [List.length_append, List.length_cons, List.length_nil, maxLen] at *; omega) (by have := HT.out; simp only [encl, List.length_append, List.length_cons, List.length_nil] at *; omega) (by rw [World.size_alloc]; exact Nat.le_trans HNW1.out (Nat.le_add_right _ 1)) ?_; intro v6 w6 ho6 hb6 hg6 hv6; have HO6 := Lib.hid ho6; have HB6 := Lib.hid ((HB1.out.trans (one_alloc' HNW1.out)).trans hb6); clear ho6 hb6 hg6 hv6))
                  go_roundg (len1 - (j + 1))
                  case measure => omega
                  case rel => exact ⟨j + 1, by omega, by go_num, by rw [HO2.out]; exact HO6, rfl, HB6⟩
              · have HO2 : Hid (outS X L AA 0 (j + 1) = outS X L AA 0 j ++ [x]) := Lib.hid (by rw [← hx]; exact outS_hi zl hjl (by omega) (by rw [HL.out]; exact hlt))
                have hkey := HHI.out j (by simp; omega) hlt
                rw [hx] at hkey
                generalize outS X L AA 0 j = Y at *
                rcases hkey with e1 | ⟨e1, e2⟩
                · have b1 : (x.acct == c) = false := beq_eq_false_iff_ne.2 (by omega)
                  clear hx hjl
                  go_wp2_with (at_builtin; (refine wp_ap okl rfl (.tmp 161) (.tmp 163) rfl N _ Y rfl (HO1.out.keep (one_alloc _ _)) _ _ _ [x] rfl (onel _ x _ _ rfl) rfl (fun h => by cases h) (by have := HT.out; simp only [List.length_append, List.length_cons, List.length_nil, maxLen] at *; omega) (by have := HT.out; simp only [encl, List.length_append, List.length_cons, List.length_nil] at *; omega) (by rw [World.size_alloc]; exact Nat.le_trans HNW1.out (Nat.le_add_right _ 1)) ?_; intro v6 w6 ho6 hb6 hg6 hv6; have HO6 := Lib.hid ho6; have HB6 := Lib.hid ((HB1.out.trans (one_alloc' HNW1.out)).trans hb6); clear ho6 hb6 hg6 hv6))
                  go_roundg (len1 - (j + 1))
                  case measure => omega
                  case rel => exact ⟨j + 1, by omega, by go_num, by rw [HO2.out]; exact HO6, rfl, HB6⟩
                · have b1 : (x.acct == c) = true := beq_iff_eq.2 e1.symm
                  have b2 : (x.instr == (k : Int)) = false := beq_eq_false_iff_ne.2 (by omega)
                  have g1 : ¬ c < x.acct := by omega
                  clear e1 hx hjl
                  go_wp2_with (at_builtin; (refine wp_ap okl rfl (.tmp 161) (.tmp 163) rfl N _ Y rfl (HO1.out.keep (one_alloc _ _)) _ _ _ [x] rfl (onel _ x _ _ rfl) rfl (fun h => by cases h) (by have := HT.out; simp only [List.length_append, List.length_cons, List.length_nil, maxLen] at *; omega) (by have := HT.out; simp only [encl, List.length_append, List.length_cons, List.length_nil] at *; omega) (by rw [World.size_alloc]; exact Nat.le_trans HNW1.out (Nat.le_add_right _ 1)) ?_; intro v6 w6 ho6 hb6 hg6 hv6; have HO6 := Lib.hid ho6; have HB6 := Lib.hid ((HB1.out.trans (one_alloc' HNW1.out)).trans hb6); clear ho6 hb6 hg6 hv6))
                  go_roundg (len1 - (j + 1))
                  case measure => omega
                  case rel => exact ⟨j + 1, by omega, by go_num, by rw [HO2.out]; exact HO6, rfl, HB6⟩
            · have HJ : Hid (j = len1) := Lib.hid (by omega)
              rw [HJ.out] at HO
              have hX : X = L ++ R := HD.out.eq
              by_cases hR : L.length < len1
              · have hend := outS_end (A := AA) (O := []) (R := R) hX (by rw [HL.out]; exact hR)
                rw [HL.out] at hend
                rw [show ([] : List Lo).length = 0 from rfl] at hend
                rw [hend, HAA.out] at HO
                clear hend hX hR
                go_wp2
                go_ret3
                refine ⟨_, _, by rw [HE.out] <;> rfl, ?_, ?_, HBL.out.trans (HB.out.mono HNN.out)⟩
                · rw [HLZ.out]
                  exact (HOL.out.keep (by rw [← HN.out]; exact HB.out)).low HNL.out
                · rw [HLX.out]
                  exact HO.out.low HNN.out
              · have hR0 : R = [] := List.eq_nil_of_length_eq_zero (by have := HL.out; rw [hX, List.length_append] at this; omega)
                have hend : outS X L AA 0 len1 = X := by unfold outS; rw [if_pos (by omega), ← HL.out, List.take_length]
                rw [hend] at HO
                have HF : X = L ++ ([] ++ R) := by rw [hX, List.nil_append]
                rw [HF] at HO
                clear hend hX hR hR0 HF
                go_wp2
                go_ret3
                refine ⟨_, _, by rw [HE.out] <;> rfl, ?_, ?_, HBL.out.trans (HB.out.mono HNN.out)⟩
                · rw [HLZ.out]
                  exact (HOL.out.keep (by rw [← HN.out]; exact HB.out)).low HNL.out
                · rw [HLX.out]
                  exact HO.out.low HNN.out
        · have bs : (s == 0) = false := beq_eq_false_iff_ne.2 hs0
          rw [bs]
          by_cases h32 : 32 ≤ len1
          · have HE : Hid (resE Z X.length none (k : Int) q = 40) := Lib.hid (HEE.out.trans (by rw [if_pos ⟨rfl, by omega, by rw [HL.out]; exact h32⟩]))
            have j3 : (32 : Int) ≤ (len1 : Int) := by omega
            clear hs0
            go_wp2
            go_ret3
            refine ⟨_, _, by rw [HE.out] <;> rfl, ?_, ?_, HBL.out.trans (HBa.out.mono HNN.out)⟩
            · rw [resZ_no (by rw [HE.out]; decide)]
              exact Own.nil _ _
            · rw [resX_no (by rw [HE.out]; decide)]
              exact Own.nil _ _
          have j3 : ¬ (32 : Int) ≤ (len1 : Int) := by omega
          obtain ⟨AA, hAA⟩ : ∃ AA : List Lo, AA = [⟨c, (k : Int), s⟩] := ⟨_, rfl⟩
          have HA1 : Hid (AA.length ≤ 1) := Lib.hid (by rw [hAA]; simp)
          have HAA := Lib.hid hAA
          have HE : Hid (resE Z X.length none (k : Int) q = 0) := Lib.hid (HEE.out.trans (by simp [HL.out, h32]))
          have HLZ : Hid (resZ Z X.length none (k : Int) q = Z.set k u) := Lib.hid (by rw [resZ_yes HE.out, Int.toNat_natCast, HZZ.out, HU.out])
          have HLX : Hid (resX Z X.length L none R c (k : Int) q = L ++ ([⟨c, (k : Int), s⟩] ++ R)) := Lib.hid (by rw [resX_yes HE.out, HS0.out, resO_yes hs0]; rfl)
          clear hAA hs0
          go_wp2
          go_loopg [15, 16, 103] len1 (fun m v ld i wr => ∃ j : Nat, j + m = len1 ∧ i = .int .i64 (j : Int) ∧ Hid (Own encl wr N v (outS X L AA 0 j)) ∧ ld = .bool (decide (L.length < j)) ∧ Hid (Below N wL wr))
          case atStart => exact ⟨0, by omega, rfl, by rw [outS_zero]; exact Lib.hid (Own.nil _ _), by simp, HBa⟩
          case round =>
            obtain ⟨j, hj, rfl, HO, rfl, HB⟩ := hrel
            have HNB := HB.out.size
            have HNW : Hid (N ≤ wr.heap.size) := Lib.hid (by rw [HN.out]; exact HNB)
            by_cases hlt : j < len1
            · obtain ⟨b, off, rfl, c0, c1, c2⟩ := atl (H.out wr HB.out) (show j < X.length by rw [HL.out]; exact hlt)
              have j1 : (0 : Int) ≤ (j : Int) := by omega
              have j2 : (j : Int) < (len1 : Int) := by omega
              obtain ⟨x, hx⟩ : ∃ x, X.getD j zl = x := ⟨_, rfl⟩
              rw [hx] at c0 c1 c2
              have HT : Hid ((outS X L AA 0 j).length ≤ 901) := Lib.hid (Nat.le_trans (outS_le (by rw [HL.out]; exact HLE.out) HA1.out) (by rw [HL.out]; omega))
              obtain ⟨g, hg⟩ : ∃ g, g = wr.heap.size := ⟨_, rfl⟩
              obtain ⟨W1, hW1⟩ : ∃ W1, W1 = wr.alloc (.cells #[.int .i64 x.acct, .int .i64 x.instr, .int .i64 x.qty] 42) := ⟨_, rfl⟩
              have x0 : Blk W1 g #[.int .i64 x.acct, .int .i64 x.instr, .int .i64 x.qty] 42 := by rw [hW1, hg]; exact Blk.new wr _ _
              have hb1 : Below wr.heap.size wr W1 := by rw [hW1]; exact one_alloc _ _
              have HG := Lib.hid hg; have HW1 := Lib.hid hW1; have HX0 := Lib.hid x0; have Hb1 := Lib.hid hb1
              have hsz1 : W1.heap.size = wr.heap.size + 1 := by rw [hW1]; simp
              have HSZ := Lib.hid hsz1
              clear hW1 x0 hb1 hsz1
              have d0 : W1.cell? ⟨g, 0, none⟩ = some (.int .i64 x.acct) := HX0.out.cell 0
              have d1 : W1.cell? ⟨g, 1, none⟩ = some (.int .i64 x.instr) := HX0.out.cell 1
              have d2 : W1.cell? ⟨g, 2, none⟩ = some (.int .i64 x.qty) := HX0.out.cell 2
              clear hg
              go_upto_region 26 with (fail)
              rw [← HG.out, ← HW1.out]
              have HB1 := Lib.hid (HB.out.trans (Hb1.out.mono HNW.out))
              have HO1 := Lib.hid (HO.out.keep Hb1.out)
              have HNW1 : Hid (N ≤ W1.heap.size) := Lib.hid (by have := HSZ.out; have := HNW.out; omega)
              rcases Nat.lt_trichotomy j L.length with hjl | hjl | hjl
              · have HO2 : Hid (outS X L AA 0 (j + 1) = outS X L AA 0 j ++ [x]) := Lib.hid (by rw [← hx]; exact outS_lo zl hjl (by rw [HL.out]; exact hlt))
                have hkey := HLO.out j hjl
                rw [hx] at hkey
                have HLD : Hid (decide (L.length < j + 1) = false) := Lib.hid (decide_eq_false (by omega))
                have hld : decide (L.length < j) = false := decide_eq_false (by omega)
                rw [hld]
                clear hld
                generalize outS X L AA 0 j = Y at *
                rcases hkey with e1 | ⟨e1, e2⟩
                · have b1 : (x.acct == c) = false := beq_eq_false_iff_ne.2 (by omega)
                  have g1 : ¬ c < x.acct := by omega
                  clear e1 hx
                  go_wp2_with (at_builtin; (refine wp_ap okl rfl (.tmp 161) (.tmp 163) rfl N _ Y rfl (HO1.out.keep (one_alloc _ _)) _ _ _ [x] rfl (onel _ x _ _ rfl) rfl (fun h => by cases h) (by have := HT.out; simp only [List.length_append, List.length_cons, List.length_nil, maxLen] at *; omega) (by have := HT.out; simp only [encl, List.length_append, List.length_cons, List.length_nil] at *; omega) (by rw [World.size_alloc]; exact Nat.le_trans HNW1.out (Nat.le_add_right _ 1)) ?_; intro v6 w6 ho6 hb6 hg6 hv6; have HO6 := Lib.hid ho6; have HB6 := Lib.hid ((HB1.out.trans (one_alloc' HNW1.out)).trans hb6); clear ho6 hb6 hg6 hv6))
                  go_roundg (len1 - (j + 1))
                  case measure => omega
                  case rel => exact ⟨j + 1, by omega, by go_num, by rw [HO2.out]; exact HO6, by rw [HLD.out], HB6⟩
                · have b1 : (x.acct == c) = true := beq_iff_eq.2 e1
                  have b2 : (x.instr == (k : Int)) = false := beq_eq_false_iff_ne.2 (by omega)
                  have g1 : ¬ c < x.acct := by omega
                  have g2 : ¬ (k : Int) < x.instr := by omega
                  clear e1 e2 hx
                  go_wp2_with (at_builtin; (refine wp_ap okl rfl (.tmp 161) (.tmp 163) rfl N _ Y rfl (HO1.out.keep (one_alloc _ _)) _ _ _ [x] rfl (onel _ x _ _ rfl) rfl (fun h => by cases h) (by have := HT.out; simp only [List.length_append, List.length_cons, List.length_nil, maxLen] at *; omega) (by have := HT.out; simp only [encl, List.length_append, List.length_cons, List.length_nil] at *; omega) (by rw [World.size_alloc]; exact Nat.le_trans HNW1.out (Nat.le_add_right _ 1)) ?_; intro v6 w6 ho6 hb6 hg6 hv6; have HO6 := Lib.hid ho6; have HB6 := Lib.hid ((HB1.out.trans (one_alloc' HNW1.out)).trans hb6); clear ho6 hb6 hg6 hv6))
                  go_roundg (len1 - (j + 1))
                  case measure => omega
                  case rel => exact ⟨j + 1, by omega, by go_num, by rw [HO2.out]; exact HO6, by rw [HLD.out], HB6⟩
              · have HO2 : Hid (outS X L AA 0 (j + 1) = (outS X L AA 0 j ++ [⟨c, (k : Int), s⟩]) ++ [x]) := Lib.hid (by
                  have hX : X = L ++ R := HD.out.eq
                  have hlx : L.length < X.length := by rw [HL.out, ← hjl]; exact hlt
                  have t1 := outS_mid0 (A := AA) zl hX hlx
                  have t2 := outS_at (A := AA) (ol := 0) (O := []) (R := R) hX
                  rw [← hjl] at t1 t2
                  rw [t1, t2, hx, HAA.out, List.append_assoc])
                have hkey := HHI.out j (by show L.length + 0 ≤ j; omega) hlt
                rw [hx] at hkey
                have HLD : Hid (decide (L.length < j + 1) = true) := Lib.hid (decide_eq_true (by omega))
                have hld : decide (L.length < j) = false := decide_eq_false (by omega)
                rw [hld]
                clear hld
                generalize outS X L AA 0 j = Y at *
                rcases hkey with e1 | ⟨e1, e2⟩
                · have b1 : (x.acct == c) = false := beq_eq_false_iff_ne.2 (by omega)
                  clear hx hjl
                  go_wp2_with (first | (at_builtin; (refine wp_ap okl rfl (.tmp 152) (.tmp 159) rfl N _ Y rfl (HO1.out.keep (one_alloc _ _)) _ _ _ [⟨c, (k : Int), s⟩] rfl (onel _ ⟨c, (k : Int), s⟩ _ _ rfl) rfl (fun h => by cases h) (by have := HT.out; simp only [List.length_append, List.length_cons, List.length_nil, maxLen] at *; omega) (by have := HT.out; simp only [encl, List.length_append, List.length_cons, List.length_nil] at *; omega) (by rw [World.size_alloc]; exact Nat.le_trans HNW1.out (Nat.le_add_right _ 1)) ?_; intro v5 w5 ho5 hb5 hg5 hv5; have HO5 := Lib.hid ho5; have HB5 := Lib.hid ((HB1.out.trans (one_alloc' HNW1.out)).trans hb5); have HX5 := Lib.hid ((HX0.out.keep (one_alloc _ _)).gone hg5 (fun e => by have := (HO.out.lt e).2; have := HG.out; omega)); have HNW5 : Hid (N ≤ w5.heap.size) := Lib.hid (by have := HB5.out.size; rw [HN.out]; exact this); clear ho5 hb5 hg5 hv5 d0 d1 d2; obtain ⟨d0, d1, d2⟩ := (⟨HX5.out.cell 0, HX5.out.cell 1, HX5.out.cell 2⟩ : w5.cell? ⟨g, 0, none⟩ = some (.int .i64 x.acct) ∧ w5.cell? ⟨g, 1, none⟩ = some (.int .i64 x.instr) ∧ w5.cell? ⟨g, 2, none⟩ = some (.int .i64 x.qty)))) | (at_builtin; (refine wp_ap okl rfl (.tmp 161) (.tmp 163) rfl N _ (Y ++ [⟨c, (k : Int), s⟩]) rfl (HO5.out.keep (one_alloc _ _)) _ _ _ [x] rfl (onel _ x _ _ rfl) rfl (fun h => by cases h) (by have := HT.out; simp only [List.length_append, List.length_cons, List.length_nil, maxLen] at *; omega) (by have := HT.out; simp only [encl, List.length_append, List.length_cons, List.length_nil] at *; omega) (by rw [World.size_alloc]; exact Nat.le_trans HNW5.out (Nat.le_add_right _ 1)) ?_; intro v6 w6 ho6 hb6 hg6 hv6; have HO6 := Lib.hid ho6; have HB6 := Lib.hid ((HB5.out.trans (one_alloc' HNW5.out)).trans hb6); clear ho6 hb6 hg6 hv6)))
                  go_roundg (len1 - (j + 1))
                  case measure => omega
                  case rel => exact ⟨j + 1, by omega, by go_num, by rw [HO2.out]; exact HO6, by rw [HLD.out], HB6⟩
                · have b1 : (x.acct == c) = true := beq_iff_eq.2 e1.symm
                  have b2 : (x.instr == (k : Int)) = false := beq_eq_false_iff_ne.2 (by omega)
                  have g1 : ¬ c < x.acct := by omega
                  clear e1 hx hjl
                  go_wp2_with (first | (at_builtin; (refine wp_ap okl rfl (.tmp 152) (.tmp 159) rfl N _ Y rfl (HO1.out.keep (one_alloc _ _)) _ _ _ [⟨c, (k : Int), s⟩] rfl (onel _ ⟨c, (k : Int), s⟩ _ _ rfl) rfl (fun h => by cases h) (by have := HT.out; simp only [List.length_append, List.length_cons, List.length_nil, maxLen] at *; omega) (by have := HT.out; simp only [encl, List.length_append, List.length_cons, List.length_nil] at *; omega) (by rw [World.size_alloc]; exact Nat.le_trans HNW1.out (Nat.le_add_right _ 1)) ?_; intro v5 w5 ho5 hb5 hg5 hv5; have HO5 := Lib.hid ho5; have HB5 := Lib.hid ((HB1.out.trans (one_alloc' HNW1.out)).trans hb5); have HX5 := Lib.hid ((HX0.out.keep (one_alloc _ _)).gone hg5 (fun e => by have := (HO.out.lt e).2; have := HG.out; omega)); have HNW5 : Hid (N ≤ w5.heap.size) := Lib.hid (by have := HB5.out.size; rw [HN.out]; exact this); clear ho5 hb5 hg5 hv5 d0 d1 d2; obtain ⟨d0, d1, d2⟩ := (⟨HX5.out.cell 0, HX5.out.cell 1, HX5.out.cell 2⟩ : w5.cell? ⟨g, 0, none⟩ = some (.int .i64 x.acct) ∧ w5.cell? ⟨g, 1, none⟩ = some (.int .i64 x.instr) ∧ w5.cell? ⟨g, 2, none⟩ = some (.int .i64 x.qty)))) | (at_builtin; (refine wp_ap okl rfl (.tmp 161) (.tmp 163) rfl N _ (Y ++ [⟨c, (k : Int), s⟩]) rfl (HO5.out.keep (one_alloc _ _)) _ _ _ [x] rfl (onel _ x _ _ rfl) rfl (fun h => by cases h) (by have := HT.out; simp only [List.length_append, List.length_cons, List.length_nil, maxLen] at *; omega) (by have := HT.out; simp only [encl, List.length_append, List.length_cons, List.length_nil] at *; omega) (by rw [World.size_alloc]; exact Nat.le_trans HNW5.out (Nat.le_add_right _ 1)) ?_; intro v6 w6 ho6 hb6 hg6 hv6; have HO6 := Lib.hid ho6; have HB6 := Lib.hid ((HB5.out.trans (one_alloc' HNW5.out)).trans hb6); clear ho6 hb6 hg6 hv6)))
                  go_roundg (len1 - (j + 1))
                  case measure => omega
                  case rel => exact ⟨j + 1, by omega, by go_num, by rw [HO2.out]; exact HO6, by rw [HLD.out], HB6⟩
              · have HO2 : Hid (outS X L AA 0 (j + 1) = outS X L AA 0 j ++ [x]) := Lib.hid (by rw [← hx]; exact outS_hi zl hjl (by omega) (by rw [HL.out]; exact hlt))
                have hkey := HHI.out j (by simp; omega) hlt
                rw [hx] at hkey
                have HLD : Hid (decide (L.length < j + 1) = true) := Lib.hid (decide_eq_true (by omega))
                have hld : decide (L.length < j) = true := decide_eq_true hjl
                rw [hld]
                clear hld
                generalize outS X L AA 0 j = Y at *
                rcases hkey with e1 | ⟨e1, e2⟩
                · have b1 : (x.acct == c) = false := beq_eq_false_iff_ne.2 (by omega)
                  clear hx hjl
                  go_wp2_with (at_builtin; (refine wp_ap okl rfl (.tmp 161) (.tmp 163) rfl N _ Y rfl (HO1.out.keep (one_alloc _ _)) _ _ _ [x] rfl (onel _ x _ _ rfl) rfl (fun h => by cases h) (by have := HT.out; simp only [List.length_append, List.length_cons, List.length_nil, maxLen] at *; omega) (by have := HT.out; simp only [encl, List.length_append, List.length_cons, List.length_nil] at *; omega) (by rw [World.size_alloc]; exact Nat.le_trans HNW1.out (Nat.le_add_right _ 1)) ?_; intro v6 w6 ho6 hb6 hg6 hv6; have HO6 := Lib.hid ho6; have HB6 := Lib.hid ((HB1.out.trans (one_alloc' HNW1.out)).trans hb6); clear ho6 hb6 hg6 hv6))
                  go_roundg (len1 - (j + 1))
                  case measure => omega
                  case rel => exact ⟨j + 1, by omega, by go_num, by rw [HO2.out]; exact HO6, by rw [HLD.out], HB6⟩
                · have b1 : (x.acct == c) = true := beq_iff_eq.2 e1.symm
                  have b2 : (x.instr == (k : Int)) = false := beq_eq_false_iff_ne.2 (by omega)
                  have g1 : ¬ c < x.acct := by omega
                  clear e1 hx hjl
                  go_wp2_with (at_builtin; (refine wp_ap okl rfl (.tmp 161) (.tmp 163) rfl N _ Y rfl (HO1.out.keep (one_alloc _ _)) _ _ _ [x] rfl (onel _ x _ _ rfl) rfl (fun h => by cases h) (by have := HT.out; simp only [List.length_append, List.length_cons, List.length_nil, maxLen] at *; omega) (by have := HT.out; simp only [encl, List.length_append, List.length_cons, List.length_nil] at *; omega) (by rw [World.size_alloc]; exact Nat.le_trans HNW1.out (Nat.le_add_right _ 1)) ?_; intro v6 w6 ho6 hb6 hg6 hv6; have HO6 := Lib.hid ho6; have HB6 := Lib.hid ((HB1.out.trans (one_alloc' HNW1.out)).trans hb6); clear ho6 hb6 hg6 hv6))
                  go_roundg (len1 - (j + 1))
                  case measure => omega
                  case rel => exact ⟨j + 1, by omega, by go_num, by rw [HO2.out]; exact HO6, by rw [HLD.out], HB6⟩
            · have HJ : Hid (j = len1) := Lib.hid (by omega)
              rw [HJ.out]
              rw [HJ.out] at HO
              have hX : X = L ++ R := HD.out.eq
              by_cases hR : L.length < len1
              · have hend := outS_end (A := AA) (O := []) (R := R) hX (by rw [HL.out]; exact hR)
                rw [HL.out] at hend
                rw [show ([] : List Lo).length = 0 from rfl] at hend
                rw [hend, HAA.out] at HO
                rw [decide_eq_true hR]
                clear hend hX hR
                go_wp2
                go_ret3
                refine ⟨_, _, by rw [HE.out] <;> rfl, ?_, ?_, HBL.out.trans (HB.out.mono HNN.out)⟩
                · rw [HLZ.out]
                  exact (HOL.out.keep (by rw [← HN.out]; exact HB.out)).low HNL.out
                · rw [HLX.out]
                  exact HO.out.low HNN.out
              · have hR0 : R = [] := List.eq_nil_of_length_eq_zero (by have := HL.out; rw [hX, List.length_append] at this; omega)
                have hend : outS X L AA 0 len1 = X := by unfold outS; rw [if_pos (by omega), ← HL.out, List.take_length]
                rw [hend] at HO
                rw [decide_eq_false hR]
                have HF : Hid (X ++ [⟨c, (k : Int), s⟩] = L ++ ([⟨c, (k : Int), s⟩] ++ R)) := Lib.hid (by rw [hX, hR0]; simp)
                have HT : Hid (X.length ≤ 900) := Lib.hid (by rw [HL.out]; exact hm1)
                clear hend hX hR hR0
                go_wp2_with (at_builtin; (refine wp_ap okl rfl (.tmp 168) (.tmp 175) rfl N _ X rfl (HO.out.keep (one_alloc _ _)) _ _ _ [⟨c, (k : Int), s⟩] rfl (onel _ ⟨c, (k : Int), s⟩ _ _ rfl) rfl (fun h => by cases h) (by have := HT.out; simp only [List.length_append, List.length_cons, List.length_nil, maxLen] at *; omega) (by have := HT.out; simp only [encl, List.length_append, List.length_cons, List.length_nil] at *; omega) (by rw [World.size_alloc]; exact Nat.le_trans HNW.out (Nat.le_add_right _ 1)) ?_; intro v6 w6 ho6 hb6 hg6 hv6; have HO6 := Lib.hid ho6; have HB6 := Lib.hid ((HB.out.trans (one_alloc' HNW.out)).trans hb6); clear ho6 hb6 hg6 hv6))
                rw [HF.out] at HO6
                go_ret3
                refine ⟨_, _, by rw [HE.out] <;> rfl, ?_, ?_, HBL.out.trans (HB6.out.mono HNN.out)⟩
                · rw [HLZ.out]
                  exact (HOL.out.keep (by rw [← HN.out]; exact HB6.out)).low HNL.out
                · rw [HLX.out]
                  exact HO6.out.low HNN.out
      | some y =>
        rw [show (some y : Option Lo).isSome = true from rfl]
        by_cases hs0 : s = 0
        · have bs : (s == 0) = true := beq_iff_eq.2 hs0
          rw [bs]
          obtain ⟨AA, hAA⟩ : ∃ AA : List Lo, AA = [] := ⟨_, rfl⟩
          have HA1 : Hid (AA.length ≤ 1) := Lib.hid (by rw [hAA]; simp)
          have HAA := Lib.hid hAA
          have HE : Hid (resE Z X.length (some y) (k : Int) q = 0) := Lib.hid (HEE.out.trans (by simp))
          have HLZ : Hid (resZ Z X.length (some y) (k : Int) q = Z.set k u) := Lib.hid (by rw [resZ_yes HE.out, Int.toNat_natCast, HZZ.out, HU.out])
          have HLX : Hid (resX Z X.length L (some y) R c (k : Int) q = L ++ ([] ++ R)) := Lib.hid (by rw [resX_yes HE.out, HS0.out, resO_no hs0]; rfl)
          clear hAA hs0
          go_wp2
          go_loopg [15, 16, 103] len1 (fun m v ld i wr => ∃ j : Nat, j + m = len1 ∧ i = .int .i64 (j : Int) ∧ Hid (Own encl wr N v (outS X L AA 1 j)) ∧ ld = .bool true ∧ Hid (Below N wL wr))
          case atStart => exact ⟨0, by omega, rfl, by rw [outS_zero]; exact Lib.hid (Own.nil _ _), rfl, HBa⟩
          case round =>
            obtain ⟨j, hj, rfl, HO, rfl, HB⟩ := hrel
            have HNB := HB.out.size
            have HNW : Hid (N ≤ wr.heap.size) := Lib.hid (by rw [HN.out]; exact HNB)
            by_cases hlt : j < len1
            · obtain ⟨b, off, rfl, c0, c1, c2⟩ := atl (H.out wr HB.out) (show j < X.length by rw [HL.out]; exact hlt)
              have j1 : (0 : Int) ≤ (j : Int) := by omega
              have j2 : (j : Int) < (len1 : Int) := by omega
              obtain ⟨x, hx⟩ : ∃ x, X.getD j zl = x := ⟨_, rfl⟩
              rw [hx] at c0 c1 c2
              have HT : Hid ((outS X L AA 1 j).length ≤ 901) := Lib.hid (Nat.le_trans (outS_le (by rw [HL.out]; exact HLE.out) HA1.out) (by rw [HL.out]; omega))
              obtain ⟨g, hg⟩ : ∃ g, g = wr.heap.size := ⟨_, rfl⟩
              obtain ⟨W1, hW1⟩ : ∃ W1, W1 = wr.alloc (.cells #[.int .i64 x.acct, .int .i64 x.instr, .int .i64 x.qty] 42) := ⟨_, rfl⟩
              have x0 : Blk W1 g #[.int .i64 x.acct, .int .i64 x.instr, .int .i64 x.qty] 42 := by rw [hW1, hg]; exact Blk.new wr _ _
              have hb1 : Below wr.heap.size wr W1 := by rw [hW1]; exact one_alloc _ _
              have HG := Lib.hid hg; have HW1 := Lib.hid hW1; have HX0 := Lib.hid x0; have Hb1 := Lib.hid hb1
              have hsz1 : W1.heap.size = wr.heap.size + 1 := by rw [hW1]; simp
              have HSZ := Lib.hid hsz1
              clear hW1 x0 hb1 hsz1
              have d0 : W1.cell? ⟨g, 0, none⟩ = some (.int .i64 x.acct) := HX0.out.cell 0
              have d1 : W1.cell? ⟨g, 1, none⟩ = some (.int .i64 x.instr) := HX0.out.cell 1
              have d2 : W1.cell? ⟨g, 2, none⟩ = some (.int .i64 x.qty) := HX0.out.cell 2
              clear hg
              go_upto_region 26 with (fail)
              rw [← HG.out, ← HW1.out]
              have HB1 := Lib.hid (HB.out.trans (Hb1.out.mono HNW.out))
              have HO1 := Lib.hid (HO.out.keep Hb1.out)
              have HNW1 : Hid (N ≤ W1.heap.size) := Lib.hid (by have := HSZ.out; have := HNW.out; omega)
              rcases Nat.lt_trichotomy j L.length with hjl | hjl | hjl
              · have HO2 : Hid (outS X L AA 1 (j + 1) = outS X L AA 1 j ++ [x]) := Lib.hid (by rw [← hx]; exact outS_lo zl hjl (by rw [HL.out]; exact hlt))
                have hkey := HLO.out j hjl
                rw [hx] at hkey
                generalize outS X L AA 1 j = Y at *
                rcases hkey with e1 | ⟨e1, e2⟩
                · have b1 : (x.acct == c) = false := beq_eq_false_iff_ne.2 (by omega)
                  have g1 : ¬ c < x.acct := by omega
                  clear e1 hx
                  go_wp2_with (at_builtin; (refine wp_ap okl rfl (.tmp 161) (.tmp 163) rfl N _ Y rfl (HO1.out.keep (one_alloc _ _)) _ _ _ [x] rfl (onel _ x _ _ rfl) rfl (fun h => by cases h) (by have := HT.out; simp only [List.length_append, List.length_cons, List.length_nil, maxLen] at *; omega) (by have := HT.out; simp only [encl, List.length_append, List.length_cons, List.length_nil] at *; omega) (by rw [World.size_alloc]; exact Nat.le_trans HNW1.out (Nat.le_add_right _ 1)) ?_; intro v6 w6 ho6 hb6 hg6 hv6; have HO6 := Lib.hid ho6; have HB6 := Lib.hid ((HB1.out.trans (one_alloc' HNW1.out)).trans hb6); clear ho6 hb6 hg6 hv6))
                  go_roundg (len1 - (j + 1))
                  case measure => omega
                  case rel => exact ⟨j + 1, by omega, by go_num, by rw [HO2.out]; exact HO6, rfl, HB6⟩
                · have b1 : (x.acct == c) = true := beq_iff_eq.2 e1
                  have b2 : (x.instr == (k : Int)) = false := beq_eq_false_iff_ne.2 (by omega)
                  have g1 : ¬ c < x.acct := by omega
                  have g2 : ¬ (k : Int) < x.instr := by omega
                  clear e1 e2 hx
                  go_wp2_with (at_builtin; (refine wp_ap okl rfl (.tmp 161) (.tmp 163) rfl N _ Y rfl (HO1.out.keep (one_alloc _ _)) _ _ _ [x] rfl (onel _ x _ _ rfl) rfl (fun h => by cases h) (by have := HT.out; simp only [List.length_append, List.length_cons, List.length_nil, maxLen] at *; omega) (by have := HT.out; simp only [encl, List.length_append, List.length_cons, List.length_nil] at *; omega) (by rw [World.size_alloc]; exact Nat.le_trans HNW1.out (Nat.le_add_right _ 1)) ?_; intro v6 w6 ho6 hb6 hg6 hv6; have HO6 := Lib.hid ho6; have HB6 := Lib.hid ((HB1.out.trans (one_alloc' HNW1.out)).trans hb6); clear ho6 hb6 hg6 hv6))
                  go_roundg (len1 - (j + 1))
                  case measure => omega
                  case rel => exact ⟨j + 1, by omega, by go_num, by rw [HO2.out]; exact HO6, rfl, HB6⟩
              · have HO2 : Hid (outS X L AA 1 (j + 1) = outS X L AA 1 j ++ AA) := Lib.hid (by
                  have hX : X = L ++ (y :: R) := HD.out.eq
                  have t1 := outS_mid1 (A := AA) hX
                  have t2 := outS_at (A := AA) (ol := 1) (O := [y]) (R := R) hX
                  rw [← hjl] at t1 t2
                  rw [t1, t2])
                obtain ⟨e0, e1, e2⟩ := HAT.out y rfl
                rw [← hjl, hx] at e0
                subst e0
                generalize outS X L AA 1 j = Y at *
                have b1 : (x.acct == c) = true := beq_iff_eq.2 e1
                have b2 : (x.instr == (k : Int)) = true := beq_iff_eq.2 e2
                clear hx hjl e1 e2
                go_wp2
                go_roundg (len1 - (j + 1))
                case measure => omega
                case rel => exact ⟨j + 1, by omega, by go_num, by rw [HO2.out, HAA.out, List.append_nil]; exact HO1, rfl, HB1⟩
              · have HO2 : Hid (outS X L AA 1 (j + 1) = outS X L AA 1 j ++ [x]) := Lib.hid (by rw [← hx]; exact outS_hi zl hjl (by omega) (by rw [HL.out]; exact hlt))
                have hkey := HHI.out j (by simp; omega) hlt
                rw [hx] at hkey
                generalize outS X L AA 1 j = Y at *
                rcases hkey with e1 | ⟨e1, e2⟩
                · have b1 : (x.acct == c) = false := beq_eq_false_iff_ne.2 (by omega)
                  clear hx hjl
                  go_wp2_with (at_builtin; (refine wp_ap okl rfl (.tmp 161) (.tmp 163) rfl N _ Y rfl (HO1.out.keep (one_alloc _ _)) _ _ _ [x] rfl (onel _ x _ _ rfl) rfl (fun h => by cases h) (by have := HT.out; simp only [List.length_append, List.length_cons, List.length_nil, maxLen] at *; omega) (by have := HT.out; simp only [encl, List.length_append, List.length_cons, List.length_nil] at *; omega) (by rw [World.size_alloc]; exact Nat.le_trans HNW1.out (Nat.le_add_right _ 1)) ?_; intro v6 w6 ho6 hb6 hg6 hv6; have HO6 := Lib.hid ho6; have HB6 := Lib.hid ((HB1.out.trans (one_alloc' HNW1.out)).trans hb6); clear ho6 hb6 hg6 hv6))
                  go_roundg (len1 - (j + 1))
                  case measure => omega
                  case rel => exact ⟨j + 1, by omega, by go_num, by rw [HO2.out]; exact HO6, rfl, HB6⟩
                · have b1 : (x.acct == c) = true := beq_iff_eq.2 e1.symm
                  have b2 : (x.instr == (k : Int)) = false := beq_eq_false_iff_ne.2 (by omega)
                  have g1 : ¬ c < x.acct := by omega
                  clear e1 hx hjl
                  go_wp2_with (at_builtin; (refine wp_ap okl rfl (.tmp 161) (.tmp 163) rfl N _ Y rfl (HO1.out.keep (one_alloc _ _)) _ _ _ [x] rfl (onel _ x _ _ rfl) rfl (fun h => by cases h) (by have := HT.out; simp only [List.length_append, List.length_cons, List.length_nil, maxLen] at *; omega) (by have := HT.out; simp only [encl, List.length_append, List.length_cons, List.length_nil] at *; omega) (by rw [World.size_alloc]; exact Nat.le_trans HNW1.out (Nat.le_add_right _ 1)) ?_; intro v6 w6 ho6 hb6 hg6 hv6; have HO6 := Lib.hid ho6; have HB6 := Lib.hid ((HB1.out.trans (one_alloc' HNW1.out)).trans hb6); clear ho6 hb6 hg6 hv6))
                  go_roundg (len1 - (j + 1))
                  case measure => omega
                  case rel => exact ⟨j + 1, by omega, by go_num, by rw [HO2.out]; exact HO6, rfl, HB6⟩
            · have HJ : Hid (j = len1) := Lib.hid (by omega)
              rw [HJ.out] at HO
              have hend := outS_end (A := AA) (O := [y]) (R := R) HD.out.eq (by rw [HL.out]; exact HIS.out y rfl)
              rw [HL.out] at hend
              rw [show ([y] : List Lo).length = 1 from rfl] at hend
              rw [hend, HAA.out] at HO
              clear hend
              go_wp2
              go_ret3
              refine ⟨_, _, by rw [HE.out] <;> rfl, ?_, ?_, HBL.out.trans (HB.out.mono HNN.out)⟩
              · rw [HLZ.out]
                exact (HOL.out.keep (by rw [← HN.out]; exact HB.out)).low HNL.out
              · rw [HLX.out]
                exact HO.out.low HNN.out
        · have bs : (s == 0) = false := beq_eq_false_iff_ne.2 hs0
          rw [bs]
          obtain ⟨AA, hAA⟩ : ∃ AA : List Lo, AA = [⟨c, (k : Int), s⟩] := ⟨_, rfl⟩
          have HA1 : Hid (AA.length ≤ 1) := Lib.hid (by rw [hAA]; simp)
          have HAA := Lib.hid hAA
          have HE : Hid (resE Z X.length (some y) (k : Int) q = 0) := Lib.hid (HEE.out.trans (by simp))
          have HLZ : Hid (resZ Z X.length (some y) (k : Int) q = Z.set k u) := Lib.hid (by rw [resZ_yes HE.out, Int.toNat_natCast, HZZ.out, HU.out])
          have HLX : Hid (resX Z X.length L (some y) R c (k : Int) q = L ++ ([⟨c, (k : Int), s⟩] ++ R)) := Lib.hid (by rw [resX_yes HE.out, HS0.out, resO_yes hs0]; rfl)
          clear hAA hs0
          go_wp2
          go_loopg [15, 16, 103] len1 (fun m v ld i wr => ∃ j : Nat, j + m = len1 ∧ i = .int .i64 (j : Int) ∧ Hid (Own encl wr N v (outS X L AA 1 j)) ∧ ld = .bool (decide (L.length < j)) ∧ Hid (Below N wL wr))
          case atStart => exact ⟨0, by omega, rfl, by rw [outS_zero]; exact Lib.hid (Own.nil _ _), by simp, HBa⟩
          case round =>
            obtain ⟨j, hj, rfl, HO, rfl, HB⟩ := hrel
            have HNB := HB.out.size
            have HNW : Hid (N ≤ wr.heap.size) := Lib.hid (by rw [HN.out]; exact HNB)
            by_cases hlt : j < len1
            · obtain ⟨b, off, rfl, c0, c1, c2⟩ := atl (H.out wr HB.out) (show j < X.length by rw [HL.out]; exact hlt)
              have j1 : (0 : Int) ≤ (j : Int) := by omega
              have j2 : (j : Int) < (len1 : Int) := by omega
              obtain ⟨x, hx⟩ : ∃ x, X.getD j zl = x := ⟨_, rfl⟩
              rw [hx] at c0 c1 c2
              have HT : Hid ((outS X L AA 1 j).length ≤ 901) := Lib.hid (Nat.le_trans (outS_le (by rw [HL.out]; exact HLE.out) HA1.out) (by rw [HL.out]; omega))
              obtain ⟨g, hg⟩ : ∃ g, g = wr.heap.size := ⟨_, rfl⟩
              obtain ⟨W1, hW1⟩ : ∃ W1, W1 = wr.alloc (.cells #[.int .i64 x.acct, .int .i64 x.instr, .int .i64 x.qty] 42) := ⟨_, rfl⟩
              have x0 : Blk W1 g #[.int .i64 x.acct, .int .i64 x.instr, .int .i64 x.qty] 42 := by rw [hW1, hg]; exact Blk.new wr _ _
              have hb1 : Below wr.heap.size wr W1 := by rw [hW1]; exact one_alloc _ _
              have HG := Lib.hid hg; have HW1 := Lib.hid hW1; have HX0 := Lib.hid x0; have Hb1 := Lib.hid hb1
              have hsz1 : W1.heap.size = wr.heap.size + 1 := by rw [hW1]; simp
              have HSZ := Lib.hid hsz1
              clear hW1 x0 hb1 hsz1
              have d0 : W1.cell? ⟨g, 0, none⟩ = some (.int .i64 x.acct) := HX0.out.cell 0
              have d1 : W1.cell? ⟨g, 1, none⟩ = some (.int .i64 x.instr) := HX0.out.cell 1
              have d2 : W1.cell? ⟨g, 2, none⟩ = some (.int .i64 x.qty) := HX0.out.cell 2
              clear hg
              go_upto_region 26 with (fail)
              rw [← HG.out, ← HW1.out]
              have HB1 := Lib.hid (HB.out.trans (Hb1.out.mono HNW.out))
              have HO1 := Lib.hid (HO.out.keep Hb1.out)
              have HNW1 : Hid (N ≤ W1.heap.size) := Lib.hid (by have := HSZ.out; have := HNW.out; omega)
              rcases Nat.lt_trichotomy j L.length with hjl | hjl | hjl
              · have HO2 : Hid (outS X L AA 1 (j + 1) = outS X L AA 1 j ++ [x]) := Lib.hid (by rw [← hx]; exact outS_lo zl hjl (by rw [HL.out]; exact hlt))
                have hkey := HLO.out j hjl
                rw [hx] at hkey
                have HLD : Hid (decide (L.length < j + 1) = false) := Lib.hid (decide_eq_false (by omega))
                have hld : decide (L.length < j) = false := decide_eq_false (by omega)
                rw [hld]
                clear hld
                generalize outS X L AA 1 j = Y at *
                rcases hkey with e1 | ⟨e1, e2⟩
                · have b1 : (x.acct == c) = false := beq_eq_false_iff_ne.2 (by omega)
                  have g1 : ¬ c < x.acct := by omega
                  clear e1 hx
                  go_wp2_with (at_builtin; (refine wp_ap okl rfl (.tmp 161) (.tmp 163) rfl N _ Y rfl (HO1.out.keep (one_alloc _ _)) _ _ _ [x] rfl (onel _ x _ _ rfl) rfl (fun h => by cases h) (by have := HT.out; simp only [List.length_append, List.length_cons, List.length_nil, maxLen] at *; omega) (by have := HT.out; simp only [encl, List.length_append, List.length_cons, List.length_nil] at *; omega) (by rw [World.size_alloc]; exact Nat.le_trans HNW1.out (Nat.le_add_right _ 1)) ?_; intro v6 w6 ho6 hb6 hg6 hv6; have HO6 := Lib.hid ho6; have HB6 := Lib.hid ((HB1.out.trans (one_alloc' HNW1.out)).trans hb6); clear ho6 hb6 hg6 hv6))
                  go_roundg (len1 - (j + 1))
                  case measure => omega
                  case rel => exact ⟨j + 1, by omega, by go_num, by rw [HO2.out]; exact HO6, by rw [HLD.out], HB6⟩
                · have b1 : (x.acct == c) = true := beq_iff_eq.2 e1
                  have b2 : (x.instr == (k : Int)) = false := beq_eq_false_iff_ne.2 (by omega)
                  have g1 : ¬ c < x.acct := by omega
                  have g2 : ¬ (k : Int) < x.instr := by omega
                  clear e1 e2 hx
                  go_wp2_with (at_builtin; (refine wp_ap okl rfl (.tmp 161) (.tmp 163) rfl N _ Y rfl (HO1.out.keep (one_alloc _ _)) _ _ _ [x] rfl (onel _ x _ _ rfl) rfl (fun h => by cases h) (by have := HT.out; simp only [List.length_append, List.length_cons, List.length_nil, maxLen] at *; omega) (by have := HT.out; simp only [encl, List.length_append, List.length_cons, List.length_nil] at *; omega) (by rw [World.size_alloc]; exact Nat.le_trans HNW1.out (Nat.le_add_right _ 1)) ?_; intro v6 w6 ho6 hb6 hg6 hv6; have HO6 := Lib.hid ho6; have HB6 := Lib.hid ((HB1.out.trans (one_alloc' HNW1.out)).trans hb6); clear ho6 hb6 hg6 hv6))
                  go_roundg (len1 - (j + 1))
                  case measure => omega
                  case rel => exact ⟨j + 1, by omega, by go_num, by rw [HO2.out]; exact HO6, by rw [HLD.out], HB6⟩
              · have HO2 : Hid (outS X L AA 1 (j + 1) = outS X L AA 1 j ++ AA) := Lib.hid (by
                  have hX : X = L ++ (y :: R) := HD.out.eq
                  have t1 := outS_mid1 (A := AA) hX
                  have t2 := outS_at (A := AA) (ol := 1) (O := [y]) (R := R) hX
                  rw [← hjl] at t1 t2
                  rw [t1, t2])
                obtain ⟨e0, e1, e2⟩ := HAT.out y rfl
                rw [← hjl, hx] at e0
                subst e0
                have HLD : Hid (decide (L.length < j + 1) = true) := Lib.hid (decide_eq_true (by omega))
                have hld : decide (L.length < j) = false := decide_eq_false (by omega)
                rw [hld]
                clear hld
                generalize outS X L AA 1 j = Y at *
                have b1 : (x.acct == c) = true := beq_iff_eq.2 e1
                have b2 : (x.instr == (k : Int)) = true := beq_iff_eq.2 e2
                clear hx hjl e1 e2
                go_wp2_with (at_builtin; (refine wp_ap okl rfl (.tmp 119) (.tmp 126) rfl N _ Y rfl (HO1.out.keep (one_alloc _ _)) _ _ _ [⟨c, (k : Int), s⟩] rfl (onel _ ⟨c, (k : Int), s⟩ _ _ rfl) rfl (fun h => by cases h) (by have := HT.out; simp only [List.length_append, List.length_cons, List.length_nil, maxLen] at *; omega) (by have := HT.out; simp only [encl, List.length_append, List.length_cons, List.length_nil] at *; omega) (by rw [World.size_alloc]; exact Nat.le_trans HNW1.out (Nat.le_add_right _ 1)) ?_; intro v6 w6 ho6 hb6 hg6 hv6; have HO6 := Lib.hid ho6; have HB6 := Lib.hid ((HB1.out.trans (one_alloc' HNW1.out)).trans hb6); clear ho6 hb6 hg6 hv6))
                go_roundg (len1 - (j + 1))
                case measure => omega
                case rel => exact ⟨j + 1, by omega, by go_num, by rw [HO2.out, HAA.out]; exact HO6, by rw [HLD.out], HB6⟩
              · have HO2 : Hid (outS X L AA 1 (j + 1) = outS X L AA 1 j ++ [x]) := Lib.hid (by rw [← hx]; exact outS_hi zl hjl (by omega) (by rw [HL.out]; exact hlt))
                have hkey := HHI.out j (by simp; omega) hlt
                rw [hx] at hkey
                have HLD : Hid (decide (L.length < j + 1) = true) := Lib.hid (decide_eq_true (by omega))
                have hld : decide (L.length < j) = true := decide_eq_true hjl
                rw [hld]
                clear hld
                generalize outS X L AA 1 j = Y at *
                rcases hkey with e1 | ⟨e1, e2⟩
                · have b1 : (x.acct == c) = false := beq_eq_false_iff_ne.2 (by omega)
                  clear hx hjl
                  go_wp2_with (at_builtin; (refine wp_ap okl rfl (.tmp 161) (.tmp 163) rfl N _ Y rfl (HO1.out.keep (one_alloc _ _)) _ _ _ [x] rfl (onel _ x _ _ rfl) rfl (fun h => by cases h) (by have := HT.out; simp only [List.length_append, List.length_cons, List.length_nil, maxLen] at *; omega) (by have := HT.out; simp only [encl, List.length_append, List.length_cons, List.length_nil] at *; omega) (by rw [World.size_alloc]; exact Nat.le_trans HNW1.out (Nat.le_add_right _ 1)) ?_; intro v6 w6 ho6 hb6 hg6 hv6; have HO6 := Lib.hid ho6; have HB6 := Lib.hid ((HB1.out.trans (one_alloc' HNW1.out)).trans hb6); clear ho6 hb6 hg6 hv6))
                  go_roundg (len1 - (j + 1))
                  case measure => omega
                  case rel => exact ⟨j + 1, by omega, by go_num, by rw [HO2.out]; exact HO6, by rw [HLD.out], HB6⟩
                · have b1 : (x.acct == c) = true := beq_iff_eq.2 e1.symm
                  have b2 : (x.instr == (k : Int)) = false := beq_eq_false_iff_ne.2 (by omega)
                  have g1 : ¬ c < x.acct := by omega
                  clear e1 hx hjl
                  go_wp2_with (at_builtin; (refine wp_ap okl rfl (.tmp 161) (.tmp 163) rfl N _ Y rfl (HO1.out.keep (one_alloc _ _)) _ _ _ [x] rfl (onel _ x _ _ rfl) rfl (fun h => by cases h) (by have := HT.out; simp only [List.length_append, List.length_cons, List.length_nil, maxLen] at *; omega) (by have := HT.out; simp only [encl, List.length_append, List.length_cons, List.length_nil] at *; omega) (by rw [World.size_alloc]; exact Nat.le_trans HNW1.out (Nat.le_add_right _ 1)) ?_; intro v6 w6 ho6 hb6 hg6 hv6; have HO6 := Lib.hid ho6; have HB6 := Lib.hid ((HB1.out.trans (one_alloc' HNW1.out)).trans hb6); clear ho6 hb6 hg6 hv6))
                  go_roundg (len1 - (j + 1))
                  case measure => omega
                  case rel => exact ⟨j + 1, by omega, by go_num, by rw [HO2.out]; exact HO6, by rw [HLD.out], HB6⟩
            · have HJ : Hid (j = len1) := Lib.hid (by omega)
              rw [HJ.out]
              rw [HJ.out] at HO
              have hend := outS_end (A := AA) (O := [y]) (R := R) HD.out.eq (by rw [HL.out]; exact HIS.out y rfl)
              rw [HL.out] at hend
              rw [show ([y] : List Lo).length = 1 from rfl] at hend
              rw [hend, HAA.out] at HO
              rw [decide_eq_true (HIS.out y rfl)]
              clear hend
              go_wp2
              go_ret3
              refine ⟨_, _, by rw [HE.out] <;> rfl, ?_, ?_, HBL.out.trans (HB.out.mono HNN.out)⟩
              · rw [HLZ.out]
                exact (HOL.out.keep (by rw [← HN.out]; exact HB.out)).low HNL.out
              · rw [HLX.out]
                exact HO.out.low HNN.out

/-! ### Supply -/
set_option maxRecDepth 100000 in
set_option maxHeartbeats 4000000 in
theorem rsup_any (a0 : Option Addr) (len0 cap0 : Nat) (Z : List Int) (i q : Int) (w : World) (h : Has encz w a0 Z) (hl : Z.length = len0) (hm : len0 * 8 ≤ 140737488351232) (hz : ∀ j, j < len0 → stockB (Z.getD j 0) = true) :
    Calls Try.prog 13 #[.slice a0 len0 cap0, .int .i64 i, .int .i64 q] w (SupIt Z i q w) := by
  unfold SupIt
  have HQQ : Hid (∀ wx, Calls Try.prog 29 #[.int .i64 q] wx fun e w' => e = .returned (.bool (qtyB q)) ∧ wx = w') := Lib.hid fun wx => bound_any q wx
  by_cases hi0 : i < 0
  · have HE : Hid (supE Z i q = 32) := Lib.hid (by unfold supE exB; rw [decide_eq_false (show ¬ 0 ≤ i by omega), Bool.false_and]; rfl)
    have HL : Hid (supL Z i q = []) := Lib.hid (by unfold supL; rw [HE.out]; rfl)
    rw [HE.out, HL.out]
    clear h hl hz HQQ
    go_enter Try.func13, Try.ntmps13
    go_wp2
    go_ret2
    exact ⟨_, rfl, Own.nil _ _, Below.refl _ _⟩
  by_cases hi1 : (len0 : Int) ≤ i
  · have HE : Hid (supE Z i q = 32) := Lib.hid (by unfold supE exB; rw [hl, decide_eq_false (show ¬ i < (len0 : Int) by omega), Bool.and_false]; rfl)
    have HL : Hid (supL Z i q = []) := Lib.hid (by unfold supL; rw [HE.out]; rfl)
    rw [HE.out, HL.out]
    clear h hl hz HQQ
    go_enter Try.func13, Try.ntmps13
    go_wp2
    go_ret2
    exact ⟨_, rfl, Own.nil _ _, Below.refl _ _⟩
  obtain ⟨k, hik⟩ : ∃ k : Nat, i = (k : Int) := ⟨i.toNat, by omega⟩
  subst hik
  have hk : k < len0 := by omega
  have hkp : exB Z.length (k : Int) = true := by rw [hl]; exact exB_iff.2 ⟨by omega, by omega⟩
  obtain ⟨b, off, rfl, c0⟩ := atz h (show k < Z.length by rw [hl]; exact hk)
  have hzk := hz k hk
  obtain ⟨z, hzz⟩ : ∃ z, Z.getD k 0 = z := ⟨_, rfl⟩
  rw [hzz] at c0 hzk
  obtain ⟨z1, z2⟩ := stockB_iff.1 hzk
  have i0 : (0 : Int) ≤ (k : Int) := by omega
  have i1 : (k : Int) < (len0 : Int) := by omega
  cases hQ : qtyB q with
  | false =>
    have HE : Hid (supE Z (k : Int) q = 36) := Lib.hid (by simp [supE, hkp, hQ])
    have HL : Hid (supL Z (k : Int) q = []) := Lib.hid (by unfold supL; rw [HE.out]; rfl)
    rw [hQ] at HQQ
    rw [HE.out, HL.out]
    clear h hl hz hQ hzk hzz hkp
    go_enter Try.func13, Try.ntmps13
    go_wp2_with (go_at_call 29; (with_reducible refine (HQQ.out _).mono ?_); rintro e w5 ⟨rfl, rfl⟩)
    go_ret2
    exact ⟨_, rfl, Own.nil _ _, Below.refl _ _⟩
  | true =>
  rw [hQ] at HQQ
  obtain ⟨q1, q2⟩ := qtyB_iff.1 hQ
  obtain ⟨t, ht⟩ : ∃ t, z + q = t := ⟨_, rfl⟩
  have iw : IntKind.i64.wrap (z + q) = t := by rw [← ht]; exact IntWalk.i64_in _ (by omega)
  have HST : Hid (∀ wx, Calls Try.prog 26 #[.int .i64 t] wx fun e w' => e = .returned (.bool (stockB t)) ∧ wx = w') := Lib.hid fun wx => fits_any t wx
  cases hT : stockB t with
  | false =>
    have HE : Hid (supE Z (k : Int) q = 36) := Lib.hid (by unfold supE; rw [hkp, hQ, Int.toNat_natCast, hzz, ht, hT]; rfl)
    have HL : Hid (supL Z (k : Int) q = []) := Lib.hid (by unfold supL; rw [HE.out]; rfl)
    rw [hT] at HST
    rw [HE.out, HL.out]
    clear h hl hz hQ hzk hzz hkp ht hT
    go_enter Try.func13, Try.ntmps13
    go_wp2_with (first | (go_at_call 29; (with_reducible refine (HQQ.out _).mono ?_); rintro e w5 ⟨rfl, rfl⟩) | (go_at_call 26; (with_reducible refine (HST.out _).mono ?_); rintro e w5 ⟨rfl, rfl⟩))
    go_ret2
    exact ⟨_, rfl, Own.nil _ _, Below.refl _ _⟩
  | true =>
    have HE : Hid (supE Z (k : Int) q = 0) := Lib.hid (by unfold supE; rw [hkp, hQ, Int.toNat_natCast, hzz, ht, hT]; rfl)
    have HL : Hid (supL Z (k : Int) q = Z.set k t) := Lib.hid (by unfold supL; rw [HE.out, if_pos rfl, Int.toNat_natCast, hzz, ht])
    rw [hT] at HST
    rw [HE.out, HL.out]
    have HZZ : Hid (Z.getD k 0 = z) := Lib.hid hzz
    have HKZ : Hid (k < Z.length) := Lib.hid (by rw [hl]; exact hk)
    have HL0 := Lib.hid hl
    have HZ0 : Hid (∀ wx, Below w.heap.size w wx → Has encz wx (some ⟨b, off, none⟩) Z) := Lib.hid fun wx hb => h.keep hb
    clear h hl hz hQ hzk hzz hkp ht hT
    go_enter Try.func13, Try.ntmps13
    go_wp2_with (first | (go_at_call 29; (with_reducible refine (HQQ.out _).mono ?_); rintro e w5 ⟨rfl, rfl⟩) | (go_at_call 26; (with_reducible refine (HST.out _).mono ?_); rintro e w5 ⟨rfl, rfl⟩) | (at_builtin; (refine wp_ap okz rfl (.tmp 30) (.tmp 31) rfl w.heap.size _ [] rfl (made_z w) _ _ _ Z rfl (HZ0.out _ (one_alloc _ _)) HL0.out (fun h => by cases h) (by simp [maxLen]; omega) (by simp [encz]; omega) (by simp) ?_; intro v5 w5 ho5 hb5 hg5 hv5; rw [List.nil_append] at ho5; obtain ⟨g5, c5, rfl, hg5', _, hf5⟩ := ho5.block (by have := HL0.out; omega); have m0 := own_atz ho5 HKZ.out; rw [HZZ.out] at m0; have HS5 := Lib.hid (own_setz ho5 HKZ.out t); rw [HL0.out] at HS5 ⊢; have hfz := hf5 k; have HB5 := Lib.hid ((one_alloc w (.cells #[] 3)).trans hb5); have HG5 : Hid (w.heap.size ≤ g5) := Lib.hid hg5'; clear ho5 hf5 hb5 hg5 hg5' hv5 c0)))
    go_ret2
    exact ⟨_, rfl, HS5.out, HB5.out.setCell (p := ⟨g5, k, none⟩) HG5.out _⟩
end Go.Proofs.Ytnaelmddafhjlaa.Bo

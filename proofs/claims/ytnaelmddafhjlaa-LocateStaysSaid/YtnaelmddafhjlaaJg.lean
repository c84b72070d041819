/-
  Layer 14: the program's Reserve. (Written by gen_jg.py.)
-/
import Derived.Test.YtnaelmddafhjlaaJf
namespace Go.Proofs.Ytnaelmddafhjlaa.Bo
open Go.RowKit Rw
set_option linter.unusedVariables false
set_option linter.unusedSimpArgs false

def resE (Z : List Int) (n : Nat) (o : Option Lo) (i q : Int) : Int :=
  if exB Z.length i = false then 32 else if qtyB q = false ∨ stockB (heldO o + q) = false then 36 else if Z.getD i.toNat 0 < q then 39 else if 1000000000 < Z.getD i.toNat 0 - q then 36 else if o.isNone = true ∧ 0 < heldO o + q ∧ 32 ≤ n then 40 else 0
def resZ (Z : List Int) (n : Nat) (o : Option Lo) (i q : Int) : List Int := if resE Z n o i q = 0 then Z.set i.toNat (Z.getD i.toNat 0 - q) else []
def resX (Z : List Int) (n : Nat) (L : List Lo) (o : Option Lo) (R : List Lo) (c i q : Int) : List Lo := if resE Z n o i q = 0 then L ++ ((resO c i (heldO o + q)).toList ++ R) else []
theorem resZ_no {Z : List Int} {n : Nat} {o : Option Lo} {i q : Int} (h : resE Z n o i q ≠ 0) : resZ Z n o i q = [] := if_neg h
theorem resX_no {Z : List Int} {n : Nat} {L R : List Lo} {o : Option Lo} {c i q : Int} (h : resE Z n o i q ≠ 0) : resX Z n L o R c i q = [] := if_neg h
theorem resZ_yes {Z : List Int} {n : Nat} {o : Option Lo} {i q : Int} (h : resE Z n o i q = 0) : resZ Z n o i q = Z.set i.toNat (Z.getD i.toNat 0 - q) := if_pos h
theorem resX_yes {Z : List Int} {n : Nat} {L R : List Lo} {o : Option Lo} {c i q : Int} (h : resE Z n o i q = 0) : resX Z n L o R c i q = L ++ ((resO c i (heldO o + q)).toList ++ R) := if_pos h
def ResIt (Z : List Int) (n : Nat) (L : List Lo) (o : Option Lo) (R : List Lo) (c i q : Int) (w : World) (e : Ending) (w' : World) : Prop :=
  ∃ v u s, e = .returned (.tuple #[v, u, .int .i64 (resE Z n o i q)]) ∧ Own encz w' w.heap.size v (resZ Z n o i q) ∧ (∀ r, v.ownBlock = some r → r < s) ∧ Own encl w' s u (resX Z n L o R c i q) ∧ w.heap.size ≤ s ∧ Below w.heap.size w w'
theorem resO_len (c i s : Int) : (resO c i s).toList.length ≤ 1 := by unfold resO; split <;> simp
/-- Three slices, laid, in a region that drew its order ahead of other calls. -/
theorem three0_l (w : World) (p q r : Ptl) (g : Nat) (hg : g = w.heap.size) (hp : p.Ok w) (hq : q.Ok w) (hr : r.Ok w) (hm : p.X.length + q.X.length + r.X.length ≤ 1000) :
    Calls Try.prog 31 #[.slice (some ⟨g, 0, none⟩) 3 3] (w.alloc (.cells #[.slice p.a p.len p.cap, .slice q.a q.len q.cap, .slice r.a r.len r.cap] 23)) fun e w' => ∃ v, e = .returned v ∧ Own encl w' w.heap.size v (p.X ++ (q.X ++ r.X)) ∧ Below w.heap.size w w' := by
  have hn := Blk.new w #[.slice p.a p.len p.cap, .slice q.a q.len q.cap, .slice r.a r.len r.cap] 23
  rw [← hg] at hn
  have hb : Below w.heap.size w (w.alloc (.cells #[.slice p.a p.len p.cap, .slice q.a q.len q.cap, .slice r.a r.len r.cap] 23)) := one_alloc _ _
  have he : alll [p, q, r] = p.X ++ (q.X ++ r.X) := by simp [alll]
  refine (concat_l g 3 [p, q, r] _ rfl ?_ ?_ (by rw [he]; simp only [List.length_append]; omega) (by omega)).mono ?_
  · intro j x hx
    match j, hx with
    | 0, hx => cases hx; exact hn.cell 0
    | 1, hx => cases hx; exact hn.cell 1
    | 2, hx => cases hx; exact hn.cell 2
  · intro j x hx
    match j, hx with
    | 0, hx => cases hx; exact ⟨hp.has.keep hb, hp.len, hp.none_⟩
    | 1, hx => cases hx; exact ⟨hq.has.keep hb, hq.len, hq.none_⟩
    | 2, hx => cases hx; exact ⟨hr.has.keep hb, hr.len, hr.none_⟩
  · rintro e w' ⟨v, rfl, ho, hb2⟩
    rw [he] at ho
    exact ⟨v, rfl, ho.low hb.size, below_next hb hb2⟩
set_option maxRecDepth 100000 in
set_option maxHeartbeats 8000000 in
theorem res_any (a0 : Option Addr) (len0 cap0 : Nat) (Z : List Int) (a1 : Option Addr) (len1 cap1 : Nat) (X L R : List Lo) (o : Option Lo) (c i q : Int) (w : World)
    (h0 : Has encz w a0 Z) (hl0 : Z.length = len0) (hn0 : a0 = none → cap0 = 0) (hm0 : len0 * 8 ≤ 140737488351232)
    (hh1 : Has encl w a1 X) (hl1 : X.length = len1) (hlc : len1 ≤ cap1) (hn1 : a1 = none → cap1 = 0) (hm1 : len1 ≤ 900) (hcm : cap1 ≤ 9223372036854775807)
    (hd : Dec keyl X (c, i) L o R) (hz : ∀ j, j < len0 → stockB (Z.getD j 0) = true) (hq : ∀ y, o = some y → stockB y.qty = true) :
    Calls Try.prog 17 #[.slice a0 len0 cap0, .slice a1 len1 cap1, .int .i64 c, .int .i64 i, .int .i64 q] w (ResIt Z X.length L o R c i q w) := by
  unfold ResIt
  cases hE : exB len0 i with
  | false =>
    have HEX : Hid (∀ wx, Calls Try.prog 24 #[.slice a0 len0 cap0, .int .i64 i] wx fun e w' => e = .returned (.bool false) ∧ wx = w') := Lib.hid fun wx => by
      have := exists_any a0 len0 cap0 i wx (by omega)
      rwa [hE] at this
    have HE : Hid (resE Z X.length o i q = 32) := Lib.hid (by simp [resE, hl0, hE])
    rw [HE.out, resZ_no (by rw [HE.out]; decide), resX_no (by rw [HE.out]; decide)]
    clear h0 hh1 hd hz hq hE
    go_enter Try.func17, Try.ntmps17
    go_wp2_with ((go_at_call 24; (with_reducible refine (HEX.out _).mono ?_); rintro e wE ⟨rfl, rfl⟩))
    go_ret3
    exact ⟨_, _, w.heap.size, rfl, Own.nil _ _, (fun r e => by cases e), Own.nil _ _, Nat.le_refl _, Below.refl _ _⟩
  | true =>
  have HEX : Hid (∀ wx, Calls Try.prog 24 #[.slice a0 len0 cap0, .int .i64 i] wx fun e w' => e = .returned (.bool true) ∧ wx = w') := Lib.hid fun wx => by
    have := exists_any a0 len0 cap0 i wx (by omega)
    rwa [hE] at this
  obtain ⟨k, hik, hk⟩ := ex_nat hE
  have hzk := hz k hk
  obtain ⟨z, hzz⟩ : ∃ z, Z.getD k 0 = z := ⟨_, rfl⟩
  rw [hzz] at hzk
  obtain ⟨z1, z2⟩ := stockB_iff.1 hzk
  have HZC : Hid (∀ wx, Below w.heap.size w wx → ∃ b off, a0 = some ⟨b, off, none⟩ ∧ wx.cell? ⟨b, off + k, none⟩ = some (.int .i64 z)) := Lib.hid fun wx hb => by
    obtain ⟨b, off, e, c0⟩ := atz (h0.keep hb) (show k < Z.length by rw [hl0]; exact hk)
    rw [hzz] at c0
    exact ⟨b, off, e, c0⟩
  obtain ⟨b0, off0, ea0, _⟩ := HZC.out w (Below.refl _ _)
  have h1y : 0 ≤ heldO o ∧ heldO o ≤ 1000000000 := by
    cases o with
    | none => exact ⟨by decide, by decide⟩
    | some y => exact stockB_iff.1 (hq y rfl)
  obtain ⟨hO, hhO⟩ : ∃ hO, heldO o = hO := ⟨_, rfl⟩
  rw [hhO] at h1y
  obtain ⟨P, hP⟩ : ∃ P, P = L.length := ⟨_, rfl⟩
  have hp := place_l a1 len1 cap1 X L R o c i w hh1 hl1 (by omega) hd
  rw [← hP] at hp
  have HH : Hid (∀ wx, Below w.heap.size w wx → Calls Try.prog 15 #[.slice a1 len1 cap1, .int .i64 c, .int .i64 i] wx fun e w' => e = .returned (.int .i64 hO) ∧ Below wx.heap.size wx w') := Lib.hid fun wx hb => by
    have := held_any a1 len1 cap1 X L R o c i wx (hh1.keep hb) hl1 (by omega) hd
    rwa [hhO] at this
  obtain ⟨s, hs⟩ : ∃ s, IntKind.i64.wrap (hO + q) = s := ⟨_, rfl⟩
  have hle : P ≤ len1 := by rw [hP, ← hl1, hd.len]; omega
  have hkp : exB Z.length (k : Int) = true := by rw [hl0, ← hik]; exact hE
  cases hQ : qtyB q with
  | false =>
    have HQQ : Hid (∀ wx, Calls Try.prog 27 #[.int .i64 q] wx fun e w' => e = .returned (.bool false) ∧ wx = w') := Lib.hid fun wx => by
      have := quantity_any q wx
      rwa [hQ] at this
    subst hik ea0
    have HE : Hid (resE Z X.length o (k : Int) q = 36) := Lib.hid (by simp [resE, hkp, hQ])
    rw [HE.out, resZ_no (by rw [HE.out]; decide), resX_no (by rw [HE.out]; decide)]
    clear h0 hd hz hq hE hzk hQ hP h1y hkp
    go_enter Try.func17, Try.ntmps17
    go_wp2_with (first | (go_at_call 24; (with_reducible refine (HEX.out _).mono ?_); rintro e wE ⟨rfl, rfl⟩) | (go_at_call 30; (with_reducible refine hp.mono ?_); rintro e w6 ⟨rfl, hb6⟩) | (go_at_call 15; (with_reducible refine (HH.out _ hb6).mono ?_); rintro e w7 ⟨rfl, hb7⟩; have B7 := Lib.hid (below_next hb6 hb7); obtain ⟨b', off', e', c0⟩ := HZC.out w7 B7.out; cases e'; clear hb6 hb7) | (go_at_call 27; (with_reducible refine (HQQ.out _).mono ?_); rintro e w5 ⟨rfl, rfl⟩))
    go_ret3
    exact ⟨_, _, w.heap.size, rfl, Own.nil _ _, (fun r e => by cases e), Own.nil _ _, Nat.le_refl _, B7.out⟩
  | true =>
  have HQQ : Hid (∀ wx, Calls Try.prog 27 #[.int .i64 q] wx fun e w' => e = .returned (.bool true) ∧ wx = w') := Lib.hid fun wx => by
    have := quantity_any q wx
    rwa [hQ] at this
  obtain ⟨q1, q2⟩ := qtyB_iff.1 hQ
  have hs2 : heldO o + q = s := by rw [← hs, hhO]; exact (IntWalk.i64_in _ (by omega)).symm
  cases hS : stockB s with
  | false =>
    have HST : Hid (∀ wx, Calls Try.prog 23 #[.int .i64 s] wx fun e w' => e = .returned (.bool false) ∧ wx = w') := Lib.hid fun wx => by
      have := stock_any s wx
      rwa [hS] at this
    subst hik ea0
    have HE : Hid (resE Z X.length o (k : Int) q = 36) := Lib.hid (by simp only [resE, hkp, hQ, hs2, hS]; rfl)
    rw [HE.out, resZ_no (by rw [HE.out]; decide), resX_no (by rw [HE.out]; decide)]
    clear h0 hd hz hq hE hzk hQ hP h1y hkp hS hs2
    go_enter Try.func17, Try.ntmps17
    go_wp2_with (first | (go_at_call 24; (with_reducible refine (HEX.out _).mono ?_); rintro e wE ⟨rfl, rfl⟩) | (go_at_call 30; (with_reducible refine hp.mono ?_); rintro e w6 ⟨rfl, hb6⟩) | (go_at_call 15; (with_reducible refine (HH.out _ hb6).mono ?_); rintro e w7 ⟨rfl, hb7⟩; have B7 := Lib.hid (below_next hb6 hb7); obtain ⟨b', off', e', c0⟩ := HZC.out w7 B7.out; cases e'; clear hb6 hb7) | (go_at_call 27; (with_reducible refine (HQQ.out _).mono ?_); rintro e w5 ⟨rfl, rfl⟩) | (go_at_call 23; (with_reducible refine (HST.out _).mono ?_); rintro e w5 ⟨rfl, rfl⟩))
    go_ret3
    exact ⟨_, _, w.heap.size, rfl, Own.nil _ _, (fun r e => by cases e), Own.nil _ _, Nat.le_refl _, B7.out⟩
  | true =>
  have HST : Hid (∀ wx, Calls Try.prog 23 #[.int .i64 s] wx fun e w' => e = .returned (.bool true) ∧ wx = w') := Lib.hid fun wx => by
    have := stock_any s wx
    rwa [hS] at this
  obtain ⟨s1, s2⟩ := stockB_iff.1 hS
  have i0 : (0 : Int) ≤ (k : Int) := by omega
  have i1 : (k : Int) < (len0 : Int) := by omega
  obtain ⟨u, hu⟩ : ∃ u, z - q = u := ⟨_, rfl⟩
  have iu : IntKind.i64.wrap (z - q) = u := by rw [← hu]; exact IntWalk.i64_in _ (by omega)
  subst hik ea0
  by_cases hc : z < q
  · have HE : Hid (resE Z X.length o (k : Int) q = 39) := Lib.hid (by simp only [resE, hkp, hQ, hs2, hS, Int.toNat_natCast, hzz, if_pos hc]; rfl)
    rw [HE.out, resZ_no (by rw [HE.out]; decide), resX_no (by rw [HE.out]; decide)]
    clear h0 hd hz hq hE hzk hQ hP h1y hkp hS hs2 hu
    go_enter Try.func17, Try.ntmps17
    go_wp2_with (first | (go_at_call 24; (with_reducible refine (HEX.out _).mono ?_); rintro e wE ⟨rfl, rfl⟩) | (go_at_call 30; (with_reducible refine hp.mono ?_); rintro e w6 ⟨rfl, hb6⟩) | (go_at_call 15; (with_reducible refine (HH.out _ hb6).mono ?_); rintro e w7 ⟨rfl, hb7⟩; have B7 := Lib.hid (below_next hb6 hb7); obtain ⟨b', off', e', c0⟩ := HZC.out w7 B7.out; cases e'; clear hb6 hb7) | (go_at_call 27; (with_reducible refine (HQQ.out _).mono ?_); rintro e w5 ⟨rfl, rfl⟩) | (go_at_call 23; (with_reducible refine (HST.out _).mono ?_); rintro e w5 ⟨rfl, rfl⟩))
    go_ret3
    exact ⟨_, _, w.heap.size, rfl, Own.nil _ _, (fun r e => by cases e), Own.nil _ _, Nat.le_refl _, B7.out⟩
  by_cases hu2 : 1000000000 < u
  · have HE : Hid (resE Z X.length o (k : Int) q = 36) := Lib.hid (by simp only [resE, hkp, hQ, hs2, hS, Int.toNat_natCast, hzz, if_neg hc, hu, if_pos hu2]; rfl)
    rw [HE.out, resZ_no (by rw [HE.out]; decide), resX_no (by rw [HE.out]; decide)]
    clear h0 hd hz hq hE hzk hQ hP h1y hkp hS hs2 hu
    go_enter Try.func17, Try.ntmps17
    go_wp2_with (first | (go_at_call 24; (with_reducible refine (HEX.out _).mono ?_); rintro e wE ⟨rfl, rfl⟩) | (go_at_call 30; (with_reducible refine hp.mono ?_); rintro e w6 ⟨rfl, hb6⟩) | (go_at_call 15; (with_reducible refine (HH.out _ hb6).mono ?_); rintro e w7 ⟨rfl, hb7⟩; have B7 := Lib.hid (below_next hb6 hb7); obtain ⟨b', off', e', c0⟩ := HZC.out w7 B7.out; cases e'; clear hb6 hb7) | (go_at_call 27; (with_reducible refine (HQQ.out _).mono ?_); rintro e w5 ⟨rfl, rfl⟩) | (go_at_call 23; (with_reducible refine (HST.out _).mono ?_); rintro e w5 ⟨rfl, rfl⟩))
    go_ret3
    exact ⟨_, _, w.heap.size, rfl, Own.nil _ _, (fun r e => by cases e), Own.nil _ _, Nat.le_refl _, B7.out⟩
  have HU : Hid (z - q = u) := Lib.hid hu
  have HZZ : Hid (Z.getD k 0 = z) := Lib.hid hzz
  have HS0 : Hid (heldO o + q = s) := Lib.hid hs2
  obtain ⟨nq, hnq⟩ : ∃ nq, -q = nq := ⟨_, rfl⟩
  have inq : IntKind.i64.wrap (-q) = nq := by rw [← hnq]; exact IntWalk.i64_in _ (by omega)
  have CP : Hid (∀ wx, Below w.heap.size w wx → Calls Try.prog 28 #[.slice (some ⟨b0, off0, none⟩) len0 cap0, .int .i64 (k : Int), .int .i64 nq] wx fun e w' => ∃ v, e = .returned v ∧ Own encz w' wx.heap.size v (Z.set k u) ∧ w.heap.size ≤ wx.heap.size ∧ Below wx.heap.size wx w' ∧ Below w.heap.size w w') := Lib.hid fun wx hb =>
    (plus_any (some ⟨b0, off0, none⟩) len0 cap0 k nq u Z wx (h0.keep hb) hl0 (fun e => by cases e) hm0 hk (by rw [hzz, ← iu, ← hnq]; rfl)).mono fun e w' ⟨v, h1, h2, h3⟩ => ⟨v, h1, h2, hb.size, h3, below_next hb h3⟩
  have CR : Hid (∀ wx, Below w.heap.size w wx → Calls Try.prog 32 #[.int .i64 c, .int .i64 (k : Int), .int .i64 s] wx fun e w' => ∃ p : Ptl, e = .returned (.slice p.a p.len p.cap) ∧ p.Ok w' ∧ p.X = (resO c (k : Int) s).toList ∧ Below wx.heap.size wx w' ∧ Below w.heap.size w w') := Lib.hid fun wx hb =>
    (reservation_any c (k : Int) s wx).mono fun e w' ⟨p, h1, h2, h3, h4⟩ => ⟨p, h1, h2, h3, h4, below_next hb h4⟩
  have HX : Hid (∀ wx, Below w.heap.size w wx → Has encl wx a1 X) := Lib.hid fun wx hb => hh1.keep hb
  have HL1 := Lib.hid hl1
  have HLL : Hid (∀ wx, Below w.heap.size w wx → Has encl wx a1 L) := Lib.hid fun wx hb => by have := hh1.keep hb; rw [hd.eq] at this; exact this.left
  have hlen := hd.len
  rw [hl1] at hlen
  have HCC : Hid (∀ (a3 : Option Addr) (l3 c3 : Nat), (∀ wx, Below w.heap.size w wx → Has encl wx a3 R) → R.length = l3 → (a3 = none → c3 = 0) → ∀ wx (p : Ptl), Below w.heap.size w wx → p.Ok wx → p.X = (resO c (k : Int) s).toList →
      Calls Try.prog 31 #[.slice (some ⟨wx.heap.size, 0, none⟩) 3 3] (wx.alloc (.cells #[.slice a1 P cap1, .slice p.a p.len p.cap, .slice a3 l3 c3] 23)) fun e w' => ∃ v, e = .returned v ∧ Own encl w' wx.heap.size v (L ++ ((resO c (k : Int) s).toList ++ R)) ∧ Below wx.heap.size wx w' ∧ Below w.heap.size w w') := Lib.hid fun a3 l3 c3 h1 h2 h3 wx p hb ok hx => by
    rw [← hx]
    exact (three0_l wx ⟨a1, P, cap1, L⟩ p ⟨a3, l3, c3, R⟩ _ rfl ⟨HLL.out wx hb, hP.symm, hn1⟩ ok ⟨h1 wx hb, h2, h3⟩ (by have := resO_len c (k : Int) s; rw [← hx] at this; simp only; omega)).mono fun e w' ⟨v, h1, h2, h3⟩ => ⟨v, h1, h2, h3, below_next hb h3⟩
  have j0 : (0 : Int) ≤ (P : Int) := by omega
  have j1 : (P : Int) ≤ (len1 : Int) := by omega
  have j2 : (P : Int) ≤ (cap1 : Int) := by omega
  have j3 : (len1 : Int) ≤ (cap1 : Int) := by omega
  have hp2 := Lib.hid hP.symm
  cases o with
  | none =>
    have hd2 : Hid (X = L ++ R) := Lib.hid hd.eq
    have hR0 : Hid (len1 = 0 → R = []) := Lib.hid fun e => List.eq_nil_of_length_eq_zero (by omega)
    by_cases hs0 : s = 0
    · have HE0 : resE Z X.length none (k : Int) q = 0 := by simp only [resE, hkp, hQ, hs2, hS, Int.toNat_natCast, hzz, if_neg hc, hu, if_neg hu2]; simp [hs0]
      subst hs0
      clear h0 hd hz hq hE hzk hQ hP h1y hkp hS hs2 hu hnq hlen HLL hl0 hl1 hhO hzz
      cases a1 with
      | none =>
        obtain rfl : cap1 = 0 := hn1 rfl
        obtain rfl : len1 = 0 := by omega
        obtain rfl : P = 0 := by omega
        have HE : Hid (resE Z X.length none (k : Int) q = 0) := Lib.hid HE0
        rw [HE.out, resZ_yes HE.out, resX_yes HE.out, Int.toNat_natCast, HZZ.out, HU.out, HS0.out]
        have CC := Lib.hid (HCC.out none 0 0 (fun wx hb => by rw [hR0.out (by omega)]; exact Has.nil _ _) (by rw [hR0.out (by omega)]; rfl) (fun _ => rfl))
        clear HCC HX hh1 hp2 hd2 HE0
        go_enter Try.func17, Try.ntmps17
        go_upto_region 16 with (first | (go_at_call 24; (with_reducible refine (HEX.out _).mono ?_); rintro e wE ⟨rfl, rfl⟩) | (go_at_call 30; (with_reducible refine hp.mono ?_); rintro e w6 ⟨rfl, hb6⟩) | (go_at_call 15; (with_reducible refine (HH.out _ hb6).mono ?_); rintro e w7 ⟨rfl, hb7⟩; have B7 := Lib.hid (below_next hb6 hb7); obtain ⟨b', off', e', c0⟩ := HZC.out w7 B7.out; cases e'; clear hb6 hb7) | (go_at_call 27; (with_reducible refine (HQQ.out _).mono ?_); rintro e w5 ⟨rfl, rfl⟩) | (go_at_call 23; (with_reducible refine (HST.out _).mono ?_); rintro e w5 ⟨rfl, rfl⟩))
        clear c0
        go_region_held3 (fun wx => Below w.heap.size w wx)
          (first | exact B7.out.drew | assumption | exact hB9.alloc hB9.size _)
          (first | (go_at_call 28; (with_reducible refine (CP.out _ (by first | assumption | exact B7.out.drew)).mono ?_); rintro e w8 ⟨v8, rfl, ho8, hl8, hb8, hB8⟩) | (go_at_call 32; (with_reducible refine (CR.out _ (by assumption)).mono ?_); rintro e w9 ⟨p9, rfl, ok9, hx9, hb9, hB9⟩) | (go_at_call 31; (with_reducible refine (CC.out _ _ hB9 ok9 hx9).mono ?_); rintro e w10 ⟨v10, rfl, ho10, hb10, hB10⟩) | fail)
        go_wp2
        go_ret3
        exact ⟨_, _, w9.heap.size, rfl, (ho8.keep (below_next hb9 hb10)).low hl8, (fun r e => Nat.lt_of_lt_of_le (ho8.lt e).2 hb9.size), ho10, hB9.size, hB10⟩
      | some ad =>
        rcases Nat.eq_zero_or_pos len1 with h2 | h2
        · subst h2
          obtain rfl : P = 0 := by omega
          obtain ⟨b1, off1, sp1⟩ := ad
          have HE : Hid (resE Z X.length none (k : Int) q = 0) := Lib.hid HE0
          rw [HE.out, resZ_yes HE.out, resX_yes HE.out, Int.toNat_natCast, HZZ.out, HU.out, HS0.out]
          have CC := Lib.hid (HCC.out (some ⟨b1, off1, sp1⟩) 0 cap1 (fun wx hb => by rw [hR0.out (by omega)]; exact Has.nil _ _) (by rw [hR0.out (by omega)]; rfl) (fun h => by cases h))
          clear HCC HX hh1 hp2 hd2 HE0
          go_enter Try.func17, Try.ntmps17
          go_upto_region 16 with (first | (go_at_call 24; (with_reducible refine (HEX.out _).mono ?_); rintro e wE ⟨rfl, rfl⟩) | (go_at_call 30; (with_reducible refine hp.mono ?_); rintro e w6 ⟨rfl, hb6⟩) | (go_at_call 15; (with_reducible refine (HH.out _ hb6).mono ?_); rintro e w7 ⟨rfl, hb7⟩; have B7 := Lib.hid (below_next hb6 hb7); obtain ⟨b', off', e', c0⟩ := HZC.out w7 B7.out; cases e'; clear hb6 hb7) | (go_at_call 27; (with_reducible refine (HQQ.out _).mono ?_); rintro e w5 ⟨rfl, rfl⟩) | (go_at_call 23; (with_reducible refine (HST.out _).mono ?_); rintro e w5 ⟨rfl, rfl⟩))
          clear c0
          go_region_held3 (fun wx => Below w.heap.size w wx)
            (first | exact B7.out.drew | assumption | exact hB9.alloc hB9.size _)
            (first | (go_at_call 28; (with_reducible refine (CP.out _ (by first | assumption | exact B7.out.drew)).mono ?_); rintro e w8 ⟨v8, rfl, ho8, hl8, hb8, hB8⟩) | (go_at_call 32; (with_reducible refine (CR.out _ (by assumption)).mono ?_); rintro e w9 ⟨p9, rfl, ok9, hx9, hb9, hB9⟩) | (go_at_call 31; (with_reducible refine (CC.out _ _ hB9 ok9 hx9).mono ?_); rintro e w10 ⟨v10, rfl, ho10, hb10, hB10⟩) | fail)
          go_wp2
          go_ret3
          exact ⟨_, _, w9.heap.size, rfl, (ho8.keep (below_next hb9 hb10)).low hl8, (fun r e => Nat.lt_of_lt_of_le (ho8.lt e).2 hb9.size), ho10, hB9.size, hB10⟩
        · obtain ⟨b1, off1, rfl⟩ := plain_l hh1 (by rw [HL1.out]; exact h2)
          obtain ⟨AR, hAR⟩ : ∃ AR : Addr, (if cap1 = P then some (⟨b1, off1, none⟩ : Addr) else some ⟨b1, off1 + P * 3, none⟩) = some AR := by split <;> exact ⟨_, rfl⟩
          have HE : Hid (resE Z X.length none (k : Int) q = 0) := Lib.hid HE0
          rw [HE.out, resZ_yes HE.out, resX_yes HE.out, Int.toNat_natCast, HZZ.out, HU.out, HS0.out]
          have CC := Lib.hid (HCC.out (some AR) (len1 - P) (cap1 - P) (fun wx hb => tail_l (by rw [← hd2.out]; exact HX.out wx hb) hp2.out (by rw [← hd2.out]; exact HL1.out) hlc hAR) (by have := HL1.out; rw [hd2.out, List.length_append] at this; have := hp2.out; omega) (fun h => by cases h))
          clear HCC HX hh1 hp2 hd2 HE0
          go_enter Try.func17, Try.ntmps17
          go_upto_region 16 with (first | (go_at_call 24; (with_reducible refine (HEX.out _).mono ?_); rintro e wE ⟨rfl, rfl⟩) | (go_at_call 30; (with_reducible refine hp.mono ?_); rintro e w6 ⟨rfl, hb6⟩) | (go_at_call 15; (with_reducible refine (HH.out _ hb6).mono ?_); rintro e w7 ⟨rfl, hb7⟩; have B7 := Lib.hid (below_next hb6 hb7); obtain ⟨b', off', e', c0⟩ := HZC.out w7 B7.out; cases e'; clear hb6 hb7) | (go_at_call 27; (with_reducible refine (HQQ.out _).mono ?_); rintro e w5 ⟨rfl, rfl⟩) | (go_at_call 23; (with_reducible refine (HST.out _).mono ?_); rintro e w5 ⟨rfl, rfl⟩))
          clear c0
          go_region_held3 (fun wx => Below w.heap.size w wx)
            (first | exact B7.out.drew | assumption | exact hB9.alloc hB9.size _)
            (first | (go_at_call 28; (with_reducible refine (CP.out _ (by first | assumption | exact B7.out.drew)).mono ?_); rintro e w8 ⟨v8, rfl, ho8, hl8, hb8, hB8⟩) | (go_at_call 32; (with_reducible refine (CR.out _ (by assumption)).mono ?_); rintro e w9 ⟨p9, rfl, ok9, hx9, hb9, hB9⟩) | (go_at_call 31; (with_reducible refine (CC.out _ _ hB9 ok9 hx9).mono ?_); rintro e w10 ⟨v10, rfl, ho10, hb10, hB10⟩) | fail)
          go_wp2
          go_ret3
          exact ⟨_, _, w9.heap.size, rfl, (ho8.keep (below_next hb9 hb10)).low hl8, (fun r e => Nat.lt_of_lt_of_le (ho8.lt e).2 hb9.size), ho10, hB9.size, hB10⟩
    have hs1 : 0 < s := by omega
    by_cases h32 : 32 ≤ len1
    · have i32 : (32 : Int) ≤ (len1 : Int) := by omega
      have HE : Hid (resE Z X.length none (k : Int) q = 40) := Lib.hid (by simp only [resE, hkp, hQ, hs2, hS, Int.toNat_natCast, hzz, if_neg hc, hu, if_neg hu2, hl1]; simp [hs1, h32])
      rw [HE.out, resZ_no (by rw [HE.out]; decide), resX_no (by rw [HE.out]; decide)]
      clear h0 hd hz hq hE hzk hQ hP h1y hkp hS hs2 hu hnq hlen HLL hl0 hhO hzz HCC CR CP HX
      go_enter Try.func17, Try.ntmps17
      go_wp2_with (first | (go_at_call 24; (with_reducible refine (HEX.out _).mono ?_); rintro e wE ⟨rfl, rfl⟩) | (go_at_call 30; (with_reducible refine hp.mono ?_); rintro e w6 ⟨rfl, hb6⟩) | (go_at_call 15; (with_reducible refine (HH.out _ hb6).mono ?_); rintro e w7 ⟨rfl, hb7⟩; have B7 := Lib.hid (below_next hb6 hb7); obtain ⟨b', off', e', c0⟩ := HZC.out w7 B7.out; cases e'; clear hb6 hb7) | (go_at_call 27; (with_reducible refine (HQQ.out _).mono ?_); rintro e w5 ⟨rfl, rfl⟩) | (go_at_call 23; (with_reducible refine (HST.out _).mono ?_); rintro e w5 ⟨rfl, rfl⟩))
      go_ret3
      exact ⟨_, _, w.heap.size, rfl, Own.nil _ _, (fun r e => by cases e), Own.nil _ _, Nat.le_refl _, B7.out⟩
    have i32 : ¬ (32 : Int) ≤ (len1 : Int) := by omega
    have HE0 : resE Z X.length none (k : Int) q = 0 := by simp only [resE, hkp, hQ, hs2, hS, Int.toNat_natCast, hzz, if_neg hc, hu, if_neg hu2, hl1]; simp [h32]
    clear h0 hd hz hq hE hzk hQ hP h1y hkp hS hs2 hu hnq hlen HLL hl0 hl1 hhO hzz
    cases a1 with
    | none =>
      obtain rfl : cap1 = 0 := hn1 rfl
      obtain rfl : len1 = 0 := by omega
      obtain rfl : P = 0 := by omega
      have HE : Hid (resE Z X.length none (k : Int) q = 0) := Lib.hid HE0
      rw [HE.out, resZ_yes HE.out, resX_yes HE.out, Int.toNat_natCast, HZZ.out, HU.out, HS0.out]
      have CC := Lib.hid (HCC.out none 0 0 (fun wx hb => by rw [hR0.out (by omega)]; exact Has.nil _ _) (by rw [hR0.out (by omega)]; rfl) (fun _ => rfl))
      clear HCC HX hh1 hp2 hd2 HE0
      go_enter Try.func17, Try.ntmps17
      go_upto_region 16 with (first | (go_at_call 24; (with_reducible refine (HEX.out _).mono ?_); rintro e wE ⟨rfl, rfl⟩) | (go_at_call 30; (with_reducible refine hp.mono ?_); rintro e w6 ⟨rfl, hb6⟩) | (go_at_call 15; (with_reducible refine (HH.out _ hb6).mono ?_); rintro e w7 ⟨rfl, hb7⟩; have B7 := Lib.hid (below_next hb6 hb7); obtain ⟨b', off', e', c0⟩ := HZC.out w7 B7.out; cases e'; clear hb6 hb7) | (go_at_call 27; (with_reducible refine (HQQ.out _).mono ?_); rintro e w5 ⟨rfl, rfl⟩) | (go_at_call 23; (with_reducible refine (HST.out _).mono ?_); rintro e w5 ⟨rfl, rfl⟩))
      clear c0
      go_region_held3 (fun wx => Below w.heap.size w wx)
        (first | exact B7.out.drew | assumption | exact hB9.alloc hB9.size _)
        (first | (go_at_call 28; (with_reducible refine (CP.out _ (by first | assumption | exact B7.out.drew)).mono ?_); rintro e w8 ⟨v8, rfl, ho8, hl8, hb8, hB8⟩) | (go_at_call 32; (with_reducible refine (CR.out _ (by assumption)).mono ?_); rintro e w9 ⟨p9, rfl, ok9, hx9, hb9, hB9⟩) | (go_at_call 31; (with_reducible refine (CC.out _ _ hB9 ok9 hx9).mono ?_); rintro e w10 ⟨v10, rfl, ho10, hb10, hB10⟩) | fail)
      go_wp2
      go_ret3
      exact ⟨_, _, w9.heap.size, rfl, (ho8.keep (below_next hb9 hb10)).low hl8, (fun r e => Nat.lt_of_lt_of_le (ho8.lt e).2 hb9.size), ho10, hB9.size, hB10⟩
    | some ad =>
      rcases Nat.eq_zero_or_pos len1 with h2 | h2
      · subst h2
        obtain rfl : P = 0 := by omega
        obtain ⟨b1, off1, sp1⟩ := ad
        have HE : Hid (resE Z X.length none (k : Int) q = 0) := Lib.hid HE0
        rw [HE.out, resZ_yes HE.out, resX_yes HE.out, Int.toNat_natCast, HZZ.out, HU.out, HS0.out]
        have CC := Lib.hid (HCC.out (some ⟨b1, off1, sp1⟩) 0 cap1 (fun wx hb => by rw [hR0.out (by omega)]; exact Has.nil _ _) (by rw [hR0.out (by omega)]; rfl) (fun h => by cases h))
        clear HCC HX hh1 hp2 hd2 HE0
        go_enter Try.func17, Try.ntmps17
        go_upto_region 16 with (first | (go_at_call 24; (with_reducible refine (HEX.out _).mono ?_); rintro e wE ⟨rfl, rfl⟩) | (go_at_call 30; (with_reducible refine hp.mono ?_); rintro e w6 ⟨rfl, hb6⟩) | (go_at_call 15; (with_reducible refine (HH.out _ hb6).mono ?_); rintro e w7 ⟨rfl, hb7⟩; have B7 := Lib.hid (below_next hb6 hb7); obtain ⟨b', off', e', c0⟩ := HZC.out w7 B7.out; cases e'; clear hb6 hb7) | (go_at_call 27; (with_reducible refine (HQQ.out _).mono ?_); rintro e w5 ⟨rfl, rfl⟩) | (go_at_call 23; (with_reducible refine (HST.out _).mono ?_); rintro e w5 ⟨rfl, rfl⟩))
        clear c0
        go_region_held3 (fun wx => Below w.heap.size w wx)
          (first | exact B7.out.drew | assumption | exact hB9.alloc hB9.size _)
          (first | (go_at_call 28; (with_reducible refine (CP.out _ (by first | assumption | exact B7.out.drew)).mono ?_); rintro e w8 ⟨v8, rfl, ho8, hl8, hb8, hB8⟩) | (go_at_call 32; (with_reducible refine (CR.out _ (by assumption)).mono ?_); rintro e w9 ⟨p9, rfl, ok9, hx9, hb9, hB9⟩) | (go_at_call 31; (with_reducible refine (CC.out _ _ hB9 ok9 hx9).mono ?_); rintro e w10 ⟨v10, rfl, ho10, hb10, hB10⟩) | fail)
        go_wp2
        go_ret3
        exact ⟨_, _, w9.heap.size, rfl, (ho8.keep (below_next hb9 hb10)).low hl8, (fun r e => Nat.lt_of_lt_of_le (ho8.lt e).2 hb9.size), ho10, hB9.size, hB10⟩
      · obtain ⟨b1, off1, rfl⟩ := plain_l hh1 (by rw [HL1.out]; exact h2)
        obtain ⟨AR, hAR⟩ : ∃ AR : Addr, (if cap1 = P then some (⟨b1, off1, none⟩ : Addr) else some ⟨b1, off1 + P * 3, none⟩) = some AR := by split <;> exact ⟨_, rfl⟩
        have HE : Hid (resE Z X.length none (k : Int) q = 0) := Lib.hid HE0
        rw [HE.out, resZ_yes HE.out, resX_yes HE.out, Int.toNat_natCast, HZZ.out, HU.out, HS0.out]
        have CC := Lib.hid (HCC.out (some AR) (len1 - P) (cap1 - P) (fun wx hb => tail_l (by rw [← hd2.out]; exact HX.out wx hb) hp2.out (by rw [← hd2.out]; exact HL1.out) hlc hAR) (by have := HL1.out; rw [hd2.out, List.length_append] at this; have := hp2.out; omega) (fun h => by cases h))
        clear HCC HX hh1 hp2 hd2 HE0
        go_enter Try.func17, Try.ntmps17
        go_upto_region 16 with (first | (go_at_call 24; (with_reducible refine (HEX.out _).mono ?_); rintro e wE ⟨rfl, rfl⟩) | (go_at_call 30; (with_reducible refine hp.mono ?_); rintro e w6 ⟨rfl, hb6⟩) | (go_at_call 15; (with_reducible refine (HH.out _ hb6).mono ?_); rintro e w7 ⟨rfl, hb7⟩; have B7 := Lib.hid (below_next hb6 hb7); obtain ⟨b', off', e', c0⟩ := HZC.out w7 B7.out; cases e'; clear hb6 hb7) | (go_at_call 27; (with_reducible refine (HQQ.out _).mono ?_); rintro e w5 ⟨rfl, rfl⟩) | (go_at_call 23; (with_reducible refine (HST.out _).mono ?_); rintro e w5 ⟨rfl, rfl⟩))
        clear c0
        go_region_held3 (fun wx => Below w.heap.size w wx)
          (first | exact B7.out.drew | assumption | exact hB9.alloc hB9.size _)
          (first | (go_at_call 28; (with_reducible refine (CP.out _ (by first | assumption | exact B7.out.drew)).mono ?_); rintro e w8 ⟨v8, rfl, ho8, hl8, hb8, hB8⟩) | (go_at_call 32; (with_reducible refine (CR.out _ (by assumption)).mono ?_); rintro e w9 ⟨p9, rfl, ok9, hx9, hb9, hB9⟩) | (go_at_call 31; (with_reducible refine (CC.out _ _ hB9 ok9 hx9).mono ?_); rintro e w10 ⟨v10, rfl, ho10, hb10, hB10⟩) | fail)
        go_wp2
        go_ret3
        exact ⟨_, _, w9.heap.size, rfl, (ho8.keep (below_next hb9 hb10)).low hl8, (fun r e => Nat.lt_of_lt_of_le (ho8.lt e).2 hb9.size), ho10, hB9.size, hB10⟩
  | some y =>
    have HE0 : resE Z X.length (some y) (k : Int) q = 0 := by simp only [resE, hkp, hQ, hs2, hS, Int.toNat_natCast, hzz, if_neg hc, hu, if_neg hu2]; simp
    have hd2 : Hid (X = L ++ (y :: R)) := Lib.hid hd.eq
    have hpl : P + 1 ≤ len1 := by simp at hlen; omega
    obtain ⟨ad, rfl⟩ : ∃ ad, a1 = some ad := by
      cases a1 with
      | none => have := hn1 rfl; omega
      | some ad => exact ⟨ad, rfl⟩
    obtain ⟨b1, off1, rfl⟩ := plain_l hh1 (by rw [hl1]; omega)
    have hAR1 : (if cap1 = P then some (⟨b1, off1, none⟩ : Addr) else some ⟨b1, off1 + P * 3, none⟩) = some ⟨b1, off1 + P * 3, none⟩ := if_neg (by omega)
    have hHR : ∀ wx, Below w.heap.size w wx → Has encl wx (some ⟨b1, off1 + P * 3, none⟩) ([y] ++ R) := fun wx hb => by
      have := HX.out wx hb
      rw [hd2.out] at this
      have h2 := this.right okl
      rw [← hP] at h2
      exact h2
    obtain ⟨m, hm⟩ : ∃ m, len1 - P = m := ⟨_, rfl⟩
    obtain ⟨cm, hcmm⟩ : ∃ cm, cap1 - P = cm := ⟨_, rfl⟩
    have hlr : ([y] ++ R).length = m := by rw [List.length_append, ← hm]; simp at hlen ⊢; omega
    obtain ⟨AR, hAR⟩ : ∃ AR : Addr, (if cm = 1 then some (⟨b1, off1 + P * 3, none⟩ : Addr) else some ⟨b1, off1 + P * 3 + 1 * 3, none⟩) = some AR := by split <;> exact ⟨_, rfl⟩
    have HCC2 := Lib.hid (HCC.out (some AR) (m - 1) (cm - 1) (fun wx hb => tail_l (k := 1) (cap := cm) (len := m) (hHR wx hb) rfl hlr (by omega) hAR) (by rw [← hlr]; simp) (fun h => by cases h))
    have j4 : (1 : Int) ≤ (m : Int) := by omega
    have j5 : (1 : Int) ≤ (cm : Int) := by omega
    have j6 : (m : Int) ≤ (cm : Int) := by omega
    clear h0 hd hz hq hE hzk hQ hP h1y hkp hS hs2 hu hnq hlen HLL hl0 hl1 hhO hzz hHR hlr
    have HE : Hid (resE Z X.length (some y) (k : Int) q = 0) := Lib.hid HE0
    rw [HE.out, resZ_yes HE.out, resX_yes HE.out, Int.toNat_natCast, HZZ.out, HU.out, HS0.out]
    have CC := HCC2
    clear HCC HCC2 HX hh1 hp2 hd2 HE0
    go_enter Try.func17, Try.ntmps17
    go_upto_region 16 with (first | (go_at_call 24; (with_reducible refine (HEX.out _).mono ?_); rintro e wE ⟨rfl, rfl⟩) | (go_at_call 30; (with_reducible refine hp.mono ?_); rintro e w6 ⟨rfl, hb6⟩) | (go_at_call 15; (with_reducible refine (HH.out _ hb6).mono ?_); rintro e w7 ⟨rfl, hb7⟩; have B7 := Lib.hid (below_next hb6 hb7); obtain ⟨b', off', e', c0⟩ := HZC.out w7 B7.out; cases e'; clear hb6 hb7) | (go_at_call 27; (with_reducible refine (HQQ.out _).mono ?_); rintro e w5 ⟨rfl, rfl⟩) | (go_at_call 23; (with_reducible refine (HST.out _).mono ?_); rintro e w5 ⟨rfl, rfl⟩))
    clear c0
    go_region_held3 (fun wx => Below w.heap.size w wx)
      (first | exact B7.out.drew | assumption | exact hB9.alloc hB9.size _)
      (first | (go_at_call 28; (with_reducible refine (CP.out _ (by first | assumption | exact B7.out.drew)).mono ?_); rintro e w8 ⟨v8, rfl, ho8, hl8, hb8, hB8⟩) | (go_at_call 32; (with_reducible refine (CR.out _ (by assumption)).mono ?_); rintro e w9 ⟨p9, rfl, ok9, hx9, hb9, hB9⟩) | (go_at_call 31; (with_reducible refine (CC.out _ _ hB9 ok9 hx9).mono ?_); rintro e w10 ⟨v10, rfl, ho10, hb10, hB10⟩) | fail)
    go_wp2
    go_ret3
    exact ⟨_, _, w9.heap.size, rfl, (ho8.keep (below_next hb9 hb10)).low hl8, (fun r e => Nat.lt_of_lt_of_le (ho8.lt e).2 hb9.size), ho10, hB9.size, hB10⟩
end Go.Proofs.Ytnaelmddafhjlaa.Bo

/-
  Layer 14: the law LocateStays: the walk.
-/
import Derived.Test.YtnaelmddafhjlaaJw
import Derived.BigQuiet
import Derived.Deep.QuietTactic
namespace Go.Proofs.Ytnaelmddafhjlaa.Bo
open Go.RowKit Rw
set_option linter.unusedVariables false
set_option linter.unusedSimpArgs false

/-- How far the two sums are from one another, at an account. -/
def gapS (j k : Nat) (t c q : Int) : Int := if j = k ∧ t ≤ c then q else 0
set_option maxRecDepth 100000 in
set_option maxHeartbeats 16000000 in
theorem stays_walk (a0 : Option Addr) (len0 cap0 : Nat) (Z : List Int) (a1 : Option Addr) (len1 cap1 : Nat) (X : List Lo) (x2 : Lo) (w : World) (w0 : Inz w a0 len0 cap0 Z) (w1' : Inl w a1 len1 cap1 X) :
    Calls Try.prog 6 #[.slice a0 len0 cap0, .slice a1 len1 cap1, vl x2] w fun e w' => e = .returned (.bool true) ∧ Below w.heap.size w w' := by
  obtain ⟨hx0, hl0, hlc0, hn0, hcap0⟩ := w0
  obtain ⟨hx1, hl1, hlc1, hn1, hcap1⟩ := w1'
  obtain ⟨c, i, q⟩ := x2
  obtain ⟨N, hN⟩ : ∃ N, N = w.heap.size := ⟨_, rfl⟩
  obtain ⟨W0, hW0⟩ : ∃ W0, W0 = w.alloc (.cells #[.int .i64 c, .int .i64 i, .int .i64 q] 29) := ⟨_, rfl⟩
  have x0 : Blk W0 N #[.int .i64 c, .int .i64 i, .int .i64 q] 29 := by rw [hW0, hN]; exact Blk.new w _ _
  have hb : Below w.heap.size w W0 := by rw [hW0]; exact one_alloc _ _
  have KS : Hid (∀ wx, Below W0.heap.size W0 wx → wx.cell? ⟨N, 0, none⟩ = some (.int .i64 c) ∧ wx.cell? ⟨N, 1, none⟩ = some (.int .i64 i) ∧ wx.cell? ⟨N, 2, none⟩ = some (.int .i64 q)) := Lib.hid fun wx hb => ⟨(x0.keep hb).cell 0, (x0.keep hb).cell 1, (x0.keep hb).cell 2⟩
  have HX0 : Hid (∀ wx, Below W0.heap.size W0 wx → Has encz wx a0 Z) := Lib.hid fun wx h => (hx0.keep hb).keep h
  have HX1 : Hid (∀ wx, Below W0.heap.size W0 wx → Has encl wx a1 X) := Lib.hid fun wx h => (hx1.keep hb).keep h
  have HB := Lib.hid hb; have HN := Lib.hid hN; have HW := Lib.hid hW0; have HL0 := Lib.hid hl0; have HL1 := Lib.hid hl1; have HN0 := Lib.hid hn0; have HN1 := Lib.hid hn1
  clear hx0 hx1 hN hW0 x0 hb hl0 hl1 hn0 hn1
  go_enter Try.func6, Try.ntmps6
  go_wp2_with fail
  rw [← HN.out, ← HW.out]
  clear HN HW
  refine (wakes_any W0).mono ?_
  rintro e w1 ⟨rfl, hb1⟩
  have B1 := Lib.hid hb1
  clear hb1
  go_wp2_with fail
  refine (good_any a0 len0 cap0 Z a1 len1 cap1 X 16 (len0 : Int) w1 (HX0.out _ B1.out) HL0.out (HX1.out _ B1.out) HL1.out).mono ?_
  rintro e w2 ⟨rfl, hb2⟩
  have B2 := Lib.hid (below_next B1.out hb2)
  clear hb2 B1
  obtain ⟨c0, c1, c2⟩ := KS.out w2 B2.out
  cases hG : goodS Z X 16 (len0 : Int) with
  | false =>
    clear hG
    go_wp2
    go_ret
    exact ⟨rfl, below_next HB.out B2.out⟩
  | true =>
  by_cases hc1 : c < 2
  · clear hG
    go_wp2
    go_ret
    exact ⟨rfl, below_next HB.out B2.out⟩
  by_cases hc2 : 15 < c
  · clear hG
    go_wp2
    go_ret
    exact ⟨rfl, below_next HB.out B2.out⟩
  obtain ⟨g1, g2, g3, g4⟩ := goodS_of hG
  obtain ⟨L, o, R, hd⟩ := dec_of (key := keyl) (c, i) g2
  have hqo : ∀ y, o = some y → stockB y.qty = true := fun y e => goodB_stock (g4 y (hd.mem y e))
  have hz : ∀ j, j < len0 → stockB (Z.getD j 0) = true := fun j hj => g3 _ (mem_getD (by rw [HL0.out]; exact hj))
  have g1l : len1 ≤ 32 := by rw [← HL1.out]; exact g1
  have C5 := res_any a0 len0 cap0 Z a1 len1 cap1 X L R o c i q w2 (HX0.out _ B2.out) HL0.out HN0.out (by omega) (HX1.out _ B2.out) HL1.out hlc1 HN1.out (by omega) (by omega) hd hz hqo
  unfold ResIt at C5
  by_cases hE : resE Z X.length o i q = 0
  rotate_left
  · rw [resZ_no hE, resX_no hE] at C5
    obtain ⟨E, hEE⟩ : ∃ E, resE Z X.length o i q = E := ⟨_, rfl⟩
    rw [hEE] at C5 hE
    have q0 : (E != 0) = true := by simp [hE]
    have C5 := Lib.hid C5
    clear hG g1 g2 g3 g4 hd hqo hz hEE hE g1l
    go_wp2_with fail
    refine C5.out.mono ?_
    rintro e w3 ⟨v3, u3, s3, rfl, ho3, _, hp3, _, hb3⟩
    obtain ⟨a3, c3, e3, -⟩ := ho3.has okz
    have e3' : v3 = .slice a3 0 c3 := e3
    obtain ⟨b3, d3, f3, -⟩ := hp3.has okl
    have f3' : u3 = .slice b3 0 d3 := f3
    subst e3' f3'
    have B3 := Lib.hid (below_next B2.out hb3)
    clear ho3 hp3 e3 f3 hb3 C5 c0 c1 c2
    go_wp2
    go_ret
    exact ⟨rfl, below_next HB.out B3.out⟩
  obtain ⟨k, hik, hk⟩ := ex_nat (resE_of hE).1
  subst hik
  rw [resZ_yes hE, resX_yes hE, hE, Int.toNat_natCast] at C5
  have hbk := back_of (by rw [HL0.out]; exact hG) hd hk (by omega) (by omega) hE
  obtain ⟨Zn, hZn⟩ : ∃ Zn, Z.set k (Z.getD k 0 - q) = Zn := ⟨_, rfl⟩
  obtain ⟨on, hon⟩ : ∃ on, resO c (k : Int) (heldO o + q) = on := ⟨_, rfl⟩
  rw [hZn, hon] at C5 hbk
  obtain ⟨Xn, hXn⟩ : ∃ Xn, L ++ (on.toList ++ R) = Xn := ⟨_, rfl⟩
  rw [hXn] at C5 hbk
  obtain ⟨n1, n2, n3, n4⟩ := goodS_of hbk.good
  obtain ⟨q1, q2⟩ := qtyB_iff.1 (resE_of hE).2.1
  have HBK := Lib.hid hbk
  have HP := Lib.hid g2; have HPn := Lib.hid n2
  have HQ : Hid (∀ x ∈ X, stockB x.qty = true) := Lib.hid fun x hx => goodB_stock (g4 x hx)
  have HQn : Hid (∀ x ∈ Xn, stockB x.qty = true) := Lib.hid fun x hx => goodB_stock (n4 x hx)
  have HZ := Lib.hid g3; have HZn := Lib.hid n3
  have HLZ : Hid (Zn.length = len0) := Lib.hid (hbk.len.trans HL0.out)
  have HK : Hid (k < len0) := Lib.hid (by rw [← HL0.out]; exact hk)
  have HHO := Lib.hid (heldS_dec hd)
  have HHN := Lib.hid (heldS_dec hbk.dec)
  have C5 := Lib.hid C5
  clear hG g1 g2 g3 g4 hd hqo hz hE hbk n2 n3 n4 hZn hon hXn hk
  go_wp2_with fail
  refine C5.out.mono ?_
  rintro e w3 ⟨v3, u3, s3, rfl, ho3, _, hp3, _, hb3⟩
  obtain ⟨a3, c3, rfl, hh3, hn3, hlc3, hm3⟩ := ho3.has okz
  obtain ⟨b3, d3, rfl, hg3, hk3, hld3, hd3⟩ := hp3.has okl
  rw [HLZ.out] at hlc3
  rw [HLZ.out]
  obtain ⟨n9, hn9⟩ : ∃ n9, Xn.length = n9 := ⟨_, rfl⟩
  rw [hn9] at hld3 n1 ⊢
  have HNX := Lib.hid hn9
  have B3 := Lib.hid (below_next B2.out hb3)
  have F0 : Hid (∀ wx, Below w3.heap.size w3 wx → Below W0.heap.size W0 wx) := Lib.hid fun wx h => below_next B3.out h
  have FZ : Hid (∀ wx, Below w3.heap.size w3 wx → Has encz wx a3 Zn) := Lib.hid fun wx h => hh3.keep h
  have FX : Hid (∀ wx, Below w3.heap.size w3 wx → Has encl wx b3 Xn) := Lib.hid fun wx h => hg3.keep h
  have HN3 := Lib.hid hn3; have HK3 := Lib.hid hk3
  have HD3 : Hid (d3 ≤ 9223372036854775807) := Lib.hid (by unfold maxLen at hd3; omega)
  have hld4 : n9 ≤ d3 := hld3
  clear ho3 hp3 hb3 hh3 hg3 hn3 hk3 hm3 hd3 hn9 C5 c0 c1 c2 hld3
  have KM : Hid (∀ wx, Below w3.heap.size w3 wx → wx.cell? ⟨N, 0, none⟩ = some (.int .i64 c) ∧ wx.cell? ⟨N, 1, none⟩ = some (.int .i64 (k : Int)) ∧ wx.cell? ⟨N, 2, none⟩ = some (.int .i64 q)) := Lib.hid fun wx h => KS.out _ (F0.out _ h)
  have G9 : Hid (∀ wx, Below w3.heap.size w3 wx → Calls Try.prog 9 #[.slice a3 len0 c3, .slice b3 n9 d3, .int .i64 16, .int .i64 (len0 : Int)] wx fun e w' => e = .returned (.bool true) ∧ Below w3.heap.size w3 w') := Lib.hid fun wx h => by
    have := good_any a3 len0 c3 Zn b3 n9 d3 Xn 16 (len0 : Int) wx (FZ.out wx h) HLZ.out (FX.out wx h) HNX.out
    have hgd := HBK.out.good
    rw [HL0.out] at hgd
    rw [hgd] at this
    exact this.mono fun e w' ⟨h1, h2⟩ => ⟨h1, below_next h h2⟩
  have HN9 : Hid (∀ (t : Int) (j : Int) wx, Below w3.heap.size w3 wx → Calls Try.prog 15 #[.slice b3 n9 d3, .int .i64 t, .int .i64 j] wx fun e w' => e = .returned (.int .i64 (heldS Xn (t, j))) ∧ Below w3.heap.size w3 w') := Lib.hid fun t j wx h =>
    (held_lift b3 n9 d3 Xn t j wx (FX.out wx h) HNX.out (by omega) HPn.out).mono fun e w' ⟨h1, h2⟩ => ⟨h1, below_next h h2⟩
  have HO9 : Hid (∀ (t : Int) (j : Int) wx, Below w3.heap.size w3 wx → Calls Try.prog 15 #[.slice a1 len1 cap1, .int .i64 t, .int .i64 j] wx fun e w' => e = .returned (.int .i64 (heldS X (t, j))) ∧ Below w3.heap.size w3 w') := Lib.hid fun t j wx h =>
    (held_lift a1 len1 cap1 X t j wx (HX1.out wx (F0.out wx h)) HL1.out (by omega) HP.out).mono fun e w' ⟨h1, h2⟩ => ⟨h1, below_next h h2⟩
  obtain ⟨c0, c1, c2⟩ := KM.out w3 (Below.refl _ _)
  obtain ⟨hO, hhO⟩ : ∃ hO, heldS X (c, (k : Int)) = hO := ⟨_, rfl⟩
  obtain ⟨hs, hhs⟩ : ∃ hs, heldS Xn (c, (k : Int)) = hs := ⟨_, rfl⟩
  have hsum : hs = hO + q := by rw [← hhs, ← hhO, HHO.out, HHN.out]; exact HBK.out.held
  have hOb := heldS_bd HQ.out (c, (k : Int))
  rw [hhO] at hOb
  have A1 := Lib.hid (HO9.out c (k : Int))
  have A2 := Lib.hid (HN9.out c (k : Int))
  rw [hhO] at A1
  rw [hhs] at A2
  have iws : IntKind.i64.wrap (hO + q) = hs := by rw [hsum]; exact IntWalk.i64_in _ (by omega)
  have q0 : (hs != hs) = false := by simp
  have q00 : ((0 : Int) != 0) = false := by simp
  have HHS := Lib.hid hhs; have HHOO := Lib.hid hhO
  clear hsum hhO hhs
  go_upto_region 9 with (fail)
  go_region_held3 (fun wx => wx.cell? ⟨N, 0, none⟩ = some (.int .i64 c) ∧ wx.cell? ⟨N, 1, none⟩ = some (.int .i64 (k : Int)) ∧ wx.cell? ⟨N, 2, none⟩ = some (.int .i64 q))
    (first | exact KM.out _ (by first | assumption | exact (Below.refl _ _).drew | exact Below.refl _ _))
    (first
      | (go_split_ands; go_at_call 9; (with_reducible refine (G9.out _ (by first | assumption | exact (Below.refl _ _).drew)).mono ?_); rintro e w5 ⟨rfl, hb5⟩)
      | (go_split_ands; go_at_call 15; (with_reducible refine (A2.out _ (by first | assumption | exact (Below.refl _ _).drew)).mono ?_); rintro e w6 ⟨rfl, hb6⟩)
      | (go_split_ands; go_at_call 15; (with_reducible refine (A1.out _ (by first | assumption | exact (Below.refl _ _).drew)).mono ?_); rintro e w7 ⟨rfl, hb7⟩)
      | fail)
  have B7 := Lib.hid hb7
  clear hb5 hb6 hb7 c0 c1 c2 G9 A1 A2 iws
  go_wp2
  go_loopg [11] len0 (fun m i wr => ∃ j : Nat, j + m = len0 ∧ i = .int .i64 (j : Int) ∧ Hid (Below w3.heap.size w3 wr))
  case atStart => exact ⟨0, by omega, rfl, B7⟩
  case round =>
    obtain ⟨j, hj, rfl, HBR⟩ := hrel
    by_cases hlt : j < len0
    · obtain ⟨p, hp⟩ : ∃ p, Z.getD j 0 = p := ⟨_, rfl⟩
      obtain ⟨r, hr⟩ : ∃ r, Zn.getD j 0 = r := ⟨_, rfl⟩
      obtain ⟨e1, o1, ea1, m1⟩ := atz (HX0.out wr (F0.out _ HBR.out)) (show j < Z.length by rw [HL0.out]; exact hlt)
      obtain ⟨e2, o2, ea2, m2⟩ := atz (FZ.out wr HBR.out) (show j < Zn.length by rw [HLZ.out]; exact hlt)
      rw [hp] at m1
      rw [hr] at m2
      have hpb := stockB_iff.1 (HZ.out _ (mem_getD (show j < Z.length by rw [HL0.out]; exact hlt)))
      have hrb := stockB_iff.1 (HZn.out _ (mem_getD (show j < Zn.length by rw [HLZ.out]; exact hlt)))
      rw [hp] at hpb
      rw [hr] at hrb
      have hgap : p - r = gapS j k 2 c q := by
        unfold gapS
        by_cases h : j = k
        · rw [if_pos ⟨h, by omega⟩, ← hp, ← hr, h, HBK.out.at_k]; omega
        · rw [if_neg (fun hh => h hh.1), ← hp, ← hr, HBK.out.other j h]; omega
      have HG0 : Hid ((0 ≤ p ∧ p ≤ 1000000000) ∧ (0 ≤ r ∧ r ≤ 1000000000) ∧ p - r = gapS j k 2 c q) := Lib.hid ⟨hpb, hrb, hgap⟩
      have i1 : (0 : Int) ≤ (j : Int) := by omega
      have i2 : (j : Int) < (len0 : Int) := by omega
      clear hp hr hpb hrb hgap
      subst ea1 ea2
      go_upto_region 14 with (fail)
      go_quiet (fail)
      clear m1 m2
      have HBQ := Lib.hid (below_next HBR.out (below_drew wr nq))
      obtain ⟨wA, hwA⟩ : ∃ wA, wA = wr.drewN nq := ⟨_, rfl⟩
      rw [← hwA] at HBQ ⊢
      clear hwA
      go_wp2
      go_loopg [12, 13, 14] 14 (fun m a b i wq => ∃ (t : Nat) (A B : Int), t + m = 16 ∧ 2 ≤ t ∧ a = .int .i64 A ∧ b = .int .i64 B ∧ i = .int .i64 (t : Int) ∧ Hid ((0 ≤ A ∧ A ≤ 1000000000 * ((t : Int) - 1)) ∧ (0 ≤ B ∧ B ≤ 1000000000 * ((t : Int) - 1)) ∧ A - B = gapS j k (t : Int) c q) ∧ Hid (Below w3.heap.size w3 wq))
      case atStart => exact ⟨2, p, r, by omega, by omega, rfl, rfl, rfl, Lib.hid (by have := HG0.out; obtain ⟨⟨h1, h2⟩, ⟨h3, h4⟩, h5⟩ := this; exact ⟨⟨h1, by omega⟩, ⟨h3, by omega⟩, h5⟩), HBQ⟩
      case round =>
        obtain ⟨t, A, B, ht, ht2, rfl, rfl, rfl, HAB, HBW⟩ := hrel
        obtain ⟨⟨A1, A2⟩, ⟨B1, B2'⟩, hgap⟩ := HAB.out
        by_cases htl : t < 16
        · obtain ⟨p2, hp2⟩ : ∃ p2, heldS X ((t : Int), (j : Int)) = p2 := ⟨_, rfl⟩
          obtain ⟨r2, hr2⟩ : ∃ r2, heldS Xn ((t : Int), (j : Int)) = r2 := ⟨_, rfl⟩
          have D1 := Lib.hid (HO9.out (t : Int) (j : Int))
          have D2 := Lib.hid (HN9.out (t : Int) (j : Int))
          have hpb := heldS_bd HQ.out ((t : Int), (j : Int))
          have hrb := heldS_bd HQn.out ((t : Int), (j : Int))
          rw [hp2] at D1 hpb
          rw [hr2] at D2 hrb
          have hstep : A + p2 - (B + r2) = gapS j k ((t + 1 : Nat) : Int) c q ∧ (p2 ≠ r2 → (t : Int) = c ∧ j = k) := by
            by_cases hh : (t : Int) = c ∧ j = k
            · obtain ⟨h1, h2⟩ := hh
              refine ⟨?_, fun _ => ⟨h1, h2⟩⟩
              have h3 : r2 = p2 + q := by
                rw [← hp2, ← hr2, h1, h2, HHO.out, HHN.out]
                exact HBK.out.held
              unfold gapS at hgap ⊢
              rw [if_pos ⟨h2, by omega⟩] at hgap
              rw [if_neg (fun h => by omega)]
              omega
            · have h3 : r2 = p2 := by
                rw [← hp2, ← hr2]
                refine HBK.out.same _ fun e => hh ?_
                have e1 := congrArg Prod.fst e
                have e2 := congrArg Prod.snd e
                simp at e1 e2
                exact ⟨e1, by omega⟩
              refine ⟨?_, fun h => absurd h3.symm h⟩
              unfold gapS at hgap ⊢
              by_cases h4 : j = k
              · have h5 : (t : Int) ≠ c := fun e => hh ⟨e, h4⟩
                by_cases h6 : (t : Int) ≤ c
                · rw [if_pos ⟨h4, h6⟩] at hgap
                  rw [if_pos ⟨h4, by omega⟩]
                  omega
                · rw [if_neg (fun h => h6 h.2)] at hgap
                  rw [if_neg (fun h => by omega)]
                  omega
              · rw [if_neg (fun h => h4 h.1)] at hgap
                rw [if_neg (fun h => h4 h.1)]
                omega
          obtain ⟨A', hA'⟩ : ∃ A', A + p2 = A' := ⟨_, rfl⟩
          obtain ⟨B', hB'⟩ : ∃ B', B + r2 = B' := ⟨_, rfl⟩
          have iA : IntKind.i64.wrap (A + p2) = A' := by rw [← hA']; exact IntWalk.i64_in _ (by omega)
          have iB : IntKind.i64.wrap (B + r2) = B' := by rw [← hB']; exact IntWalk.i64_in _ (by omega)
          have HAB2 : Hid ((0 ≤ A' ∧ A' ≤ 1000000000 * (((t + 1 : Nat) : Int) - 1)) ∧ (0 ≤ B' ∧ B' ≤ 1000000000 * (((t + 1 : Nat) : Int) - 1)) ∧ A' - B' = gapS j k ((t + 1 : Nat) : Int) c q) := Lib.hid ⟨⟨by omega, by omega⟩, ⟨by omega, by omega⟩, by rw [← hA', ← hB']; exact hstep.1⟩
          have HST := Lib.hid hstep.2
          clear hstep hgap A1 A2 B1 B2' hpb hrb hA' hB' hp2 hr2 HAB
          by_cases hpr : p2 = r2
          · have q1 : (p2 != r2) = false := by simp [hpr]
            clear hpr HST
            go_wp2_with (first | (go_at_call 15; (with_reducible refine (D1.out _ HBW.out).mono ?_); rintro e wC ⟨rfl, hbC⟩) | (go_at_call 15; (with_reducible refine (D2.out _ hbC).mono ?_); rintro e wD ⟨rfl, hbD⟩))
            go_roundg (16 - (t + 1))
            case measure => omega
            case rel => exact ⟨t + 1, A', B', by omega, by omega, rfl, rfl, by go_num, HAB2, Lib.hid hbD⟩
          · have q1 : (p2 != r2) = true := by simp [hpr]
            obtain ⟨h1, h2⟩ := HST.out hpr
            have q2 : ((t : Int) != c) = false := by simp [h1]
            have q3 : ((j : Int) != (k : Int)) = false := by simp [h2]
            clear hpr HST h1 h2
            go_wp2_with (first | (go_at_call 15; (with_reducible refine (D1.out _ HBW.out).mono ?_); rintro e wC ⟨rfl, hbC⟩) | (go_at_call 15; (with_reducible refine (D2.out _ hbC).mono ?_); rintro e wD ⟨rfl, hbD⟩; obtain ⟨c0, c1, c2⟩ := KM.out wD hbD))
            go_roundg (16 - (t + 1))
            case measure => omega
            case rel => exact ⟨t + 1, A', B', by omega, by omega, rfl, rfl, by go_num, HAB2, Lib.hid hbD⟩
        · have hAB : A = B := by
            unfold gapS at hgap
            rw [if_neg (fun h => by omega)] at hgap
            omega
          subst hAB
          have q1 : (A != A) = false := by simp
          clear hgap A1 A2 B1 B2' HAB
          go_wp2
          go_roundg (len0 - (j + 1))
          case measure => omega
          case rel => exact ⟨j + 1, by omega, by go_num, HBW⟩
    · obtain ⟨nq, hnq⟩ : ∃ nq, -q = nq := ⟨_, rfl⟩
      have inq : IntKind.i64.wrap (-q) = nq := by rw [← hnq]; exact IntWalk.i64_in _ (by omega)
      obtain ⟨c0, c1, c2⟩ := KM.out wr HBR.out
      have C7 := res_any a3 len0 c3 Zn b3 n9 d3 Xn L R on c (k : Int) nq wr (FZ.out wr HBR.out) HLZ.out HN3.out (by omega) (FX.out wr HBR.out) HNX.out hld4 HK3.out (by omega) HD3.out HBK.out.dec (fun j hj => HZn.out _ (mem_getD (by rw [HLZ.out]; exact hj))) (fun y e => HQn.out y (HBK.out.dec.mem y e))
      unfold ResIt at C7
      have he := HBK.out.err
      rw [hnq] at he
      have hbZ := HBK.out.backZ
      have hbX := HBK.out.backX
      rw [hnq] at hbZ hbX
      rw [resZ_yes he, resX_yes he, he, Int.toNat_natCast, hbZ, hbX] at C7
      have C7 := Lib.hid C7
      clear he hbZ hbX hnq
      go_wp2_with fail
      refine C7.out.mono ?_
      rintro e w8 ⟨v8, u8, s8, rfl, ho8, _, hp8, _, hb8⟩
      obtain ⟨a8, c8, rfl, hh8, -⟩ := ho8.has okz
      obtain ⟨b8, d8, rfl, hg8, -⟩ := hp8.has okl
      rw [HL0.out, HL1.out]
      have B8 := Lib.hid (below_next HBR.out hb8)
      have T1 := Lib.hid (same_z a8 a0 len0 c8 len0 cap0 Z Z w8 hh8 (HX0.out _ (F0.out _ B8.out)) HL0.out HL0.out)
      rw [decide_eq_true (rfl : Z = Z)] at T1
      have T2 : Hid (∀ wx, Below w8.heap.size w8 wx → Calls Try.prog 19 #[.slice b8 len1 d8, .slice a1 len1 cap1] wx fun e w' => e = .returned (.bool true) ∧ Below wx.heap.size wx w') := Lib.hid fun wx h => by
        have := same_l b8 a1 len1 d8 len1 cap1 X X wx (hg8.keep h) (HX1.out _ (F0.out _ (below_next B8.out h))) HL1.out HL1.out
        rw [decide_eq_true (rfl : X = X)] at this
        exact this
      clear ho8 hp8 hh8 hg8 hb8 C7 c0 c1 c2
      go_wp2_with fail
      refine T1.out.mono ?_
      rintro e w10 ⟨rfl, hb10⟩
      have B10 := Lib.hid hb10
      clear hb10
      go_wp2_with fail
      refine (T2.out w10 B10.out).mono ?_
      rintro e w11 ⟨rfl, hb11⟩
      have BZ := Lib.hid (below_next B8.out (below_next B10.out hb11))
      clear hb11
      go_wp2
      go_ret
      exact ⟨rfl, below_next HB.out (F0.out _ BZ.out)⟩
end Go.Proofs.Ytnaelmddafhjlaa.Bo

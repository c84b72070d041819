/-
  Layer 13: the law BookFills.
-/
import Derived.Test.YtpagkeklilgknaaIu
import Derived.Test.YtpagkeklilgknaaIqo
namespace Go.Proofs.Ytpagkeklilgknaa.Bo
open Go.RowKit Rw
set_option linter.unusedVariables false
set_option linter.unusedSimpArgs false

theorem cut_full {y : Od} {S : Int} (h : S = absS y.qty) (h1 : 1 ≤ S) : cutE (some y) S = 0 ∧ cutN (some y) S = 0 ∧ ∀ L R, cutL L (some y) R S = L ++ R := by
  have hr : 1 ≤ S ∧ S ≤ absS y.qty := ⟨h1, by omega⟩
  have e : cutE (some y) S = 0 := by simp only [cutE, if_pos hr]
  refine ⟨e, by simp only [cutN, if_pos hr]; omega, fun L R => ?_⟩
  unfold cutL
  rw [e, if_pos rfl]
  simp only [cutO, if_pos h]
  rfl
theorem cut_part {y : Od} {S q : Int} (h : S = absS y.qty) (h1 : 1 ≤ q) (h2 : q < S) (hq : qtyB y.qty = true) : cutE (some y) q = 0 ∧ cutN (some y) q = S - q ∧ (∀ L R, cutL L (some y) R q = L ++ ([{ y with qty := cutQ y q }] ++ R)) ∧ absS (cutQ y q) = S - q ∧ cutQ y q ≠ 0 ∧ qtyB (cutQ y q) = true := by
  have hr : 1 ≤ q ∧ q ≤ absS y.qty := ⟨h1, by omega⟩
  have e : cutE (some y) q = 0 := by simp only [cutE, if_pos hr]
  obtain ⟨b1, b2⟩ := qtyB_iff.1 hq
  have key : (0 < y.qty ∧ S = y.qty ∧ cutQ y q = y.qty - q) ∨ (y.qty < 0 ∧ S = -y.qty ∧ cutQ y q = y.qty + q) := by
    unfold absS at h
    unfold cutQ
    by_cases hp : 0 < y.qty
    · rw [if_neg (by omega)] at h
      exact .inl ⟨hp, h, by rw [if_pos hp]⟩
    · split at h
      · exact .inr ⟨by omega, h, by rw [if_neg hp]⟩
      · omega
  refine ⟨e, by simp only [cutN, if_pos hr]; omega, fun L R => ?_, ?_, ?_, ?_⟩
  · unfold cutL
    rw [e, if_pos rfl]
    simp only [cutO, if_neg (show ¬ q = absS y.qty by omega)]
    rfl
  · unfold absS
    rcases key with ⟨k1, k2, k3⟩ | ⟨k1, k2, k3⟩
    · rw [k3, if_neg (by omega)]; omega
    · rw [k3, if_pos (by omega)]; omega
  · rcases key with ⟨k1, k2, k3⟩ | ⟨k1, k2, k3⟩ <;> omega
  · rw [qtyB_iff]
    rcases key with ⟨k1, k2, k3⟩ | ⟨k1, k2, k3⟩ <;> omega
set_option maxRecDepth 100000 in
set_option maxHeartbeats 16000000 in
theorem fills_walk (a0 : Option Addr) (len0 cap0 : Nat) (X0 : List Od) (x1 : Od) (a2 : Int) (w : World) (w0 : Ino w a0 len0 cap0 X0) :
    Calls Try.prog 7 #[.slice a0 len0 cap0, .agg #[.int .i64 x1.acct, .int .i64 x1.id, .int .i64 x1.instr, .int .i64 x1.qty, .int .i64 x1.price], .int .i64 a2] w fun e w' => e = .returned (.bool true) ∧ Below w.heap.size w w' := by
  obtain ⟨hx0, hl0, hlc, hn, hcap⟩ := w0
  obtain ⟨N, hN⟩ : ∃ N, N = w.heap.size := ⟨_, rfl⟩
  obtain ⟨W0, hW0⟩ : ∃ W0, W0 = w.alloc (.cells #[.int .i64 x1.acct, .int .i64 x1.id, .int .i64 x1.instr, .int .i64 x1.qty, .int .i64 x1.price] 37) := ⟨_, rfl⟩
  have x0 : Blk W0 N #[.int .i64 x1.acct, .int .i64 x1.id, .int .i64 x1.instr, .int .i64 x1.qty, .int .i64 x1.price] 37 := by rw [hW0, hN]; exact Blk.new w _ _
  have hb : Below w.heap.size w W0 := by rw [hW0]; exact one_alloc _ _
  have KS : Hid (∀ wx, Below W0.heap.size W0 wx → wx.cell? ⟨N, 0, none⟩ = some (.int .i64 x1.acct) ∧ wx.cell? ⟨N, 1, none⟩ = some (.int .i64 x1.id) ∧ wx.cell? ⟨N, 2, none⟩ = some (.int .i64 x1.instr) ∧ wx.cell? ⟨N, 3, none⟩ = some (.int .i64 x1.qty) ∧ wx.cell? ⟨N, 4, none⟩ = some (.int .i64 x1.price)) :=
    Lib.hid fun wx hb => ⟨(x0.keep hb).cell 0, (x0.keep hb).cell 1, (x0.keep hb).cell 2, (x0.keep hb).cell 3, (x0.keep hb).cell 4⟩
  have HX : Hid (∀ wx, Below W0.heap.size W0 wx → Has enco wx a0 X0) := Lib.hid fun wx h => (hx0.keep hb).keep h
  have HB := Lib.hid hb; have HN := Lib.hid hN; have HW := Lib.hid hW0; have HL := Lib.hid hl0; have HNN := Lib.hid hn
  clear hx0 hN hW0 x0 hb hl0 hn
  go_enter Try.func7, Try.ntmps7
  go_wp2_with fail
  rw [← HN.out, ← HW.out]
  clear HN HW
  refine (wakes_any W0).mono ?_
  rintro e w1 ⟨rfl, hb1⟩
  have B1 := Lib.hid hb1
  clear hb1
  go_wp2_with fail
  refine (good_o a0 len0 cap0 16 12 X0 w1 (HX.out _ B1.out) HL.out).mono ?_
  rintro e w2 ⟨rfl, hb2⟩
  have B2 := Lib.hid (below_next B1.out hb2)
  clear hb2 B1
  cases hR : goodSo X0 16 12 with
  | false =>
    clear hR
    go_wp2
    go_ret
    exact ⟨rfl, below_next HB.out B2.out⟩
  | true =>
  obtain ⟨c0, c1, c2, c3, c4⟩ := KS.out w2 B2.out
  have HG2 := Lib.hid (good_o (some ⟨w2.heap.size, 0, none⟩) 1 1 16 12 [x1] _ (oneo w2 x1 37 _ rfl) rfl)
  go_wp2_with fail
  refine HG2.out.mono ?_
  rintro e w4 ⟨rfl, hb4⟩
  have B4 := Lib.hid (below_next B2.out (below_next (one_alloc _ _) hb4))
  clear hb4 HG2 c0 c1 c2 c3 c4
  cases hG : goodSo [x1] 16 12 with
  | false =>
    clear hG hR
    go_wp2
    go_ret
    exact ⟨rfl, below_next HB.out B4.out⟩
  | true =>
  obtain ⟨hlen, hP, hall⟩ := goodS_partso hR
  obtain ⟨_, _, hall1⟩ := goodS_partso hG
  have hg1 : goodBo x1 16 12 = true := hall1 x1 (by simp)
  obtain ⟨hqx, hqn⟩ := goodB_qtyo hg1
  obtain ⟨L, o, R, hd⟩ := dec_of (key := keyo) (x1.acct, x1.id) hP
  have hlen0 : len0 ≤ 32 := by rw [← HL.out]; exact hlen
  obtain ⟨c0, c1, c2, c3, c4⟩ := KS.out w4 B4.out
  have HA := Lib.hid (lift3 (Below.refl _ _) (put_any a0 len0 cap0 x1 X0 L R o w4 (HX.out _ B4.out) HL.out hlc HNN.out (by omega) (by omega) hd))
  have HF1 := Lib.hid fun w3 (h : Below W0.heap.size W0 w3) => find_any a0 len0 cap0 X0 L R o x1.acct x1.id w3 (HX.out _ h) HL.out (by omega) hd
  cases o with
  | some y =>
    rw [show putE len0 (some y) = 35 from rfl] at HA
    have i0 : (0 : Int) ≤ (L.length : Int) := by omega
    rw [show findI L (some y) = (L.length : Int) from rfl] at HF1
    clear hR hG hlen hP hall hall1 hg1 hqx hqn hd
    generalize L.length = k at *
    go_wp2_with fail
    refine HA.out.mono ?_
    rintro e w5 ⟨a5, c5, rfl, -, -, -, -, hb5⟩
    have B5 := Lib.hid (below_next B4.out hb5)
    clear hb5 c0 c1 c2 c3 c4 HA
    obtain ⟨c0, c1, c2, c3, c4⟩ := KS.out w5 B5.out
    go_wp2_with fail
    refine (HF1.out w5 B5.out).mono ?_
    rintro e w6 ⟨rfl, hb6⟩
    go_wp2
    go_ret
    exact ⟨rfl, below_next HB.out (below_next B5.out hb6)⟩
  | none =>
  rw [show findI L none = -1 from rfl] at HF1
  by_cases h32 : 32 ≤ len0
  · rw [show putE len0 none = 40 by simp [putE, h32]] at HA
    clear hR hG hlen hP hall hall1 hg1 hqx hqn hd
    go_wp2_with fail
    refine HA.out.mono ?_
    rintro e w5 ⟨a5, c5, rfl, -, -, -, -, hb5⟩
    have B5 := Lib.hid (below_next B4.out hb5)
    clear hb5 c0 c1 c2 c3 c4 HA
    obtain ⟨c0, c1, c2, c3, c4⟩ := KS.out w5 B5.out
    go_wp2_with fail
    refine (HF1.out w5 B5.out).mono ?_
    rintro e w6 ⟨rfl, hb6⟩
    go_wp2
    go_ret
    exact ⟨rfl, below_next HB.out (below_next B5.out hb6)⟩
  have hE : putE len0 none = 0 := by simp [putE, h32]
  have hX : X0 = L ++ R := hd.eq
  rw [hE, show putL len0 L none R x1 = L ++ ([x1] ++ R) by unfold putL; rw [hE, if_pos rfl]] at HA
  have hd1 : Dec keyo (L ++ ([x1] ++ R)) (x1.acct, x1.id) L (some x1) R := hd.put (some x1) fun y e => by cases e; rfl
  have hlY : (L ++ ([x1] ++ R)).length ≤ 32 := by
    have : X0.length = len0 := HL.out
    rw [hX, List.length_append] at this
    simp only [List.length_append, List.length_cons, List.length_nil]
    omega
  have hgY : goodSo (L ++ ([x1] ++ R)) 16 12 = true := good_puto (o' := some x1) hR hd (fun y e => by cases e; exact ⟨rfl, hg1⟩) hlY
  obtain ⟨Y1, hY1⟩ : ∃ Y1, Y1 = L ++ ([x1] ++ R) := ⟨_, rfl⟩
  rw [← hY1] at HA hd1 hlY hgY
  obtain ⟨n1, hn1⟩ : ∃ n1, Y1.length = n1 := ⟨_, rfl⟩
  rw [hn1] at HA hlY
  have HGG := Lib.hid fun (z : Od) (hk : keyo z = (x1.acct, x1.id)) (hz : goodBo z 16 12 = true) => (good_puto (o' := some z) hR hd (fun y e => by cases e; exact ⟨hk, hz⟩) (by
    show (L ++ ([z] ++ R)).length ≤ 32
    have h1 : n1 = (L ++ ([x1] ++ R)).length := by rw [← hn1, hY1]
    simp only [List.length_append, List.length_cons, List.length_nil] at h1 ⊢
    omega) : goodSo (L ++ ([z] ++ R)) 16 12 = true)
  have HDD := Lib.hid fun (z : Od) (hk : keyo z = (x1.acct, x1.id)) => (hd.put (some z) (fun y e => by cases e; exact hk) : Dec keyo (L ++ ([z] ++ R)) (x1.acct, x1.id) L (some z) R)
  have HXE := Lib.hid hX
  have HD1 := Lib.hid hd1; have HGY := Lib.hid hgY; have HN1 := Lib.hid hn1; have HG1 := Lib.hid hg1
  clear hR hG hlen hP hall hall1 hg1 hd hX hd1 hgY hn1 hE hY1
  go_wp2_with fail
  refine HA.out.mono ?_
  rintro e w5 ⟨a5, c5, rfl, hh5, hc5, hz5, hm5, hb5⟩
  have B5 := Lib.hid (below_next B4.out hb5); have H5 : Hid (∀ wx, Below w5.heap.size w5 wx → Has enco wx a5 Y1) := Lib.hid fun wx h => hh5.keep h
  have HZ5 := Lib.hid hz5
  clear hb5 hh5 hz5 c0 c1 c2 c3 c4 HA
  go_wp2_with fail
  refine (good_o a5 n1 c5 16 12 Y1 w5 (H5.out w5 (Below.refl _ _)) HN1.out).mono ?_
  rw [HGY.out]
  rintro e w6 ⟨rfl, hb6⟩
  have P6 := Lib.hid hb6; have B6 := Lib.hid (below_next B5.out hb6)
  clear hb6
  obtain ⟨c0, c1, c2, c3, c4⟩ := KS.out w6 B6.out
  have hfi := find_any a5 n1 c5 Y1 L R (some x1) x1.acct x1.id w6 (H5.out w6 P6.out) HN1.out (by omega) HD1.out
  rw [show findI L (some x1) = (L.length : Int) from rfl] at hfi
  have i0 : ¬ (L.length : Int) < 0 := by omega
  obtain ⟨k, hk⟩ : ∃ k, k = L.length := ⟨_, rfl⟩
  rw [← hk] at hfi i0
  clear hk
  go_wp2_with fail
  refine hfi.mono ?_
  rintro e w7 ⟨rfl, hb7⟩
  have P7 := Lib.hid (below_next P6.out hb7); have B7 := Lib.hid (below_next B6.out hb7)
  clear hb7 hfi P6 B6 c0 c1 c2 c3 c4
  obtain ⟨c0, c1, c2, c3, c4⟩ := KS.out w7 B7.out
  have hdr := drop_any a5 n1 c5 Y1 L R (some x1) x1.acct x1.id w7 (H5.out w7 P7.out) HN1.out hc5 (by omega) hm5 HD1.out
  unfold DropIt at hdr
  rw [show dropE (some x1) = 0 from rfl, show dropL L (some x1) R = L ++ R from rfl, ← HXE.out] at hdr
  have hdr := lift3 (r := fun v => .tuple #[v, .int .i64 0]) (Below.refl _ _) hdr
  rw [HL.out] at hdr
  go_wp2_with fail
  refine hdr.mono ?_
  rintro e w8 ⟨a8, c8, rfl, hh8, -, -, -, hb8⟩
  have P8 := Lib.hid (below_next P7.out hb8); have B8 := Lib.hid (below_next B7.out hb8)
  have SM := Lib.hid (same_yes (c1 := c8) (c2 := cap0) hh8 (HX.out w8 B8.out) HL.out w8 (Below.refl _ _))
  clear hb8 hdr hh8 P7 B7 c0 c1 c2 c3 c4
  go_wp2_with fail
  refine SM.out.mono ?_
  rintro e w9 ⟨rfl, hb9⟩
  have P9 := Lib.hid (below_next P8.out hb9); have B9 := Lib.hid (below_next B8.out hb9)
  clear hb9 SM P8 B8
  obtain ⟨c0, c1, c2, c3, c4⟩ := KS.out w9 B9.out
  obtain ⟨x1a, x1b⟩ := qtyB_iff.1 hqx
  have HQX := Lib.hid hqx
  by_cases hs : x1.qty < 0
  case' pos =>
    have h2 : x1.qty < -x1.qty := by omega
    go_upto_region 14 with (fail)
    obtain ⟨S, hS⟩ : ∃ S, -x1.qty = S := ⟨_, rfl⟩
    rw [show (Value.int .i64 (-x1.qty)) = .int .i64 S by rw [hS]]
    have hSa : S = absS x1.qty := by unfold absS; rw [if_pos (by omega), hS]
    have hS1 : 1 ≤ S := by omega
    have hS2 : S ≤ 1000000000 := by omega
    clear h2 hs hS
  case' neg =>
    have h2 : -x1.qty ≤ x1.qty := by omega
    go_upto_region 14 with (fail)
    obtain ⟨S, hS⟩ : ∃ S, x1.qty = S := ⟨_, rfl⟩
    rw [show (Value.int .i64 x1.qty) = .int .i64 S by rw [hS]]
    have hSa : S = absS x1.qty := by unfold absS; rw [if_neg (by omega), hS]
    have hS1 : 1 ≤ S := by omega
    have hS2 : S ≤ 1000000000 := by omega
    clear h2 hs hS
  all_goals
    clear x1a x1b hqx hqn c0 c1 c2 c3 c4
    obtain ⟨c0, c1, c2, c3, c4⟩ := KS.out w9 B9.out
    by_cases hp : 1 ≤ a2 ∧ a2 < S
    rotate_left
    · obtain ⟨u1, u2, u3⟩ := cut_full hSa hS1
      have hcu := cut_any a5 n1 c5 Y1 L R (some x1) x1.acct x1.id S w9 (H5.out w9 P9.out) HN1.out hc5 HZ5.out (by omega) hm5 HD1.out (fun y e => by cases e; exact HQX.out)
      unfold CutIt at hcu
      rw [u1, u2, u3, ← HXE.out] at hcu
      have hcu := Lib.hid (lift3 (r := fun v => .tuple #[v, .int .i64 0, .int .i64 0]) (Below.refl _ _) hcu)
      rw [HL.out] at hcu
      clear u1 u2 u3 hSa
      by_cases hp1 : a2 < 1
      case' neg => have hp2 : S ≤ a2 := by omega
      all_goals
        clear hp
        go_wp2_with fail
        refine hcu.out.mono ?_
        rintro e w10 ⟨a10, c10, rfl, hh10, -, -, -, hb10⟩
        have B10 := Lib.hid (below_next B9.out hb10)
        have SM := Lib.hid (same_yes (c1 := c10) (c2 := cap0) hh10 (HX.out w10 B10.out) HL.out w10 (Below.refl _ _))
        clear hb10 hh10 hcu
        go_wp2_with fail
        refine SM.out.mono ?_
        rintro e w11 ⟨rfl, hb11⟩
        go_wp2
        go_ret
        exact ⟨rfl, below_next HB.out (below_next B10.out hb11)⟩
    · obtain ⟨hp1, hp2⟩ := hp
      have g1 : ¬ a2 < 1 := by omega
      have g2 : ¬ S ≤ a2 := by omega
      obtain ⟨u1, u2, u3, u4, u5, u6⟩ := cut_part hSa hp1 hp2 HQX.out
      obtain ⟨z, hz⟩ : ∃ z : Od, z = { x1 with qty := cutQ x1 a2 } := ⟨_, rfl⟩
      have hzk : keyo z = (x1.acct, x1.id) := by rw [hz]; rfl
      have hzg : goodBo z 16 12 = true := by rw [hz]; exact goodB_witho HG1.out u6 u5
      have hzq : qtyB z.qty = true := by rw [hz]; exact u6
      obtain ⟨M, hM⟩ : ∃ M, S - a2 = M := ⟨_, rfl⟩
      have iM : IntKind.i64.wrap (S - a2) = M := by rw [← hM]; exact IntWalk.i64_in _ (by omega)
      have hM1 : 1 ≤ M := by omega
      have hMa : M = absS z.qty := by rw [← hM, hz]; exact u4.symm
      have hcu := cut_any a5 n1 c5 Y1 L R (some x1) x1.acct x1.id a2 w9 (H5.out w9 P9.out) HN1.out hc5 HZ5.out (by omega) hm5 HD1.out (fun y e => by cases e; exact HQX.out)
      unfold CutIt at hcu
      rw [u1, u2, u3, ← hz, hM] at hcu
      have hg2 : goodSo (L ++ ([z] ++ R)) 16 12 = true := HGG.out z hzk hzg
      have hd2 : Dec keyo (L ++ ([z] ++ R)) (x1.acct, x1.id) L (some z) R := HDD.out z hzk
      obtain ⟨hl2, _, _⟩ := goodS_partso hg2
      obtain ⟨Y2, hY2⟩ : ∃ Y2, Y2 = L ++ ([z] ++ R) := ⟨_, rfl⟩
      rw [← hY2] at hcu hg2 hd2 hl2
      have hcu := Lib.hid (lift3 (r := fun v => .tuple #[v, .int .i64 M, .int .i64 0]) (Below.refl _ _) hcu)
      obtain ⟨n2, hn2⟩ : ∃ n2, Y2.length = n2 := ⟨_, rfl⟩
      rw [hn2] at hcu hl2
      have HG2 := Lib.hid hg2; have HD2 := Lib.hid hd2; have HN2 := Lib.hid hn2; have HMA := Lib.hid hMa; have HZQ := Lib.hid hzq
      have qM : (M == M) = true := beq_self_eq_true _
      clear u1 u2 u3 u4 u5 u6 hz hzk hzg hzq hM hg2 hd2 hn2 hY2 hMa hSa
      go_wp2_with fail
      refine hcu.out.mono ?_
      rintro e w10 ⟨a10, c10, rfl, hh10, hc10, hz10, hm10, hb10⟩
      have B10 := Lib.hid (below_next B9.out hb10); have H10 := Lib.hid hh10; have HZ10 := Lib.hid hz10
      clear hb10 hh10 hcu hz10 c0 c1 c2 c3 c4
      go_wp2_with fail
      refine (good_o a10 n2 c10 16 12 Y2 w10 H10.out HN2.out).mono ?_
      rw [HG2.out]
      rintro e w11 ⟨rfl, hb11⟩
      have B11 := Lib.hid (below_next B10.out hb11); have H11 := Lib.hid (H10.out.keep hb11)
      clear hb11 H10
      obtain ⟨c0, c1, c2, c3, c4⟩ := KS.out w11 B11.out
      obtain ⟨u1, u2, u3⟩ := cut_full HMA.out hM1
      have hcu := cut_any a10 n2 c10 Y2 L R (some z) x1.acct x1.id M w11 H11.out HN2.out hc10 HZ10.out (by omega) hm10 HD2.out (fun y e => by cases e; exact HZQ.out)
      unfold CutIt at hcu
      rw [u1, u2, u3, ← HXE.out] at hcu
      have hcu := Lib.hid (lift3 (r := fun v => .tuple #[v, .int .i64 0, .int .i64 0]) (Below.refl _ _) hcu)
      rw [HL.out] at hcu
      clear u1 u2 u3
      go_wp2_with fail
      refine hcu.out.mono ?_
      rintro e w12 ⟨a12, c12, rfl, hh12, -, -, -, hb12⟩
      have B12 := Lib.hid (below_next B11.out hb12)
      have SM := Lib.hid (same_yes (c1 := c12) (c2 := cap0) hh12 (HX.out w12 B12.out) HL.out w12 (Below.refl _ _))
      clear hb12 hh12 hcu
      go_wp2_with fail
      refine SM.out.mono ?_
      rintro e w13 ⟨rfl, hb13⟩
      go_wp2
      go_ret
      exact ⟨rfl, below_next HB.out (below_next B12.out hb13)⟩
end Go.Proofs.Ytpagkeklilgknaa.Bo

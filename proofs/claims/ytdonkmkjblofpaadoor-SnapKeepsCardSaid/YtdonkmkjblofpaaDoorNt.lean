/-
  Layer 6: the law on what is kept, walked.
-/
import Derived.Test.YtdonkmkjblofpaaDoorNr
namespace Go.Proofs.YtdonkmkjblofpaaDoor.Sn
open Go.RowKit Go.Sort Dx Sx Dk Wl
set_option linter.unusedVariables false
set_option linter.unusedSimpArgs false
theorem own_row' {w : World} {base g n cp : Nat} {l : List Int} (h : Ob.OwnB w base (.slice (some ⟨g, 0, none⟩) n cp) l) : Fr.HasRow .u8 w (some ⟨g, 0, none⟩) n l := by
  obtain ⟨ad, cp2, hv, hr, _⟩ := Ob.own_row h
  simp only [Value.slice.injEq] at hv
  obtain ⟨rfl, hl, _⟩ := hv
  rwa [← hl] at hr
theorem own_rowN {w : World} {base n cp : Nat} {a : Option Addr} {l : List Int} (h : Ob.OwnB w base (.slice a n cp) l) : Fr.HasRow .u8 w a n l := by
  obtain ⟨ad, cp2, hv, hr, _⟩ := Ob.own_row h
  simp only [Value.slice.injEq] at hv
  obtain ⟨rfl, hl, _⟩ := hv
  rwa [← hl] at hr
theorem ok_turn {W W' w w' : World} {d : Nat} {S : St} {Q : Nat → Prop} (h : Ok W w d S) (ht : Turned Q w w') (hq : ∀ i, i < w.heap.size → W.heap.size ≤ i → ¬ Q i) (hw : W'.heap.size ≤ W.heap.size) (hb : Below W'.heap.size W' w') : Ok W' w' d S := by
  obtain ⟨O, h1, h2, h3⟩ := h
  exact ⟨O, h1.turned ht fun i hi => hq i (h1.dom i hi) (h3 i hi), hb, fun i hi => Nat.le_trans hw (h3 i hi)⟩
set_option maxRecDepth 100000 in
set_option maxHeartbeats 1600000 in
theorem keeps6_walk (v : Int) (a : Option Addr) (len cap : Nat) (zs : List Int) (w : World) (ht : Tabs w) (hby : Bytes zs) (hn : a = none → cap = 0) (hrow : Fr.HasRow .u8 w a len zs) :
    Calls Tryd.prog 8 #[.int .i64 v, .slice a len cap] w fun e w' => e = .returned (.bool true) ∧ Below w.heap.size w w' := by
  have HT := Lib.hid ht; have HBY := Lib.hid hby; have HN := Lib.hid hn; have HR := Lib.hid hrow
  have hm := hrow.2.1
  by_cases hbig : 4096 < len
  · have t1 : ((len : Int) > 4096) := Int.ofNat_lt.2 hbig
    clear ht hby hn hrow hbig
    go_enter Tryd.func8, Tryd.ntmps8
    go_wp2_with (go_at_call 20; (with_reducible refine (wakes6_any _ HT.out).mono ?_); rintro e w1 ⟨rfl, hb1⟩; have HB1 := Lib.hid hb1; clear hb1)
    go_ret
    exact ⟨rfl, HB1.out⟩
  have t1 : ¬ ((len : Int) > 4096) := fun h => hbig (Int.ofNat_lt.1 h)
  obtain ⟨l, hl⟩ : ∃ l, zs.take len = l := ⟨_, rfl⟩
  have hll : l.length = len := by rw [← hl, List.length_take]; have := hrow.1; omega
  have BL : Hid (Bytes l) := Lib.hid (by rw [← hl]; exact bytes_take hby len)
  obtain ⟨r, S', hsv, hcase⟩ := keeps_save (v := v) (l := l) (by omega) BL.out
  have HLEN : Hid (len ≤ 4096) := Lib.hid (by omega)
  have HSV := Lib.hid hsv; have HC := Lib.hid hcase; have HLL := Lib.hid hll; have HL := Lib.hid hl
  have RL : Hid (∀ wx, Below w.heap.size w wx → Fr.HasRow .u8 wx a len l) := Lib.hid fun wx hx => by
    have := row_take (hrow.keep hx) (Nat.le_refl len)
    rw [hl] at this; exact this
  clear ht hby hn hrow hbig hl hll hsv hcase
  obtain ⟨E, hE⟩ : ∃ E, encN (u32N v) l = E := ⟨_, rfl⟩
  obtain ⟨N, hN⟩ : ∃ N, E.length = N := ⟨_, rfl⟩
  have hN12 : N = 12 + len := by rw [← hN, ← hE, enc_length, HLL.out]
  obtain ⟨X, q, hX⟩ : ∃ X q, decS v E = (X, q) := ⟨_, _, rfl⟩
  have XL : Hid (X.length ≤ 4096) := Lib.hid (by
    by_cases h : snm v = []
    · have := dec_bad (v := v) (u := u32N v) (l := l) h (by have := HLL.out; have := HLEN.out; omega)
      rw [hE, hX] at this
      rw [(Prod.mk.inj this).1]; exact Nat.zero_le _
    · have := dec_own (v := v) (l := l) h (by have := HLL.out; have := HLEN.out; omega)
      rw [hE, hX] at this
      rw [(Prod.mk.inj this).1, HLL.out]; exact HLEN.out)
  have BE : Hid (Bytes E) := Lib.hid (by rw [← hE]; exact bytes_enc BL.out)
  have HNE := Lib.hid hN; have HXX := Lib.hid hX
  have LN : Hid (N ≤ 4108 ∧ 0 < N ∧ len + 1 ≤ 4097) := Lib.hid (by have := HLEN.out; omega)
  have EN : Hid (∀ wx g cp, Below w.heap.size w wx → Fr.HasRow .u8 wx (some ⟨g, 0, none⟩) len l → Calls Tryd.prog 25 #[.int .i64 v, .slice (some ⟨g, 0, none⟩) len cp] wx (CatIt wx E)) := Lib.hid fun wx g cp hx hr => by
    have := encode_any v (some ⟨g, 0, none⟩) len cp l wx (HT.out.keep hx).crc BL.out hr (fun h => by cases h) (by have := HLEN.out; omega)
    rw [← HLL.out, List.take_length, hE] at this
    rw [← HLL.out]; exact this
  have hle0 : Hid (([] : List Int).length + len ≤ 140737488355328) := Lib.hid (by have := HLEN.out; simp; omega)
  have hle1 : Hid (l.length + 1 ≤ 140737488355328) := Lib.hid (by have := HLL.out; have := HLEN.out; omega)
  clear hN12 hE hN hX
  go_enter Tryd.func8, Tryd.ntmps8
  go_wp2_with (first
    | (go_at_call 20; (with_reducible refine (wakes6_any _ HT.out).mono ?_); rintro e w1 ⟨rfl, hb1⟩; have HB1 := Lib.hid hb1; clear hb1)
    | (at_builtin; go_loud (refine Ob.wp_apd rfl (.tmp 28) (.tmp 29) rfl w1.heap.size _ [] rfl (Ob.own_made w1 (Nat.le_refl _)) a len cap zs rfl ((HR.out.keep HB1.out).keep ((Below.refl _ _).alloc (Nat.le_refl _) _)) HN.out hle0.out (by simp) ?_); intro v1 w2 ho1 hb2; rw [List.nil_append, HL.out] at ho1; have HO1 := Lib.hid ho1; have HB2 := Lib.hid (((Below.refl _ _).alloc (Nat.le_refl _) _).trans hb2); clear ho1 hb2)
    | (at_builtin; go_loud (refine Ob.wp_apd rfl (.tmp 30) (.tmp 31) rfl w1.heap.size v1 l rfl (Ob.own_keep HO1.out ((Below.refl _ _).alloc (Nat.le_refl _) _)) _ 1 1 [71] rfl (Ob.one_row _ _ _ _ rfl) (fun h => by cases h) hle1.out (by have := HB2.out.size; simp; omega) ?_); intro v2 w3 ho2 hb3; rw [show List.take 1 ([71] : List Int) = [71] from rfl] at ho2; have HO3 := Lib.hid ho2; have HB3 := Lib.hid (HB2.out.trans ((((Below.refl _ _).alloc (Nat.le_refl _) _).mono HB2.out.size).trans hb3)); clear ho2 hb3))
  have e2 : (l ++ [71]).length = len + 1 := by rw [List.length_append, HLL.out]; rfl
  obtain ⟨g, cp, cur, rfl, hg, hh, hc1, hc2, _, _⟩ := Ob.own_block HO3.out (by rw [e2]; omega)
  rw [e2] at HO3 hc1 ⊢
  have HG : Hid (w1.heap.size ≤ g ∧ g < w3.heap.size) := Lib.hid ⟨hg, lt_of_heap hh⟩
  have HCP : Hid (len + 1 ≤ cp ∧ cp ≤ maxLen) := Lib.hid ⟨hc1, hc2⟩
  have E2 := Lib.hid e2
  have hcl : len ≤ cp := by omega
  have MR : Hid (∀ wx (L : List Int), Ob.OwnB wx w1.heap.size (.slice (some ⟨g, 0, none⟩) (len + 1) cp) (l ++ [71]) → Fr.HasRow .u8 wx (some ⟨g, 0, none⟩) len l ∧ wx.cell? ⟨g, len, none⟩ = some (.int .u8 71)) := Lib.hid fun wx L h => by
    obtain ⟨g', cp', cur', hv, _, _, _, _, _, hc⟩ := Ob.own_block h (by rw [E2.out]; omega)
    obtain ⟨ad, cp2, hv2, hr, _, _, _⟩ := Ob.own_row h
    simp only [Value.slice.injEq, Option.some.injEq, Addr.mk.injEq, true_and, and_true] at hv hv2
    obtain ⟨rfl, _, _⟩ := hv
    obtain ⟨rfl, _, _⟩ := hv2
    refine ⟨?_, ?_⟩
    · have e3 : (l ++ [71]).take len = l := by rw [← HLL.out, List.take_left]
      have := row_take hr (N := len) (by rw [E2.out]; omega)
      rw [e3] at this; exact this
    · rw [hc len (by rw [E2.out]; omega)]
      simp [List.getD, ← HLL.out]
  clear hg hh hc1 hc2 e2
  refine (ok_new w3 1048576).mono ?_
  rintro e w4 ⟨rfl, ok4⟩
  obtain ⟨d, hdd⟩ : ∃ d, w3.heap.size + 1 = d := ⟨_, rfl⟩
  rw [hdd] at ok4 ⊢
  have BW3 : Hid (Below w.heap.size w w3) := Lib.hid (HB1.out.trans (HB3.out.mono HB1.out.size))
  have HO4 := Lib.hid (Ob.own_keep HO3.out ok4.frame)
  have SV := Lib.hid (ok_save ok4 (HT.out.keep BW3.out) v (some ⟨g, 0, none⟩) len cp l BL.out (MR.out w4 l HO4.out).1 (fun h => by cases h) (by have := HLEN.out; omega) (by rw [← HLL.out, List.take_length]) HSV.out)
  clear ok4 hdd
  go_wp2_with fail
  refine SV.out.mono ?_
  rintro e w5 ⟨rfl, ok5⟩
  have OK5 := Lib.hid ok5
  have HO5 := Lib.hid (Ob.own_keep HO3.out ok5.frame)
  have BW5 := Lib.hid (BW3.out.trans (ok5.frame.mono BW3.out.size))
  have S5 := Lib.hid (ok5.frame.size)
  have EA := Lib.hid (EN.out w5 g cp BW5.out (MR.out w5 l HO5.out).1)
  clear ok5 HO3 HO4 SV
  go_wp2_with fail
  refine EA.out.mono ?_
  rintro e w6 ⟨va, rfl, hoa, hb6⟩
  have BW6 := Lib.hid (BW5.out.trans (hb6.mono BW5.out.size))
  have HO6 := Lib.hid (Ob.own_keep HO5.out hb6)
  have EB := Lib.hid (EN.out w6 g cp BW6.out (MR.out w6 l HO6.out).1)
  obtain ⟨ga, cpa, cura, rfl, hga, hha, _, hca, _, _⟩ := Ob.own_block hoa (by rw [HNE.out]; exact LN.out.2.1)
  rw [HNE.out] at hoa ⊢
  have HA6 := Lib.hid hoa
  have GA : Hid (w5.heap.size ≤ ga ∧ ga < w6.heap.size) := Lib.hid ⟨hga, lt_of_heap hha⟩
  have T6 : Hid (Turned (fun i => i = g ∨ w5.heap.size ≤ i) w5 w6) := Lib.hid (Turned.of_below hb6)
  clear hoa hb6 hga hha EA HO5
  go_wp2_with fail
  refine EB.out.mono ?_
  rintro e w7 ⟨vb, rfl, hob, hb7⟩
  have BW7 := Lib.hid (BW6.out.trans (hb7.mono BW6.out.size))
  have HO7 := Lib.hid (Ob.own_keep HO6.out hb7)
  have HA7 := Lib.hid (Ob.own_keep HA6.out hb7)
  obtain ⟨gb, cpb, curb, rfl, hgb, hhb, hcb1, hcb2, _, _⟩ := Ob.own_block hob (by rw [HNE.out]; exact LN.out.2.1)
  rw [HNE.out] at hob hcb1 ⊢
  have HB7 := Lib.hid hob
  have GB : Hid (w6.heap.size ≤ gb ∧ gb < w7.heap.size ∧ N ≤ cpb ∧ cpb ≤ maxLen) := Lib.hid ⟨hgb, lt_of_heap hhb, hcb1, hcb2⟩
  have T7 : Hid (Turned (fun i => i = g ∨ w5.heap.size ≤ i) w5 w7) := Lib.hid (T6.out.trans (Turned.of_below hb7))
  have SA := Lib.hid (ssame_self (MR.out w7 l HO7.out).1 (RL.out w7 BW7.out) (c := cp) (c' := cap))
  clear hob hb7 hgb hhb hcb1 hcb2 EB HO6 HA6 T6
  go_wp2_with fail
  refine SA.out.mono ?_
  rintro e w8 ⟨rfl, hb8⟩
  have BW8 := Lib.hid (BW7.out.trans (hb8.mono BW7.out.size))
  have HO8 := Lib.hid (Ob.own_keep HO7.out hb8)
  have HA8 := Lib.hid (Ob.own_keep HA7.out hb8)
  have HB8 := Lib.hid (Ob.own_keep HB7.out hb8)
  have T8 : Hid (Turned (fun i => i = g ∨ w5.heap.size ≤ i) w5 w8) := Lib.hid (T7.out.trans (Turned.of_below hb8))
  have SZ8 := Lib.hid hb8.size
  have c71 := (MR.out w8 l HO8.out).2
  have tn2 : (len : Int) < ((len + 1 : Nat) : Int) := by omega
  clear hb8 SA HO7 HA7 HB7 T7
  go_wp2
  clear c71 tn2
  go_loopg [70] (len + 1) (fun m i wr => ∃ (k : Nat) (L : List Int), k + m = len + 1 ∧ i = .int .i64 (k : Int) ∧ Hid (Ob.OwnB wr w1.heap.size (.slice (some ⟨g, 0, none⟩) (len + 1) cp) L) ∧ Hid (L.length = len + 1) ∧ Hid (Turned (fun i => i = g) w8 wr))
  case atStart => exact ⟨0, _, by omega, rfl, HO8, E2, Lib.hid (Turned.refl _ _)⟩
  case round =>
    obtain ⟨k, L, hk, rfl, K1, K2, K3⟩ := hrel
    by_cases hlt : k < len + 1
    · obtain ⟨gx, capx2, curx, hvx, hgx, hhx, _, _, _, hcx⟩ := Ob.own_block K1.out (by rw [K2.out]; omega)
      simp only [Value.slice.injEq, Option.some.injEq, Addr.mk.injEq, true_and, and_true] at hvx
      obtain ⟨rfl, _, rfl⟩ := hvx
      have ck := hcx k (by rw [K2.out]; exact hlt)
      have fk : wr.frozen? ⟨g, k, none⟩ = false := Joins.unfrozen_of_block hhx k
      generalize L.getD k 0 = u at ck
      have L1 := Lib.hid (Dk.ownB_store K1.out (i := k) (by rw [K2.out]; exact hlt) 1); have L3 := Lib.hid (K3.out.trans (Turned.setCell (O := fun i => i = g) wr (g := g) k rfl (.int .u8 1)))
      clear hhx hcx
      go_wp2
      go_roundg (len + 1 - (k + 1))
      case measure => omega
      case rel => exact ⟨k + 1, _, by omega, by go_num, L1, Lib.hid (by simp [K2.out]), L3⟩
    · obtain rfl : k = len + 1 := by omega
      have BG : ∀ {b : Nat}, w5.heap.size ≤ b → b ≠ g := fun h e => by have := HG.out; have := S5.out; omega
      have HA9 := Lib.hid (turn_own K3.out HA8.out fun b e => by
        simp only [Value.ownBlock] at e; cases e; exact BG GA.out.1)
      have HB9 := Lib.hid (turn_own K3.out HB8.out fun b e => by
        simp only [Value.ownBlock] at e; cases e; exact BG (by have := GB.out; have := GA.out; omega))
      have T9 : Hid (Turned (fun i => i = g ∨ w5.heap.size ≤ i) w5 wr) := Lib.hid (T8.out.trans (K3.out.mono fun i _ h => .inl h))
      have BW9 : Hid (Below w.heap.size w wr) := Lib.hid (turn_frame BW8.out (Nat.le_refl _) K3.out fun i hi => by have := HG.out; have := HB1.out.size; omega)
      have SZ9 : Hid (w7.heap.size ≤ wr.heap.size ∧ w5.heap.size ≤ ga ∧ ga < gb ∧ gb < w7.heap.size) := Lib.hid (by have := K3.out.size; have := SZ8.out; have := GA.out; have := GB.out; omega)
      have hleN : Hid (([] : List Int).length + N ≤ 140737488355328 ∧ E.take N = E) := Lib.hid ⟨by have := LN.out; simp; omega, by rw [← HNE.out, List.take_length]⟩
      have RB9 : Hid (Fr.HasRow .u8 wr (some ⟨gb, 0, none⟩) N E) := Lib.hid (own_row' HB9.out)
      clear K1 K2 K3 HA8 HB8 HO8 T8 BG
      go_wp2_with (at_builtin; go_loud (refine Ob.wp_apd rfl (.tmp 77) (.tmp 78) rfl wr.heap.size _ [] rfl (Ob.own_made wr (Nat.le_refl _)) (some ⟨gb, 0, none⟩) N cpb E rfl (RB9.out.keep ((Below.refl _ _).alloc (Nat.le_refl _) _)) (fun h => by cases h) hleN.out.1 (by simp) ?_); intro v10 w10 ho10 hb10; rw [List.nil_append, hleN.out.2] at ho10; have HW10 := Lib.hid ho10; have B10 := Lib.hid (((Below.refl _ _).alloc (Nat.le_refl _) _).trans hb10); clear ho10 hb10)
      have BW10 := Lib.hid (BW9.out.trans (B10.out.mono BW9.out.size))
      have HA10 := Lib.hid (Ob.own_keep HA9.out B10.out)
      have HB10 := Lib.hid (Ob.own_keep HB9.out B10.out)
      have T10 := Lib.hid (T9.out.trans (Turned.of_below B10.out))
      have WB10 : Hid (∀ b, v10.ownBlock = some b → w7.heap.size ≤ b ∧ b < w10.heap.size) := Lib.hid fun b e => ⟨Nat.le_trans SZ9.out.1 (own_at HW10.out b e).1, (own_at HW10.out b e).2⟩
      have S10 : Hid (w7.heap.size ≤ w10.heap.size) := Lib.hid (Nat.le_trans SZ9.out.1 B10.out.size)
      have DC := Lib.hid (decode_any v (some ⟨gb, 0, none⟩) N cpb E w10 (HT.out.keep BW10.out) BE.out (own_row' HB10.out) GB.out.2.2.1 GB.out.2.2.2 (by have := LN.out; omega))
      rw [hleN.out.2] at DC
      clear RB9 HA9 HB9 T9
      refine DC.out.mono ?_
      rintro e w11 ⟨vx, rfl, hx11, hb11⟩
      rw [HXX.out] at hx11 ⊢
      obtain ⟨nx, hnx⟩ : ∃ nx, X.length = nx := ⟨_, rfl⟩
      obtain ⟨xa, cx, rfl, _, _, _, _⟩ := Ob.own_row hx11
      simp only [] at hx11 ⊢
      rw [hnx] at hx11 ⊢
      have HX11 := Lib.hid hx11; have HNX := Lib.hid hnx
      have XB : Hid (∀ b, (Value.slice xa nx cx).ownBlock = some b → w7.heap.size ≤ b ∧ w10.heap.size ≤ b) := Lib.hid fun b e => ⟨Nat.le_trans S10.out (own_at hx11 b e).1, (own_at hx11 b e).1⟩
      have BW11 := Lib.hid (BW10.out.trans (hb11.mono BW10.out.size))
      have HA11 := Lib.hid (Ob.own_keep HA10.out hb11)
      have HB11 := Lib.hid (Ob.own_keep HB10.out hb11)
      have HW11 := Lib.hid (Ob.own_keep HW10.out hb11)
      have T11 := Lib.hid (T10.out.trans (Turned.of_below hb11))
      clear hx11 hnx hb11 HW10 HA10 HB10 T10 DC
      go_wp2
      go_loopg [88] N (fun m i wr => ∃ (k : Nat) (L : List Int), k + m = N ∧ i = .int .i64 (k : Int) ∧ Hid (Ob.OwnB wr w5.heap.size (.slice (some ⟨ga, 0, none⟩) N cpa) L) ∧ Hid (L.length = N) ∧ Hid (Turned (fun i => i = ga) w11 wr))
      case atStart => exact ⟨0, _, by omega, rfl, HA11, HNE, Lib.hid (Turned.refl _ _)⟩
      case round =>
        obtain ⟨k, L, hk, rfl, K1, K2, K3⟩ := hrel
        by_cases hlt : k < N
        · obtain ⟨gx, capx2, curx, hvx, hgx, hhx, _, _, _, hcx⟩ := Ob.own_block K1.out (by rw [K2.out]; omega)
          simp only [Value.slice.injEq, Option.some.injEq, Addr.mk.injEq, true_and, and_true] at hvx
          obtain ⟨rfl, _, rfl⟩ := hvx
          have ck := hcx k (by rw [K2.out]; exact hlt)
          have fk : wr.frozen? ⟨ga, k, none⟩ = false := Joins.unfrozen_of_block hhx k
          generalize L.getD k 0 = u at ck
          have L1 := Lib.hid (Dk.ownB_store K1.out (i := k) (by rw [K2.out]; exact hlt) 2); have L3 := Lib.hid (K3.out.trans (Turned.setCell (O := fun i => i = ga) wr (g := ga) k rfl (.int .u8 2)))
          have hN1 := LN.out.1
          clear hhx hcx
          go_wp2
          go_roundg (N - (k + 1))
          case measure => omega
          case rel => exact ⟨k + 1, _, by omega, by go_num, L1, Lib.hid (by simp [K2.out]), L3⟩
        · obtain rfl : N = k := by omega
          have QA : ∀ b, Qv (.slice (some ⟨ga, 0, none⟩) N cpa) b → b = ga := fun b e => by
            unfold Qv at e; simp only [Value.ownBlock] at e; cases e; rfl
          have hl1 : Hid (L.length + 1 ≤ 140737488355328 ∧ (L ++ ([3] : List Int).take 1).length = N + 1) := Lib.hid ⟨by rw [K2.out]; have := LN.out; omega, by rw [List.length_append, K2.out]; rfl⟩
          have S11 : Hid (w5.heap.size ≤ wr.heap.size) := Lib.hid (Nat.le_trans T11.out.size K3.out.size)
          have hN1 := LN.out.1
          go_wp2_with (at_builtin; go_loud (refine wp_apq rfl (.tmp 95) (.tmp 96) rfl w5.heap.size (.slice (some ⟨ga, 0, none⟩) N cpa) L rfl (Ob.own_keep K1.out ((Below.refl _ _).alloc (Nat.le_refl _) _)) _ 1 1 [3] rfl (Ob.one_row _ _ _ _ rfl) hl1.out.1 (by have := S11.out; simp; omega) ?_); intro v13 w13 ho13 ht13; obtain ⟨a13, c13, hv13, _, _, _, _⟩ := Ob.own_row ho13; rw [hl1.out.2] at hv13; subst hv13; have K13 := Lib.hid ((K3.out.trans (Turned.of_below ((Below.refl _ wr).alloc (Nat.le_refl _) _))).trans (ht13.mono fun i _ h => QA i h)); clear ho13 ht13)
          have HB13 := Lib.hid (turn_own K13.out HB11.out fun b e h => by
            simp only [Value.ownBlock] at e; cases e; have := SZ9.out; omega)
          have HW13 := Lib.hid (turn_own K13.out HW11.out fun b e h => by have := WB10.out b e; have := SZ9.out; omega)
          have HX13 := Lib.hid (turn_own K13.out HX11.out fun b e h => by have := XB.out b e; have := SZ9.out; omega)
          have BW13 : Hid (Below w.heap.size w w13) := Lib.hid (turn_frame BW11.out (Nat.le_refl _) K13.out fun i hi => by have := BW5.out.size; have := SZ9.out; omega)
          have T13 : Hid (Turned (fun i => i = g ∨ w5.heap.size ≤ i) w5 w13) := Lib.hid (T11.out.trans (K13.out.mono fun i _ h => .inr (by have := SZ9.out; omega)))
          have XB13 : Hid (∀ b, Qv (.slice xa nx cx) b → w7.heap.size ≤ b ∧ w10.heap.size ≤ b) := XB
          have WB13 := WB10
          obtain ⟨wa, cw, hvw, hrw, _⟩ := Ob.own_row HW13.out
          rw [HNE.out] at hvw hrw
          subst hvw
          have SB := Lib.hid (ssame_self (own_row' HB13.out) hrw (c := cpb) (c' := cw))
          have n1 : IntKind.i64.wrap ((N : Int) + 1) = (N : Int) + 1 := IntWalk.i64_in _ (by omega)
          have hnx : nx ≤ 4096 := by have := XL.out; rwa [HNX.out] at this
          clear K1 K2 K3 HA11 HB11 HW11 HX11 T11 K13 QA hl1 S11 hrw
          refine SB.out.mono ?_
          rintro e w14 ⟨rfl, hb14⟩
          have BW14 := Lib.hid (BW13.out.trans (hb14.mono BW13.out.size))
          have HB14 := Lib.hid (Ob.own_keep HB13.out hb14)
          have HW14 := Lib.hid (Ob.own_keep HW13.out hb14)
          have HX14 := Lib.hid (Ob.own_keep HX13.out hb14)
          have T14 := Lib.hid (T13.out.trans (Turned.of_below hb14))
          clear hb14 SB HB13 HW13 HX13 T13
          go_wp2
          go_loopg [112] nx (fun m i wr => ∃ (k : Nat) (L : List Int), k + m = nx ∧ i = .int .i64 (k : Int) ∧ Hid (Ob.OwnB wr w10.heap.size (.slice xa nx cx) L) ∧ Hid (L.length = nx) ∧ Hid (Turned (Qv (.slice xa nx cx)) w14 wr))
          case atStart => exact ⟨0, _, by omega, rfl, HX14, HNX, Lib.hid (Turned.refl _ _)⟩
          case round =>
            obtain ⟨k, L, hk, rfl, K1, K2, K3⟩ := hrel
            by_cases hlt : k < nx
            · obtain ⟨gx, capx2, curx, hvx, hgx, hhx, _, _, _, hcx⟩ := Ob.own_block K1.out (by rw [K2.out]; omega)
              simp only [Value.slice.injEq] at hvx
              obtain ⟨rfl, _, rfl⟩ := hvx
              have ck := hcx k (by rw [K2.out]; exact hlt)
              have fk : wr.frozen? ⟨gx, k, none⟩ = false := Joins.unfrozen_of_block hhx k
              generalize L.getD k 0 = u at ck
              have L1 := Lib.hid (Dk.ownB_store K1.out (i := k) (by rw [K2.out]; exact hlt) 4); have L3 := Lib.hid (K3.out.trans (Turned.setCell (O := Qv (.slice (some ⟨gx, 0, none⟩) nx cx)) wr (g := gx) k rfl (.int .u8 4)))
              clear hhx hcx
              go_wp2
              go_roundg (nx - (k + 1))
              case measure => omega
              case rel => exact ⟨k + 1, _, by omega, by go_num, L1, Lib.hid (by simp [K2.out]), L3⟩
            · obtain rfl : nx = k := by omega
              have HB15 := Lib.hid (turn_own K3.out HB14.out fun b e h => by
                simp only [Value.ownBlock] at e; cases e; have := XB13.out _ h; have := SZ9.out; omega)
              have HW15 := Lib.hid (turn_own K3.out HW14.out fun b e h => by have := WB13.out b e; have := XB13.out b h; omega)
              have BW15 : Hid (Below w.heap.size w wr) := Lib.hid (turn_frame BW14.out (Nat.le_refl _) K3.out fun i hi => by have := XB13.out i hi; have := BW7.out.size; omega)
              have T15 : Hid (Turned (fun i => i = g ∨ w5.heap.size ≤ i) w5 wr) := Lib.hid (T14.out.trans (K3.out.mono fun i _ h => .inr (by have := XB13.out i h; have := SZ9.out; omega)))
              have SB := Lib.hid (ssame_self (own_row' HB15.out) (own_rowN HW15.out) (c := cpb) (c' := cw))
              clear K1 K2 K3 HB14 HW14 HX14 T14
              go_wp2_with fail
              refine SB.out.mono ?_
              rintro e w16 ⟨rfl, hb16⟩
              have BW16 := Lib.hid (BW15.out.trans (hb16.mono BW15.out.size))
              have T16 := Lib.hid (T15.out.trans (Turned.of_below hb16))
              clear hb16 SB HB15 HW15 T15
              rcases HC.out with ⟨rfl, hs⟩ | ⟨rfl, hs, hbys, m, hld⟩
              · have NM := Lib.hid (name_any v w16 (HT.out.keep BW16.out))
                have t2 := bs_none hs
                obtain ⟨R, hR⟩ : ∃ R, bs (snm v) = R := ⟨_, rfl⟩
                rw [hR] at NM t2
                clear hs hR
                go_wp2_with (go_at_call 27; (with_reducible refine NM.out.mono ?_); rintro e w17 ⟨rfl, hb17⟩; have BW17 := Lib.hid (BW16.out.trans (hb17.mono BW16.out.size)); clear hb17)
                go_ret
                exact ⟨rfl, BW17.out⟩
              · have OK16 : Hid (Ok w w16 d S') := Lib.hid (ok_turn OK5.out T16.out (fun i h1 h2 h => by have := HG.out; omega) BW3.out.size BW16.out)
                have HBY6 := Lib.hid hbys; have HLD := Lib.hid hld
                have LD := Lib.hid (ok_load OK16.out HT.out HBY6.out HLD.out)
                clear hs hbys hld T16 HC
                go_wp2_with fail
                refine LD.out.mono ?_
                rintro e w17 ⟨vy, rfl, hy17, hb17⟩
                obtain ⟨ya, cy, rfl, _, _, _, _⟩ := Ob.own_row hy17
                simp only [] at hy17 ⊢
                rw [HLL.out] at hy17 ⊢
                have HY17 := Lib.hid hy17
                have YB : Hid (∀ b, Qv (.slice ya len cy) b → w16.heap.size ≤ b ∧ b < w17.heap.size) := Lib.hid fun b e => own_at hy17 b e
                have OK17 := Lib.hid (OK16.out.below hb17)
                have LD2 := Lib.hid (ok_load OK17.out HT.out HBY6.out HLD.out)
                clear hy17 hb17 LD OK16
                go_wp2_with fail
                refine LD2.out.mono ?_
                rintro e w18 ⟨vz, rfl, hz18, hb18⟩
                obtain ⟨za, cz, rfl, _, _, _, _⟩ := Ob.own_row hz18
                simp only [] at hz18 ⊢
                rw [HLL.out] at hz18 ⊢
                have HZ18 := Lib.hid hz18
                have HY18 := Lib.hid (Ob.own_keep HY17.out hb18)
                have BW18 : Hid (Below w.heap.size w w18) := Lib.hid (OK17.out.frame.trans (hb18.mono OK17.out.frame.size))
                have ZB : Hid (∀ b, (Value.slice za len cz).ownBlock = some b → w17.heap.size ≤ b) := Lib.hid fun b e => (own_at hz18 b e).1
                have SZ16 : Hid (w.heap.size ≤ w16.heap.size) := Lib.hid BW16.out.size
                clear hz18 hb18 LD2 OK17 HY17
                go_wp2
                go_loopg [146] len (fun m i wr => ∃ (k : Nat) (L : List Int), k + m = len ∧ i = .int .i64 (k : Int) ∧ Hid (Ob.OwnB wr w16.heap.size (.slice ya len cy) L) ∧ Hid (L.length = len) ∧ Hid (Turned (Qv (.slice ya len cy)) w18 wr))
                case atStart => exact ⟨0, _, by omega, rfl, HY18, HLL, Lib.hid (Turned.refl _ _)⟩
                case round =>
                  obtain ⟨k, L, hk, rfl, K1, K2, K3⟩ := hrel
                  by_cases hlt : k < len
                  · obtain ⟨gx, capx2, curx, hvx, hgx, hhx, _, _, _, hcx⟩ := Ob.own_block K1.out (by rw [K2.out]; omega)
                    simp only [Value.slice.injEq] at hvx
                    obtain ⟨rfl, _, rfl⟩ := hvx
                    have ck := hcx k (by rw [K2.out]; exact hlt)
                    have fk : wr.frozen? ⟨gx, k, none⟩ = false := Joins.unfrozen_of_block hhx k
                    generalize L.getD k 0 = u at ck
                    have L1 := Lib.hid (Dk.ownB_store K1.out (i := k) (by rw [K2.out]; exact hlt) 5); have L3 := Lib.hid (K3.out.trans (Turned.setCell (O := Qv (.slice (some ⟨gx, 0, none⟩) len cy)) wr (g := gx) k rfl (.int .u8 5)))
                    clear hhx hcx
                    go_wp2
                    go_roundg (len - (k + 1))
                    case measure => omega
                    case rel => exact ⟨k + 1, _, by omega, by go_num, L1, Lib.hid (by simp [K2.out]), L3⟩
                  · obtain rfl : len = k := by omega
                    have HZ19 := Lib.hid (turn_own K3.out HZ18.out fun b e h => by have := ZB.out b e; have := YB.out b h; omega)
                    have BW19 : Hid (Below w.heap.size w wr) := Lib.hid (turn_frame BW18.out (Nat.le_refl _) K3.out fun i hi => by have := YB.out i hi; have := SZ16.out; omega)
                    have SB := Lib.hid (ssame_self (own_rowN HZ19.out) (RL.out wr BW19.out) (c := cz) (c' := cap))
                    clear K1 K2 K3 HZ18 HY18
                    go_wp2_with fail
                    refine SB.out.mono ?_
                    rintro e w20 ⟨rfl, hb20⟩
                    have BW20 := Lib.hid (BW19.out.trans (hb20.mono BW19.out.size))
                    clear hb20 SB
                    go_wp2_with fail
                    go_ret
                    exact ⟨rfl, BW20.out⟩
end Go.Proofs.YtdonkmkjblofpaaDoor.Sn

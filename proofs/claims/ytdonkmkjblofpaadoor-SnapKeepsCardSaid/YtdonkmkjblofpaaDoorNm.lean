/-
  Layer 6: the law on what an encoding is read as, walked.
-/
import Derived.Test.YtdonkmkjblofpaaDoorNQ
import Derived.Test.YtdonkmkjblofpaaDoorSd
namespace Go.Proofs.YtdonkmkjblofpaaDoor.Sn
open Go.RowKit Go.Sort Dx Sx Dk Wl
set_option linter.unusedVariables false
set_option linter.unusedSimpArgs false
theorem bytes_row {w : World} {a : Option Addr} {len cap : Nat} {zs : List Int} (h : Fr.IsRow .u8 w a len cap zs) : Bytes zs := by
  intro j hj
  rcases h with ⟨_, _, _, rfl⟩ | ⟨_, _, _, _, _, _, h⟩
  · exact absurd hj (Nat.not_lt_zero _)
  · exact bounds_u8 (h (zs.getD j 0) (by simp [List.getD, hj]))
theorem bytes_zero : Bytes [0] := fun j hj => by
  match j, hj with
  | 0, _ => exact ⟨by decide, by decide⟩
set_option maxRecDepth 100000 in
set_option maxHeartbeats 1600000 in
theorem back_walk (v : Int) (a : Option Addr) (len cap : Nat) (zs : List Int) (o : Int) (w : World) (ht : Tabs w) (hby : Bytes zs) (hn : a = none → cap = 0) (hrow : Fr.HasRow .u8 w a len zs) :
    Calls Tryd.prog 7 #[.int .i64 v, .slice a len cap, .int .i64 o] w fun e w' => e = .returned (.bool true) ∧ Below w.heap.size w w' := by
  have HT := Lib.hid ht; have HBY := Lib.hid hby; have HN := Lib.hid hn; have HR := Lib.hid hrow
  have hm := hrow.2.1
  by_cases hbig : 4096 < len
  · have t1 : ((len : Int) > 4096) := Int.ofNat_lt.2 hbig
    clear ht hby hn hrow hbig
    go_enter Tryd.func7, Tryd.ntmps7
    go_wp2_with (go_at_call 20; (with_reducible refine (wakes6_any _ HT.out).mono ?_); rintro e w1 ⟨rfl, hb1⟩; have HB1 := Lib.hid hb1; clear hb1)
    go_ret
    exact ⟨rfl, HB1.out⟩
  have t1 : ¬ ((len : Int) > 4096) := fun h => hbig (Int.ofNat_lt.1 h)
  obtain ⟨l, hl⟩ : ∃ l, zs.take len = l := ⟨_, rfl⟩
  have hll : l.length = len := by rw [← hl, List.length_take]; have := hrow.1; omega
  have hl32 : l.length < 4294967296 := by omega
  have BL : Hid (Bytes l) := Lib.hid (by rw [← hl]; exact bytes_take hby len)
  obtain ⟨E, hE⟩ : ∃ E, encN (u32N v) l = E := ⟨_, rfl⟩
  obtain ⟨N, hN⟩ : ∃ N, E.length = N := ⟨_, rfl⟩
  have hN12 : N = 12 + len := by rw [← hN, ← hE, enc_length, hll]
  have EN : Hid (∀ wx, Below w.heap.size w wx → Calls Tryd.prog 25 #[.int .i64 v, .slice a len cap] wx (CatIt wx E)) := Lib.hid fun wx hx => by
    have := encode_any v a len cap zs wx (ht.keep hx).crc hby (hrow.keep hx) hn (by omega)
    rw [hl, hE] at this; exact this
  have BE : Hid (Bytes E) := Lib.hid (by rw [← hE]; exact bytes_enc BL.out)
  have RL : Hid (∀ wx, Below w.heap.size w wx → Fr.HasRow .u8 wx a len l) := Lib.hid fun wx hx => by
    have := row_take (hrow.keep hx) (Nat.le_refl len)
    rw [hl] at this; exact this
  have hm1 : Hid (N ≤ 4108 ∧ 0 < N) := Lib.hid (by omega)
  have D0 : Hid (snm v = [] → decS v E = ([], 11)) := Lib.hid fun h => by rw [← hE]; exact dec_bad h hl32
  have D1 : Hid (snm v ≠ [] → decS v E = (l, 0)) := Lib.hid fun h => by rw [← hE]; exact dec_own h hl32
  have D2 : Hid (∀ i, i < N → decS v (E.take i) = ([], 10)) := Lib.hid fun i hi => by rw [← hE]; exact dec_part hl32 (by rw [hE, hN]; exact hi)
  have D3 : Hid (decS v (E ++ [0]) = ([], 11)) := Lib.hid (by rw [← hE]; exact dec_more hl32)
  have D4 : Hid (snm v ≠ [] → ((decS o E).2 == 0) = (o == v)) := Lib.hid fun h => by rw [← hE]; exact dec_other h hl32
  have NM : Hid (∀ wx, Below w.heap.size w wx → Calls Tryd.prog 27 #[.int .i64 v] wx fun e w' => e = .returned (.string (bs (snm v))) ∧ Below wx.heap.size wx w') := Lib.hid fun wx hx => name_any v wx (ht.keep hx)
  have HLL := Lib.hid hll
  have HNE := Lib.hid hN
  have DC : Hid (∀ (x : Int) wx ad i cp z, Below w.heap.size w wx → Fr.HasRow .u8 wx ad i z → Bytes z → i ≤ 8192 → i ≤ cp → cp ≤ maxLen → Calls Tryd.prog 26 #[.int .i64 x, .slice ad i cp] wx fun e w' => ∃ y : Option Addr × Nat, e = .returned (.tuple #[.slice y.1 (decS x (z.take i)).1.length y.2, .int .i64 (decS x (z.take i)).2]) ∧ Fr.HasRow .u8 w' y.1 (decS x (z.take i)).1.length (decS x (z.take i)).1 ∧ Below wx.heap.size wx w') := Lib.hid fun x wx ad i cp z hx hr hb h8 hc hm => by
    refine (decode_any x ad i cp z wx (ht.keep hx) hb hr hc (by unfold maxLen at hm; exact hm) (by omega)).mono ?_
    rintro e w' ⟨y, h1, h2, h3⟩
    obtain ⟨ya, yc, rfl, r1, _⟩ := Ob.own_row h2
    exact ⟨(ya, yc), h1, r1, h3⟩
  have hsn := fun h : snm v = [] => bs_none h
  have hss := fun h : snm v ≠ [] => bs_some h
  obtain ⟨R, hR⟩ : ∃ R, bs (snm v) = R := ⟨_, rfl⟩
  rw [hR] at NM hsn hss
  clear ht hby hn hrow hbig hl hll hl32 hE hN hN12 hR
  go_enter Tryd.func7, Tryd.ntmps7
  go_wp2_with (go_at_call 20; (with_reducible refine (wakes6_any _ HT.out).mono ?_); rintro e w1 ⟨rfl, hb1⟩; have HB1 := Lib.hid hb1; clear hb1)
  refine (EN.out _ HB1.out).mono ?_
  rintro e w2 ⟨ve, rfl, ho2, hb2⟩
  obtain ⟨g, cp, cur, rfl, _, _, hc1, hc2, _, _⟩ := Ob.own_block ho2 (by rw [HNE.out]; exact hm1.out.2)
  obtain ⟨ad, cp', hv, hr2, _, _, _⟩ := Ob.own_row ho2
  simp only [Value.slice.injEq, true_and] at hv
  obtain ⟨rfl, rfl⟩ := hv
  have B2 := Lib.hid (HB1.out.trans (hb2.mono HB1.out.size))
  rw [HNE.out] at hr2 hc1 ⊢
  have OW := Lib.hid ho2; have RW := Lib.hid hr2
  have HC := Lib.hid (show N ≤ cp ∧ cp ≤ maxLen from ⟨hc1, hc2⟩)
  clear ho2 hb2 hr2 hc1 hc2
  -- the whole encoding
  have DW : Hid (∀ (x : Int) wx, Below w2.heap.size w2 wx → Calls Tryd.prog 26 #[.int .i64 x, .slice (some ⟨g, 0, none⟩) N cp] wx fun e w' => ∃ y : Option Addr × Nat, e = .returned (.tuple #[.slice y.1 (decS x E).1.length y.2, .int .i64 (decS x E).2]) ∧ Fr.HasRow .u8 w' y.1 (decS x E).1.length (decS x E).1 ∧ Below wx.heap.size wx w') := Lib.hid fun x wx hx => by
    have := DC.out x wx _ N cp E (B2.out.trans (hx.mono B2.out.size)) (RW.out.keep hx) BE.out (by have := hm1.out; omega) HC.out.1 HC.out.2
    rw [← HNE.out, List.take_length] at this
    rw [HNE.out] at this
    exact this
  by_cases hs : snm v = []
  · have D := Lib.hid (DW.out v w2 (Below.refl _ _))
    rw [D0.out hs] at D
    have t2 := hsn hs
    clear hs hsn hss
    go_wp2_with fail
    refine D.out.mono ?_
    rintro e w3 ⟨⟨y1, y2⟩, rfl, _, hb3⟩
    have B3 := Lib.hid (B2.out.trans (hb3.mono B2.out.size))
    clear hb3
    go_wp2_with (go_at_call 27; (with_reducible refine (NM.out _ B3.out).mono ?_); rintro e w4 ⟨rfl, hb4⟩; have B4 := Lib.hid (B3.out.trans (hb4.mono B3.out.size)); clear hb4)
    go_ret
    exact ⟨rfl, B4.out⟩
  · have D := Lib.hid (DW.out v w2 (Below.refl _ _))
    rw [D1.out hs] at D
    have HD4 := Lib.hid (D4.out hs)
    have t2 := hss hs
    clear hs hsn hss D0 D1 D4
    simp only [] at D
    rw [HLL.out] at D
    go_wp2_with fail
    refine D.out.mono ?_
    rintro e w3 ⟨⟨y1, y2⟩, rfl, hr3, hb3⟩
    have B3 := Lib.hid (B2.out.trans (hb3.mono B2.out.size))
    have C3 := Lib.hid hb3; have R3 := Lib.hid hr3
    clear hb3 hr3 D
    go_wp2_with (first | (go_at_call 27; (with_reducible refine (NM.out _ B3.out).mono ?_); rintro e w4 ⟨rfl, hb4⟩; have B4 := Lib.hid (B3.out.trans (hb4.mono B3.out.size)); have C4 := Lib.hid (C3.out.trans (hb4.mono C3.out.size)); have R4 := Lib.hid (R3.out.keep hb4); clear hb4) | (go_at_call 23; (with_reducible refine (ssame_self R4.out (RL.out _ B4.out)).mono ?_); rintro e w5 ⟨rfl, hb5⟩; have B5 := Lib.hid (B4.out.trans (hb5.mono B4.out.size)); have C5 := Lib.hid (C4.out.trans (hb5.mono C4.out.size)); clear hb5))
    clear NM RL
    go_loopg [10] N (fun m i wr => ∃ k : Nat, k + m = N ∧ i = .int .i64 (k : Int) ∧ Hid (Below w2.heap.size w2 wr))
    case atStart => exact ⟨0, by omega, rfl, C5⟩
    case round =>
      obtain ⟨k, hk, rfl, HK⟩ := hrel
      by_cases hlt : k < N
      · have D : Hid (Calls Tryd.prog 26 #[.int .i64 v, .slice (some ⟨g, 0, none⟩) k cp] wr fun e w' => ∃ y : Option Addr × Nat, e = .returned (.tuple #[.slice y.1 0 y.2, .int .i64 10]) ∧ Below wr.heap.size wr w') := Lib.hid (by
          have := DC.out v wr (some ⟨g, 0, none⟩) k cp (E.take k) (B2.out.trans (HK.out.mono B2.out.size)) (row_take (RW.out.keep HK.out) (Nat.le_of_lt hlt)) (bytes_take BE.out k) (by have := hm1.out; omega) (by have := HC.out; omega) HC.out.2
          rw [List.take_take, Nat.min_self, D2.out k hlt] at this
          exact this.mono fun e w' ⟨y, h1, _, h3⟩ => ⟨y, h1, h3⟩)
        have i0 : (0 : Int) ≤ (k : Int) := Int.natCast_nonneg k
        have i1 : (k : Int) < (N : Int) := Int.ofNat_lt.2 hlt
        have i2 : (k : Int) ≤ (cp : Int) := Int.ofNat_le.2 (Nat.le_trans (Nat.le_of_lt hlt) HC.out.1)
        have n1 : IntKind.i64.wrap ((k : Int) + 1) = (k : Int) + 1 := IntWalk.i64_in _ (by have := hm1.out; omega)
        go_wp2_with fail
        refine D.out.mono ?_
        rintro e w6 ⟨⟨y1, y2⟩, rfl, hb6⟩
        have K6 := Lib.hid (HK.out.trans (hb6.mono HK.out.size))
        clear hb6 D
        go_wp2_with fail
        go_roundg (N - (k + 1))
        case measure => omega
        case rel => exact ⟨k + 1, by omega, by first | rfl | go_num, K6⟩
      · obtain rfl : k = N := by omega
        have i1 : ¬ ((k : Int) < (k : Int)) := Int.lt_irrefl _
        have hBr := B2.out.trans (HK.out.mono B2.out.size)
        have BR := Lib.hid hBr
        have RWr := Lib.hid (RW.out.keep HK.out)
        obtain ⟨q, hq⟩ : ∃ q, (o == v) = q := ⟨_, rfl⟩
        obtain ⟨F, hF⟩ : ∃ F, (decS o E).2 = F := ⟨_, rfl⟩
        have t5 := HD4.out
        rw [hq, hF] at t5
        have HQQ := Lib.hid hq
        have T6 : Hid ((q == q) = true) := Lib.hid (beq_self_eq_true q)
        have hle1 : Hid (([] : List Int).length + k ≤ 140737488355328) := Lib.hid (by have := hm1.out; simp; omega)
        have hle2 : Hid (E.length + 1 ≤ 140737488355328) := Lib.hid (by have := hm1.out; have := HNE.out; omega)
        have ekE : Hid (E.take k = E) := Lib.hid (by rw [← HNE.out, List.take_length])
        clear hBr
        go_wp2_with (first | (at_builtin; go_loud (refine Ob.wp_apd rfl (.tmp 58) (.tmp 59) rfl wr.heap.size _ [] rfl (Ob.own_made wr (Nat.le_refl _)) (some ⟨g, 0, none⟩) k cp E rfl (RWr.out.keep ((Below.refl _ _).alloc (Nat.le_refl _) _)) (fun h => by cases h) hle1.out (by simp) ?_); intro v1 w7 ho1 hb7; rw [List.nil_append, ekE.out] at ho1; have HO7 := Lib.hid ho1; have HB7 := Lib.hid (((Below.refl _ _).alloc (Nat.le_refl _) _).trans hb7); clear ho1 hb7) | (at_builtin; go_loud (refine Ob.wp_apd rfl (.tmp 60) (.tmp 61) rfl wr.heap.size v1 E rfl (Ob.own_keep HO7.out ((Below.refl _ _).alloc (Nat.le_refl _) _)) _ 1 1 [0] rfl (Ob.one_row _ _ _ _ rfl) (fun h => by cases h) hle2.out (by have := HB7.out.size; simp; omega) ?_); intro v2 w8 ho2 hb8; have HO8 := Lib.hid ho2; have HB8 := Lib.hid (HB7.out.trans ((((Below.refl _ _).alloc (Nat.le_refl _) _).mono HB7.out.size).trans hb8)); clear ho2 hb8))
        obtain ⟨a2, c2, rfl, r2, _, k2, k3⟩ := Ob.own_row HO8.out
        have e10 : (E ++ ([0] : List Int).take 1) = E ++ [0] := rfl
        have hl2 : (E ++ [0]).length = k + 1 := by rw [List.length_append, HNE.out]; rfl
        rw [e10] at r2 k2 ⊢
        rw [hl2] at r2 k2 ⊢
        have b8 := BR.out.trans (HB8.out.mono BR.out.size)
        have D : Hid (Calls Tryd.prog 26 #[.int .i64 v, .slice a2 (k + 1) c2] w8 fun e w' => ∃ y : Option Addr × Nat, e = .returned (.tuple #[.slice y.1 0 y.2, .int .i64 11]) ∧ Below w8.heap.size w8 w') := Lib.hid (by
          have := DC.out v w8 a2 (k + 1) c2 (E ++ [0]) b8 r2 (bytes_append BE.out bytes_zero) (by have := hm1.out; omega) k2 k3
          rw [← hl2, List.take_length, D3.out] at this
          rw [← hl2]
          exact this.mono fun e w' ⟨y, h1, _, h3⟩ => ⟨y, h1, h3⟩)
        have DO : Hid (∀ wx, Below w8.heap.size w8 wx → Calls Tryd.prog 26 #[.int .i64 o, .slice (some ⟨g, 0, none⟩) k cp] wx fun e w' => ∃ y : Option Addr × Nat, e = .returned (.tuple #[.slice y.1 (decS o E).1.length y.2, .int .i64 F]) ∧ Below wx.heap.size wx w') := Lib.hid fun wx hx => by
          have := DW.out o wx ((HK.out.trans (HB8.out.mono HK.out.size)).trans (hx.mono (HK.out.trans (HB8.out.mono HK.out.size)).size))
          rw [hF] at this
          exact this.mono fun e w' ⟨y, h1, _, h3⟩ => ⟨y, h1, h3⟩
        have B8 := Lib.hid b8
        clear e10 hl2 r2 k2 k3 b8 HO8 HB8 hF hq
        refine D.out.mono ?_
        rintro e w9 ⟨⟨y1, y2⟩, rfl, hb9⟩
        have D9 := Lib.hid (DO.out w9 hb9)
        have B9 := Lib.hid (B8.out.trans (hb9.mono B8.out.size))
        clear hb9 D
        go_wp2_with fail
        refine D9.out.mono ?_
        rintro e wa ⟨⟨z1, z2⟩, rfl, hba⟩
        have BA := Lib.hid (B9.out.trans (hba.mono B9.out.size))
        clear hba D9
        go_wp2_with fail
        go_ret
        exact ⟨by rw [← T6.out, ← HQQ.out] <;> rfl, BA.out⟩
end Go.Proofs.YtdonkmkjblofpaaDoor.Sn

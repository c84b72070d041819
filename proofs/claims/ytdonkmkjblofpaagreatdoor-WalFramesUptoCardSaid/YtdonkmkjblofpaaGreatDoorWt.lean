/-
  Layer 5: a slice without bytes; the law WalFrames.
-/
import Derived.Test.YtdonkmkjblofpaaGreatDoorWs
import Derived.Test.YtdonkmkjblofpaaGreatDoorFu
namespace Go.Proofs.YtdonkmkjblofpaaGreatDoor.Wl
open Go.RowKit Go.Sort Dx Sx Dk
set_option linter.unusedVariables false
set_option linter.unusedSimpArgs false
set_option maxRecDepth 100000 in
theorem rrecords_zero (a : Option Addr) (w : World) : Calls Tryz.prog 10 #[.slice a 0 0] w (RecsIt w []) := by
  have D : Hid (RecsIt w [] (.returned (.tuple #[.slice none 0 0, .int .i64 0])) w) := Lib.hid ⟨_, rfl, ⟨[], ⟨rfl, .inl ⟨rfl, rfl⟩⟩, fun i hi => absurd hi (Nat.not_lt_zero _)⟩, Below.refl _ _⟩
  cases a
  all_goals
    go_enter Tryz.func10, Tryz.ntmps10
    go_wp2
    go_loopg [4, 5] 1 (fun m o i wr => o = .slice none 0 0 ∧ i = .int .i64 0 ∧ wr = w)
    case atStart => exact ⟨rfl, rfl, rfl⟩
    case round =>
      obtain ⟨rfl, rfl, rfl⟩ := hrel
      go_wp2
      go_ret2
      exact D.out
set_option maxRecDepth 100000 in
theorem records_zero (a : Option Addr) (w : World) (ht : Sx.Tab w) : Calls Tryz.prog 9 #[.slice a 0 0] w (RecsIt w []) := by
  have F := Lib.hid (first_any a 0 0 [] w ht (fun j hj => by simp at hj) (row_zero _) rfl (Nat.le_refl _) (by decide))
  have e : one [] = none := rfl
  unfold FirstIt at F
  rw [e] at F
  clear e ht
  have D : Hid (∀ n, RecsIt w [] (.returned (.tuple #[.slice none 0 0, .int .i64 0])) (w.drewN n)) := Lib.hid fun n => ⟨_, rfl, ⟨[], ⟨rfl, .inl ⟨rfl, rfl⟩⟩, fun i hi => absurd hi (Nat.not_lt_zero _)⟩, bel_dn (Below.refl _ _) n⟩
  cases a
  all_goals
    go_enter Tryz.func9, Tryz.ntmps9
    go_wp2
    go_loopg [4, 5] 1 (fun m o i wr => o = .slice none 0 0 ∧ i = .int .i64 0 ∧ wr = w)
    case atStart => exact ⟨rfl, rfl, rfl⟩
    case round =>
      obtain ⟨rfl, rfl, rfl⟩ := hrel
      go_wp2_with (go_at_call 47; (with_reducible refine F.out.mono ?_); rintro e w5 ⟨⟨nn, rfl⟩, v5, rfl⟩)
      go_ret2
      exact D.out _
theorem wcame {w : World} {a : Option Addr} {len cap : Nat} {zs : List Int} (h : Fr.IsRow .u8 w a len cap zs) : Bytes (zs.take len) ∧ (zs.take len).length = len ∧ (a = none → cap = 0) ∧ len ≤ cap ∧ cap ≤ 9223372036854775807 ∧ Fr.HasRow .u8 w a len zs := by
  have hh := h.has
  rcases h with ⟨rfl, rfl, rfl, rfl⟩ | ⟨x, rfl, h1, h2, h3, h4, h5⟩
  · exact ⟨fun j hj => by simp at hj, rfl, fun _ => rfl, Nat.le_refl _, by decide, hh⟩
  · refine ⟨fun j hj => ?_, by rw [List.length_take]; omega, (fun e => by cases e), h1, by unfold maxLen at h2; omega, hh⟩
    have hj' : j < zs.length := by rw [List.length_take] at hj; omega
    have hjl : j < len := by rw [List.length_take] at hj; omega
    have e : (zs.take len).getD j 0 = zs[j] := by simp [List.getD, hjl, hj']
    rw [e]
    have := h5 _ (List.getElem_mem hj')
    simp [Lit.wf] at this
    exact ⟨this.1, this.2⟩
/-- Any bytes that came in. -/
theorem recs_both {w : World} {a : Option Addr} {len cap : Nat} {zs : List Int} (h : Fr.IsRow .u8 w a len cap zs) (ht : Tabs w) (hc : len ≤ 1048576) (hcm : cap ≤ 9223372036854775807) :
    (∀ wx, Below w.heap.size w wx → Calls Tryz.prog 9 #[.slice a len cap] wx (RecsIt wx (recsB (zs.take len)))) ∧ ∀ wx, Below w.heap.size w wx → Calls Tryz.prog 10 #[.slice a len cap] wx (RecsIt wx (recsB (zs.take len))) := by
  obtain ⟨b1, b2, b3, b4, _, b5⟩ := wcame h
  rcases Nat.eq_zero_or_pos cap with h0 | h0
  · subst h0
    obtain rfl : len = 0 := by omega
    exact ⟨fun wx hb => records_zero a wx (ht.keep hb).crc, fun wx _ => rrecords_zero a wx⟩
  · rcases h with ⟨rfl, rfl, rfl, rfl⟩ | ⟨x, rfl, h1, h2, h3, h4, h5⟩
    · omega
    · obtain ⟨b, off, rfl, hj⟩ := ints_at h4 (by omega)
      have r := row_take b5 (Nat.le_refl len)
      exact ⟨fun wx hb => records_some b off len cap _ wx (ht.keep hb).crc b1 (r.keep hb) b2 b4 hcm hc, fun wx hb => rrecords_some b off len cap _ wx b1 (r.keep hb) b2 b4 hcm hc⟩
theorem names_both (x : Int) (w : World) (ht : Tabs w) : ∃ nm, (∀ wx, Below w.heap.size w wx → Calls Tryz.prog 11 #[.int .i64 x] wx fun e w' => e = .returned (.string nm) ∧ Below wx.heap.size wx w') ∧ ∀ wx, Below w.heap.size w wx → Calls Tryz.prog 12 #[.int .i64 x] wx fun e w' => e = .returned (.string nm) ∧ Below wx.heap.size wx w' := by
  by_cases h : x < 1 ∨ 999999999 < x
  · refine ⟨ByteArray.empty, fun wx _ => (name_no x wx h).mono ?_, fun wx _ => (rname_no x wx h).mono ?_⟩
    all_goals
      rintro e w' ⟨rfl, rfl⟩
      exact ⟨rfl, Below.refl _ _⟩
  · obtain ⟨m, rfl⟩ : ∃ m : Nat, x = (m : Int) := ⟨x.toNat, by omega⟩
    exact ⟨bs (segN m), fun wx hb => name_any m (by omega) (by omega) wx (ht.keep hb), fun wx hb => rname_any m (by omega) (by omega) wx⟩
def FrIt (c : Int) (L : List Int) (w : World) (e : Ending) (w' : World) : Prop := ∃ v, e = .returned (.tuple #[v, .int .i64 c]) ∧ Ob.OwnB w' w.heap.size v L ∧ Below w.heap.size w w'
theorem frames_both {w : World} {a : Option Addr} {len cap : Nat} {zs : List Int} (h : Fr.IsRow .u8 w a len cap zs) (ht : Tabs w) : ∃ c L, L.length ≤ 9223372036854775807 ∧ (∀ wx, Below w.heap.size w wx → Calls Tryz.prog 7 #[.slice a len cap] wx (FrIt c L wx)) ∧ ∀ wx, Below w.heap.size w wx → Calls Tryz.prog 8 #[.slice a len cap] wx (FrIt c L wx) := by
  obtain ⟨b1, b2, b3, b4, b6, b5⟩ := wcame h
  by_cases hl : 65536 < len
  · refine ⟨3, [], by decide, fun wx _ => (frame_long a len cap wx (by omega) hl).mono ?_, fun wx _ => (rframe_long a len cap wx (by omega) hl).mono ?_⟩
    all_goals
      rintro e w' ⟨rfl, rfl⟩
      exact ⟨_, rfl, ⟨rfl, .inl ⟨rfl, rfl⟩⟩, Below.refl _ _⟩
  · have r := row_take b5 (Nat.le_refl len)
    refine ⟨0, frm (zs.take len), by rw [frm_length, b2]; omega, fun wx hb => ?_, fun wx hb => ?_⟩
    · have := frame_any a len cap _ wx (ht.keep hb).crc b1 (r.keep hb) b3 (by omega)
      rw [List.take_take, Nat.min_self] at this
      exact this
    · have := rframe_any a len cap _ wx b1 (r.keep hb) b3 (by omega)
      rw [List.take_take, Nat.min_self] at this
      exact this
set_option maxRecDepth 100000 in
set_option maxHeartbeats 1600000 in
theorem frames_walk (x : Int) (a : Option Addr) (len cap : Nat) (zs : List Int) (w : World) (ht : Tabs w) (h : Fr.IsRow .u8 w a len cap zs) (hc : cap ≤ 1048576) :
    Calls Tryz.prog 3 #[.int .i64 x, .slice a len cap] w fun e w' => e = .returned (.bool true) ∧ Below w.heap.size w w' := by
  obtain ⟨b1, b2, b3, b4, b6, b5⟩ := wcame h
  obtain ⟨nm, n1, n2⟩ := names_both x w ht
  obtain ⟨c, L, lL, f1, f2⟩ := frames_both h ht
  obtain ⟨r1, r2⟩ := recs_both h ht (by omega) (by omega)
  obtain ⟨R, hR⟩ : ∃ R, recsB (zs.take len) = R := ⟨_, rfl⟩
  have hRn := recs_few hR rfl
  rw [hR] at r1 r2
  obtain ⟨k, hk⟩ : ∃ k, R.length = k := ⟨_, rfl⟩
  obtain ⟨m, hm⟩ : ∃ m, L.length = m := ⟨_, rfl⟩
  obtain ⟨q, hq⟩ : ∃ q, sizeR R = q := ⟨_, rfl⟩
  have hkm : k ≤ 9223372036854775807 := by omega
  have WK := Lib.hid (wakes_any w ht)
  have N1 := Lib.hid n1; have N2 := Lib.hid n2; have F1 := Lib.hid f1; have F2 := Lib.hid f2; have R1 := Lib.hid r1; have R2 := Lib.hid r2
  have HK := Lib.hid hk; have HM := Lib.hid hm; have HQ := Lib.hid hq
  clear h ht b1 b2 b3 b4 b5 b6 n1 n2 f1 f2 r1 r2 hR hRn hk hm hq lL
  go_enter Tryz.func3, Tryz.ntmps3
  go_wp2_with fail
  refine WK.out.mono ?_
  rintro e w1 ⟨rfl, hb1⟩
  have B1 := Lib.hid hb1
  clear hb1
  go_wp2_with fail
  refine (F1.out w1 B1.out).mono ?_
  rintro e w2 ⟨v2, rfl, o2, hb2⟩
  have B2 := Lib.hid (B1.out.trans (hb2.mono B1.out.size))
  obtain ⟨d2, p2, rfl, _⟩ := Ob.own_row o2
  rw [HM.out]
  have O2 := Lib.hid o2
  clear hb2 o2
  go_wp2_with fail
  refine (F2.out w2 B2.out).mono ?_
  rintro e w3 ⟨v3, rfl, o3, hb3⟩
  have B3 := Lib.hid (B2.out.trans (hb3.mono B2.out.size))
  obtain ⟨d3, p3, rfl, _⟩ := Ob.own_row o3
  rw [HM.out]
  have O2' := Lib.hid (Ob.own_keep O2.out hb3)
  have O3 := Lib.hid o3
  clear hb3 o3 O2
  go_wp2_with fail
  refine (R1.out w3 B3.out).mono ?_
  rintro e w4 ⟨v4, rfl, o4, hb4⟩
  rw [HQ.out]
  rw [HK.out] at o4
  have B4 := Lib.hid (B3.out.trans (hb4.mono B3.out.size))
  obtain ⟨d4, p4, rfl⟩ := was_shape (WasS.of o4)
  have O2 := Lib.hid (Ob.own_keep O2'.out hb4)
  have O3' := Lib.hid (Ob.own_keep O3.out hb4)
  have O4 := Lib.hid o4
  clear hb4 o4 O2' O3
  go_wp2_with fail
  refine (R2.out w4 B4.out).mono ?_
  rintro e w5 ⟨v5, rfl, o5, hb5⟩
  rw [HQ.out]
  rw [HK.out] at o5
  have B5 := Lib.hid (B4.out.trans (hb5.mono B4.out.size))
  obtain ⟨d5, p5, rfl⟩ := was_shape (WasS.of o5)
  have O2' := Lib.hid (Ob.own_keep O2.out hb5)
  have O3 := Lib.hid (Ob.own_keep O3'.out hb5)
  have O4' := Lib.hid (was_grow O4.out hb5)
  have O5 := Lib.hid o5
  have SM : Hid (∀ wx, Below w5.heap.size w5 wx → Calls Tryz.prog 13 #[.slice d2 m p2, .slice d3 m p3] wx fun e w' => e = .returned (.bool true) ∧ Below wx.heap.size wx w') := Lib.hid fun wx hbx => by
    obtain ⟨_, _, e2, g2, _⟩ := Ob.own_row O2'.out
    obtain ⟨_, _, e3, g3, _⟩ := Ob.own_row O3.out
    injection e2 with e21 e22 _; injection e3 with e31 e32 _
    subst e21 e31
    rw [HM.out] at g2 g3
    exact wsame_self (g2.keep hbx) (g3.keep hbx)
  have AL : Hid (∀ wx, Below w5.heap.size w5 wx → Calls Tryz.prog 14 #[.slice d4 k p4, .slice d5 k p5] wx fun e w' => e = .returned (.bool true) ∧ Below wx.heap.size wx w') := Lib.hid fun wx hbx => alike_any hkm (was_grow O4'.out hbx) (was_grow O5.out hbx)
  clear hb5 o5 O2 O3'
  go_wp2_with fail
  refine (N1.out w5 B5.out).mono ?_
  rintro e w6 ⟨rfl, hb6⟩
  have B6 := Lib.hid (B5.out.trans (hb6.mono B5.out.size)); have C6 := Lib.hid hb6
  clear hb6
  go_wp2_with fail
  refine (N2.out w6 B6.out).mono ?_
  rintro e w7 ⟨rfl, hb7⟩
  have B7 := Lib.hid (B6.out.trans (hb7.mono B6.out.size)); have C7 := Lib.hid (C6.out.trans (hb7.mono C6.out.size))
  clear hb7
  go_wp2_with fail
  refine (SM.out w7 C7.out).mono ?_
  rintro e w8 ⟨rfl, hb8⟩
  have B8 := Lib.hid (B7.out.trans (hb8.mono B7.out.size)); have C8 := Lib.hid (C7.out.trans (hb8.mono C7.out.size))
  clear hb8
  go_wp2_with fail
  refine (AL.out w8 C8.out).mono ?_
  rintro e w9 ⟨rfl, hb9⟩
  have B9 := Lib.hid (B8.out.trans (hb9.mono B8.out.size))
  clear hb9
  go_wp2_with fail
  go_ret
  exact ⟨rfl, B9.out⟩
end Go.Proofs.YtdonkmkjblofpaaGreatDoor.Wl

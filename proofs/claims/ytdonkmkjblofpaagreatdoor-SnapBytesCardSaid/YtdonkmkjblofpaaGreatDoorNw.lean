/-
  Layer 6: the law on bytes, walked.
-/
import Derived.Test.YtdonkmkjblofpaaGreatDoorNv
namespace Go.Proofs.YtdonkmkjblofpaaGreatDoor.Sn
open Go.RowKit Go.Sort Dx Sx Dk Wl
set_option linter.unusedVariables false
set_option linter.unusedSimpArgs false
theorem rdecode_any (v : Int) (a : Option Addr) (len cap : Nat) (zs : List Int) (w : World) (hb : Bytes zs) (hrow : Fr.HasRow .u8 w a len zs) (hcap : len ≤ cap) (hcm : cap ≤ 9223372036854775807) (hbig : len ≤ 140737488351232) :
    Calls Tryz.prog 17 #[.int .i64 v, .slice a len cap] w (DecIt w v (zs.take len)) := by
  have hl : (zs.take len).length = len := by rw [List.length_take]; have := hrow.1; omega
  by_cases h : len < 12
  · exact rdec_short v a len cap (zs.take len) w (by omega) hl h
  · obtain ⟨b, off, rfl, _⟩ := hrow.2.2 (by omega)
    exact rdec_main v b off len cap (zs.take len) w (bytes_take hb len) (row_take hrow (Nat.le_refl len)) hl (by omega) hcap hcm hbig
set_option maxRecDepth 100000 in
set_option maxHeartbeats 1600000 in
theorem bytes6_walk (v : Int) (a : Option Addr) (len cap : Nat) (zs : List Int) (w : World) (ht : Tabs w) (hby : Bytes zs) (hn : a = none → cap = 0) (hrow : Fr.HasRow .u8 w a len zs) (hlc : len ≤ cap) (hcm : cap ≤ 140737488351232) :
    Calls Tryz.prog 4 #[.int .i64 v, .slice a len cap] w fun e w' => e = .returned (.bool true) ∧ Below w.heap.size w w' := by
  have HT := Lib.hid ht; have HR := Lib.hid hrow
  obtain ⟨l, hl⟩ : ∃ l, zs.take len = l := ⟨_, rfl⟩
  obtain ⟨X, q, hX⟩ : ∃ X q, decS v l = (X, q) := ⟨_, _, rfl⟩
  obtain ⟨nx, hnx⟩ : ∃ nx, X.length = nx := ⟨_, rfl⟩
  obtain ⟨E, hE⟩ : ∃ E, encN (u32N v) l = E := ⟨_, rfl⟩
  obtain ⟨ne, hne⟩ : ∃ ne, E.length = ne := ⟨_, rfl⟩
  obtain ⟨R, hR⟩ : ∃ R, bs (snm v) = R := ⟨_, rfl⟩
  have D1 : Hid (∀ wx, Below w.heap.size w wx → Calls Tryz.prog 16 #[.int .i64 v, .slice a len cap] wx fun e w' => ∃ a1 c1, e = .returned (.tuple #[.slice a1 nx c1, .int .i64 q]) ∧ Fr.HasRow .u8 w' a1 nx X ∧ Below w.heap.size w w' ∧ Below wx.heap.size wx w') := Lib.hid fun wx hx => by
    have := decode_any v a len cap zs wx (ht.keep hx) hby (hrow.keep hx) hlc (by omega) (by omega)
    rw [hl] at this
    refine this.mono fun e w' ⟨x, h1, h2, h3⟩ => ?_
    rw [hX] at h1 h2
    obtain ⟨a1, c1, rfl, hr, _⟩ := Ob.own_row h2
    simp only [] at h1 hr
    rw [hnx] at h1 hr
    exact ⟨a1, c1, h1, hr, hx.trans (h3.mono hx.size), h3⟩
  have D2 : Hid (∀ wx, Below w.heap.size w wx → Calls Tryz.prog 17 #[.int .i64 v, .slice a len cap] wx fun e w' => ∃ a1 c1, e = .returned (.tuple #[.slice a1 nx c1, .int .i64 q]) ∧ Fr.HasRow .u8 w' a1 nx X ∧ Below w.heap.size w w' ∧ Below wx.heap.size wx w') := Lib.hid fun wx hx => by
    have := rdecode_any v a len cap zs wx hby (hrow.keep hx) hlc (by omega) (by omega)
    rw [hl] at this
    refine this.mono fun e w' ⟨x, h1, h2, h3⟩ => ?_
    rw [hX] at h1 h2
    obtain ⟨a1, c1, rfl, hr, _⟩ := Ob.own_row h2
    simp only [] at h1 hr
    rw [hnx] at h1 hr
    exact ⟨a1, c1, h1, hr, hx.trans (h3.mono hx.size), h3⟩
  have N1 : Hid (∀ wx, Below w.heap.size w wx → Calls Tryz.prog 18 #[.int .i64 v] wx fun e w' => e = .returned (.string R) ∧ Below wx.heap.size wx w' ∧ Below w.heap.size w w') := Lib.hid fun wx hx => by
    have := name_any v wx (ht.keep hx)
    rw [hR] at this
    exact this.mono fun e w' ⟨h1, h2⟩ => ⟨h1, h2, hx.trans (h2.mono hx.size)⟩
  have N2 : Hid (∀ wx, Below w.heap.size w wx → Calls Tryz.prog 19 #[.int .i64 v] wx fun e w' => e = .returned (.string R) ∧ Below wx.heap.size wx w' ∧ Below w.heap.size w w') := Lib.hid fun wx hx => by
    have := rname6_any v wx
    rw [hR] at this
    exact this.mono fun e w' ⟨h1, h2⟩ => ⟨h1, h2, hx.trans (h2.mono hx.size)⟩
  have E1 : Hid (∀ wx, Below w.heap.size w wx → Calls Tryz.prog 21 #[.int .i64 v, .slice a len cap] wx fun e w' => ∃ a1 c1, e = .returned (.slice a1 ne c1) ∧ Fr.HasRow .u8 w' a1 ne E ∧ Below wx.heap.size wx w' ∧ Below w.heap.size w w') := Lib.hid fun wx hx => by
    have := encode_any v a len cap zs wx (ht.keep hx).crc hby (hrow.keep hx) hn (by omega)
    rw [hl, hE] at this
    refine this.mono fun e w' ⟨x, h1, h2, h3⟩ => ?_
    obtain ⟨a1, c1, rfl, hr, _⟩ := Ob.own_row h2
    rw [hne] at h1 hr
    exact ⟨a1, c1, h1, hr, h3, hx.trans (h3.mono hx.size)⟩
  have E2 : Hid (∀ wx, Below w.heap.size w wx → Calls Tryz.prog 22 #[.int .i64 v, .slice a len cap] wx fun e w' => ∃ a1 c1, e = .returned (.slice a1 ne c1) ∧ Fr.HasRow .u8 w' a1 ne E ∧ Below wx.heap.size wx w' ∧ Below w.heap.size w w') := Lib.hid fun wx hx => by
    have := rencode_any v a len cap zs wx hby (hrow.keep hx) hn (by omega)
    rw [hl, hE] at this
    refine this.mono fun e w' ⟨x, h1, h2, h3⟩ => ?_
    obtain ⟨a1, c1, rfl, hr, _⟩ := Ob.own_row h2
    rw [hne] at h1 hr
    exact ⟨a1, c1, h1, hr, h3, hx.trans (h3.mono hx.size)⟩
  have tR : (R.toList == R.toList) = true := beq_self_eq_true _
  have tq : (q == q) = true := beq_self_eq_true q
  clear ht hby hn hrow hl hX hnx hE hne hR
  go_enter Tryz.func4, Tryz.ntmps4
  go_wp2_with (go_at_call 15; (with_reducible refine (wakes6_any _ HT.out).mono ?_); rintro e w1 ⟨rfl, hb1⟩; have HB1 := Lib.hid hb1; clear hb1)
  refine (D1.out _ HB1.out).mono ?_
  rintro e w2 ⟨ax, cx, rfl, hx2, hb2, _⟩
  have HX2 := Lib.hid hx2; have HB2 := Lib.hid hb2
  clear hx2 hb2
  go_wp2_with fail
  refine (D2.out _ HB2.out).mono ?_
  rintro e w3 ⟨ay, cy, rfl, hy3, hb3, hc3⟩
  have HX3 := Lib.hid (HX2.out.keep hc3); have HY3 := Lib.hid hy3; have HB3 := Lib.hid hb3
  clear hy3 hb3 hc3
  go_wp2_with (first
    | (go_at_call 18; (with_reducible refine (N1.out _ HB3.out).mono ?_); rintro e w4 ⟨rfl, hc4, hb4⟩; have HX4 := Lib.hid (HX3.out.keep hc4); have HY4 := Lib.hid (HY3.out.keep hc4); have HB4 := Lib.hid hb4; clear hc4 hb4)
    | (go_at_call 19; (with_reducible refine (N2.out _ HB4.out).mono ?_); rintro e w5 ⟨rfl, hc5, hb5⟩; have HX5 := Lib.hid (HX4.out.keep hc5); have HY5 := Lib.hid (HY4.out.keep hc5); have HB5 := Lib.hid hb5; clear hc5 hb5)
    | (go_at_call 21; (with_reducible refine (E1.out _ HB5.out).mono ?_); rintro e w6 ⟨ae, ce, rfl, he6, hc6, hb6⟩; have HX6 := Lib.hid (HX5.out.keep hc6); have HY6 := Lib.hid (HY5.out.keep hc6); have HE6 := Lib.hid he6; have HB6 := Lib.hid hb6; clear hc6 hb6 he6)
    | (go_at_call 22; (with_reducible refine (E2.out _ HB6.out).mono ?_); rintro e w7 ⟨af, cf, rfl, hf7, hc7, hb7⟩; have HX7 := Lib.hid (HX6.out.keep hc7); have HY7 := Lib.hid (HY6.out.keep hc7); have HE7 := Lib.hid (HE6.out.keep hc7); have HF7 := Lib.hid hf7; have HB7 := Lib.hid hb7; clear hc7 hb7 hf7)
    | (go_at_call 20; (with_reducible refine (ssame_self HE7.out HF7.out).mono ?_); rintro e w8 ⟨rfl, hb8⟩; have HX8 := Lib.hid (HX7.out.keep hb8); have HY8 := Lib.hid (HY7.out.keep hb8); have HB8 := Lib.hid (HB7.out.trans (hb8.mono HB7.out.size)); clear hb8)
    | (go_at_call 20; (with_reducible refine (ssame_self HX8.out HY8.out).mono ?_); rintro e w9 ⟨rfl, hb9⟩; have HB9 := Lib.hid (HB8.out.trans (hb9.mono HB8.out.size)); clear hb9))
  go_ret
  exact ⟨rfl, HB9.out⟩
end Go.Proofs.YtdonkmkjblofpaaGreatDoor.Sn

/-
  Layer 5: a copy of bytes, Frame, the records of bytes.
-/
import Derived.Test.YtdonkmkjblofpaaGreatDoorWd
import Derived.Test.YtdonkmkjblofpaaGreatDoorKs
namespace Go.Proofs.YtdonkmkjblofpaaGreatDoor.Wl
open Go.RowKit Go.Sort Dx Sx Dk
set_option linter.unusedVariables false
set_option linter.unusedSimpArgs false
theorem tab_lt {w : World} (h : Tab w) : 0 < w.heap.size := by
  have := tab_cell h 0 (by decide)
  exact Fr.lt_of_cell this
theorem tab_keep {w w' : World} (h : Tab w) (hb : Below w.heap.size w w') : Tab w' := by
  unfold Tab Lib.TabIs at *
  exact var?_below hb (g := 0) (by kernel_rfl) (tab_lt h) h
theorem tab_drewN {w : World} (h : Tab w) (n : Nat) : Tab (w.drewN n) := h
set_option maxRecDepth 100000 in
theorem bclone_some (w : World) (x : Addr) (len cap : Nat) (zs : List Int) (hrow : Fr.HasRow .u8 w (some x) len zs) (hl : len ≤ 140737488355328) : Calls Tryz.prog 48 #[.slice (some x) len cap] w (CloneIt w (zs.take len)) := by
  have HR := Lib.hid hrow; have HL := Lib.hid hl
  have D : Hid (∀ v w1 w', w1 = w.alloc (.cells #[] 5) → Ob.OwnB w' w.heap.size v (zs.take len) → Below w.heap.size w1 w' → CloneIt w (zs.take len) (.returned v) w') := Lib.hid fun v w1 w' e h1 h2 => by
    subst e; exact ⟨_, rfl, h1, ((Below.refl _ _).alloc (Nat.le_refl _) _).trans h2⟩
  clear hrow
  have q29 : ∀ (w : World) (a : Option Addr) (n c n' c' : Nat), (binOp .eql 22 (.slice a n c) (.slice none n' c')).run Tryz.prog w = .ok (.bool a.isNone) w := fun w a n c n' c' => Lib.run_eql_slice_nil w _ _ a n c n' c' Tryz.underlying22
  go_enter Tryz.func48, Tryz.ntmps48
  go_wp2_with (at_builtin; refine Ob.wp_apd rfl (.tmp 5) (.tmp 6) rfl w.heap.size _ [] rfl (Ob.own_made w (Nat.le_refl _)) (some x) len cap zs rfl (HR.out.keep ((Below.refl _ _).alloc (Nat.le_refl _) _)) (fun h => by cases h) (by simp; exact HL.out) (by simp) ?_; intro v w2 ho hb2; rw [List.nil_append] at ho; have HO := Lib.hid ho; have HB := Lib.hid hb2; clear ho hb2)
  go_ret
  exact D.out _ _ _ rfl HO.out HB.out

/-! ### Frame -/
def FrameIt (w : World) (l : List Int) (e : Ending) (w' : World) : Prop := ∃ v, e = .returned (.tuple #[v, .int .i64 0]) ∧ Ob.OwnB w' w.heap.size v (frm l) ∧ Below w.heap.size w w'
theorem frame_long (a : Option Addr) (len cap : Nat) (w : World) (hm : len ≤ 9223372036854775807) (h : 65536 < len) : Calls Tryz.prog 7 #[.slice a len cap] w fun e w' => e = .returned (.tuple #[.slice none 0 0, .int .i64 3]) ∧ w = w' := by
  have t1 : decide ((len : Int) > 65536) = true := by rw [decide_eq_true_eq]; omega
  go_enter Tryz.func7, Tryz.ntmps7
  go_wp2
  go_ret2
  exact ⟨rfl, rfl⟩
set_option maxRecDepth 100000 in
set_option maxHeartbeats 400000 in
theorem frame_any (a : Option Addr) (len cap : Nat) (zs : List Int) (w : World) (ht : Sx.Tab w) (hb : Bytes zs) (hrow : Fr.HasRow .u8 w a len zs) (hn : a = none → cap = 0) (h : len ≤ 65536) :
    Calls Tryz.prog 7 #[.slice a len cap] w (FrameIt w (zs.take len)) := by
  have hzl : (zs.take len).length = len := by rw [List.length_take]; have := hrow.1; omega
  have D : Hid (∀ v w', Ob.OwnB w' w.heap.size v ([] ++ le4 len ++ le4 (crcN (zs.take len)) ++ zs.take len) → Below w.heap.size w w' → FrameIt w (zs.take len) (.returned (.tuple #[v, .int .i64 0])) w') := Lib.hid fun v w' h1 h2 => ⟨v, rfl, by
    unfold frm; rw [hzl]
    simpa [List.append_assoc] using h1, h2⟩
  have HR := Lib.hid hrow; have HT := Lib.hid ht
  have CR : Hid (∀ wx, Below w.heap.size w wx → Calls Tryz.prog 44 #[.slice a len cap] wx fun e w' => e = .returned (.int .u32 (crcN (zs.take len) : Int)) ∧ wx = w') := Lib.hid fun wx hbx => crc_any a len cap zs wx (tab_keep ht hbx) hb (hrow.keep hbx)
  have hcl := crcN_lt (zs.take len)
  have hls : ([] ++ le4 len ++ le4 (crcN (zs.take len))).length = 8 := rfl
  obtain ⟨c, hc⟩ : ∃ c, crcN (zs.take len) = c := ⟨_, rfl⟩
  rw [hc] at CR D hcl hls
  have HC := Lib.hid hcl; have HLS := Lib.hid hls
  have t1 : decide ((len : Int) > 65536) = false := by rw [decide_eq_false_iff_not]; omega
  obtain ⟨i0, hi, hz0, hz1, hz2⟩ := info_parts Ob.info_u8
  clear hrow ht hb hc hcl hls hzl
  go_enter Tryz.func7, Tryz.ntmps7
  go_wp2_with (at_make; go_loud (refine wpList_make_own _ rfl (.const (.int .i64 0)) (.tmp 10) 22 rfl w.heap.size 5 i0 (.int .u8 0) 1 Tryz.underlying22 hi hz0 hz1 .i64 .i64 _ (8 + len) rfl rfl (by omega) (by rw [hz2]; omega) (by unfold maxLen; omega) (Nat.le_refl _) ?_); intro w1 ho1 hg1; have HO1 : Hid (Ob.OwnB w1 w.heap.size (.slice (some ⟨w.heap.size, 0, none⟩) 0 (8 + len)) []) := Lib.hid ho1; have HB1 : Hid (Below w.heap.size w w1) := Lib.hid ((Below.refl _ _).grown hg1 (Nat.le_refl _) (fun k hk => by cases hk)); clear ho1 hg1)
  refine (put_any w.heap.size _ [] len w1 HO1.out HB1.out.size (by omega) (by simp)).mono ?_
  rintro e w2 ⟨v2, rfl, ho2, hb2⟩
  have HO2 := Lib.hid ho2; have HB2 := Lib.hid (HB1.out.trans hb2)
  clear ho2 hb2
  go_wp2_with fail
  refine (CR.out _ HB2.out).mono ?_
  rintro e w' ⟨rfl, rfl⟩
  go_wp2_with fail
  refine (put_any w.heap.size _ _ c w2 HO2.out HB2.out.size HC.out (by simp [le4])).mono ?_
  rintro e w3 ⟨v3, rfl, ho3, hb3⟩
  have HO3 := Lib.hid ho3; have HB3 := Lib.hid (HB2.out.trans hb3)
  clear ho3 hb3
  go_wp2_with (at_builtin; go_loud (refine Ob.wp_apd rfl (.tmp 21) (.tmp 22) rfl w.heap.size v3 _ rfl HO3.out a len cap zs rfl (HR.out.keep HB3.out) hn (by rw [HLS.out]; omega) HB3.out.size ?_); intro v4 w4 ho4 hb4; have HO4 := Lib.hid ho4; have HB4 := Lib.hid (HB3.out.trans hb4); clear ho4 hb4)
  go_ret2
  exact D.out _ _ HO4.out HB4.out
end Go.Proofs.YtdonkmkjblofpaaGreatDoor.Wl

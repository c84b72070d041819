/-
  Layer 5: Append.
-/
import Derived.Test.YtdonkmkjblofpaaGreatDoorWm
namespace Go.Proofs.YtdonkmkjblofpaaGreatDoor.Wl
open Go.RowKit Go.Sort Dx Sx Dk
set_option linter.unusedVariables false
set_option linter.unusedSimpArgs false
def nameS (n : Nat) : List UInt8 := if 1 ≤ n ∧ n ≤ 999999999 then segN n else []
theorem nameS_len (n : Nat) : (nameS n).length ≤ 10 := by
  unfold nameS; split
  · unfold segN; rw [List.length_cons, low_length]; omega
  · simp
theorem name_all (n : Nat) (w : World) (ht : Tabs w) : Calls Tryz.prog 11 #[.int .i64 (n : Int)] w fun e w' => e = .returned (.string (bs (nameS n))) ∧ Below w.heap.size w w' := by
  unfold nameS
  by_cases h : 1 ≤ n ∧ n ≤ 999999999
  · rw [if_pos h]; exact name_any n h.1 h.2 w ht
  · rw [if_neg h]
    refine (name_no n w (by omega)).mono ?_
    rintro e w' ⟨rfl, rfl⟩
    exact ⟨rfl, Below.refl _ _⟩
/-- The segment that the next record goes to. -/
def segOf (per : Int) (next last : Nat) : Nat := if (next : Int) - (last : Int) ≥ per then next else last
/-- Append: its two answers; the next number, the last segment, the error, the disk behind it. -/
def appW (l : List Int) (per : Int) (next last : Nat) (failed : Int) (S : St) : (Int × Int) × Nat × Nat × Int × St :=
  if 65536 < l.length then ((0, 3), next, last, failed, S)
  else if failed ≠ 0 then ((0, failed), next, last, failed, S)
  else if (writeS (nameS (segOf per next last)) (frm l) failed S).1 ≠ 0 then ((0, (writeS (nameS (segOf per next last)) (frm l) failed S).1), next, last, (writeS (nameS (segOf per next last)) (frm l) failed S).2.1, (writeS (nameS (segOf per next last)) (frm l) failed S).2.2)
  else ((next, 0), next + 1, segOf per next last, (writeS (nameS (segOf per next last)) (frm l) failed S).2.1, (writeS (nameS (segOf per next last)) (frm l) failed S).2.2)
def AppIt (w : World) (O : Nat → Prop) (d g : Nat) (per : Int) (r : (Int × Int) × Nat × Nat × Int × St) (e : Ending) (w' : World) : Prop := e = .returned (.tuple #[.int .i64 r.1.1, .int .i64 r.1.2]) ∧ HasW w O d g per (r.2.1 : Nat) (r.2.2.1 : Nat) r.2.2.2.1 r.2.2.2.2 w'
theorem IsWal.below {w w' : World} {O : Nat → Prop} {d g : Nat} {per next last failed : Int} {S : St} (h : IsWal w O d g per next last failed S) (hb : Below w.heap.size w w') : IsWal w' O d g per next last failed S :=
  ⟨h.disk.below hb, h.out, (hb.block g (lt_of_heap h.blk)).trans h.blk⟩
theorem IsWal.done {w : World} {O : Nat → Prop} {d g : Nat} {per next last failed : Int} {S : St} (h : IsWal w O d g per next last failed S) (x y : Int) : IsWal ((w.setCell ⟨g, 3, none⟩ (.int .i64 x)).setCell ⟨g, 2, none⟩ (.int .i64 y)) O d g per y x failed S ∧ Step w (Og O g) ((w.setCell ⟨g, 3, none⟩ (.int .i64 x)).setCell ⟨g, 2, none⟩ (.int .i64 y)) (Og O g) := by
  have t1 : Turned (fun i => i = g) w ((w.setCell ⟨g, 3, none⟩ (.int .i64 x)).setCell ⟨g, 2, none⟩ (.int .i64 y)) := (Turned.setCell (O := fun i => i = g) w 3 rfl _).trans (Turned.setCell (O := fun i => i = g) _ 2 rfl _)
  refine ⟨⟨h.disk.turned t1 fun i hi e => h.out (e ▸ hi), h.out, ?_⟩, Step.of (t1.mono fun i _ hi => .inr hi)⟩
  rw [Joins.block_setCell (i := 2) (Joins.block_setCell (i := 3) h.blk _) _]; simp [walC]
theorem first_below {B : Nat} {a w : World} (h : Below B a w) : Below B a w.drew := h.drew
theorem first_up {w w' : World} (h : Below w.drew.heap.size w.drew w') : Below w.heap.size w w' := ((Below.refl _ _).drew).trans h
section
variable {w : World} {O : Nat → Prop} {d g : Nat} {per failed : Int} {next last : Nat} {S : St}
set_option maxRecDepth 100000 in
set_option maxHeartbeats 800000 in
theorem append_any (h : IsWal w O d g per next last failed S) (ht : Tabs w) (a : Option Addr) (len cap : Nat) (zs : List Int) (hb : Bytes zs) (hrow : Fr.HasRow .u8 w a len zs) (hn : a = none → cap = 0) (hm : len ≤ 9223372036854775807) (h1 : next ≤ 4611686018427387904) (h2 : last ≤ 4611686018427387904) :
    Calls Tryz.prog 42 #[.pointer (some ⟨g, 0, none⟩), .slice a len cap] w (AppIt w O d g per (appW (zs.take len) per next last failed S)) := by
  have hzl : (zs.take len).length = len := by rw [List.length_take]; have := hrow.1; omega
  by_cases hlen : 65536 < len
  · have FL := Lib.hid (frame_long a len cap w hm hlen)
    have D : AppIt w O d g per (appW (zs.take len) per next last failed S) (.returned (.tuple #[.int .i64 0, .int .i64 3])) w := by
      unfold appW; rw [if_pos (by rw [hzl]; exact hlen)]
      exact ⟨rfl, O, Step.refl w _, h⟩
    have D := Lib.hid D
    clear h ht hb hrow hn hm h1 h2 hzl hlen
    go_enter Tryz.func42, Tryz.ntmps42
    go_wp2_with fail
    refine FL.out.mono ?_
    rintro e w1 ⟨rfl, rfl⟩
    go_wp2
    go_ret2
    exact D.out
  have FR := Lib.hid (frame_any a len cap zs w ht.crc hb hrow hn (by omega))
  have IW : Hid (∀ wx, Below w.heap.size w wx → IsWal wx O d g per next last failed S) := Lib.hid fun wx hbx => h.below hbx
  by_cases hf : failed = 0
  case neg =>
    have D : Hid (∀ w', Below w.heap.size w w' → AppIt w O d g per (appW (zs.take len) per next last failed S) (.returned (.tuple #[.int .i64 0, .int .i64 failed])) w') := Lib.hid fun w' hbx => by
      unfold appW; rw [if_neg (by rw [hzl]; exact hlen), if_pos hf]
      exact ⟨rfl, O, Step.of (Turned.of_below hbx), h.below hbx⟩
    have tf : (failed == 0) = false := by simpa using hf
    have tf2 : (failed != 0) = true := by simpa using hf
    clear h ht hb hrow hn hm h1 h2 hzl hlen hf
    go_enter Tryz.func42, Tryz.ntmps42
    go_wp2_with fail
    refine FR.out.mono ?_
    rintro e w1 ⟨v, rfl, ho, hb1⟩
    have c4 := (IW.out w1 hb1).cells.2.2.2.2
    have HB := Lib.hid hb1
    clear ho hb1
    go_wp2
    try go_region
    try go_wp2
    go_ret2
    exact D.out _ (first_below HB.out)
  case pos =>
    subst hf
    obtain ⟨l, hl⟩ : ∃ l, zs.take len = l := ⟨_, rfl⟩
    rw [hl] at FR hzl ⊢
    obtain ⟨n, hnn⟩ : ∃ n, segOf per next last = n := ⟨_, rfl⟩
    obtain ⟨df, hdf⟩ : ∃ df : Int, (next : Int) - (last : Int) = df := ⟨_, rfl⟩
    obtain ⟨r, f2, S2, hr⟩ : ∃ r f2 S2, writeS (nameS n) (frm l) 0 S = (r, f2, S2) := ⟨_, _, _, rfl⟩
    obtain ⟨nm, hnm⟩ : ∃ nm, bs (nameS n) = nm := ⟨_, rfl⟩
    have NM : Hid (∀ wx, Below w.heap.size w wx → Calls Tryz.prog 11 #[.int .i64 (n : Int)] wx fun e w' => e = .returned (.string nm) ∧ Below wx.heap.size wx w') := Lib.hid fun wx hbx => by rw [← hnm]; exact name_all n wx (ht.keep hbx)
    have WR : Hid (∀ wx ad cap, Below w.heap.size w wx → Ob.OwnB wx w.heap.size (.slice ad (frm l).length cap) (frm l) → Calls Tryz.prog 79 #[.pointer (some ⟨g, 0, none⟩), .string nm, .slice ad (frm l).length cap] wx (WroteIt wx O d g per next last (r, f2, S2))) := Lib.hid fun wx ad cap hbx ho => by
      obtain ⟨ad', cap', e, hrw, hn', _, _⟩ := Ob.own_row ho
      injection e with e1 _ e3
      subst e1 e3
      have := write_any (h.below hbx) nm (by rw [← hnm, bs_size]; have := nameS_len n; unfold maxLen; omega) _ _ _ (frm l) hrw hn' (by rw [frm_length]; omega)
      rwa [← hnm, bs_data, List.take_length, hr, hnm] at this
    have D1 : Hid (r ≠ 0 → ∀ wx w', Below w.heap.size w wx → HasW wx O d g per next last f2 S2 w' → AppIt w O d g per (appW l per next last 0 S) (.returned (.tuple #[.int .i64 0, .int .i64 r])) w') := Lib.hid fun h0 wx w' hbx ⟨O', st, hw⟩ => by
      unfold appW; rw [if_neg (by rw [hzl]; exact hlen), if_neg (by simp), hnn, hr, if_pos h0]
      exact ⟨rfl, O', (Step.of (Turned.of_below hbx)).trans st, hw⟩
    have D2 : Hid (r = 0 → ∀ wx w', Below w.heap.size w wx → HasW wx O d g per next last f2 S2 w' → AppIt w O d g per (appW l per next last 0 S) (.returned (.tuple #[.int .i64 next, .int .i64 0])) ((w'.setCell ⟨g, 3, none⟩ (.int .i64 n)).setCell ⟨g, 2, none⟩ (.int .i64 ((next + 1 : Nat) : Int)))) := Lib.hid fun h0 wx w' hbx ⟨O', st, hw⟩ => by
      unfold appW; rw [if_neg (by rw [hzl]; exact hlen), if_neg (by simp), hnn, hr, if_neg (by simpa using h0)]
      exact ⟨rfl, O', ((Step.of (Turned.of_below hbx)).trans st).trans (hw.done _ _).2, (hw.done _ _).1⟩
    obtain ⟨nx1, hnx⟩ : ∃ nx1 : Int, ((next + 1 : Nat) : Int) = nx1 := ⟨_, rfl⟩
    rw [hnx] at D2
    have hw1 : IntKind.i64.wrap ((next : Int) - (last : Int)) = df := by rw [IntWalk.i64_in _ (by omega)]; exact hdf
    have hw2 : IntKind.i64.wrap ((next : Int) + 1) = nx1 := by rw [IntWalk.i64_in _ (by omega), ← hnx]; rfl
    have hw3 : IntKind.i64.wrap (nx1 - 1) = (next : Int) := by rw [IntWalk.i64_in _ (by omega), ← hnx]; omega
    have tt : (decide (df ≥ per) = true ∧ n = next) ∨ (decide (df ≥ per) = false ∧ n = last) := by
      rw [← hnn]; unfold segOf; rw [hdf]
      by_cases hge : df ≥ per
      · exact .inl ⟨by simpa using hge, if_pos hge⟩
      · exact .inr ⟨by simpa using hge, if_neg hge⟩
    have rr : ((r == 0) = true ∧ r = 0) ∨ ((r == 0) = false ∧ r ≠ 0) := by
      by_cases h0 : r = 0
      · exact .inl ⟨by simpa using h0, h0⟩
      · exact .inr ⟨by simpa using h0, h0⟩
    obtain ⟨k, hk⟩ : ∃ k, (frm l).length = k := ⟨_, rfl⟩
    have HK := Lib.hid hk
    clear h ht hb hrow hn hm h1 h2 hzl hlen hl hnn hdf hr hnm hnx hk
    rcases tt with ⟨t9, rfl⟩ | ⟨t9, rfl⟩
    all_goals
      go_enter Tryz.func42, Tryz.ntmps42
      go_wp2_with fail
      refine FR.out.mono ?_
      rintro e w1 ⟨v, rfl, ho, hb1⟩
      obtain ⟨ad, cp, rfl, _, _, _, _⟩ := Ob.own_row ho
      obtain ⟨_, c1, c2, c3, c4⟩ := (IW.out w1 hb1).cells
      have HO := Lib.hid ho; have HB := Lib.hid hb1
      clear ho hb1
      go_wp2_with fail
      go_region
      go_wp2_with fail
      refine (NM.out _ (first_below HB.out)).mono ?_
      rintro e w2 ⟨rfl, hb2⟩
      have HB2 := Lib.hid ((first_below HB.out).trans (hb2.mono (first_below HB.out).size))
      have HO2 := Lib.hid (Ob.own_keep HO.out (first_up hb2))
      clear hb2 c1 c2 c3 c4
      go_wp2_with fail
      refine (WR.out _ _ _ HB2.out HO2.out).mono ?_
      rintro e w3 ⟨rfl, hw⟩
      rcases rr with ⟨r0, h0⟩ | ⟨r0, h0⟩
      · have DD := Lib.hid (D2.out h0 _ _ HB2.out hw)
        obtain ⟨O', _, hw'⟩ := hw
        obtain ⟨_, _, c2, c3, _⟩ := hw'.cells
        have f2' := Joins.unfrozen_of_block hw'.blk 2
        have f3' := Joins.unfrozen_of_block hw'.blk 3
        clear hw'
        subst h0
        clear r0
        go_wp2
        go_ret2
        exact DD.out
      · have DD := Lib.hid (D1.out h0 _ _ HB2.out hw)
        clear hw h0
        go_wp2
        go_ret2
        exact DD.out
end
end Go.Proofs.YtdonkmkjblofpaaGreatDoor.Wl

/-
  Layer 7: the program's fits, every, bodyOf, Valid.
-/
import Derived.Test.YtjgkjmegpinelaaDoorTc
import Derived.Test.YtjgkjmegpinelaaDoorTd
import Derived.Deep.LoopGhost
import Derived.Deep.RegionHeld3
import Derived.Outline
import Derived.IntWalk
import Derived.Lib.IndexAny
import Derived.WalkSmall
namespace Go.Proofs.YtjgkjmegpinelaaDoor.Tg
open Go.RowKit Go.Sort Dx Sx
set_option linter.unusedVariables false
set_option linter.unusedSimpArgs false

abbrev Pow (w : World) : Prop := Lib.TabIs Tryd.prog w "internal/strconv.uint64pow10" .u64 Lib.pow10Tab
theorem pow_keep {w w' : World} (h : Pow w) (hb : Below w.heap.size w w') : Pow w' := by
  have hlt : 1 < w.heap.size := Fr.lt_of_cell (h.cell (g := 1) (by kernel_rfl) 0 (by decide))
  unfold Pow Lib.TabIs at *
  exact var?_below hb (g := 1) (by kernel_rfl) hlt h
theorem below_grow (w : World) (k : Nat) (os : Array Obj) : Below w.heap.size w (grow (w.drewN k) os) :=
  ⟨rfl, rfl, rfl, by simp [grow], fun i hi => by
    show ((w.drewN k).heap ++ os)[i]? = _
    rw [Array.getElem?_append_left (by show i < w.heap.size; omega)]
    rfl⟩
theorem itoa_any (x : Int) (w : World) (h0 : -9223372036854775808 ≤ x) (h1 : x ≤ 9223372036854775807) (ht : Pow w) :
    Calls Tryd.prog 23 #[.int .i64 x] w fun e w' => e = .returned (.string (bs (itoaT x))) ∧ Below w.heap.size w w' := by
  refine (Tryd.strconv_Itoa x h0 h1 w ht).mono ?_
  rintro e w' ⟨rfl, k, os, rfl⟩
  refine ⟨?_, below_grow _ _ _⟩
  have : Lib.itoa x = itoaT x := by
    unfold Lib.itoa itoaT dec
    split
    · rfl
    · rw [show x.toNat = x.natAbs by omega]
  rw [this]; rfl
theorem has1 (l : List UInt8) : decide (0 ≤ Lib.indexByte l 1) = l.contains 1 := (Lib.contains_iff_indexByte l 1).symm
theorem contains1_any (l : List UInt8) (w : World) :
    Calls Tryd.prog 50 #[.string (bs l), .string { data := #[1] }] w fun e w' => e = .returned (.bool (l.contains 1)) ∧ w = w' := by
  refine (Tryd.strings_Contains_one (bs l) 1 w).mono ?_
  rintro e w' ⟨rfl, rfl⟩
  rw [bs_data, has1]
  exact ⟨rfl, rfl⟩
def FitIt (f : Fld) (w : World) (e : Ending) (w' : World) : Prop := e = .returned (.bool (fitB f)) ∧ Below w.heap.size w w'
theorem fit_no {f : Fld} (h : ¬ (1 ≤ f.1 ∧ f.1 ≤ 9999 ∧ f.1 ≠ 8 ∧ f.1 ≠ 9 ∧ f.1 ≠ 10)) : fitB f = false := by
  unfold fitB; rw [decide_eq_false h]; rfl
set_option maxRecDepth 100000 in
theorem fits_any (t : Int) (v : List UInt8) (w : World) :
    Calls Tryd.prog 38 #[.agg #[.int .i64 t, .string (bs v)]] w (FitIt (t, v) w) := by
  by_cases h8 : t = 8
  · have e : fitB (t, v) = false := fit_no (by rintro ⟨_, _, h, _⟩; exact h h8)
    subst h8
    unfold FitIt; rw [e]
    go_enter Tryd.func38, Tryd.ntmps38
    go_wp2
    go_ret
    exact ⟨rfl, (Below.refl _ _).alloc (Nat.le_refl _) _⟩
  have n8 : (t == 8) = false := by simpa using h8
  by_cases h9 : t = 9
  · have e : fitB (t, v) = false := fit_no (by rintro ⟨_, _, _, h, _⟩; exact h h9)
    subst h9
    unfold FitIt; rw [e]
    go_enter Tryd.func38, Tryd.ntmps38
    go_wp2
    go_ret
    exact ⟨rfl, (Below.refl _ _).alloc (Nat.le_refl _) _⟩
  have n9 : (t == 9) = false := by simpa using h9
  by_cases h10 : t = 10
  · have e : fitB (t, v) = false := fit_no (by rintro ⟨_, _, _, _, h⟩; exact h h10)
    subst h10
    unfold FitIt; rw [e]
    go_enter Tryd.func38, Tryd.ntmps38
    go_wp2
    go_ret
    exact ⟨rfl, (Below.refl _ _).alloc (Nat.le_refl _) _⟩
  have n10 : (t == 10) = false := by simpa using h10
  by_cases h1 : ¬ 1 ≤ t
  · have e : fitB (t, v) = false := fit_no (by rintro ⟨h, _⟩; exact h1 h)
    have E := Lib.hid e; clear e h8 h9 h10
    unfold FitIt; rw [E.out]
    have g1 : decide (1 ≤ t) = false := by simpa using h1
    clear h1
    go_enter Tryd.func38, Tryd.ntmps38
    go_wp2
    go_ret
    exact ⟨rfl, (Below.refl _ _).alloc (Nat.le_refl _) _⟩
  have h1 : 1 ≤ t := by omega
  have g1 : decide (1 ≤ t) = true := by simpa using h1
  by_cases h2 : ¬ t ≤ 9999
  · have e : fitB (t, v) = false := fit_no (by rintro ⟨_, h, _⟩; exact h2 h)
    have E := Lib.hid e; clear e h8 h9 h10
    unfold FitIt; rw [E.out]
    have g2 : decide (t ≤ 9999) = false := by simpa using h2
    clear h1 h2
    go_enter Tryd.func38, Tryd.ntmps38
    go_wp2
    go_ret
    exact ⟨rfl, (Below.refl _ _).alloc (Nat.le_refl _) _⟩
  have h2 : t ≤ 9999 := by omega
  have g2 : decide (t ≤ 9999) = true := by simpa using h2
  have e : fitB (t, v) = (!v.isEmpty && !v.contains 1) := by
    unfold fitB
    rw [decide_eq_true (show (1 ≤ (t, v).1 ∧ (t, v).1 ≤ 9999 ∧ (t, v).1 ≠ 8 ∧ (t, v).1 ≠ 9 ∧ (t, v).1 ≠ 10) from ⟨h1, h2, h8, h9, h10⟩)]; rfl
  have E := Lib.hid e; clear e h8 h9 h10 h1 h2
  unfold FitIt; rw [E.out]
  clear E
  cases hv : v with
  | nil =>
    have e0 : bs [] = ByteArray.empty := rfl
    rw [e0]
    go_enter Tryd.func38, Tryd.ntmps38
    go_wp2
    go_ret
    exact ⟨rfl, (Below.refl _ _).alloc (Nat.le_refl _) _⟩
  | cons c r =>
    rw [← hv]
    have hne : ((bs v).toList == ([] : List UInt8)) = false := by rw [bs_toList, hv]; rfl
    have hne2 : ((bs v).toList != ([] : List UInt8)) = true := by rw [bs_toList, hv]; rfl
    have hemp : (bs v).toList.isEmpty = false := by rw [bs_toList, hv]; rfl
    have e3 : (!v.isEmpty && !v.contains 1) = !v.contains 1 := by rw [hv]; rfl
    rw [e3]
    have hcon := fun w => contains1_any v w
    clear hv e3
    generalize v.contains 1 = B at hcon ⊢
    go_enter Tryd.func38, Tryd.ntmps38
    go_wp2_with (go_at_call 50; refine (hcon _).mono ?_; rintro e w' ⟨rfl, rfl⟩)
    go_ret
    exact ⟨rfl, (Below.refl _ _).alloc (Nat.le_refl _) _⟩
theorem all_take_next {F : List Fld} {k : Nat} (h : k < F.length) (ha : (F.take k).all fitB = true) : (F.take (k + 1)).all fitB = fitB (F.getD k fld0) := by
  rw [List.take_succ_eq_append_getElem h, List.all_append, ha]
  simp [List.getD, h]
theorem all_false {F : List Fld} {k : Nat} (h : k < F.length) (hf : fitB (F.getD k fld0) = false) : F.all fitB = false := by
  rw [List.all_eq_false]
  refine ⟨F[k], List.getElem_mem h, ?_⟩
  simp [List.getD, h] at hf
  simp [hf]
set_option maxRecDepth 100000 in
set_option maxHeartbeats 1000000 in
theorem every_any (a : Option Addr) (len cap : Nat) (F : List Fld) (w : World) (hF : HasF w a F) (hl : F.length = len) :
    Calls Tryd.prog 37 #[.slice a len cap, .func (.func 38) #[] #[]] w fun e w' => e = .returned (.bool (F.all fitB)) ∧ Below w.heap.size w w' := by
  have hm := hF.1
  rw [hl] at hm
  have HF := Lib.hid hF; have HL := Lib.hid hl; clear hF hl
  go_enter Tryd.func37, Tryd.ntmps37
  go_wp2
  go_loopg [9] len (fun m i wr => ∃ (k : Nat), k + m = len ∧ i = .int .i64 (k : Int) ∧ Hid ((F.take k).all fitB = true) ∧ Hid (Below w.heap.size w wr))
  case atStart => exact ⟨0, by omega, rfl, Lib.hid rfl, Lib.hid (Below.refl _ _)⟩
  case round =>
    obtain ⟨k, hk, rfl, HA, HB⟩ := hrel
    by_cases hlt : k < len
    · obtain ⟨b, off, rfl, c0, c1⟩ := (HF.out.keep HB.out).at (show k < F.length by rw [HL.out]; exact hlt)
      have hfit := fun wx => fits_any (F.getD k fld0).1 (F.getD k fld0).2 wx
      have hn := all_take_next (show k < F.length by rw [HL.out]; exact hlt) HA.out
      have hfl := fun h => all_false (show k < F.length by rw [HL.out]; exact hlt) h
      have HN := Lib.hid hn; have HFL := Lib.hid hfl
      clear hn hfl
      unfold FitIt at hfit
      rw [show ((F.getD k fld0).1, (F.getD k fld0).2) = F.getD k fld0 from rfl] at hfit
      generalize F.getD k fld0 = f at *
      obtain ⟨t, v⟩ := f
      simp only at c0 c1 hfit
      cases hfb : fitB (t, v) with
      | true =>
        rw [hfb] at hfit HN
        have HFB := Lib.hid hfb; clear hfb HFL
        go_wp2_with (go_at_call 38; (with_reducible refine (hfit _).mono ?_); rintro e w1 ⟨rfl, hb1⟩)
        go_roundg (len - (k + 1))
        case measure => omega
        case rel => exact ⟨k + 1, by omega, by go_num, HN, Lib.hid ((HB.out.alloc HB.out.size _).trans (hb1.mono (by have := HB.out.size; simp; omega)))⟩
      | false =>
        rw [hfb] at hfit
        have HFB := Lib.hid (HFL.out hfb); clear hfb HFL HN
        go_wp2_with (go_at_call 38; (with_reducible refine (hfit _).mono ?_); rintro e w1 ⟨rfl, hb1⟩)
        go_ret
        exact ⟨by rw [HFB.out] <;> rfl, (HB.out.alloc HB.out.size _).trans (hb1.mono (by have := HB.out.size; simp; omega))⟩
    · have hkl : k = len := by omega
      have h1 : F.all fitB = true := by
        have := HA.out
        rwa [List.take_of_length_le (by rw [HL.out]; omega)] at this
      have H1 := Lib.hid h1; clear h1
      go_wp2
      go_ret
      exact ⟨by rw [H1.out] <;> rfl, HB.out⟩
end Go.Proofs.YtjgkjmegpinelaaDoor.Tg

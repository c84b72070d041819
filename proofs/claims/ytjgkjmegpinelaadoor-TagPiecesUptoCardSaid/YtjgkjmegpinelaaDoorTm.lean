/-
  Layer 7: the program's digit, every (of bytes), isSumField, findBody.
-/
import Derived.Test.YtjgkjmegpinelaaDoorTi
import Derived.Lib.SmallJoins
namespace Go.Proofs.YtjgkjmegpinelaaDoor.Tg
open Go.RowKit Go.Sort Dx Sx
set_option linter.unusedVariables false
set_option linter.unusedSimpArgs false

theorem isD_int (c : UInt8) : isD c = (decide (48 ≤ c.toNat) && decide (c.toNat ≤ 57)) := rfl
set_option maxRecDepth 100000 in
theorem digit_any (c : UInt8) (w : World) :
    Calls Tryd.prog 54 #[.int .u8 (c.toNat : Int)] w fun e w' => e = .returned (.bool (isD c)) ∧ w = w' := by
  have hi := isD_int c
  have hb := c.toNat_lt
  generalize c.toNat = n at *
  by_cases h1 : 48 ≤ n
  · by_cases h2 : n ≤ 57
    · have e : isD c = true := by rw [hi]; simp [h1, h2]
      rw [e]
      have g1 : decide ((48 : Int) ≤ (n : Int)) = true := by rw [decide_eq_true_eq]; omega
      have g2 : decide ((n : Int) ≤ 57) = true := by rw [decide_eq_true_eq]; omega
      clear hi e h1 h2
      go_enter Tryd.func54, Tryd.ntmps54
      go_wp2
      go_ret
      exact ⟨rfl, rfl⟩
    · have e : isD c = false := by rw [hi]; simp [h1, h2]
      rw [e]
      have g1 : decide ((48 : Int) ≤ (n : Int)) = true := by rw [decide_eq_true_eq]; omega
      have g2 : decide ((n : Int) ≤ 57) = false := by rw [decide_eq_false_iff_not]; omega
      clear hi e h1 h2
      go_enter Tryd.func54, Tryd.ntmps54
      go_wp2
      go_ret
      exact ⟨rfl, rfl⟩
  · have e : isD c = false := by rw [hi]; simp [h1]
    rw [e]
    have g1 : decide ((48 : Int) ≤ (n : Int)) = false := by rw [decide_eq_false_iff_not]; omega
    clear hi e h1
    go_enter Tryd.func54, Tryd.ntmps54
    go_wp2
    go_ret
    exact ⟨rfl, rfl⟩
theorem allD_next {l : List UInt8} {k : Nat} (h : k < l.length) (ha : (l.take k).all isD = true) : (l.take (k + 1)).all isD = isD (l.getD k 0) := by
  rw [List.take_succ_eq_append_getElem h, List.all_append, ha]
  simp [List.getD, h]
theorem allD_false {l : List UInt8} {k : Nat} (h : k < l.length) (hf : isD (l.getD k 0) = false) : l.all isD = false := by
  rw [List.all_eq_false]
  refine ⟨l[k], List.getElem_mem h, ?_⟩
  simp [List.getD, h] at hf
  simp [hf]
set_option maxRecDepth 100000 in
set_option maxHeartbeats 1000000 in
theorem everyB_any (a : Option Addr) (len cap : Nat) (l : List UInt8) (w : World) (h : HasL w a l) (hl : l.length = len) :
    Calls Tryd.prog 55 #[.slice a len cap, .func (.func 54) #[] #[]] w fun e w' => e = .returned (.bool (l.all isD)) ∧ w = w' := by
  have hm : len ≤ 9223372036854775807 := by have := h.2.1; omega
  have HR := Lib.hid h; have HL := Lib.hid hl; clear h hl
  go_enter Tryd.func55, Tryd.ntmps55
  go_wp2
  go_loopg [9] len (fun m i wr => ∃ (k : Nat), k + m = len ∧ i = .int .i64 (k : Int) ∧ Hid ((l.take k).all isD = true) ∧ wr = w)
  case atStart => exact ⟨0, by omega, rfl, Lib.hid rfl, rfl⟩
  case round =>
    obtain ⟨k, hk, rfl, HA, rfl⟩ := hrel
    by_cases hlt : k < len
    · have hlt' : k < l.length := by rw [HL.out]; exact hlt
      obtain ⟨b, off, rfl, hc⟩ := HR.out.at (by omega)
      have ck := hc k hlt'
      have hd := fun wx => digit_any (l.getD k 0) wx
      have hn := allD_next hlt' HA.out
      have hfl := fun h => allD_false hlt' h
      have HN := Lib.hid hn; have HFL := Lib.hid hfl
      clear hn hfl hc hlt'
      generalize l.getD k 0 = c at *
      cases hfb : isD c with
      | true =>
        rw [hfb] at hd HN
        clear hfb HFL
        generalize c.toNat = C at *
        go_wp2_with (go_at_call 54; (with_reducible refine (hd _).mono ?_); rintro e w1 ⟨rfl, rfl⟩)
        go_roundg (len - (k + 1))
        case measure => omega
        case rel => exact ⟨k + 1, by omega, by go_num, HN, rfl⟩
      | false =>
        rw [hfb] at hd
        have HE := Lib.hid (HFL.out hfb)
        clear hfb HFL HN
        generalize c.toNat = C at *
        go_wp2_with (go_at_call 54; (with_reducible refine (hd _).mono ?_); rintro e w1 ⟨rfl, rfl⟩)
        go_ret
        exact ⟨by rw [HE.out] <;> rfl, rfl⟩
    · have hkl : k = len := by omega
      have h1 : l.all isD = true := by
        have := HA.out
        rwa [List.take_of_length_le (by rw [HL.out]; omega)] at this
      have H1 := Lib.hid h1; clear h1
      go_wp2
      go_ret
      exact ⟨by rw [H1.out] <;> rfl, rfl⟩
/-- A part of bytes that are read. -/
theorem HasL.part {w : World} {b off : Nat} {l : List UInt8} (h : HasL w (some ⟨b, off, none⟩) l) (i n : Nat) (hin : i + n ≤ l.length) : HasL w (some ⟨b, off + i, none⟩) ((l.drop i).take n) := by
  have hlen : ((l.drop i).take n).length = n := by rw [List.length_take, List.length_drop]; omega
  unfold HasL
  rw [hlen]
  refine ⟨by rw [toI_length, hlen]; omega, by have := h.2.1; omega, fun h0 => ⟨b, off + i, rfl, fun j hj => ?_⟩⟩
  obtain ⟨b', off', e, hc⟩ := h.at (by omega)
  cases e
  rw [Nat.add_assoc, hc (i + j) (by omega), toI_getD]
  congr 3
  simp [List.getD, hj, List.getElem?_take, List.getElem?_drop]
theorem HasL.front {w : World} {b off : Nat} {l : List UInt8} (h : HasL w (some ⟨b, off, none⟩) l) (n : Nat) (hin : n ≤ l.length) : HasL w (some ⟨b, off, none⟩) (l.take n) := by
  have := h.part 0 n (by omega)
  simpa using this
theorem HasL.back {w : World} {b off : Nat} {l : List UInt8} (h : HasL w (some ⟨b, off, none⟩) l) (i : Nat) (hin : i ≤ l.length) : HasL w (some ⟨b, off + i, none⟩) (l.drop i) := by
  have := h.part i (l.length - i) (by omega)
  rwa [List.take_of_length_le (by rw [List.length_drop]; omega)] at this
set_option maxRecDepth 100000 in
set_option maxHeartbeats 1000000 in
theorem isSum_any (b off cap : Nat) (l : List UInt8) (w : World) (h : HasL w (some ⟨b, off, none⟩) l) (hl : l.length = 7) (hcap : 7 ≤ cap) :
    Calls Tryd.prog 46 #[.slice (some ⟨b, off, none⟩) 7 cap] w fun e w' => e = .returned (.bool (sumForm l)) ∧ w = w' := by
  have k1 := conv_at (len := 3) (cap := cap) (h.front 3 (by omega)) (by rw [List.length_take]; omega)
  have k2 := conv_at (len := 1) (cap := cap - 6) (h.back 6 (by omega)) (by rw [List.length_drop]; omega)
  have kd := everyB_any (some ⟨b, off + 3, none⟩) 3 (cap - 3) ((l.drop 3).take 3) w (h.part 3 3 (by omega)) (by rw [List.length_take, List.length_drop]; omega)
  have hs : sumForm l = (((l.take 3 == [49, 48, 61]) && ((l.drop 3).take 3).all isD) && (l.drop 6 == [1])) := rfl
  have hq1 : ((bs (l.take 3)).toList == [49, 48, 61]) = (l.take 3 == [49, 48, 61]) := by rw [bs_toList]
  have hq2 : ((bs (l.drop 6)).toList == [1]) = (l.drop 6 == [1]) := by rw [bs_toList]
  rw [hs]
  clear hs h hl
  generalize (l.take 3 == [49, 48, 61]) = A at *
  generalize (l.drop 6 == [1]) = C at *
  generalize ((l.drop 3).take 3).all isD = B at *
  generalize bs (l.take 3) = S1 at *
  generalize bs (l.drop 6) = S2 at *
  cases A with
  | false =>
    go_enter Tryd.func46, Tryd.ntmps46
    go_wp2
    go_ret
    exact ⟨rfl, rfl⟩
  | true =>
    cases B with
    | false =>
      go_enter Tryd.func46, Tryd.ntmps46
      go_wp2_with (go_at_call 55; (with_reducible refine kd.mono ?_); rintro e w1 ⟨rfl, rfl⟩)
      go_ret
      exact ⟨rfl, rfl⟩
    | true =>
      cases C with
      | false =>
        go_enter Tryd.func46, Tryd.ntmps46
        go_wp2_with (go_at_call 55; (with_reducible refine kd.mono ?_); rintro e w1 ⟨rfl, rfl⟩)
        go_ret
        exact ⟨rfl, rfl⟩
      | true =>
        go_enter Tryd.func46, Tryd.ntmps46
        go_wp2_with (go_at_call 55; (with_reducible refine kd.mono ?_); rintro e w1 ⟨rfl, rfl⟩)
        go_ret
        exact ⟨rfl, rfl⟩
end Go.Proofs.YtjgkjmegpinelaaDoor.Tg

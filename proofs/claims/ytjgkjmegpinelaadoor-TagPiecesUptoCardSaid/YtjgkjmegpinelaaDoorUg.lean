/-
  Layer 7: the reference's Decode.
-/
import Derived.Test.YtjgkjmegpinelaaDoorUd
import Derived.Test.YtjgkjmegpinelaaDoorUf
namespace Go.Proofs.YtjgkjmegpinelaaDoor.Tg
open Go.RowKit Go.Sort Dx Sx
set_option linter.unusedVariables false
set_option linter.unusedSimpArgs false

theorem decS_fail {b : List UInt8} {e : Int} (h : decE b = ([], 0, e)) (he : e = 11 ∨ e = 12) : decS b = ([], skipS b, e) := by
  unfold decS; rw [h, if_pos he]
theorem decS_wait {b : List UInt8} (h : decE b = ([], 0, 10)) : decS b = ([], 0, 10) := by
  unfold decS; rw [h]; rfl
theorem decE_nofind {b : List UInt8} {e : Int} (h : findS b = (0, 0, e)) (he : e ≠ 0) : decE b = ([], 0, e) := by
  unfold decE; rw [h, if_pos he]
theorem decE_find {b : List UInt8} {s t : Nat} (h : findS b = (s, t, 0)) : decE b = bodyE b s t := by
  unfold decE; rw [h, if_neg (by simp)]
theorem find_lead {b : List UInt8} (h : front.isPrefixOf b = true) : findS b = numG 0 0 (b.drop 12) ∧ 12 ≤ b.length := by
  obtain ⟨r, rfl⟩ := List.isPrefixOf_iff_prefix.1 h
  rw [findS_front]
  exact ⟨rfl, by rw [List.length_append, front_length]; omega⟩
theorem find_nolead {b : List UInt8} (h : front.isPrefixOf b = false) (h2 : b.isPrefixOf front = false ∨ 12 ≤ b.length) : findS b = (0, 0, 11) := by
  refine findS_other (fun hp => ?_) fun hp => by rw [List.isPrefixOf_iff_prefix.2 hp] at h; cases h
  rcases h2 with h2 | h2
  · rw [List.isPrefixOf_iff_prefix.2 hp] at h2; cases h2
  · have e : b = front := by
      obtain ⟨x, hx⟩ := hp
      have := congrArg List.length hx
      rw [List.length_append, front_length] at this
      have hx0 : x = [] := List.eq_nil_of_length_eq_zero (by omega)
      rw [← hx, hx0, List.append_nil]
    rw [e] at h
    revert h
    decide
theorem numG_step {b : List UInt8} {A n : Nat} (h : A < b.length) : numG (A - 12) n (b.drop A) = if b.getD A 0 = 1 ∧ 0 < A - 12 then (13 + (A - 12), 13 + (A - 12) + n, 0)
      else if isD (b.getD A 0) = false ∨ (b.getD A 0 = 48 ∧ A - 12 = 0) then (0, 0, 11)
      else if 4096 < n * 10 + dv (b.getD A 0) then (0, 0, 11)
      else numG (A - 12 + 1) (n * 10 + dv (b.getD A 0)) (b.drop (A + 1)) := by
  have e : b.getD A 0 = b[A] := by simp [List.getD, h]
  rw [List.drop_eq_getElem_cons h, numG, e]
theorem frame_at {b : List UInt8} {s t : Nat} (h : findS b = (s, t, 0)) (hl : t + 7 ≤ b.length) : b.take t = pre ((b.drop s).take (t - s)) ∧ ((b.drop s).take (t - s)).length = t - s ∧ s ≤ t ∧ t - s ≤ 4096 ∧ 1 ≤ t - s := by
  obtain ⟨r, rfl⟩ := findS_ok (b := b) (by rw [h])
  rw [findS_front] at h
  obtain ⟨m, x, rfl, m1, m2, hs, ht⟩ := numG_ok h
  have hx := body_at (m := m) x
  have e1 : t - s = m := by omega
  rw [hs] at ht ⊢
  have e1 : t - (13 + nd m) = m := by omega
  rw [e1, hx]
  have hlx : m + 7 ≤ x.length := by
    have e : (front ++ (dec m ++ 1 :: x)).length = 13 + nd m + x.length := by simp [front_length, dec_length]; omega
    omega
  have hlen : (x.take m).length = m := by rw [List.length_take]; omega
  refine ⟨?_, hlen, by omega, m2, m1⟩
  unfold pre
  rw [hlen]
  have e : front ++ (dec m ++ 1 :: x) = (front ++ (dec m ++ [1])) ++ x := by simp
  have el : (front ++ (dec m ++ [1])).length = 13 + nd m := by simp [front_length, dec_length]; omega
  rw [e, List.take_append, List.take_of_length_le (by omega), el, show t - (13 + nd m) = m by omega]
  simp
theorem whole_at {b : List UInt8} {s t : Nat} (h : findS b = (s, t, 0)) (hl : t + 7 ≤ b.length) : (frm ((b.drop s).take (t - s)) = b.take (t + 7)) ↔ (b.drop t).take 7 = sumT (b.take t) := by
  obtain ⟨h1, _⟩ := frame_at h hl
  rw [List.take_add, h1]
  unfold frm
  constructor
  · intro e; exact (List.append_cancel_left e).symm
  · intro e; rw [e]
theorem sumForm_at {E : List UInt8} (h : E.length = 7) : sumForm E = (decide (E.take 3 = [49, 48, 61]) && (isD (E.getD 3 0) && isD (E.getD 4 0) && isD (E.getD 5 0)) && (E.getD 6 0 == 1)) := by
  match E, h with
  | [e0, e1, e2, e3, e4, e5, e6], _ =>
    unfold sumForm
    simp [Bool.and_assoc]
    rfl
def EndIt (b : List UInt8) (w : World) (e : Ending) (w' : World) : Prop := DecIt (decS b) w e w'
set_option maxRecDepth 100000 in
set_option maxHeartbeats 8000000 in
theorem rdecode_any (a : Option Addr) (len cap : Nat) (b : List UInt8) (w : World) (h : HasL w a b) (hl : b.length = len) (hm : len ≤ 1048576) (ht : Pow w) :
    Calls Tryd.prog 17 #[.slice a len cap] w (DecIt (decS b) w) := by
  have kc := conv_at (cap := cap) h hl
  have hz : (bs b).size = len := by rw [bs_size, hl]
  have hidx := fun k (h : k < b.length) => byte_at b h
  have hx : ∀ i j, (bs b).extract i j = bs ((b.drop i).take (j - i)) := fun i j => bs_extract b i j
  have hsk := fun wx => rskip_any b wx (by omega)
  have hlead : bs front = { data := #[56, 61, 70, 73, 88, 46, 52, 46, 52, 1, 57, 61] } := rfl
  have hb1 := fun wx => rbegins_any front b wx (by decide) (by omega)
  have hb2 := fun wx => rbegins_any b front wx (by omega) (by decide)
  rw [hlead] at hb1 hb2
  have HL := Lib.hid hl; have HT := Lib.hid ht
  obtain ⟨S, hS⟩ : ∃ S, bs b = S := ⟨_, rfl⟩
  rw [hS] at kc hz hsk hb1 hb2
  have HI : Hid (∀ k, k < b.length → ∀ h', (S[k]'h').toNat = (b.getD k 0).toNat) := Lib.hid (by subst hS; exact hidx)
  have HX : Hid (∀ i j, S.extract i j = bs ((b.drop i).take (j - i))) := Lib.hid (by subst hS; exact hx)
  clear hidx hx hS hlead h ht
  unfold DecIt
  by_cases hshort : len < 12 ∧ b.isPrefixOf front = true
  · have hR : decS b = ([], 0, 10) := decS_wait (decE_nofind (findS_beginning (List.isPrefixOf_iff_prefix.1 hshort.2)) (by decide))
    rw [hshort.2] at hb1
    have HR := Lib.hid hR
    obtain ⟨h12, _⟩ := hshort
    have d1 : decide ((len : Int) < 12) = true := by rw [decide_eq_true_eq]; omega
    clear hR hb2 hsk hl
    go_enter Tryd.func17, Tryd.ntmps17
    go_wp2_with (go_at_call 30; (with_reducible refine (hb1 _).mono ?_); rintro e wz ⟨rfl, rfl⟩)
    go_ret3
    exact ⟨_, by rw [HR.out] <;> rfl, by rw [HR.out]; exact ownF_nil _ _, Below.refl _ _⟩
  have h2 : b.isPrefixOf front = false ∨ 12 ≤ b.length := by
    cases hp : b.isPrefixOf front with
    | false => exact .inl rfl
    | true =>
      refine .inr ?_
      rcases Nat.lt_or_ge len 12 with h | h
      · exact absurd ⟨h, hp⟩ hshort
      · omega
  cases hfr : front.isPrefixOf b with
  | false =>
    have hR : decS b = ([], skipS b, 11) := decS_fail (decE_nofind (find_nolead hfr h2) (by decide)) (.inl rfl)
    rw [hfr] at hb2
    have HR := Lib.hid hR
    have hor : decide ((len : Int) < 12) = false ∨ (decide ((len : Int) < 12) = true ∧ b.isPrefixOf front = false) := by
      rcases Nat.lt_or_ge len 12 with h | h
      · refine .inr ⟨by rw [decide_eq_true_eq]; omega, ?_⟩
        rcases h2 with h2 | h2
        · exact h2
        · omega
      · exact .inl (by rw [decide_eq_false_iff_not]; omega)
    clear hR hl h2 hshort hfr
    generalize b.isPrefixOf front = B at *
    generalize skipS b = K at *
    rcases hor with d1 | ⟨d1, rfl⟩
    all_goals
      go_enter Tryd.func17, Tryd.ntmps17
      go_wp2_with (first
        | (go_at_call 30; (with_reducible refine (hb2 _).mono ?_); rintro e wz ⟨rfl, rfl⟩)
        | (go_at_call 30; (with_reducible refine (hb1 _).mono ?_); rintro e wz ⟨rfl, rfl⟩)
        | (go_at_call 31; (with_reducible refine (hsk _).mono ?_); rintro e wz ⟨rfl, rfl⟩))
      go_ret3
      exact ⟨_, by rw [HR.out] <;> rfl, by rw [HR.out]; exact ownF_nil _ _, Below.refl _ _⟩
  | true =>
  obtain ⟨hfind, h12⟩ := find_lead hfr
  rw [hfr] at hb2
  have d1 : decide ((len : Int) < 12) = false := by rw [decide_eq_false_iff_not]; omega
  rw [hl] at h12
  have HFD : Hid (findS b = numG (12 - 12) 0 (b.drop 12)) := Lib.hid hfind
  have HSK := Lib.hid hsk
  clear hfind h2 hshort hfr hb1 hsk hl
  go_enter Tryd.func17, Tryd.ntmps17
  go_wp2_with (go_at_call 30; (with_reducible refine (hb2 _).mono ?_); rintro e wz ⟨rfl, rfl⟩)
  clear hb2 kc d1
  have HB : Hid (Below w.heap.size w w) := Lib.hid (Below.refl _ _)
  go_loopg [7, 8] (len - 12) (fun m x y wr => ∃ (A n : Nat), A + m = len ∧ 12 ≤ A ∧ x = .int .i64 (n : Int) ∧ y = .int .i64 (A : Int) ∧ ((A = 12 ∧ n = 0) ∨ (12 < A ∧ 0 < n)) ∧ n ≤ 4096 ∧ Hid (findS b = numG (A - 12) n (b.drop A)) ∧ wr = w)
  case atStart => exact ⟨12, 0, by omega, by omega, rfl, rfl, .inl ⟨rfl, rfl⟩, by omega, HFD, rfl⟩
  case round =>
    obtain ⟨A, n, hA, hA12, rfl, rfl, hAn, hn, HN, rfl⟩ := hrel
    by_cases hlt : A < len
    · have hlt' : A < b.length := by rw [HL.out]; exact hlt
      have hxc := HI.out A hlt'
      have hstep := HN.out.trans (numG_step hlt')
      by_cases h1 : b.getD A 0 = 1
      · rw [h1] at hxc hstep
        have hxc' : ∀ h', (S[A]'h').toNat = 1 := hxc
        clear hxc
        rcases hAn with ⟨rfl, rfl⟩ | ⟨hA1, hn1⟩
        · have hR : decS b = ([], skipS b, 11) := decS_fail (decE_nofind (by rw [hstep]; rfl) (by decide)) (.inl rfl)
          have HR := Lib.hid hR
          clear hR hstep h1 hlt' HN HFD
          go_wp2_with (go_at_call 31; (with_reducible refine (HSK.out _).mono ?_); rintro e wz ⟨rfl, rfl⟩)
          go_ret3
          exact ⟨_, by rw [HR.out] <;> rfl, by rw [HR.out]; exact ownF_nil _ _, HB.out⟩
        · rw [if_pos ⟨rfl, by omega⟩, show 13 + (A - 12) = A + 1 by omega] at hstep
          have HF := Lib.hid hstep
          have hn0 : ((n : Int) == 0) = false := by rw [beq_eq_false_iff_ne]; omega
          clear hstep h1 hlt' HN HFD
          by_cases hsh : len < A + 1 + n + 7
          · have hR : decS b = ([], 0, 10) := decS_wait (by rw [decE_find HF.out]; unfold bodyE; rw [if_pos (by rw [HL.out]; omega)])
            have HR := Lib.hid hR
            have d1 : decide ((len : Int) < (A : Int) + 1 + (n : Int) + 7) = true := by rw [decide_eq_true_eq]; omega
            clear hR
            go_wp2
            go_ret3
            exact ⟨_, by rw [HR.out] <;> rfl, by rw [HR.out]; exact ownF_nil _ _, HB.out⟩
          · have d1 : decide ((len : Int) < (A : Int) + 1 + (n : Int) + 7) = false := by rw [decide_eq_false_iff_not]; omega
            have hbl : A + 1 + n + 7 ≤ b.length := by rw [HL.out]; omega
            have hwa := whole_at HF.out hbl
            obtain ⟨_, hbn, _⟩ := frame_at HF.out hbl
            have hDE := decE_find HF.out
            unfold bodyE at hDE
            rw [if_neg (by omega)] at hDE
            have hE7 : ((b.drop (A + 1 + n)).take 7).length = 7 := by rw [List.length_take, List.length_drop]; omega
            have hsl1 : ∀ wx, (Instr.slice 9 (.string S) (some (.int .i64 ((A : Int) + 1 + (n : Int)))) (some (.int .i64 ((A : Int) + 1 + (n : Int) + 7))) none).run Tryd.prog wx = .ok (.string (bs ((b.drop (A + 1 + n)).take 7))) wx := fun wx => by
              have h := run_slice_string wx 9 S .i64 .i64 ((A : Int) + 1 + (n : Int)) ((A : Int) + 1 + (n : Int) + 7) Tryd.underlying9 (by omega) (by omega) (by omega)
              rw [h, show ((A : Int) + 1 + (n : Int)).toNat = A + 1 + n by omega, show ((A : Int) + 1 + (n : Int) + 7).toNat = A + 1 + n + 7 by omega, HX.out, show A + 1 + n + 7 - (A + 1 + n) = 7 by omega]
            have hsl3 : ∀ wx, (Instr.slice 9 (.string S) (some (.int .i64 ((A : Int) + 1))) (some (.int .i64 ((A : Int) + 1 + (n : Int)))) none).run Tryd.prog wx = .ok (.string (bs ((b.drop (A + 1)).take (A + 1 + n - (A + 1))))) wx := fun wx => by
              have h := run_slice_string wx 9 S .i64 .i64 ((A : Int) + 1) ((A : Int) + 1 + (n : Int)) Tryd.underlying9 (by omega) (by omega) (by omega)
              rw [h, show ((A : Int) + 1 + (n : Int)).toNat = A + 1 + n by omega, show ((A : Int) + 1).toNat = A + 1 by omega, HX.out]
            have hsl4 : ∀ wx, (Instr.slice 9 (.string S) none (some (.int .i64 ((A : Int) + 1 + (n : Int) + 7))) none).run Tryd.prog wx = .ok (.string (bs (b.take (A + 1 + n + 7)))) wx := fun wx => by
              have h := run_slice_string_h wx 9 S Tryd.underlying9 .i64 ((A : Int) + 1 + (n : Int) + 7) (by omega) (by omega)
              rw [h, show ((A : Int) + 1 + (n : Int) + 7).toNat = A + 1 + n + 7 by omega, HX.out]
              rfl
            generalize (b.drop (A + 1)).take (A + 1 + n - (A + 1)) = body at *
            generalize (b.drop (A + 1 + n)).take 7 = E7 at *
            have hbody : body.length ≤ 4096 := by omega
            have hwh : ∀ wx, Below wr.heap.size wr wx → Calls Tryd.prog 25 #[.string (bs body)] wx fun e w' => e = .returned (.string (bs (frm body))) ∧ Below wr.heap.size wr w' := fun wx h => (whole_any body wx (by omega) (pow_keep HT.out h)).mono fun e w' ⟨e1, e2⟩ => ⟨e1, h.trans (e2.mono h.size)⟩
            have hspl := fun wx => rsplit_any body wx hbody
            unfold SplIt at hspl
            have HWA := Lib.hid hwa; have HDE := Lib.hid hDE; have HSL3 := Lib.hid hsl3; have HSL4 := Lib.hid hsl4; have HWH := Lib.hid hwh; have HSPL := Lib.hid hspl
            have hsf := sumForm_at hE7
            have hz7 : (bs E7).size = 7 := by rw [bs_size]; exact hE7
            have hx3 : (bs E7).extract 0 3 = bs (E7.take 3) := by rw [bs_extract]; rfl
            have hidx7 := fun k (h : k < E7.length) => byte_at E7 h
            rw [hE7] at hidx7
            have h6 := hidx7 6 (by decide)
            have hq3 := sumT_ne (E7.take 3) [49, 48, 61]
            rw [bs_toList [49, 48, 61]] at hq3
            obtain ⟨T, hT⟩ : ∃ T, bs E7 = T := ⟨_, rfl⟩
            rw [hT] at hz7 hx3 hsl1 h6
            have HI7 : Hid (∀ k, k < 7 → ∀ h', (T[k]'h').toNat = (E7.getD k 0).toNat) := Lib.hid (by subst hT; exact hidx7)
            clear hwa hDE hsl3 hsl4 hwh hspl hidx7 hT hE7 hbn hbl
            by_cases hp3 : E7.take 3 = [49, 48, 61]
            · rw [decide_eq_true hp3] at hsf hq3
              by_cases hc6 : E7.getD 6 0 = 1
              · rw [hc6] at h6 hsf
                have h6' : ∀ h', (T[6]'h').toNat = 1 := h6
                clear h6 hp3 hc6
                have HSF := Lib.hid hsf
                clear hsf
                generalize bs (E7.take 3) = P3 at *
                have hq3n : (P3.toList != [49, 48, 61]) = false := by rw [bne, hq3]; rfl
                go_wp2
                clear h6' hq3 hq3n hx3 hsl1
                go_loopg [11] 3 (fun m i wy => ∃ k : Nat, k + m = 6 ∧ 3 ≤ k ∧ i = .int .i64 (k : Int) ∧ Hid (∀ j, 3 ≤ j → j < k → isD (E7.getD j 0) = true) ∧ wy = wr)
                case atStart => exact ⟨3, rfl, by omega, rfl, Lib.hid fun j h1 h2 => by omega, rfl⟩
                case round =>
                  obtain ⟨k, hk, hk3, rfl, HA, rfl⟩ := hrel
                  by_cases hlt6 : k < 6
                  · have hxk := HI7.out k (by omega)
                    cases hD : isD (E7.getD k 0) with
                    | false =>
                      have hff : decide (((E7.getD k 0).toNat : Int) < 48) = true ∨ (decide (((E7.getD k 0).toNat : Int) < 48) = false ∧ decide ((57 : Int) < ((E7.getD k 0).toNat : Int)) = true) := by
                        have hlh : (E7.getD k 0).toNat < 48 ∨ 57 < (E7.getD k 0).toNat := by unfold isD at hD; simp at hD ⊢; omega
                        rw [decide_eq_false_iff_not, decide_eq_true_eq, decide_eq_true_eq]; omega
                      have hs0 : sumForm E7 = false := by
                        rw [HSF.out]
                        rcases (show k = 3 ∨ k = 4 ∨ k = 5 by omega) with e | e | e <;> (subst e; rw [hD]; simp)
                      have hR : decS b = ([], skipS b, 11) := decS_fail (by rw [HDE.out, if_pos hs0]) (.inl rfl)
                      have HR := Lib.hid hR
                      clear hR hs0 hD HDE HWA HSPL HWH HSL3 HSL4 HSF
                      generalize (E7.getD k 0).toNat = C at *
                      rcases hff with f2 | ⟨f2, f3⟩
                      all_goals
                        go_wp2_with (go_at_call 31; (with_reducible refine (HSK.out _).mono ?_); rintro e wz ⟨rfl, rfl⟩)
                        go_ret3
                        exact ⟨_, by rw [HR.out] <;> rfl, by rw [HR.out]; exact ownF_nil _ _, HB.out⟩
                    | true =>
                      have hcd := dig_val hD
                      have hd10 := dv_lt hD
                      have f2 : decide (((E7.getD k 0).toNat : Int) < 48) = false := by rw [decide_eq_false_iff_not]; omega
                      have f3 : decide ((57 : Int) < ((E7.getD k 0).toNat : Int)) = false := by rw [decide_eq_false_iff_not]; omega
                      have HA2 : Hid (∀ j, 3 ≤ j → j < k + 1 → isD (E7.getD j 0) = true) := Lib.hid fun j j1 j2 => by
                        rcases Nat.lt_or_ge j k with h | h
                        · exact HA.out j j1 h
                        · obtain rfl : j = k := by omega
                          exact hD
                      clear hcd hd10 hD
                      generalize (E7.getD k 0).toNat = C at *
                      go_wp2
                      go_roundg (6 - (k + 1))
                      case measure => omega
                      case rel => exact ⟨k + 1, by omega, by omega, by go_num, HA2, rfl⟩
                  · have hs1 : sumForm E7 = true := by
                      rw [HSF.out, HA.out 3 (by omega) (by omega), HA.out 4 (by omega) (by omega), HA.out 5 (by omega) (by omega)]
                      rfl
                    have hDE := HDE.out
                    rw [if_neg (by rw [hs1]; decide)] at hDE
                    have HDE2 := Lib.hid hDE
                    clear hs1 hDE HSF HDE HA HI7 hz7
                    have hsl3 := HSL3.out
                    have hsl4 := HSL4.out
                    have hqq := sumT_ne (frm body) (b.take (A + 1 + n + 7))
                    have hqq2 : ((bs (frm body)).toList != (bs (b.take (A + 1 + n + 7))).toList) = !decide (frm body = b.take (A + 1 + n + 7)) := by rw [bne, hqq]
                    by_cases hw7 : frm body = b.take (A + 1 + n + 7)
                    · rw [decide_eq_true hw7] at hqq hqq2
                      have hDE := HDE2.out
                      rw [if_neg (fun h => h (HWA.out.1 hw7))] at hDE
                      have HDE3 := Lib.hid hDE
                      clear hDE HDE2 HWA hw7 HSL3 HSL4
                      generalize bs (b.take (A + 1 + n + 7)) = X7 at *
                      generalize bs (frm body) = Y7 at *
                      generalize bs body = BB at *
                      have eW1 : IntKind.i64.wrap ((A : Int) + 1 + (n : Int)) = (A : Int) + 1 + (n : Int) := IntWalk.i64_in _ (by omega)
                      have eW2 : IntKind.i64.wrap ((A : Int) + 1 + (n : Int) + 7) = (A : Int) + 1 + (n : Int) + 7 := IntWalk.i64_in _ (by omega)
                      go_wp2
                      go_region_held3 (fun wx => Below wr.heap.size wr wx) (first | assumption | exact Below.refl _ _ | exact (Below.refl _ _).drew | exact Below.drew (by assumption)) ((go_at_call 25; (with_reducible refine (HWH.out _ (by first | assumption | exact Below.refl _ _ | exact (Below.refl _ _).drew | exact Below.drew (by assumption))).mono ?_); rintro e w' ⟨rfl, hb1'⟩))
                      obtain hbq : Below wr.heap.size wr _ := by assumption
                      have HB7 := Lib.hid hbq
                      clear hbq
                      go_wp2_with fail
                      refine (HSPL.out _).mono ?_
                      rintro e w8 ⟨v8, ok, rfl, hb8, hyes, hno⟩
                      have HB8 := Lib.hid (HB7.out.trans (hb8.mono HB7.out.size))
                      have HY := Lib.hid hyes; have HNO := Lib.hid hno
                      clear hb8 hyes hno HSPL
                      cases ok with
                      | false =>
                        have hR : decS b = ([], skipS b, 11) := decS_fail (by rw [HDE3.out, fields_no (HNO.out rfl)]; rfl) (.inl rfl)
                        have HR := Lib.hid hR
                        clear hR
                        go_wp2_with (go_at_call 31; (with_reducible refine (HSK.out _).mono ?_); rintro e wz ⟨rfl, rfl⟩)
                        go_ret3
                        exact ⟨_, by rw [HR.out] <;> rfl, by rw [HR.out]; exact ownF_nil _ _, HB8.out⟩
                      | true =>
                        obtain ⟨q1, q2⟩ := HY.out rfl
                        have hR : decS b = ((fieldsS body).1, A + 1 + n + 7, 0) := by
                          unfold decS
                          rw [HDE3.out, q1]
                          rfl
                        have HR := Lib.hid hR
                        have HQ2 := Lib.hid (q2.low2 HB7.out.size)
                        have e7 : (A : Int) + 1 + (n : Int) + 7 = ((A + 1 + n + 7 : Nat) : Int) := by omega
                        have E7' := Lib.hid e7
                        clear hR q1 q2 e7
                        go_wp2
                        go_ret3
                        exact ⟨_, by rw [HR.out] <;> first | rfl | rw [E7'.out], by rw [HR.out]; exact HQ2.out, HB8.out⟩
                    · rw [decide_eq_false hw7] at hqq hqq2
                      have hR : decS b = ([], skipS b, 12) := decS_fail (by rw [HDE2.out, if_pos (fun e => hw7 (HWA.out.2 e))]) (.inr rfl)
                      have HR := Lib.hid hR
                      clear hR hw7 HWA HDE2 HSPL HSL3 HSL4
                      generalize bs (b.take (A + 1 + n + 7)) = X7 at *
                      generalize bs (frm body) = Y7 at *
                      generalize bs body = BB at *
                      have eW1 : IntKind.i64.wrap ((A : Int) + 1 + (n : Int)) = (A : Int) + 1 + (n : Int) := IntWalk.i64_in _ (by omega)
                      have eW2 : IntKind.i64.wrap ((A : Int) + 1 + (n : Int) + 7) = (A : Int) + 1 + (n : Int) + 7 := IntWalk.i64_in _ (by omega)
                      go_wp2
                      go_region_held3 (fun wx => Below wr.heap.size wr wx) (first | assumption | exact Below.refl _ _ | exact (Below.refl _ _).drew | exact Below.drew (by assumption)) ((go_at_call 25; (with_reducible refine (HWH.out _ (by first | assumption | exact Below.refl _ _ | exact (Below.refl _ _).drew | exact Below.drew (by assumption))).mono ?_); rintro e w' ⟨rfl, hb1'⟩))
                      obtain hbq : Below wr.heap.size wr _ := by assumption
                      have HB7 := Lib.hid hbq
                      clear hbq
                      go_wp2_with (go_at_call 31; (with_reducible refine (HSK.out _).mono ?_); rintro e wz ⟨rfl, rfl⟩)
                      go_ret3
                      exact ⟨_, by rw [HR.out] <;> rfl, by rw [HR.out]; exact ownF_nil _ _, HB7.out⟩
              · have hR : decS b = ([], skipS b, 11) := decS_fail (by rw [HDE.out, if_pos (by rw [hsf, show (E7.getD 6 0 == 1) = false from beq_eq_false_iff_ne.2 hc6, Bool.and_false])]) (.inl rfl)
                have HR := Lib.hid hR
                have hne : (((E7.getD 6 0).toNat : Int) != 1) = true := by
                  rw [bne_iff_ne]; intro e; exact hc6 (UInt8.toNat_inj.1 (by show _ = 1; omega))
                clear hR hsf hc6 hp3 HDE HWA HSPL HWH HSL3 HSL4
                generalize (E7.getD 6 0).toNat = C6 at *
                generalize bs (E7.take 3) = P3 at *
                have hq3n : (P3.toList != [49, 48, 61]) = false := by rw [bne, hq3]; rfl
                go_wp2_with (go_at_call 31; (with_reducible refine (HSK.out _).mono ?_); rintro e wz ⟨rfl, rfl⟩)
                go_ret3
                exact ⟨_, by rw [HR.out] <;> rfl, by rw [HR.out]; exact ownF_nil _ _, HB.out⟩
            · rw [decide_eq_false hp3] at hsf hq3
              have hR : decS b = ([], skipS b, 11) := decS_fail (by rw [HDE.out, if_pos (by rw [hsf]; rfl)]) (.inl rfl)
              have HR := Lib.hid hR
              clear hR hsf h6 hp3 HDE HWA HSPL HWH HSL3 HSL4
              generalize bs (E7.take 3) = P3 at *
              have hq3n : (P3.toList != [49, 48, 61]) = true := by rw [bne, hq3]; rfl
              go_wp2_with (go_at_call 31; (with_reducible refine (HSK.out _).mono ?_); rintro e wz ⟨rfl, rfl⟩)
              go_ret3
              exact ⟨_, by rw [HR.out] <;> rfl, by rw [HR.out]; exact ownF_nil _ _, HB.out⟩
      · have hne : (((b.getD A 0).toNat : Int) != 1) = true := by
          rw [bne_iff_ne]; intro e; exact h1 (UInt8.toNat_inj.1 (by show _ = 1; omega))
        rw [if_neg (fun h => h1 h.1)] at hstep
        cases hD : isD (b.getD A 0) with
        | false =>
          have hff : decide (((b.getD A 0).toNat : Int) < 48) = true ∨ (decide (((b.getD A 0).toNat : Int) < 48) = false ∧ decide ((57 : Int) < ((b.getD A 0).toNat : Int)) = true) := by
            have hlh : (b.getD A 0).toNat < 48 ∨ 57 < (b.getD A 0).toNat := by unfold isD at hD; simp at hD ⊢; omega
            rw [decide_eq_false_iff_not, decide_eq_true_eq, decide_eq_true_eq]; omega
          have hR : decS b = ([], skipS b, 11) := decS_fail (decE_nofind (by rw [hstep, if_pos (.inl hD)]) (by decide)) (.inl rfl)
          have HR := Lib.hid hR
          clear hR hstep h1 hlt' HN HFD hD hAn
          generalize (b.getD A 0).toNat = C at *
          rcases hff with f2 | ⟨f2, f3⟩
          all_goals
            go_wp2_with (go_at_call 31; (with_reducible refine (HSK.out _).mono ?_); rintro e wz ⟨rfl, rfl⟩)
            go_ret3
            exact ⟨_, by rw [HR.out] <;> rfl, by rw [HR.out]; exact ownF_nil _ _, HB.out⟩
        | true =>
          have hcd := dig_val hD
          have hd10 := dv_lt hD
          have f2 : decide (((b.getD A 0).toNat : Int) < 48) = false := by rw [decide_eq_false_iff_not]; omega
          have f3 : decide ((57 : Int) < ((b.getD A 0).toNat : Int)) = false := by rw [decide_eq_false_iff_not]; omega
          by_cases h48 : b.getD A 0 = 48 ∧ n = 0
          · have hR : decS b = ([], skipS b, 11) := decS_fail (decE_nofind (by rw [hstep, if_pos (.inr ⟨h48.1, by omega⟩)]) (by decide)) (.inl rfl)
            have HR := Lib.hid hR
            obtain ⟨h48, rfl⟩ := h48
            rw [h48] at hxc
            have hxc' : ∀ h', (S[A]'h').toNat = 48 := hxc
            clear hR hstep h1 hlt' HN HFD hD hAn hcd hd10 f2 f3 hne h48 hxc
            go_wp2_with (go_at_call 31; (with_reducible refine (HSK.out _).mono ?_); rintro e wz ⟨rfl, rfl⟩)
            go_ret3
            exact ⟨_, by rw [HR.out] <;> rfl, by rw [HR.out]; exact ownF_nil _ _, HB.out⟩
          · have hor : (((b.getD A 0).toNat : Int) == 48) = false ∨ ((((b.getD A 0).toNat : Int) == 48) = true ∧ ((n : Int) == 0) = false) := by
              rcases Decidable.em (b.getD A 0 = 48) with e | e
              · refine .inr ⟨by rw [e]; rfl, ?_⟩
                rw [beq_eq_false_iff_ne]
                intro e2
                exact h48 ⟨e, by omega⟩
              · refine .inl ?_
                rw [beq_eq_false_iff_ne]; intro e2; exact e (UInt8.toNat_inj.1 (by show _ = 48; omega))
            have hno : ¬ (isD (b.getD A 0) = false ∨ (b.getD A 0 = 48 ∧ A - 12 = 0)) := by
              rintro (e | ⟨e, e2⟩)
              · rw [hD] at e; cases e
              · exact h48 ⟨e, by omega⟩
            rw [if_neg hno] at hstep
            by_cases hbig : 4096 < n * 10 + dv (b.getD A 0)
            · rw [if_pos hbig] at hstep
              have hR : decS b = ([], skipS b, 11) := decS_fail (decE_nofind hstep (by decide)) (.inl rfl)
              have HR := Lib.hid hR
              have d1 : decide ((4096 : Int) < (n : Int) * 10 + (((b.getD A 0).toNat : Int) - 48)) = true := by rw [decide_eq_true_eq]; omega
              have g1 : 48 ≤ (b.getD A 0).toNat := by omega
              have g2 : (b.getD A 0).toNat ≤ 57 := by omega
              clear hR hstep h1 hlt' HN HFD hD hAn hcd hd10 h48 hno hbig
              generalize (b.getD A 0).toNat = C at *
              rcases hor with q1 | ⟨q1, q2⟩
              all_goals
                go_wp2_with (go_at_call 31; (with_reducible refine (HSK.out _).mono ?_); rintro e wz ⟨rfl, rfl⟩)
                go_ret3
                exact ⟨_, by rw [HR.out] <;> rfl, by rw [HR.out]; exact ownF_nil _ _, HB.out⟩
            · rw [if_neg hbig, show A - 12 + 1 = A + 1 - 12 by omega] at hstep
              have HS := Lib.hid hstep
              have d1 : decide ((4096 : Int) < (n : Int) * 10 + (((b.getD A 0).toNat : Int) - 48)) = false := by rw [decide_eq_false_iff_not]; omega
              have ev : ((n : Int) * 10 + (((b.getD A 0).toNat : Int) - 48)) = ((n * 10 + dv (b.getD A 0) : Nat) : Int) := by omega
              have hle : n * 10 + dv (b.getD A 0) ≤ 4096 := by omega
              have hps : 0 < n * 10 + dv (b.getD A 0) := by
                rcases Nat.eq_zero_or_pos n with h0 | h0
                · rcases Nat.eq_zero_or_pos (dv (b.getD A 0)) with h3 | h3
                  · exact absurd ⟨UInt8.toNat_inj.1 (by show _ = 48; omega), h0⟩ h48
                  · omega
                · omega
              have EV := Lib.hid ev; have HLE := Lib.hid hle; have HPS := Lib.hid hps
              have g1 : 48 ≤ (b.getD A 0).toNat := by omega
              have g2 : (b.getD A 0).toNat ≤ 57 := by omega
              clear hstep h1 hlt' HN HFD hD hAn hcd hd10 h48 hno hbig ev hle hps
              generalize (b.getD A 0).toNat = C at *
              rcases hor with q1 | ⟨q1, q2⟩
              all_goals
                go_wp2
                go_roundg (len - (A + 1))
                case measure => omega
                case rel => exact ⟨A + 1, n * 10 + dv (b.getD A 0), by omega, by omega, by rw [EV.out], by go_num, .inr ⟨by omega, HPS.out⟩, HLE.out, HS, rfl⟩
    · obtain rfl : A = len := by omega
      have hR : decS b = ([], 0, 10) := decS_wait (decE_nofind (by rw [HN.out, List.drop_eq_nil_of_le (by rw [HL.out]; omega)]; rfl) (by decide))
      have HR := Lib.hid hR
      clear hR hAn HN HFD
      go_wp2
      go_ret3
      exact ⟨_, by rw [HR.out] <;> rfl, by rw [HR.out]; exact ownF_nil _ _, HB.out⟩
end Go.Proofs.YtjgkjmegpinelaaDoor.Tg

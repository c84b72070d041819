/-
  Layer 7: the reference's Body, Valid, whole, Encode.
-/
import Derived.Test.YtjgkjmegpinelaaDoorTj
namespace Go.Proofs.YtjgkjmegpinelaaDoor.Tg
open Go.RowKit Go.Sort Dx Sx
set_option linter.unusedVariables false
set_option linter.unusedSimpArgs false

theorem enc_text_r (o : List UInt8) (t : Int) (v : List UInt8) : bs o ++ bs (itoaT t) ++ { data := #[61] } ++ bs v ++ { data := #[1] } = bs (o ++ encF (t, v)) := by
  have e1 : ({ data := #[61] } : ByteArray) = bs [61] := rfl
  have e2 : ({ data := #[1] } : ByteArray) = bs [1] := rfl
  rw [e1, e2, bs_app, bs_app, bs_app, bs_app]
  unfold encF
  simp
/-- A round: the field's box. -/
structure RndR (w : World) (N : Nat) (t : Int) (v : List UInt8) (wx : World) : Prop where
  box : wx.heap[N]? = some (.cells #[.int .i64 t, .string (bs v)] 50 (0, 0))
  frame : Below w.heap.size w wx
  pow : Pow wx
theorem RndR.below {w : World} {N : Nat} {t : Int} {v : List UInt8} {wx w' : World} (h : RndR w N t v wx) (hb : Below wx.heap.size wx w') : RndR w N t v w' := by
  refine ⟨?_, h.frame.trans (hb.mono h.frame.size), pow_keep h.pow hb⟩
  rw [hb.block N (by rcases Nat.lt_or_ge N wx.heap.size with h' | h'; exact h'; have := h.box; rw [Array.getElem?_eq_none h'] at this; cases this)]
  exact h.box
theorem RndR.drew {w : World} {N : Nat} {t : Int} {v : List UInt8} {wx : World} (h : RndR w N t v wx) : RndR w N t v wx.drew := h.below (Below.drew (Below.refl _ _))
theorem RndR.cells {w : World} {N : Nat} {t : Int} {v : List UInt8} {wx : World} (h : RndR w N t v wx) : wx.cell? ⟨N, 0, none⟩ = some (.int .i64 t) ∧ wx.cell? ⟨N, 1, none⟩ = some (.string (bs v)) :=
  ⟨by rw [Lib.cell_of_heap h.box]; rfl, by rw [Lib.cell_of_heap h.box]; rfl⟩
set_option maxRecDepth 100000 in
set_option maxHeartbeats 4000000 in
theorem rbody_any (a : Option Addr) (len cap : Nat) (F : List Fld) (w : World) (hF : HasF w a F) (hl : F.length = len) (hok : OkF F) (hbl : (bodyL F).length ≤ 1000000000) (ht : Pow w) :
    Calls Tryd.prog 26 #[.slice a len cap] w fun e w' => e = .returned (.string (bs (bodyL F))) ∧ Below w.heap.size w w' := by
  have hm := hF.1
  rw [hl] at hm
  have HF := Lib.hid hF; have HL := Lib.hid hl; have HOK := Lib.hid hok; have HT := Lib.hid ht; have HBL := Lib.hid hbl
  clear hF hl hok ht hbl
  go_enter Tryd.func26, Tryd.ntmps26
  go_wp2
  go_loopg [3, 8] len (fun m o i wr => ∃ (k : Nat), k + m = len ∧ o = .string (bs (bodyL (F.take k))) ∧ i = .int .i64 (k : Int) ∧ Hid (Below w.heap.size w wr))
  case atStart => exact ⟨0, by omega, rfl, rfl, Lib.hid (Below.refl _ _)⟩
  case round =>
    obtain ⟨k, hk, rfl, rfl, HB⟩ := hrel
    by_cases hlt : k < len
    · obtain ⟨b', off', e1, c0, c1⟩ := (HF.out.keep HB.out).at (show k < F.length by rw [HL.out]; exact hlt)
      subst e1
      have ok := HOK.out.at (show k < F.length by rw [HL.out]; exact hlt)
      have hnx := body_take (show k < F.length by rw [HL.out]; exact hlt)
      have hle := body_take_le F (k + 1)
      have hbl := HBL.out
      rw [hnx, List.length_append] at hle
      generalize F.getD k fld0 = f at *
      obtain ⟨t, v⟩ := f
      simp only at c0 c1 ok
      obtain ⟨t0, t1, v1⟩ := ok
      have HNX := Lib.hid hnx; clear hnx
      have hvl : (bs v).size = v.length := rfl
      have htl := itoaT_len t0 t1
      have hsl : (bs (itoaT t)).size = (itoaT t).length := rfl
      have hol : (bs (bodyL (F.take k))).size = (bodyL (F.take k)).length := rfl
      have htx := enc_text_r (bodyL (F.take k)) t v
      rw [← HNX.out] at htx
      obtain ⟨N, hN⟩ : ∃ N, N = wr.heap.size := ⟨_, rfl⟩
      obtain ⟨wa, hwa⟩ : ∃ wa, wa = wr.alloc (.cells #[.int .i64 t, .string (bs v)] 50) := ⟨_, rfl⟩
      have hx0 : RndR w N t v wa := by
        have hal : Below wr.heap.size wr wa := by rw [hwa]; exact (Below.refl _ _).alloc (Nat.le_refl _) _
        refine ⟨?_, HB.out.trans (hal.mono HB.out.size), pow_keep HT.out (HB.out.trans (hal.mono HB.out.size))⟩
        rw [hwa, hN]
        show (wr.heap.push _)[wr.heap.size]? = _
        simp
      have A1 : Hid (∀ wx, RndR w N t v wx → Calls Tryd.prog 23 #[.int .i64 t] wx fun e w' => e = .returned (.string (bs (itoaT t))) ∧ RndR w N t v w') := Lib.hid fun wx h => by
        refine (itoa_any t wx t0 t1 h.pow).mono ?_
        rintro e w' ⟨rfl, hb⟩
        exact ⟨rfl, h.below hb⟩
      have HX0 := Lib.hid hx0; have HWA := Lib.hid hwa; have HNN := Lib.hid hN
      have hk0 : (0 : Int) ≤ (k : Int) := by omega
      have hk1 : (k : Int) < (len : Int) := by omega
      clear hx0 hwa hN HNX
      go_wp2_with fail
      have s0 : ∀ w, (Op.stringOp .add (bs (bodyL (F.take k))) (bs (itoaT t))).run Tryd.prog w = .ok (.string (bs (bodyL (F.take k)) ++ bs (itoaT t))) w := fun w => run_string_add_sum w _ _ (by rw [hsl, hol]; omega)
      have s1 : ∀ w, (Op.stringOp .add (bs (bodyL (F.take k)) ++ bs (itoaT t)) { data := #[61] }).run Tryd.prog w = .ok (.string (bs (bodyL (F.take k)) ++ bs (itoaT t) ++ { data := #[61] })) w := fun w => run_string_add_sum w _ _ (by rw [ByteArray.size_append', hsl, hol, show ({ data := #[61] } : ByteArray).size = 1 from rfl]; omega)
      have s2 : ∀ w, (Op.stringOp .add (bs (bodyL (F.take k)) ++ bs (itoaT t) ++ { data := #[61] }) (bs v)).run Tryd.prog w = .ok (.string (bs (bodyL (F.take k)) ++ bs (itoaT t) ++ { data := #[61] } ++ bs v)) w := fun w => run_string_add_sum w _ _ (by rw [ByteArray.size_append', ByteArray.size_append', hsl, hvl, hol, show ({ data := #[61] } : ByteArray).size = 1 from rfl]; omega)
      have s3 : ∀ w, (Op.stringOp .add (bs (bodyL (F.take k)) ++ bs (itoaT t) ++ { data := #[61] } ++ bs v) { data := #[1] }).run Tryd.prog w = .ok (.string (bs (bodyL (F.take (k + 1))))) w := fun w => by
        rw [← htx]
        exact run_string_add_sum w _ _ (by rw [ByteArray.size_append', ByteArray.size_append', ByteArray.size_append', hsl, hvl, hol, show ({ data := #[61] } : ByteArray).size = 1 from rfl, show ({ data := #[1] } : ByteArray).size = 1 from rfl]; omega)
      clear hvl hsl htl hol htx hle hbl
      rw [← HWA.out]
      rw [← HNN.out]
      go_region_held3 (fun wx => wx.cell? ⟨N, 0, none⟩ = some (.int .i64 t) ∧ wx.cell? ⟨N, 1, none⟩ = some (.string (bs v)))
        (first | exact hx1.cells | exact HX0.out.drew.cells | exact HX0.out.cells)
        ((go_at_call 23; (with_reducible refine (A1.out _ HX0.out.drew).mono ?_); rintro e w5 ⟨rfl, hx1⟩))
      go_split_ands
      have HX1 := Lib.hid hx1
      clear hx1 s0 s1 s2 s3
      go_wp2
      go_roundg (len - (k + 1))
      case measure => omega
      case rel => exact ⟨k + 1, by omega, rfl, by go_num, Lib.hid HX1.out.frame⟩
    · have hkl : k = len := by omega
      have h1 : F.take k = F := List.take_of_length_le (by rw [HL.out]; omega)
      rw [h1]
      clear h1
      go_wp2
      go_ret
      exact ⟨rfl, HB.out⟩
theorem valid_of {F : List Fld} {b : Bool} (h : formB F = b) : validE F = if b = false then 11 else if 4096 < (bodyL F).length then 3 else 0 := by subst h; rfl
set_option maxRecDepth 100000 in
set_option maxHeartbeats 1000000 in
theorem rvalid_other (a : Option Addr) (len cap : Nat) (F : List Fld) (w : World) (hF : HasF w a F) (hl : F.length = len) (h35 : len = 0 ∨ (F.getD 0 fld0).1 ≠ 35) :
    Calls Tryd.prog 15 #[.slice a len cap] w fun e w' => e = .returned (.int .i64 (validE F)) ∧ Below w.heap.size w w' := by
  have hform : formB F = false := by
    cases e : formB F with
    | false => rfl
    | true =>
      obtain ⟨⟨v, r, rfl⟩, _⟩ := formB_iff.1 e
      rcases h35 with h | h
      · simp at hl; omega
      · exact absurd rfl h
  rw [valid_of hform, if_pos rfl]
  clear hform
  rcases Nat.eq_zero_or_pos len with h0 | h0
  · subst h0
    clear hF hl h35
    go_enter Tryd.func15, Tryd.ntmps15
    go_wp2
    go_ret
    exact ⟨rfl, Below.refl _ _⟩
  · have h35 : (F.getD 0 fld0).1 ≠ 35 := by
      rcases h35 with h | h
      · omega
      · exact h
    have hm := hF.1
    obtain ⟨b, off, rfl, c0, c1⟩ := hF.at (show 0 < F.length by omega)
    rw [hl] at hm
    generalize F.getD 0 fld0 = f at *
    obtain ⟨t, v⟩ := f
    simp only [Nat.zero_mul, Nat.add_zero] at c0 c1 h35
    have t35 : (t != 35) = true := by simpa using h35
    clear h35 hF hl c1
    go_enter Tryd.func15, Tryd.ntmps15
    go_wp2
    go_ret
    exact ⟨rfl, Below.refl _ _⟩
set_option maxRecDepth 100000 in
set_option maxHeartbeats 2000000 in
theorem rvalid_fit (a : Option Addr) (len cap : Nat) (F : List Fld) (w : World) (hF : HasF w a F) (hl : F.length = len) (hok : OkF F) (hbl : (F.all fitB = true → (bodyL F).length ≤ 1000000000)) (ht : Pow w) (h0 : 0 < len) (h35 : (F.getD 0 fld0).1 = 35) :
    Calls Tryd.prog 15 #[.slice a len cap] w fun e w' => e = .returned (.int .i64 (validE F)) ∧ Below w.heap.size w w' := by
  have hform : formB F = F.all fitB := by
    unfold formB
    cases F with
    | nil => simp at hl; omega
    | cons f r => have e : f.1 = 35 := h35; simp [e]
  have hm := hF.1
  rw [hl] at hm
  have hz0 : ((len : Int) == 0) = false := by rw [beq_eq_false_iff_ne]; omega
  obtain ⟨b, off, rfl, c0, c1⟩ := hF.at (show 0 < F.length by omega)
  rw [h35] at c0
  simp only [Nat.zero_mul, Nat.add_zero] at c0
  have HF := Lib.hid hF; have HL := Lib.hid hl; have HOK := Lib.hid hok; have HT := Lib.hid ht; have HBL := Lib.hid hbl; have HFO := Lib.hid hform
  clear hF hl hok ht hbl hform h35 c1
  go_enter Tryd.func15, Tryd.ntmps15
  go_wp2
  clear c0
  go_loopg [17] len (fun m i wr => ∃ (k : Nat), k + m = len ∧ i = .int .i64 (k : Int) ∧ Hid ((F.take k).all fitB = true) ∧ Hid (Below w.heap.size w wr))
  case atStart => exact ⟨0, by omega, rfl, Lib.hid rfl, Lib.hid (Below.refl _ _)⟩
  case round =>
    obtain ⟨k, hk, rfl, HA, HB⟩ := hrel
    by_cases hlt : k < len
    · obtain ⟨b', off', e1, c0, c1⟩ := (HF.out.keep HB.out).at (show k < F.length by rw [HL.out]; exact hlt)
      cases e1
      have ok := HOK.out.at (show k < F.length by rw [HL.out]; exact hlt)
      have hfit := fun wx => right_any (F.getD k fld0).1 (F.getD k fld0).2 wx (by omega)
      have hn := all_take_next (show k < F.length by rw [HL.out]; exact hlt) HA.out
      have hfl := fun h => all_false (show k < F.length by rw [HL.out]; exact hlt) h
      have HN := Lib.hid hn; have HFL := Lib.hid hfl
      clear hn hfl
      unfold FitIt at hfit
      rw [show ((F.getD k fld0).1, (F.getD k fld0).2) = F.getD k fld0 from rfl] at hfit
      generalize F.getD k fld0 = f at *
      obtain ⟨t, v⟩ := f
      simp only at c0 c1 hfit
      cases hfb : fitB (t, v) with
      | true =>
        rw [hfb] at hfit HN
        have HFB := Lib.hid hfb; clear hfb HFL ok
        go_wp2_with (go_at_call 27; (with_reducible refine (hfit _).mono ?_); rintro e w1 ⟨rfl, hb1⟩)
        go_roundg (len - (k + 1))
        case measure => omega
        case rel => exact ⟨k + 1, by omega, by go_num, HN, Lib.hid ((HB.out.alloc HB.out.size _).trans (hb1.mono (by have := HB.out.size; simp; omega)))⟩
      | false =>
        rw [hfb] at hfit
        have HE : Hid (validE F = 11) := Lib.hid (by rw [valid_of (HFO.out.trans (HFL.out hfb)), if_pos rfl])
        clear hfb HFL HN ok
        go_wp2_with (go_at_call 27; (with_reducible refine (hfit _).mono ?_); rintro e w1 ⟨rfl, hb1⟩)
        go_ret
        exact ⟨by rw [HE.out] <;> rfl, (HB.out.alloc HB.out.size _).trans (hb1.mono (by have := HB.out.size; simp; omega))⟩
    · have hkl : k = len := by omega
      have h1 : F.all fitB = true := by
        have := HA.out
        rwa [List.take_of_length_le (by rw [HL.out]; omega)] at this
      have hbl := HBL.out h1
      have hbody := rbody_any (some ⟨b, off, none⟩) len cap F wr (HF.out.keep HB.out) HL.out HOK.out hbl (pow_keep HT.out HB.out)
      have hsz : (bs (bodyL F)).size = (bodyL F).length := rfl
      have HV := Lib.hid (valid_of (HFO.out.trans h1))
      clear h1
      by_cases hgt : 4096 < (bodyL F).length
      · have HE : Hid (validE F = 3) := Lib.hid (by rw [HV.out, if_neg (by decide), if_pos hgt])
        have d1 : decide ((4096 : Int) < ((bodyL F).length : Int)) = true := by rw [decide_eq_true_eq]; omega
        clear HV hgt
        generalize hq : (bodyL F).length = n at hsz d1 hbl
        generalize bs (bodyL F) = T at hsz hbody
        clear hq
        go_wp2_with (go_at_call 26; (with_reducible refine hbody.mono ?_); rintro e w1 ⟨rfl, hb1⟩)
        go_ret
        exact ⟨by rw [HE.out] <;> rfl, HB.out.trans (hb1.mono HB.out.size)⟩
      · have HE : Hid (validE F = 0) := Lib.hid (by rw [HV.out, if_neg (by decide), if_neg hgt])
        have d1 : decide ((4096 : Int) < ((bodyL F).length : Int)) = false := by rw [decide_eq_false_iff_not]; omega
        clear HV hgt
        generalize hq : (bodyL F).length = n at hsz d1 hbl
        generalize bs (bodyL F) = T at hsz hbody
        clear hq
        go_wp2_with (go_at_call 26; (with_reducible refine hbody.mono ?_); rintro e w1 ⟨rfl, hb1⟩)
        go_ret
        exact ⟨by rw [HE.out] <;> rfl, HB.out.trans (hb1.mono HB.out.size)⟩
theorem rvalid_any (a : Option Addr) (len cap : Nat) (F : List Fld) (w : World) (hF : HasF w a F) (hl : F.length = len) (hok : OkF F) (hbl : (F.all fitB = true → (bodyL F).length ≤ 1000000000)) (ht : Pow w) :
    Calls Tryd.prog 15 #[.slice a len cap] w fun e w' => e = .returned (.int .i64 (validE F)) ∧ Below w.heap.size w w' := by
  by_cases h : len = 0 ∨ (F.getD 0 fld0).1 ≠ 35
  · exact rvalid_other a len cap F w hF hl h
  · exact rvalid_fit a len cap F w hF hl hok hbl ht (by omega) (by
      rcases Decidable.em ((F.getD 0 fld0).1 = 35) with e | e
      · exact e
      · exact absurd (.inr e) h)
/-! ### A frame of a body -/
theorem low_zero (k n : Nat) (h : n < 10 ^ k) : 48 :: low k n = low (k + 1) n := by
  rw [low_cons, Nat.div_eq_of_lt h]; rfl
set_option maxRecDepth 100000 in
set_option maxHeartbeats 2000000 in
theorem whole_any (body : List UInt8) (w : World) (hbl : body.length ≤ 1000000000) (ht : Pow w) :
    Calls Tryd.prog 25 #[.string (bs body)] w fun e w' => e = .returned (.string (bs (frm body))) ∧ Below w.heap.size w w' := by
  have sB : (bs body).size = body.length := rfl
  have sD : (bs (dec body.length)).size ≤ 20 := by rw [bs_size, dec_length]; exact nd_lt20 (by omega)
  have epre := pre_text body
  have hpl : (pre body).length ≤ 1000000040 := by rw [pre_length]; have := nd_le 20 body.length (by omega) (by omega); omega
  have hi : ∀ (n : Nat) wx, n ≤ 1000000000 → Below w.heap.size w wx → Calls Tryd.prog 23 #[.int .i64 (n : Int)] wx fun e w' => e = .returned (.string (bs (dec n))) ∧ Below wx.heap.size wx w' := fun n wx hn h => by
    have := itoa_any (n : Int) wx (by omega) (by omega) (pow_keep ht h)
    rwa [itoaT_pos (by omega), Int.toNat_natCast] at this
  have HI := Lib.hid hi; have HP := Lib.hid epre
  clear hi ht epre
  go_enter Tryd.func25, Tryd.ntmps25
  go_wp2_with fail
  refine (HI.out body.length w hbl (Below.refl _ _)).mono ?_
  rintro e w1 ⟨rfl, hb1⟩
  obtain ⟨v3, w3, hc3, ho3, hb3, hz3⟩ := conv_own w1 (pre body) (by omega) hb1.size
  obtain ⟨a3, cap3, rfl, hr3, hn3, _, _⟩ := ho3.row
  have hsf := rsmall_any a3 _ cap3 (toI (pre body)) w3 (bytes_toI _) hr3
  rw [small_toI] at hsf
  have HB3 := Lib.hid (hb1.trans (hb3.mono hb1.size))
  have hlt := smallN_lt (pre body)
  have hn1 := nd_le 3 (smallN (pre body)) (by omega) (by omega)
  have hfrm : bs (pre body) ++ { data := #[49, 48, 61] } ++ bs (low 3 (smallN (pre body))) ++ { data := #[1] } = bs (frm body) := by
    have e1 : ({ data := #[49, 48, 61] } : ByteArray) = bs [49, 48, 61] := rfl
    have e2 : ({ data := #[1] } : ByteArray) = bs [1] := rfl
    rw [e1, e2, bs_app, bs_app, bs_app]
    unfold frm sumT
    simp
  rw [← HP.out] at hfrm hc3
  have HFR := Lib.hid hfrm
  have HI2 := Lib.hid (HI.out (smallN (pre body)) w3 (by omega) HB3.out)
  have HN1 := Lib.hid hn1; have HLT := Lib.hid hlt
  clear hfrm hr3 hn3 hb3 hz3 ho3 hb1 hlt hn1 hpl HP HI
  generalize hS : smallN (pre body) = S at *
  have hdl : dec S = low (nd S) S := dec_low S
  have sL : ∀ k, (bs (low k S)).size = k := fun k => by rw [bs_size, low_length]
  rw [hdl] at HI2
  clear hS hdl
  go_wp2_with fail
  refine hsf.mono ?_
  rintro e w4 ⟨rfl, rfl⟩
  clear hsf hc3
  go_wp2_with fail
  refine HI2.out.mono ?_
  rintro e w5 ⟨rfl, hb5⟩
  have HB5 := Lib.hid (HB3.out.trans (hb5.mono HB3.out.size)); clear hb5 HI2 HB3
  go_wp2
  go_loopg [4] 3 (fun m x wr => ∃ (k : Nat), k + m = nd S + 3 ∧ nd S ≤ k ∧ k ≤ 3 ∧ x = .string (bs (low k S)) ∧ wr = w5)
  case atStart => exact ⟨nd S, rfl, Nat.le_refl _, HN1.out, rfl, rfl⟩
  case round =>
    obtain ⟨k, hk, hk2, hk3, rfl, rfl⟩ := hrel
    have hLk := sL k
    have hz := low_zero k S (Nat.lt_of_lt_of_le (lt_nd S) (Nat.pow_le_pow_right (by decide) hk2))
    have hcat : ({ data := #[48] } : ByteArray) ++ bs (low k S) = bs (low (k + 1) S) := by rw [← hz]; exact bs_app [48] _
    have HC := Lib.hid hcat
    clear hz hcat sL
    by_cases hlt : k < 3
    · generalize bs (low k S) = L at *
      go_wp2
      go_roundg (nd S + 3 - (k + 1))
      case measure => omega
      case rel => exact ⟨k + 1, by omega, by omega, by omega, by rw [HC.out], rfl⟩
    · obtain rfl : k = 3 := by omega
      have HF2 := Lib.hid HFR.out
      generalize bs (low 3 S) = L at *
      go_wp2
      go_ret
      exact ⟨by rw [HF2.out] <;> rfl, HB5.out⟩
set_option maxRecDepth 100000 in
set_option maxHeartbeats 1000000 in
theorem rencode_any (a : Option Addr) (len cap : Nat) (F : List Fld) (w : World) (hF : HasF w a F) (hl : F.length = len) (hok : OkF F) (hbl : (F.all fitB = true → (bodyL F).length ≤ 1000000000)) (ht : Pow w) :
    Calls Tryd.prog 13 #[.slice a len cap] w (EncIt F w) := by
  have hv := rvalid_any a len cap F w hF hl hok hbl ht
  by_cases h0 : validE F = 0
  · obtain ⟨h1, h2⟩ := enc_ok h0
    unfold EncIt
    rw [h2]
    rw [h0] at hv
    simp only at hv ⊢
    obtain ⟨hform, hbl2⟩ := validE_zero.1 h0
    have hpl : (frm (bodyL F)).length ≤ 5000 := by rw [frm_length]; have := nd_le 4 (bodyL F).length (by omega) (by omega); omega
    have hbody : ∀ wx, Below w.heap.size w wx → Calls Tryd.prog 26 #[.slice a len cap] wx fun e w' => e = .returned (.string (bs (bodyL F))) ∧ Below wx.heap.size wx w' := fun wx h => rbody_any a len cap F wx (hF.keep h) hl hok (by omega) (pow_keep ht h)
    have hwh : ∀ wx, Below w.heap.size w wx → Calls Tryd.prog 25 #[.string (bs (bodyL F))] wx fun e w' => e = .returned (.string (bs (frm (bodyL F)))) ∧ Below wx.heap.size wx w' := fun wx h => whole_any (bodyL F) wx (by omega) (pow_keep ht h)
    have H1 := Lib.hid hbody; have H2 := Lib.hid hwh
    clear hbody hwh h1 h2 h0 hform hbl2 hF hok hl ht hbl
    generalize bodyL F = body at *
    go_enter Tryd.func13, Tryd.ntmps13
    go_wp2_with fail
    refine hv.mono ?_
    rintro e w1 ⟨rfl, hb1⟩
    have HB1 := Lib.hid hb1; clear hb1 hv
    go_wp2_with fail
    refine (H1.out w1 HB1.out).mono ?_
    rintro e w2 ⟨rfl, hb2⟩
    have HB2 := Lib.hid (HB1.out.trans (hb2.mono HB1.out.size)); clear hb2
    go_wp2_with fail
    refine (H2.out w2 HB2.out).mono ?_
    rintro e w3 ⟨rfl, hb3⟩
    have HB3 := Lib.hid (HB2.out.trans (hb3.mono HB2.out.size)); clear hb3
    obtain ⟨v4, w4, hc4, ho4, hb4, hz4⟩ := conv_own w3 (frm body) (by omega) HB3.out.size
    clear hz4
    have HO4 := Lib.hid ho4; have HB4 := Lib.hid (HB3.out.trans (hb4.mono HB3.out.size))
    clear ho4 hb4
    go_wp2
    go_ret2
    exact ⟨_, rfl, HO4.out, HB4.out⟩
  · obtain ⟨h1, h2⟩ := enc_err h0
    unfold EncIt
    rw [h2]
    simp only
    have hne : (validE F == 0) = false := by simpa using h0
    have hne2 : (validE F != 0) = true := by simpa using h0
    generalize validE F = E at *
    clear h1 h2 hF hok ht hl h0 hbl
    go_enter Tryd.func13, Tryd.ntmps13
    go_wp2_with (go_at_call 15; (with_reducible refine hv.mono ?_); rintro e w1 ⟨rfl, hb1⟩)
    go_ret2
    exact ⟨_, rfl, .inl ⟨rfl, rfl⟩, hb1⟩
end Go.Proofs.YtjgkjmegpinelaaDoor.Tg

/-
  Layer 7: the program's bodyOf, Valid.
-/
import Derived.Test.YtjgkjmegpinelaaDoorTe
namespace Go.Proofs.YtjgkjmegpinelaaDoor.Tg
open Go.RowKit Go.Sort Dx Sx
set_option linter.unusedVariables false
set_option linter.unusedSimpArgs false

/-- Values that are not too long. -/
def OkF (F : List Fld) : Prop := ∀ f ∈ F, -9223372036854775808 ≤ f.1 ∧ f.1 ≤ 9223372036854775807 ∧ f.2.length ≤ 1048576
theorem OkF.at {F : List Fld} (h : OkF F) {j : Nat} (hj : j < F.length) : -9223372036854775808 ≤ (F.getD j fld0).1 ∧ (F.getD j fld0).1 ≤ 9223372036854775807 ∧ (F.getD j fld0).2.length ≤ 1048576 := by
  have := h (F[j]) (List.getElem_mem hj)
  simpa [List.getD, hj] using this
def bodyR (F : List Fld) : List UInt8 × Int := if validE F = 0 then (bodyL F, 0) else ([], validE F)
def BodyIt (F : List Fld) (w : World) (e : Ending) (w' : World) : Prop := e = .returned (.tuple #[.string (bs (bodyR F).1), .int .i64 (bodyR F).2]) ∧ Below w.heap.size w w'
theorem body_form {F : List Fld} (h : formB F = false) : bodyR F = ([], 11) := by
  have e : validE F = 11 := by unfold validE; rw [if_pos h]
  unfold bodyR; rw [e]; rfl
theorem body_take {F : List Fld} {k : Nat} (h : k < F.length) : bodyL (F.take (k + 1)) = bodyL (F.take k) ++ encF (F.getD k fld0) := by
  rw [List.take_succ_eq_append_getElem h, bodyL_app]
  simp [bodyL, List.getD, h]
theorem body_take_le (F : List Fld) (k : Nat) : (bodyL (F.take k)).length ≤ (bodyL F).length := by
  conv => rhs; rw [← List.take_append_drop k F, bodyL_app]
  rw [List.length_append]; omega
theorem enc_text (t : Int) (v : List UInt8) : bs (itoaT t) ++ { data := #[61] } ++ bs v ++ { data := #[1] } = bs (encF (t, v)) := by
  have e1 : ({ data := #[61] } : ByteArray) = bs [61] := rfl
  have e2 : ({ data := #[1] } : ByteArray) = bs [1] := rfl
  rw [e1, e2, bs_app, bs_app, bs_app]
  unfold encF
  simp
theorem itoaT_len {t : Int} (h0 : -9223372036854775808 ≤ t) (h1 : t ≤ 9223372036854775807) : (itoaT t).length ≤ 21 := by
  have h : (dec t.natAbs).length ≤ 20 := by rw [dec_length]; exact nd_lt20 (by omega)
  unfold itoaT; split <;> simp <;> omega
/-- A round of bodyOf: the field's box, the builder. -/
structure Rnd (w : World) (g N : Nat) (t : Int) (v l : List UInt8) (wx : World) : Prop where
  box : wx.heap[N]? = some (.cells #[.int .i64 t, .string (bs v)] 50 (0, 0))
  bld : IsB wx w.heap.size g l
  frame : Below w.heap.size w wx
  pow : Pow wx
theorem Rnd.drew {w : World} {g N : Nat} {t : Int} {v l : List UInt8} {wx : World} (h : Rnd w g N t v l wx) : Rnd w g N t v l wx.drew :=
  ⟨h.box, h.bld.keep (Below.drew (Below.refl _ _)), Below.drew h.frame, pow_keep h.pow (Below.drew (Below.refl _ _))⟩
theorem Rnd.cells {w : World} {g N : Nat} {t : Int} {v l : List UInt8} {wx : World} (h : Rnd w g N t v l wx) : wx.cell? ⟨N, 0, none⟩ = some (.int .i64 t) ∧ wx.cell? ⟨N, 1, none⟩ = some (.string (bs v)) :=
  ⟨by rw [Lib.cell_of_heap h.box]; rfl, by rw [Lib.cell_of_heap h.box]; rfl⟩
theorem Rnd.below {w : World} {g N : Nat} {t : Int} {v l : List UInt8} {wx w' : World} (h : Rnd w g N t v l wx) (hb : Below wx.heap.size wx w') : Rnd w g N t v l w' := by
  refine ⟨?_, h.bld.keep hb, h.frame.trans (hb.mono h.frame.size), pow_keep h.pow hb⟩
  rw [hb.block N (by rcases Nat.lt_or_ge N wx.heap.size with h' | h'; exact h'; have := h.box; rw [Array.getElem?_eq_none h'] at this; cases this)]
  exact h.box
set_option maxRecDepth 100000 in
theorem bodyOf_nil (a : Option Addr) (cap : Nat) (w : World) :
    Calls Tryd.prog 22 #[.slice a 0 cap] w (BodyIt [] w) := by
  unfold BodyIt
  rw [body_form (F := []) rfl]
  have e0 : bs [] = ByteArray.empty := rfl
  rw [e0]
  go_enter Tryd.func22, Tryd.ntmps22
  go_wp2
  go_ret2
  exact ⟨rfl, Below.refl _ _⟩
set_option maxRecDepth 100000 in
theorem bodyOf_other (a : Option Addr) (len cap : Nat) (F : List Fld) (w : World) (hF : HasF w a F) (hl : F.length = len) (h0 : 0 < len) (h35 : (F.getD 0 fld0).1 ≠ 35) :
    Calls Tryd.prog 22 #[.slice a len cap] w (BodyIt F w) := by
  have hform : formB F = false := by
    cases e : formB F with
    | false => rfl
    | true => obtain ⟨⟨v, r, rfl⟩, _⟩ := formB_iff.1 e; exact absurd rfl h35
  unfold BodyIt
  rw [body_form hform]
  have e0 : bs [] = ByteArray.empty := rfl
  rw [e0]
  have hm := hF.1
  obtain ⟨b, off, rfl, c0, c1⟩ := hF.at (show 0 < F.length by omega)
  rw [hl] at hm
  generalize F.getD 0 fld0 = f at *
  obtain ⟨t, v⟩ := f
  simp only [Nat.zero_mul, Nat.add_zero] at c0 c1 h35
  have t35 : (t != 35) = true := by simpa using h35
  clear h35 hform hF hl c1
  go_enter Tryd.func22, Tryd.ntmps22
  go_wp2
  go_ret2
  exact ⟨rfl, Below.refl _ _⟩
set_option maxRecDepth 100000 in
set_option maxHeartbeats 1000000 in
theorem bodyOf_unfit (a : Option Addr) (len cap : Nat) (F : List Fld) (w : World) (hF : HasF w a F) (hl : F.length = len) (h0 : 0 < len) (h35 : (F.getD 0 fld0).1 = 35) (hfit : F.all fitB = false) :
    Calls Tryd.prog 22 #[.slice a len cap] w (BodyIt F w) := by
  have hform : formB F = false := by unfold formB; rw [hfit, Bool.and_false]
  unfold BodyIt
  rw [body_form hform]
  have e0 : bs [] = ByteArray.empty := rfl
  rw [e0]
  have hm := hF.1
  have hev := every_any a len cap F w hF hl
  rw [hfit] at hev
  obtain ⟨b, off, rfl, c0, c1⟩ := hF.at (show 0 < F.length by omega)
  rw [hl] at hm
  generalize F.getD 0 fld0 = f at *
  obtain ⟨t, v⟩ := f
  simp only [Nat.zero_mul, Nat.add_zero] at c0 c1 h35
  subst h35
  clear hform hF hl c1 hfit
  go_enter Tryd.func22, Tryd.ntmps22
  go_wp2_with (go_at_call 37; (with_reducible refine (hev).mono ?_); rintro e w1 ⟨rfl, hb1⟩)
  go_ret2
  exact ⟨rfl, hb1⟩
set_option maxRecDepth 100000 in
set_option maxHeartbeats 4000000 in
theorem bodyOf_fit (a : Option Addr) (len cap : Nat) (F : List Fld) (w : World) (hF : HasF w a F) (hl : F.length = len) (h0 : 0 < len) (h35 : (F.getD 0 fld0).1 = 35) (hfit : F.all fitB = true) (hok : OkF F) (ht : Pow w) :
    Calls Tryd.prog 22 #[.slice a len cap] w (BodyIt F w) := by
  have hform : formB F = true := by
    unfold formB; rw [hfit, Bool.and_true]
    cases F with
    | nil => simp at hl; omega
    | cons f r => simpa using h35
  have hgood : (bodyL F).length ≤ 4096 → bodyR F = (bodyL F, 0) := fun h => by unfold bodyR; rw [if_pos (validE_zero.2 ⟨hform, h⟩)]
  have hlong : 4096 < (bodyL F).length → bodyR F = ([], 3) := fun h => by
    have e : validE F = 3 := by unfold validE; rw [if_neg (by rw [hform]; decide), if_pos h]
    unfold bodyR; rw [e]; rfl
  have HG := Lib.hid hgood; have HLO := Lib.hid hlong
  unfold BodyIt
  have hm := hF.1
  have hev := every_any a len cap F w hF hl
  rw [hfit] at hev
  have HF := Lib.hid hF; have HL := Lib.hid hl; have HOK := Lib.hid hok; have HT := Lib.hid ht
  obtain ⟨b, off, rfl, c0, c1⟩ := hF.at (show 0 < F.length by omega)
  rw [hl] at hm
  have HC0 := Lib.hid c0; clear c0 c1
  rw [h35] at HC0
  have c0 := HC0.out
  simp only [Nat.zero_mul, Nat.add_zero] at c0
  clear hgood hlong hform hF hl hfit hok ht h35 HC0
  have hz0 : ((len : Int) == 0) = false := by simp; omega
  go_enter Tryd.func22, Tryd.ntmps22
  go_wp2_with (go_at_call 37; (with_reducible refine (hev).mono ?_); rintro e w1 ⟨rfl, hb1⟩)
  clear hev c0
  obtain ⟨g, hg⟩ : ∃ g, g = w1.heap.size := ⟨_, rfl⟩
  have hB0 : IsB (w1.alloc (.cells #[.pointer none, .slice none 0 0] 68)) w.heap.size g [] := by
    refine .inl ⟨by rw [hg]; exact hb1.size, .slice none 0 0, ?_, World.ownsRow_nil _ _ _ _, by simp [Value.ownBlock]⟩
    rw [hg]
    show (w1.heap.push _)[w1.heap.size]? = _
    simp
  have HB0 := Lib.hid hB0; have HB1 := Lib.hid hb1
  clear hB0 hb1
  have HZ : Hid (g = w1.heap.size) := Lib.hid hg
  clear hg
  rw [← HZ.out]
  go_loopg [24] len (fun m i wr => ∃ (k : Nat), k + m = len ∧ i = .int .i64 (k : Int) ∧ Hid (IsB wr w.heap.size g (bodyL (F.take k))) ∧ Hid ((bodyL (F.take k)).length ≤ 4096) ∧ Hid (Below w.heap.size w wr))
  case atStart => exact ⟨0, by omega, rfl, HB0, Lib.hid (by simp [bodyL]), Lib.hid (HB1.out.alloc HB1.out.size _)⟩
  case round =>
    obtain ⟨k, hk, rfl, HI, HS, HB⟩ := hrel
    by_cases hlt : k < len
    · obtain ⟨b', off', e1, c0, c1⟩ := (HF.out.keep HB.out).at (show k < F.length by rw [HL.out]; exact hlt)
      cases e1
      have ok := HOK.out.at (show k < F.length by rw [HL.out]; exact hlt)
      have hnx := body_take (show k < F.length by rw [HL.out]; exact hlt)
      have hle := body_take_le F (k + 1)
      generalize F.getD k fld0 = f at *
      obtain ⟨t, v⟩ := f
      simp only at c0 c1 ok
      obtain ⟨t0, t1, v1⟩ := ok
      have HNX := Lib.hid hnx; clear hnx
      have hvl : (bs v).size = v.length := rfl
      have htl := itoaT_len t0 t1
      have hsl : (bs (itoaT t)).size = (itoaT t).length := rfl
      obtain ⟨N, hN⟩ : ∃ N, N = wr.heap.size := ⟨_, rfl⟩
      obtain ⟨wa, hwa⟩ : ∃ wa, wa = wr.alloc (.cells #[.int .i64 t, .string (bs v)] 50) := ⟨_, rfl⟩
      have hx0 : Rnd w g N t v (bodyL (F.take k)) wa := by
        have hal : Below wr.heap.size wr wa := by rw [hwa]; exact (Below.refl _ _).alloc (Nat.le_refl _) _
        refine ⟨?_, HI.out.keep hal, HB.out.trans (hal.mono HB.out.size), pow_keep HT.out (HB.out.trans (hal.mono HB.out.size))⟩
        rw [hwa, hN]
        show (wr.heap.push _)[wr.heap.size]? = _
        simp
      have hgN : N ≠ g := by
        intro e
        rw [hN] at e
        have : g < wr.heap.size := by
          rcases HI.out with h | h
          · exact h.lt
          · exact h.lt
        omega
      have A1 : Hid (∀ wx, Rnd w g N t v (bodyL (F.take k)) wx → Calls Tryd.prog 23 #[.int .i64 t] wx fun e w' => e = .returned (.string (bs (itoaT t))) ∧ Rnd w g N t v (bodyL (F.take k)) w') := Lib.hid fun wx h => by
        refine (itoa_any t wx t0 t1 h.pow).mono ?_
        rintro e w' ⟨rfl, hb⟩
        exact ⟨rfl, h.below hb⟩
      have hcap : (bodyL (F.take k)).length + (encF (t, v)).length ≤ 140737488355328 := by
        have := HS.out
        simp [encF]; omega
      have A2 : Hid (∀ wx, Rnd w g N t v (bodyL (F.take k)) wx → Calls Tryd.prog 39 #[.pointer (some ⟨g, 0, none⟩), .string (bs (itoaT t) ++ { data := #[61] } ++ bs v ++ { data := #[1] })] wx fun e w' => e = .returned (.tuple #[.int .i64 (encF (t, v)).length, .nilIface]) ∧ Rnd w g N t v (bodyL (F.take k) ++ encF (t, v)) w') := Lib.hid fun wx h => by
        rw [enc_text]
        refine (writeString_any w.heap.size g _ (encF (t, v)) wx h.bld hcap h.frame.size).mono ?_
        rintro e w' ⟨rfl, h1, h2, h3⟩
        exact ⟨rfl, h3 N _ _ _ hgN (by decide) h.box, h1, h.frame.trans h2, pow_keep HT.out (h.frame.trans h2)⟩
      have HX0 := Lib.hid hx0; have HWA := Lib.hid hwa; have HNN := Lib.hid hN
      have hk0 : (0 : Int) ≤ (k : Int) := by omega
      have hk1 : (k : Int) < (len : Int) := by omega
      clear hx0 hwa hN hgN hcap
      go_wp2_with fail
      have s1 : ∀ w, (Op.stringOp .add (bs (itoaT t)) { data := #[61] }).run Tryd.prog w = .ok (.string (bs (itoaT t) ++ { data := #[61] })) w := fun w => run_string_add_sum w _ _ (by rw [hsl, show ({ data := #[61] } : ByteArray).size = 1 from rfl]; omega)
      have s2 : ∀ w, (Op.stringOp .add (bs (itoaT t) ++ { data := #[61] }) (bs v)).run Tryd.prog w = .ok (.string (bs (itoaT t) ++ { data := #[61] } ++ bs v)) w := fun w => run_string_add_sum w _ _ (by rw [ByteArray.size_append', hsl, hvl, show ({ data := #[61] } : ByteArray).size = 1 from rfl]; omega)
      have s3 : ∀ w, (Op.stringOp .add (bs (itoaT t) ++ { data := #[61] } ++ bs v) { data := #[1] }).run Tryd.prog w = .ok (.string (bs (itoaT t) ++ { data := #[61] } ++ bs v ++ { data := #[1] })) w := fun w => run_string_add_sum w _ _ (by rw [ByteArray.size_append', ByteArray.size_append', hsl, hvl, show ({ data := #[61] } : ByteArray).size = 1 from rfl, show ({ data := #[1] } : ByteArray).size = 1 from rfl]; omega)
      clear hvl hsl htl
      rw [← HWA.out]
      rw [← HNN.out]
      go_region_held3 (fun wx => wx.cell? ⟨N, 0, none⟩ = some (.int .i64 t) ∧ wx.cell? ⟨N, 1, none⟩ = some (.string (bs v)))
        (first | exact hx2.cells | exact hx1.cells | exact HX0.out.drew.cells | exact HX0.out.cells)
        (first
          | (go_at_call 23; (with_reducible refine (A1.out _ HX0.out.drew).mono ?_); rintro e w5 ⟨rfl, hx1⟩)
          | (go_at_call 39; (with_reducible refine (A2.out _ hx1).mono ?_); rintro e w6 ⟨rfl, hx2⟩))
      go_split_ands
      have HX2 := Lib.hid hx2
      clear hx1 hx2 s1 s2 s3
      have HN2 : Hid (bodyL (F.take k) ++ encF (t, v) = bodyL (F.take (k + 1))) := Lib.hid HNX.out.symm
      have hb2 : Below w.heap.size w w6 ∧ IsB w6 w.heap.size g (bodyL (F.take (k + 1))) := ⟨HX2.out.frame, by rw [← HN2.out]; exact HX2.out.bld⟩
      have HB2 := Lib.hid hb2; clear hb2
      by_cases hgt : 4096 < (bodyL (F.take (k + 1))).length
      · have HR := Lib.hid (HLO.out (by omega))
        have d1 : decide ((4096 : Int) < ((bodyL (F.take (k + 1))).length : Int)) = true := by rw [decide_eq_true_eq]; omega
        have hln := blen_any w.heap.size g _ _ HB2.out.2
        clear hle hgt HN2 HNX
        generalize hq : (bodyL (F.take (k + 1))).length = n at hln d1
        clear hq
        go_wp2_with (go_at_call 40; (with_reducible refine (hln).mono ?_); rintro e w7 ⟨rfl, rfl⟩)
        go_ret2
        exact ⟨by rw [HR.out] <;> rfl, HB2.out.1⟩
      · have HS2 : Hid ((bodyL (F.take (k + 1))).length ≤ 4096) := Lib.hid (by omega)
        have d1 : decide ((4096 : Int) < ((bodyL (F.take (k + 1))).length : Int)) = false := by rw [decide_eq_false_iff_not]; omega
        have hln := blen_any w.heap.size g _ _ HB2.out.2
        clear hle hgt HN2 HNX
        generalize hq : (bodyL (F.take (k + 1))).length = n at hln d1
        clear hq
        go_wp2_with (go_at_call 40; (with_reducible refine (hln).mono ?_); rintro e w7 ⟨rfl, rfl⟩)
        go_roundg (len - (k + 1))
        case measure => omega
        case rel => exact ⟨k + 1, by omega, by go_num, Lib.hid HB2.out.2, HS2, Lib.hid HB2.out.1⟩
    · have hkl : k = len := by omega
      have h1 : F.take k = F := List.take_of_length_le (by rw [HL.out]; omega)
      have HR : Hid (bodyR F = (bodyL F, 0)) := Lib.hid (HG.out (by have := HS.out; rwa [h1] at this))
      have HI2 : Hid (IsB wr w.heap.size g (bodyL F)) := Lib.hid (by have := HI.out; rwa [h1] at this)
      clear h1
      have hst := bstring_any w.heap.size g _ _ HI2.out HB.out.size
      go_wp2_with (go_at_call 41; (with_reducible refine (hst).mono ?_); rintro e w7 ⟨rfl, hb7⟩)
      go_ret2
      exact ⟨by rw [HR.out] <;> rfl, HB.out.trans hb7⟩
theorem bodyOf_any (a : Option Addr) (len cap : Nat) (F : List Fld) (w : World) (hF : HasF w a F) (hl : F.length = len) (hok : OkF F) (ht : Pow w) :
    Calls Tryd.prog 22 #[.slice a len cap] w (BodyIt F w) := by
  rcases Nat.eq_zero_or_pos len with h0 | h0
  · subst h0
    obtain rfl := List.eq_nil_of_length_eq_zero hl
    exact bodyOf_nil a cap w
  · by_cases h35 : (F.getD 0 fld0).1 = 35
    · cases hfit : F.all fitB with
      | false => exact bodyOf_unfit a len cap F w hF hl h0 h35 hfit
      | true => exact bodyOf_fit a len cap F w hF hl h0 h35 hfit hok ht
    · exact bodyOf_other a len cap F w hF hl h0 h35
set_option maxRecDepth 100000 in
theorem valid_any (a : Option Addr) (len cap : Nat) (F : List Fld) (w : World) (hF : HasF w a F) (hl : F.length = len) (hok : OkF F) (ht : Pow w) :
    Calls Tryd.prog 14 #[.slice a len cap] w fun e w' => e = .returned (.int .i64 (validE F)) ∧ Below w.heap.size w w' := by
  have hb := bodyOf_any a len cap F w hF hl hok ht
  have he : (bodyR F).2 = validE F := by
    unfold bodyR; split
    · rename_i h; exact h.symm
    · rfl
  unfold BodyIt at hb
  rw [he] at hb
  generalize validE F = E at *
  generalize bs (bodyR F).1 = T at *
  clear he hF hok ht hl
  go_enter Tryd.func14, Tryd.ntmps14
  go_wp2_with (go_at_call 22; (with_reducible refine hb.mono ?_); rintro e w1 ⟨rfl, hb1⟩)
  go_ret
  exact ⟨rfl, hb1⟩
end Go.Proofs.YtjgkjmegpinelaaDoor.Tg

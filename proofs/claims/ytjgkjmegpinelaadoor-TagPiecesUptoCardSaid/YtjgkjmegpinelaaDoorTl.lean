/-
  Layer 7: what the law's wakes and long return; the law on Encode and Valid.
-/
import Derived.Test.YtjgkjmegpinelaaDoorTk
namespace Go.Proofs.YtjgkjmegpinelaaDoor.Tg
open Go.RowKit Go.Sort Dx Sx
set_option linter.unusedVariables false
set_option linter.unusedSimpArgs false

def wF : List Fld := [(35, [68]), (11, [55])]
theorem lit_fields (w : World) (t1 t2 : Int) (v1 v2 : List UInt8) (T : TypeId) (g : Nat) (hg : g = w.heap.size) : HasF (w.alloc (.cells #[.int .i64 t1, .string (bs v1), .int .i64 t2, .string (bs v2)] T)) (some ⟨g, 0, none⟩) [(t1, v1), (t2, v2)] := by
  subst hg
  refine ⟨by simp, fun _ => ⟨w.heap.size, 0, rfl, fun j hj => ?_⟩⟩
  match j, hj with
  | 0, _ => simp [List.getD]
  | 1, _ => simp [List.getD]
theorem wF_ok : OkF wF := by
  intro f hf
  simp only [wF, List.mem_cons, List.not_mem_nil, or_false] at hf
  rcases hf with rfl | rfl <;> exact ⟨by decide, by decide, by decide⟩
theorem wF_enc : encR wF = ([56, 61, 70, 73, 88, 46, 52, 46, 52, 1, 57, 61, 49, 48, 1, 51, 53, 61, 68, 1, 49, 49, 61, 55, 1, 49, 48, 61, 49, 56, 54, 1], 0) := by decide +kernel
set_option maxRecDepth 100000 in
set_option maxHeartbeats 1000000 in
theorem wakes_any (w : World) (ht : Pow w) :
    Calls Tryd.prog 10 #[] w fun e w' => e = .returned (.bool true) ∧ Below w.heap.size w w' := by
  have hF := lit_fields w 35 11 [68] [55] 50 w.heap.size rfl
  have he := encode_any (some ⟨w.heap.size, 0, none⟩) 2 2 wF _ hF rfl wF_ok (pow_keep ht ((Below.refl _ _).alloc (Nat.le_refl _) _))
  unfold EncIt at he
  rw [wF_enc] at he
  have e1 : bs [68] = { data := #[68] } := rfl
  have e2 : bs [55] = { data := #[55] } := rfl
  rw [e1, e2] at he
  clear hF e1 e2 ht
  go_enter Tryd.func10, Tryd.ntmps10
  go_wp2_with fail
  refine he.mono ?_
  rintro e w1 ⟨v, rfl, ho, hb⟩
  obtain ⟨a, cap, rfl, hr, _, _, _⟩ := ho.row
  have hc := conv_at (len := 32) (cap := cap) hr rfl
  have hbs : bs [56, 61, 70, 73, 88, 46, 52, 46, 52, 1, 57, 61, 49, 48, 1, 51, 53, 61, 68, 1, 49, 49, 61, 55, 1, 49, 48, 61, 49, 56, 54, 1] = { data := #[56, 61, 70, 73, 88, 46, 52, 46, 52, 1, 57, 61, 49, 48, 1, 51, 53, 61, 68, 1, 49, 49, 61, 55, 1, 49, 48, 61, 49, 56, 54, 1] } := rfl
  rw [hbs] at hc
  have HB := Lib.hid (((Below.refl w.heap.size w).alloc (Nat.le_refl _) (.cells #[.int .i64 35, .string { data := #[68] }, .int .i64 11, .string { data := #[55] }] 50)).trans (hb.mono (by simp)))
  clear hr ho hb hbs he
  go_wp2
  go_ret
  exact ⟨rfl, HB.out⟩
def sizeF (F : List Fld) : Nat := (F.map fun f => 6 + f.2.length).sum
theorem sizeF_take {F : List Fld} {k : Nat} (h : k < F.length) : sizeF (F.take (k + 1)) = sizeF (F.take k) + (6 + (F.getD k fld0).2.length) := by
  unfold sizeF
  rw [List.take_succ_eq_append_getElem h, List.map_append, List.sum_append]
  simp [List.getD, h]
def LongIt (F : List Fld) (w : World) (e : Ending) (w' : World) : Prop := ∃ b, e = .returned (.bool b) ∧ Below w.heap.size w w' ∧ (b = false → sizeF F ≤ 32768)
set_option maxRecDepth 100000 in
set_option maxHeartbeats 1000000 in
theorem long_any (a : Option Addr) (len cap : Nat) (F : List Fld) (w : World) (hF : HasF w a F) (hl : F.length = len) (hwf : WfF F) :
    Calls Tryd.prog 11 #[.slice a len cap] w (LongIt F w) := by
  have hm := hF.1
  rw [hl] at hm
  have HF := Lib.hid hF; have HL := Lib.hid hl; have HW := Lib.hid hwf; clear hF hl hwf
  unfold LongIt
  go_enter Tryd.func11, Tryd.ntmps11
  go_wp2
  go_loopg [3, 8] len (fun m n i wr => ∃ (k N : Nat), k + m = len ∧ n = .int .i64 (N : Int) ∧ i = .int .i64 (k : Int) ∧ Hid (sizeF (F.take k) = N) ∧ N ≤ 32768 ∧ Hid (Below w.heap.size w wr))
  case atStart => exact ⟨0, 0, by omega, rfl, rfl, Lib.hid rfl, by omega, Lib.hid (Below.refl _ _)⟩
  case round =>
    obtain ⟨k, N, hk, rfl, rfl, HN, hN, HB⟩ := hrel
    by_cases hlt : k < len
    · obtain ⟨b, off, rfl, c0, c1⟩ := (HF.out.keep HB.out).at (show k < F.length by rw [HL.out]; exact hlt)
      have ok := HW.out.at (show k < F.length by rw [HL.out]; exact hlt)
      have hnx := sizeF_take (show k < F.length by rw [HL.out]; exact hlt)
      rw [HN.out] at hnx
      generalize F.getD k fld0 = f at *
      obtain ⟨t, v⟩ := f
      simp only at c0 c1 ok hnx
      have hv := ok.2.2
      have hvl : (bs v).size = v.length := rfl
      generalize v.length = L at *
      generalize bs v = V at *
      have HNX := Lib.hid hnx; clear hnx ok
      by_cases hgt : 32768 < N + (6 + L)
      · have d1 : decide ((32768 : Int) < (N : Int) + (6 + (L : Int))) = true := by rw [decide_eq_true_eq]; omega
        go_wp2
        go_ret
        exact ⟨true, rfl, HB.out.alloc HB.out.size _, fun h => by cases h⟩
      · have d1 : decide ((32768 : Int) < (N : Int) + (6 + (L : Int))) = false := by rw [decide_eq_false_iff_not]; omega
        go_wp2
        go_roundg (len - (k + 1))
        case measure => omega
        case rel => exact ⟨k + 1, N + (6 + L), by omega, by go_num, by go_num, HNX, by omega, Lib.hid (HB.out.alloc HB.out.size _)⟩
    · have hkl : k = len := by omega
      have h1 : sizeF F = N := by
        have := HN.out
        rwa [List.take_of_length_le (by rw [HL.out]; omega)] at this
      have H1 := Lib.hid h1; clear h1
      go_wp2
      go_ret
      exact ⟨false, rfl, HB.out, fun _ => by rw [H1.out]; exact hN⟩
theorem sizeF_mem {F : List Fld} {f : Fld} (h : f ∈ F) : 6 + f.2.length ≤ sizeF F := by
  unfold sizeF
  induction F with
  | nil => cases h
  | cons g F ih =>
    rw [List.map_cons, List.sum_cons]
    rcases List.mem_cons.1 h with rfl | h
    · omega
    · have := ih h; omega
theorem okF_of {F : List Fld} (h : WfF F) (hs : sizeF F ≤ 32768) : OkF F := fun f hf => by
  have h1 := h f hf
  have h2 := sizeF_mem hf
  exact ⟨h1.1, h1.2.1, by omega⟩
theorem enc_fit {f : Fld} (h : fitB f = true) : (encF f).length ≤ 6 + f.2.length := by
  obtain ⟨h1, h2, _⟩ := fitB_iff.1 h
  have : (dec f.1.toNat).length ≤ 4 := by rw [dec_length]; exact nd_le 4 _ (by omega) (by omega)
  unfold encF
  rw [itoaT_pos (by omega)]
  simp; omega
theorem body_size : ∀ (F : List Fld), F.all fitB = true → (bodyL F).length ≤ sizeF F
  | [], _ => Nat.le_refl _
  | f :: F, h => by
    simp only [List.all_cons, Bool.and_eq_true] at h
    have h1 := enc_fit h.1
    have h2 := body_size F h.2
    rw [bodyL_cons, List.length_append]
    unfold sizeF at h2 ⊢
    rw [List.map_cons, List.sum_cons]
    omega
set_option maxRecDepth 100000 in
set_option maxHeartbeats 2000000 in
theorem makes_walk (a : Option Addr) (len cap : Nat) (F : List Fld) (w : World) (hF : HasF w a F ∧ F.length = len ∧ WfF F ∧ len ≤ cap ∧ (a = none → cap = 0)) (ht : Pow w) :
    Calls Tryd.prog 3 #[.slice a len cap] w fun e w' => e = .returned (.bool true) ∧ Below w.heap.size w w' := by
  obtain ⟨hF, hl, hwf, _, _⟩ := hF
  have HF := Lib.hid hF; have HL := Lib.hid hl; have HW := Lib.hid hwf; have HT := Lib.hid ht
  clear hF hl hwf ht
  go_enter Tryd.func3, Tryd.ntmps3
  go_wp2_with fail
  refine (wakes_any _ HT.out).mono ?_
  rintro e w1 ⟨rfl, hb1⟩
  have B1 := Lib.hid hb1; clear hb1
  go_wp2_with fail
  refine (long_any a len cap F w1 (HF.out.keep B1.out) HL.out HW.out).mono ?_
  rintro e w2 ⟨lb, rfl, hb2, hsh⟩
  have B2 := Lib.hid (B1.out.trans (hb2.mono B1.out.size)); clear hb2
  cases lb with
  | true =>
    go_wp2_with fail
    go_ret
    exact ⟨rfl, B2.out⟩
  | false =>
  have SH := Lib.hid (hsh rfl)
  have OK := Lib.hid (okF_of HW.out SH.out)
  have BL : Hid (F.all fitB = true → (bodyL F).length ≤ 1000000000) := Lib.hid fun h => by have := body_size F h; have := SH.out; omega
  clear hsh
  go_wp2_with fail
  refine (encode_any a len cap F w2 (HF.out.keep B2.out) HL.out OK.out (pow_keep HT.out B2.out)).mono ?_
  rintro e w3 ⟨v3, rfl, ho3, hb3⟩
  have B3 := Lib.hid (B2.out.trans (hb3.mono B2.out.size)); clear hb3
  obtain ⟨a3, cap3, rfl, hr3, _, _, _⟩ := ho3.row
  have R3 := Lib.hid hr3; clear hr3 ho3
  go_wp2_with fail
  refine (rencode_any a len cap F w3 (HF.out.keep B3.out) HL.out OK.out BL.out (pow_keep HT.out B3.out)).mono ?_
  rintro e w4 ⟨v4, rfl, ho4, hb4⟩
  have R34 := Lib.hid (R3.out.keep hb4)
  have B4 := Lib.hid (B3.out.trans (hb4.mono B3.out.size)); clear hb4
  obtain ⟨a4, cap4, rfl, hr4, _, _, _⟩ := ho4.row
  have R4 := Lib.hid hr4; clear hr4 ho4
  have kc3 := conv_at (len := (encR F).1.length) (cap := cap3) R34.out rfl
  have kc4 := conv_at (len := (encR F).1.length) (cap := cap4) R4.out rfl
  have hq : ((bs (encR F).1).toList == (bs (encR F).1).toList) = true := beq_self_eq_true _
  have hq2 : ((encR F).2 == (encR F).2) = true := beq_self_eq_true _
  have hq3 : (validE F == validE F) = true := beq_self_eq_true _
  have hv1 := valid_any a len cap F w4 (HF.out.keep B4.out) HL.out OK.out (pow_keep HT.out B4.out)
  have hv2 : ∀ wx, Below w4.heap.size w4 wx → Calls Tryd.prog 15 #[.slice a len cap] wx fun e w' => e = .returned (.int .i64 (validE F)) ∧ Below wx.heap.size wx w' := fun wx h => by
    have hx := B4.out.trans (h.mono B4.out.size)
    exact rvalid_any a len cap F wx (HF.out.keep hx) HL.out OK.out BL.out (pow_keep HT.out hx)
  have HV2 := Lib.hid hv2; clear hv2
  generalize (encR F).1.length = n at *
  generalize bs (encR F).1 = S at *
  generalize (encR F).2 = E at *
  generalize validE F = E2 at *
  clear R3 R4 R34
  go_wp2_with (first
    | (go_at_call 14; (with_reducible refine hv1.mono ?_); rintro e w5 ⟨rfl, hb5⟩)
    | (go_at_call 15; (with_reducible refine (HV2.out _ hb5).mono ?_); rintro e w6 ⟨rfl, hb6⟩))
  go_ret
  exact ⟨rfl, (B4.out.trans (hb5.mono B4.out.size)).trans (hb6.mono (by have := B4.out.size; have := hb5.size; omega))⟩
end Go.Proofs.YtjgkjmegpinelaaDoor.Tg

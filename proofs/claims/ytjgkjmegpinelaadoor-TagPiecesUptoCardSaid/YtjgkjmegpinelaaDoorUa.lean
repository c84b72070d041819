/-
  Layer 7: the law on a byte that was turned.
-/
import Derived.Test.YtjgkjmegpinelaaDoorTl
import Derived.Test.YtjgkjmegpinelaaDoorTt
import Derived.Test.YtjgkjmegpinelaaDoorFs
namespace Go.Proofs.YtjgkjmegpinelaaDoor.Tg
open Go.RowKit Go.Sort Dx Sx
set_option linter.unusedVariables false
set_option linter.unusedSimpArgs false

theorem xor8 (a b : UInt8) : bits .xor .u8 (a.toNat : Int) (b.toNat : Int) = ((a ^^^ b).toNat : Int) := by
  rw [u8_xor_nat _ _ a.toNat_lt b.toNat_lt, UInt8.toNat_xor]
theorem xor8_ne {a b : UInt8} (h : b ≠ 0) : a ^^^ b ≠ a := by
  intro e
  apply h
  calc b = a ^^^ (a ^^^ b) := by rw [← UInt8.xor_assoc, UInt8.xor_self, UInt8.zero_xor]
    _ = a ^^^ a := by rw [e]
    _ = 0 := UInt8.xor_self
theorem tells_dec {F : List Fld} {i : Nat} {c : UInt8} (hi : i < (frm (bodyL F)).length) (hc : (frm (bodyL F))[i]? ≠ some c) :
    (decS ((frm (bodyL F)).set i c)).2.2 ≠ 0 ∨ (decS ((frm (bodyL F)).set i c)).2.1 ≠ (frm (bodyL F)).length := by
  rcases Decidable.em ((decS ((frm (bodyL F)).set i c)).2.2 = 0) with h | h
  · refine .inr fun hn => ?_
    obtain ⟨_, _, h3, _⟩ := decS_ok h
    rw [hn, List.take_of_length_le (by rw [List.length_set]; omega)] at h3
    exact tells hi hc h3
  · exact .inl h
theorem frm_small {F : List Fld} (h : validE F = 0) : (frm (bodyL F)).length ≤ 5000 ∧ 20 ≤ (frm (bodyL F)).length := by
  obtain ⟨h1, h2⟩ := validE_zero.1 h
  rw [frm_length]
  have := nd_le 4 (bodyL F).length (by omega) (by omega)
  omega
set_option maxRecDepth 100000 in
set_option maxHeartbeats 4000000 in
theorem tells_walk (a : Option Addr) (len cap : Nat) (F : List Fld) (i : Int) (m : Int) (w : World) (hF : HasF w a F ∧ F.length = len ∧ WfF F ∧ len ≤ cap ∧ (a = none → cap = 0)) (hi0 : -9223372036854775808 ≤ i ∧ i ≤ 9223372036854775807) (hm0 : 0 ≤ m ∧ m ≤ 255) (he : Env w) :
    Calls Tryd.prog 8 #[.slice a len cap, .int .i64 i, .int .u8 m] w fun e w' => e = .returned (.bool true) ∧ Below w.heap.size w w' := by
  obtain ⟨hF, hl, hwf, _, _⟩ := hF
  have HF := Lib.hid hF; have HL := Lib.hid hl; have HW := Lib.hid hwf; have HE := Lib.hid he
  obtain ⟨i0, i1⟩ := hi0
  obtain ⟨m0, m1⟩ := hm0
  clear hF hl hwf he
  go_enter Tryd.func8, Tryd.ntmps8
  go_wp2_with fail
  refine (wakes_any _ HE.out.pow).mono ?_
  rintro e w1 ⟨rfl, hb1⟩
  have B1 := Lib.hid hb1; clear hb1
  go_wp2_with fail
  refine (long_any a len cap F w1 (HF.out.keep B1.out) HL.out HW.out).mono ?_
  rintro e w2 ⟨lb, rfl, hb2, hsh⟩
  have B2 := Lib.hid (B1.out.trans (hb2.mono B1.out.size)); clear hb2
  cases lb with
  | true =>
    go_wp2_with fail
    go_ret
    exact ⟨rfl, B2.out⟩
  | false =>
  have SH := Lib.hid (hsh rfl)
  have OK := Lib.hid (okF_of HW.out SH.out)
  clear hsh
  go_wp2_with fail
  refine (encode_any a len cap F w2 (HF.out.keep B2.out) HL.out OK.out (HE.out.keep B2.out).pow).mono ?_
  rintro e w3 ⟨v3, rfl, ho3, hb3⟩
  have B3 := Lib.hid (B2.out.trans (hb3.mono B2.out.size)); clear hb3
  have HO3 := Lib.hid ho3
  by_cases hv : validE F = 0
  · obtain ⟨_, h2⟩ := enc_ok hv
    have hsm := frm_small hv
    have hdec := decS_frm hv []
    rw [List.append_nil] at hdec
    rw [h2] at HO3 ho3 ⊢
    simp only at HO3 ho3 ⊢
    clear h2
    obtain ⟨a3, cap3, rfl, hr3, hn3, hc3, hc4⟩ := ho3.row
    have hdd := Decode_any a3 _ cap3 (frm (bodyL F)) w3 hr3 rfl hc3 (by omega) (HE.out.keep B3.out)
    rw [hdec] at hdd
    unfold DecIt at hdd
    simp only at hdd
    have HDD := Lib.hid hdd
    have HTELL : Hid (∀ j c, j < (frm (bodyL F)).length → (frm (bodyL F))[j]? ≠ some c → (decS ((frm (bodyL F)).set j c)).2.2 ≠ 0 ∨ (decS ((frm (bodyL F)).set j c)).2.1 ≠ (frm (bodyL F)).length) := Lib.hid fun j c => tells_dec
    clear hdec hdd hr3 hn3 hc4 hv ho3
    generalize hLL : frm (bodyL F) = L at *
    clear hLL
    obtain ⟨hs1, hs2⟩ := hsm
    rcases (show i < 0 ∨ (0 ≤ i ∧ (L.length : Int) ≤ i) ∨ (0 ≤ i ∧ i < (L.length : Int)) by omega) with hi | ⟨hi, hj⟩ | ⟨hi, hj⟩
    · have g1 : decide (i < 0) = true := by simpa using hi
      generalize L.length = n at *
      go_wp2_with fail
      refine HDD.out.mono ?_
      rintro e w4 ⟨v4, rfl, ho4, hb4⟩
      have B4 := Lib.hid (B3.out.trans (hb4.mono B3.out.size)); clear hb4 ho4
      go_wp2
      go_ret
      exact ⟨rfl, B4.out⟩
    · have g1 : decide (i < 0) = false := by rw [decide_eq_false_iff_not]; omega
      have g2 : decide ((L.length : Int) ≤ i) = true := by simpa using hj
      generalize L.length = n at *
      clear hi hj
      go_wp2_with fail
      refine HDD.out.mono ?_
      rintro e w4 ⟨v4, rfl, ho4, hb4⟩
      have B4 := Lib.hid (B3.out.trans (hb4.mono B3.out.size)); clear hb4 ho4
      go_wp2
      go_ret
      exact ⟨rfl, B4.out⟩
    · have g1 : decide (i < 0) = false := by rw [decide_eq_false_iff_not]; omega
      have g2 : decide ((L.length : Int) ≤ i) = false := by rw [decide_eq_false_iff_not]; omega
      by_cases hm : m = 0
      · subst hm
        generalize L.length = n at *
        clear hi hj
        go_wp2_with fail
        refine HDD.out.mono ?_
        rintro e w4 ⟨v4, rfl, ho4, hb4⟩
        have B4 := Lib.hid (B3.out.trans (hb4.mono B3.out.size)); clear hb4 ho4
        go_wp2
        go_ret
        exact ⟨rfl, B4.out⟩
      · have g3 : (m == 0) = false := by simpa using hm
        obtain ⟨j, rfl⟩ : ∃ j : Nat, i = (j : Int) := ⟨i.toNat, by omega⟩
        have hjl : j < L.length := by omega
        obtain ⟨mm, hmm⟩ : ∃ mm : UInt8, m = (mm.toNat : Int) := ⟨UInt8.ofNat m.toNat, by rw [UInt8.toNat_ofNat']; omega⟩
        have hmne : mm ≠ 0 := fun e => hm (by rw [hmm, e]; rfl)
        obtain ⟨g, cap', hv', hg, _, _, hc, hfz, hst⟩ := HO3.out.store hjl
        have e1 : a3 = some ⟨g, 0, none⟩ := by cases hv'; rfl
        have e2 : cap3 = cap' := by cases hv'; rfl
        subst e1 e2
        clear hv'
        have hx := xor8 (L.getD j 0) mm
        rw [← hmm] at hx
        have hne := xor8_ne (a := L.getD j 0) hmne
        generalize hcc : L.getD j 0 ^^^ mm = c at *
        have hst' := hst c
        have hlj : L[j]? ≠ some c := fun e => hne (by simp [List.getD, e])
        have htl := HTELL.out j c hjl hlj
        have hB4 : Below w.heap.size w (w3.setCell ⟨g, j, none⟩ (.int .u8 (c.toNat : Int))) := B3.out.setCell (p := ⟨g, j, none⟩) (Nat.le_trans B2.out.size hg) _
        obtain ⟨a5, cap5, hv5, hr5, _, hc5, _⟩ := hst'.row
        rw [List.length_set] at hv5 hc5
        have e3 : a5 = some ⟨g, 0, none⟩ := by cases hv5; rfl
        have e4 : cap5 = cap3 := by cases hv5; rfl
        subst e3 e4
        have hd5 := Decode_any (some ⟨g, 0, none⟩) L.length cap5 (L.set j c) _ hr5 (by rw [List.length_set]) hc5 (by omega) (HE.out.keep hB4)
        unfold DecIt at hd5
        have HB4 := Lib.hid hB4; have HD5 := Lib.hid hd5
        have hjj : (0 : Int) ≤ (j : Int) := by omega
        clear hst hst' hlj hne hcc hr5 hB4 hv5 hc5 hd5 HTELL HDD hmm hi hg
        generalize (decS (L.set j c)).1 = G at *
        generalize (decS (L.set j c)).2.1 = n5 at *
        generalize (decS (L.set j c)).2.2 = E5 at *
        generalize (L.getD j 0).toNat = C at *
        generalize c.toNat = C2 at *
        have htl2 : (E5 != 0) = true ∨ ((E5 != 0) = false ∧ ((n5 : Int) != (L.length : Int)) = true) := by
          rcases Decidable.em (E5 = 0) with h | h
          · rcases htl with h' | h'
            · exact absurd h h'
            · exact .inr ⟨by rw [h]; rfl, by rw [bne_iff_ne]; omega⟩
          · exact .inl (by rw [bne_iff_ne]; exact h)
        clear htl
        generalize L.length = n at *
        go_wp2_with fail
        refine HD5.out.mono ?_
        rintro e w4 ⟨v4, rfl, ho4, hb4⟩
        have B4 := Lib.hid (HB4.out.trans (hb4.mono HB4.out.size)); clear hb4 ho4
        rcases htl2 with q1 | ⟨q1, q2⟩
        all_goals
          go_wp2
          go_ret
          exact ⟨rfl, B4.out⟩
  · obtain ⟨_, h2⟩ := enc_err hv
    rw [h2] at HO3 ho3 ⊢
    simp only at HO3 ho3 ⊢
    clear h2
    obtain ⟨a3, cap3, rfl, hr3, hn3, hc3, hc4⟩ := ho3.row
    have hne : (validE F == 0) = false := by simpa using hv
    have hne2 : (validE F != 0) = true := by simpa using hv
    generalize validE F = E at *
    clear hr3 hn3 hc3 hc4 hv ho3
    go_wp2
    go_ret
    exact ⟨rfl, B3.out⟩
end Go.Proofs.YtjgkjmegpinelaaDoor.Tg

/-
  Layer 7: the law on what is read back.
-/
import Derived.Test.YtjgkjmegpinelaaDoorUa
import Derived.Test.YtjgkjmegpinelaaDoorUb
namespace Go.Proofs.YtjgkjmegpinelaaDoor.Tg
open Go.RowKit Go.Sort Dx Sx
set_option linter.unusedVariables false
set_option linter.unusedSimpArgs false

theorem fits_len : ∀ {F : List Fld}, ∀ f ∈ F, f.2.length ≤ (bodyL F).length
  | g :: F, f, h => by
    rw [bodyL_cons, List.length_append]
    rcases List.mem_cons.1 h with rfl | h
    · simp [encF]; omega
    · have := fits_len f h; omega
theorem okF_valid {F : List Fld} (h : validE F = 0) : OkF F := fun f hf => by
  obtain ⟨h1, h2⟩ := validE_zero.1 h
  obtain ⟨_, h3⟩ := formB_iff.1 h1
  obtain ⟨h4, h5, _⟩ := fitB_iff.1 (h3 f hf)
  have := fits_len f hf
  exact ⟨by omega, by omega, by omega⟩
theorem ownG_lit (w : World) (T : TypeId) (hT : T = 5) (base : Nat) (hb : base ≤ w.heap.size) : OwnG (w.alloc (.cells #[] T)) base (.slice (some ⟨w.heap.size, 0, none⟩) 0 0) [] := by
  subst hT
  exact .inr ⟨w.heap.size, 0, #[], (0, 0), rfl, hb, heap_alloc_new w _, (fun j _ _ h => absurd h.2 (Nat.not_lt_zero j)), Nat.le_refl _, by decide, rfl, rfl⟩
theorem dec_cases (b : List UInt8) : (∃ G n, decS b = (G, n, 0) ∧ validE G = 0 ∧ n ≤ b.length ∧ b.take n = frm (bodyL G) ∧ n = (frm (bodyL G)).length) ∨
    (∃ n E, decS b = ([], n, E) ∧ n ≤ b.length ∧ ((E = 10 ∧ n = 0) ∨ ((E = 11 ∨ E = 12) ∧ 0 < n))) := by
  by_cases h : (decS b).2.2 = 0
  · obtain ⟨h1, h2, h3, h4⟩ := decS_ok h
    exact .inl ⟨(decS b).1, (decS b).2.1, by rw [← h], h1, h2, h3, h4⟩
  · obtain ⟨h1, h2, h3, h4⟩ := decS_err h
    refine .inr ⟨(decS b).2.1, (decS b).2.2, by rw [← h1], h2, ?_⟩
    omega
set_option maxRecDepth 100000 in
set_option maxHeartbeats 4000000 in
theorem back_walk (a : Option Addr) (len cap : Nat) (F : List Fld) (a1 : Option Addr) (len1 cap1 : Nat) (z1 : List Int) (w : World) (hF : HasF w a F ∧ F.length = len ∧ WfF F ∧ len ≤ cap ∧ (a = none → cap = 0)) (hB : Fr.IsRow .u8 w a1 len1 cap1 z1) (he : Env w) :
    Calls Tryd.prog 6 #[.slice a len cap, .slice a1 len1 cap1] w fun e w' => e = .returned (.bool true) ∧ Below w.heap.size w w' := by
  obtain ⟨hF, hl, hwf, _, _⟩ := hF
  obtain ⟨b, hbl, hbr⟩ := HasL.of_row hB
  have hbc : len1 ≤ cap1 ∧ (a1 = none → cap1 = 0) := by
    rcases hB with ⟨rfl, rfl, rfl, rfl⟩ | ⟨x, rfl, h1, h2, h3, h4, h5⟩
    · exact ⟨Nat.le_refl _, fun _ => rfl⟩
    · exact ⟨h1, fun h => by cases h⟩
  obtain ⟨bc, bn⟩ := hbc
  have HF := Lib.hid hF; have HL := Lib.hid hl; have HW := Lib.hid hwf; have HE := Lib.hid he; have BL := Lib.hid hbl; have BR := Lib.hid hbr; have BN := Lib.hid bn
  have hm1 := hbr.2.1
  rw [hbl] at hm1
  have hDB : len1 ≤ 8192 → ∀ wx, Below w.heap.size w wx → Calls Tryd.prog 16 #[.slice a1 len1 cap1] wx (DecIt (decS b) wx) := fun h wx hx => Decode_any a1 len1 cap1 b wx (hbr.keep hx) hbl bc (by omega) (he.keep hx)
  clear hF hl hwf he hbl hbr bn hB
  go_enter Tryd.func6, Tryd.ntmps6
  go_wp2_with fail
  refine (wakes_any _ HE.out.pow).mono ?_
  rintro e w1 ⟨rfl, hb1⟩
  have B1 := Lib.hid hb1; clear hb1
  go_wp2_with fail
  refine (long_any a len cap F w1 (HF.out.keep B1.out) HL.out HW.out).mono ?_
  rintro e w2 ⟨lb, rfl, hb2, hsh⟩
  have B2 := Lib.hid (B1.out.trans (hb2.mono B1.out.size)); clear hb2
  cases lb with
  | true =>
    go_wp2_with fail
    go_ret
    exact ⟨rfl, B2.out⟩
  | false =>
  have SH := Lib.hid (hsh rfl)
  have OK := Lib.hid (okF_of HW.out SH.out)
  clear hsh
  by_cases hbig : 8192 < len1
  · have d1 : decide ((8192 : Int) < (len1 : Int)) = true := by rw [decide_eq_true_eq]; omega
    go_wp2_with fail
    go_ret
    exact ⟨rfl, B2.out⟩
  have d1 : decide ((8192 : Int) < (len1 : Int)) = false := by rw [decide_eq_false_iff_not]; omega
  have HDB := Lib.hid (hDB (by omega))
  clear hDB
  go_wp2_with fail
  refine (encode_any a len cap F w2 (HF.out.keep B2.out) HL.out OK.out (HE.out.keep B2.out).pow).mono ?_
  rintro e w3 ⟨v3, rfl, ho3, hb3⟩
  have B3 := Lib.hid (B2.out.trans (hb3.mono B2.out.size)); clear hb3
  have HO3 := Lib.hid ho3
  by_cases hv : validE F = 0
  · obtain ⟨_, h2⟩ := enc_ok hv
    have hsm := frm_small hv
    have hdec := decS_frm hv b
    have hshort : ∀ k, k < (frm (bodyL F)).length → decS ((frm (bodyL F)).take k) = ([], 0, 10) := fun k hk => decS_short hv hk
    rw [h2] at HO3 ho3 ⊢
    simp only at HO3 ho3 ⊢
    clear h2
    obtain ⟨a3, cap3, rfl, hr3, hn3, hc3, hc4⟩ := ho3.row
    obtain ⟨g3, o3, rfl, _⟩ := hr3.at (by omega)
    have R3 := Lib.hid hr3; have HD := Lib.hid hdec; have HS := Lib.hid hshort
    clear hdec hshort hr3 hn3 hc4 hv ho3
    generalize frm (bodyL F) = L at *
    obtain ⟨hs1, hs2⟩ := hsm
    have hlit := ownG_lit w3 _ rfl w3.heap.size (Nat.le_refl _)
    have hb4 : Below w3.heap.size w3 (w3.alloc (.cells #[] 5)) := (Below.refl _ _).alloc (Nat.le_refl _) _
    have HLIT := Lib.hid hlit; have HB4 := Lib.hid hb4
    have HLL := Lib.hid (rfl : L.length = L.length)
    obtain ⟨n, hn⟩ : ∃ n, L.length = n := ⟨_, rfl⟩
    have HN := Lib.hid hn
    rw [hn] at hs1 hs2 hc3 ⊢
    clear hlit hb4 hn
    go_wp2_with (first
      | (at_builtin; refine wp_apd_row rfl (.tmp 31) (.tmp 32) rfl w3.heap.size _ [] L rfl HLIT.out _ _ _ rfl (R3.out.keep HB4.out) HN.out (fun h => by cases h) (by have := HN.out; simp; omega) HB4.out.size ?_; intro v5 w5 ho5 hg5 hb5; have HO5 := Lib.hid ho5; have HB5 := Lib.hid (HB4.out.trans hb5); clear ho5 hg5 hb5)
      | (at_builtin; refine wp_apd_row rfl (.tmp 33) (.tmp 34) rfl w3.heap.size _ ([] ++ L) b rfl HO5.out _ _ _ rfl (BR.out.keep (B3.out.trans (HB5.out.mono B3.out.size))) BL.out BN.out (by have := HN.out; have := BL.out; simp; omega) HB5.out.size ?_; intro v6 w6 ho6 hg6 hb6; have HO6 := Lib.hid ho6; have HB6 := Lib.hid (HB5.out.trans hb6); clear ho6 hg6 hb6))
    have hHX6 : Below w.heap.size w w6 := B3.out.trans (HB6.out.mono B3.out.size)
    obtain ⟨a6, cap6, hv6, hr6, _, hc6, _⟩ := HO6.out.row
    rw [List.nil_append] at hr6 hv6 hc6
    have hl6 : (L ++ b).length = n + len1 := by rw [List.length_append, HN.out, BL.out]
    rw [hl6] at hv6 hc6
    subst hv6
    have hd6 := Decode_any a6 _ cap6 (L ++ b) w6 hr6 hl6 hc6 (by omega) (HE.out.keep hHX6)
    rw [HD.out, HN.out] at hd6
    unfold DecIt at hd6
    simp only at hd6
    have R6 := Lib.hid (R3.out.keep HB6.out); have HX6 := Lib.hid hHX6
    clear hHX6 hr6 hc6 hl6 HO5 HB5 HLIT HB4 HD
    refine hd6.mono ?_
    rintro e w7 ⟨v7, rfl, ho7, hb7⟩
    obtain ⟨a7, cap7, rfl, hf7, _, _, _⟩ := ho7.has
    rw [HL.out]
    have R7 := Lib.hid (R6.out.keep hb7); have HX7 := Lib.hid (HX6.out.trans (hb7.mono HX6.out.size))
    have hsame := same_any a7 a len cap7 len cap F F w7 hf7 HL.out (HF.out.keep HX7.out) HL.out
    rw [show decide (F = F) = true from decide_eq_true rfl] at hsame
    have hq : ((n : Int) != (n : Int)) = false := bne_self_eq_false _
    clear hd6 ho7 hb7 hf7 HO6 HB6 R6 HX6
    go_wp2_with (go_at_call 18; (with_reducible refine hsame.mono ?_); rintro e w8 ⟨rfl, hb8⟩; have R8 := Lib.hid (R7.out.keep hb8); have HX8 := Lib.hid (HX7.out.trans (hb8.mono HX7.out.size)); clear hb8)
    go_loopg [10] (min n 300) (fun m i wr => ∃ k : Nat, k + m = min n 300 ∧ i = .int .i64 (k : Int) ∧ Hid (HasL wr (some ⟨g3, o3, none⟩) L) ∧ Hid (Below w.heap.size w wr))
    case atStart => exact ⟨0, by omega, rfl, R8, HX8⟩
    case round =>
      obtain ⟨k, hk, rfl, HR, HX⟩ := hrel
      by_cases hlt : k < min n 300
      · have d3 : decide ((k : Int) < (n : Int)) = true := by rw [decide_eq_true_eq]; omega
        have d4 : decide ((k : Int) < 300) = true := by rw [decide_eq_true_eq]; omega
        have i1 : (k : Int) ≤ (cap3 : Int) := by omega
        have i2 : (0 : Int) ≤ (k : Int) := by omega
        have hdk := Decode_any (some ⟨g3, o3, none⟩) k cap3 (L.take k) wr (HR.out.front k (by rw [HN.out]; omega)) (by rw [List.length_take, HN.out]; omega) (by omega) (by omega) (HE.out.keep HX.out)
        rw [HS.out k (by rw [HN.out]; omega)] at hdk
        unfold DecIt at hdk
        simp only at hdk
        go_wp2_with fail
        refine hdk.mono ?_
        rintro e wy ⟨v, rfl, ho, hby⟩
        have HRY := Lib.hid (HR.out.keep hby)
        have HY := Lib.hid (HX.out.trans (hby.mono HX.out.size))
        clear ho hby hdk
        go_wp2
        go_roundg (min n 300 - (k + 1))
        case measure => omega
        case rel => exact ⟨k + 1, by omega, by go_num, HRY, HY⟩
      · clear R8 HX8 R7 HX7 hsame HS
        by_cases hkn : k = n
        · have d3 : decide ((k : Int) < (n : Int)) = false := by rw [decide_eq_false_iff_not]; omega
          go_wp2_with fail
          have hdd := HDB.out _ HX.out
          rcases dec_cases b with ⟨G, n, hd, q1, q2, q3, q4⟩ | ⟨n, E, hd, q2, q3⟩
          · rw [hd] at hdd
            unfold DecIt at hdd
            simp only at hdd
            have hsm2 := frm_small q1
            have hok2 := okF_valid q1
            have henc := (enc_ok q1).2
            have HQ1 := Lib.hid hok2; have HQ3 := Lib.hid q3; have HEN := Lib.hid henc
            obtain ⟨gb, ob, rfl, _⟩ := BR.out.at (show 0 < b.length by omega)
            have hfr := fun wz (h : Below w.heap.size w wz) => (BR.out.keep h).front n q2
            rw [q3] at hfr
            have HFR := Lib.hid hfr
            rw [BL.out] at q2
            clear hd hok2 henc q1 q3 hfr
            go_wp2_with fail
            refine hdd.mono ?_
            rintro e wy ⟨v, rfl, ho, hby⟩
            have BY := Lib.hid (HX.out.trans (hby.mono HX.out.size))
            obtain ⟨ax, capx, rfl, hfx, _, _, _⟩ := ho.has
            have HFX := Lib.hid hfx
            clear ho hby hdd hfx
            go_wp2_with fail
            refine (encode_any ax G.length capx G wy HFX.out rfl HQ1.out (HE.out.keep BY.out).pow).mono ?_
            rintro e wz ⟨vz, rfl, hoz, hbz⟩
            have BZ := Lib.hid (BY.out.trans (hbz.mono BY.out.size))
            rw [HEN.out] at hoz ⊢
            simp only at hoz ⊢
            obtain ⟨az, capz, rfl, hrz, _, _, _⟩ := hoz.row
            have kz := fun m => conv_at (w := wz.drewN m) (len := n) (cap := capz) hrz q4.symm
            have kb := fun m => conv_at (w := wz.drewN m) (len := n) (cap := cap1) (HFR.out wz BZ.out) q4.symm
            rw [← q4] at hsm2 ⊢
            clear hoz hbz hrz HEN HFX HFR HQ3 q4
            generalize frm (bodyL G) = L2 at *
            have hq : ((bs L2).toList == (bs L2).toList) = true := beq_self_eq_true _
            generalize bs L2 = S2 at *
            have i1 : (n : Int) ≤ (cap1 : Int) := by omega
            have i2 : (0 : Int) ≤ (n : Int) := by omega
            have d3 : decide ((n : Int) ≤ (len1 : Int)) = true := by rw [decide_eq_true_eq]; omega
            go_wp2
            go_quiet (fail)
            go_wp2
            go_ret
            exact ⟨rfl, BZ.out.trans ⟨rfl, rfl, rfl, Nat.le_refl _, fun _ _ => rfl⟩⟩
          · rw [hd] at hdd
            unfold DecIt at hdd
            simp only at hdd
            rw [BL.out] at q2
            have hne : (E == 0) = false := by rw [beq_eq_false_iff_ne]; omega
            have hne2 : (E != 0) = true := by rw [bne_iff_ne]; omega
            have d3 : decide ((n : Int) ≤ (len1 : Int)) = true := by rw [decide_eq_true_eq]; omega
            clear hd
            go_wp2_with fail
            refine hdd.mono ?_
            rintro e wy ⟨v, rfl, ho, hby⟩
            have BY := Lib.hid (HX.out.trans (hby.mono HX.out.size))
            obtain ⟨ax, capx, rfl, hfx, _, _, _⟩ := ho.has
            clear ho hby hdd hfx
            rcases q3 with ⟨q5, q6⟩ | ⟨q5, q6⟩
            · subst q5 q6
              go_wp2
              go_ret
              exact ⟨rfl, BY.out⟩
            · have D4 : Hid (decide (0 < n) = true) := Lib.hid (decide_eq_true q6)
              have d5 : (E != 10) = true := by rw [bne_iff_ne]; omega
              clear q5 q6
              go_wp2
              go_ret
              exact ⟨by rw [D4.out] <;> rfl, BY.out⟩
        · have d3 : decide ((k : Int) < (n : Int)) = true := by rw [decide_eq_true_eq]; omega
          have d4 : decide ((k : Int) < 300) = false := by rw [decide_eq_false_iff_not]; omega
          go_wp2_with fail
          have hdd := HDB.out _ HX.out
          rcases dec_cases b with ⟨G, n, hd, q1, q2, q3, q4⟩ | ⟨n, E, hd, q2, q3⟩
          · rw [hd] at hdd
            unfold DecIt at hdd
            simp only at hdd
            have hsm2 := frm_small q1
            have hok2 := okF_valid q1
            have henc := (enc_ok q1).2
            have HQ1 := Lib.hid hok2; have HQ3 := Lib.hid q3; have HEN := Lib.hid henc
            obtain ⟨gb, ob, rfl, _⟩ := BR.out.at (show 0 < b.length by omega)
            have hfr := fun wz (h : Below w.heap.size w wz) => (BR.out.keep h).front n q2
            rw [q3] at hfr
            have HFR := Lib.hid hfr
            rw [BL.out] at q2
            clear hd hok2 henc q1 q3 hfr
            go_wp2_with fail
            refine hdd.mono ?_
            rintro e wy ⟨v, rfl, ho, hby⟩
            have BY := Lib.hid (HX.out.trans (hby.mono HX.out.size))
            obtain ⟨ax, capx, rfl, hfx, _, _, _⟩ := ho.has
            have HFX := Lib.hid hfx
            clear ho hby hdd hfx
            go_wp2_with fail
            refine (encode_any ax G.length capx G wy HFX.out rfl HQ1.out (HE.out.keep BY.out).pow).mono ?_
            rintro e wz ⟨vz, rfl, hoz, hbz⟩
            have BZ := Lib.hid (BY.out.trans (hbz.mono BY.out.size))
            rw [HEN.out] at hoz ⊢
            simp only at hoz ⊢
            obtain ⟨az, capz, rfl, hrz, _, _, _⟩ := hoz.row
            have kz := fun m => conv_at (w := wz.drewN m) (len := n) (cap := capz) hrz q4.symm
            have kb := fun m => conv_at (w := wz.drewN m) (len := n) (cap := cap1) (HFR.out wz BZ.out) q4.symm
            rw [← q4] at hsm2 ⊢
            clear hoz hbz hrz HEN HFX HFR HQ3 q4
            generalize frm (bodyL G) = L2 at *
            have hq : ((bs L2).toList == (bs L2).toList) = true := beq_self_eq_true _
            generalize bs L2 = S2 at *
            have i1 : (n : Int) ≤ (cap1 : Int) := by omega
            have i2 : (0 : Int) ≤ (n : Int) := by omega
            have d3 : decide ((n : Int) ≤ (len1 : Int)) = true := by rw [decide_eq_true_eq]; omega
            go_wp2
            go_quiet (fail)
            go_wp2
            go_ret
            exact ⟨rfl, BZ.out.trans ⟨rfl, rfl, rfl, Nat.le_refl _, fun _ _ => rfl⟩⟩
          · rw [hd] at hdd
            unfold DecIt at hdd
            simp only at hdd
            rw [BL.out] at q2
            have hne : (E == 0) = false := by rw [beq_eq_false_iff_ne]; omega
            have hne2 : (E != 0) = true := by rw [bne_iff_ne]; omega
            have d3 : decide ((n : Int) ≤ (len1 : Int)) = true := by rw [decide_eq_true_eq]; omega
            clear hd
            go_wp2_with fail
            refine hdd.mono ?_
            rintro e wy ⟨v, rfl, ho, hby⟩
            have BY := Lib.hid (HX.out.trans (hby.mono HX.out.size))
            obtain ⟨ax, capx, rfl, hfx, _, _, _⟩ := ho.has
            clear ho hby hdd hfx
            rcases q3 with ⟨q5, q6⟩ | ⟨q5, q6⟩
            · subst q5 q6
              go_wp2
              go_ret
              exact ⟨rfl, BY.out⟩
            · have D4 : Hid (decide (0 < n) = true) := Lib.hid (decide_eq_true q6)
              have d5 : (E != 10) = true := by rw [bne_iff_ne]; omega
              clear q5 q6
              go_wp2
              go_ret
              exact ⟨by rw [D4.out] <;> rfl, BY.out⟩
  · obtain ⟨_, h2⟩ := enc_err hv
    rw [h2] at ho3 ⊢
    simp only at ho3 ⊢
    clear h2
    obtain ⟨a3, cap3, rfl, hr3, hn3, hc3, hc4⟩ := ho3.row
    have hne : (validE F == 0) = false := by simpa using hv
    generalize validE F = E at *
    clear hr3 hn3 hc3 hc4 hv ho3 HO3
    have HX := B3
    have hdd := HDB.out _ HX.out
    rcases dec_cases b with ⟨G, n, hd, q1, q2, q3, q4⟩ | ⟨n, E, hd, q2, q3⟩
    · rw [hd] at hdd
      unfold DecIt at hdd
      simp only at hdd
      have hsm2 := frm_small q1
      have hok2 := okF_valid q1
      have henc := (enc_ok q1).2
      have HQ1 := Lib.hid hok2; have HQ3 := Lib.hid q3; have HEN := Lib.hid henc
      obtain ⟨gb, ob, rfl, _⟩ := BR.out.at (show 0 < b.length by omega)
      have hfr := fun wz (h : Below w.heap.size w wz) => (BR.out.keep h).front n q2
      rw [q3] at hfr
      have HFR := Lib.hid hfr
      rw [BL.out] at q2
      clear hd hok2 henc q1 q3 hfr
      go_wp2_with fail
      refine hdd.mono ?_
      rintro e wy ⟨v, rfl, ho, hby⟩
      have BY := Lib.hid (HX.out.trans (hby.mono HX.out.size))
      obtain ⟨ax, capx, rfl, hfx, _, _, _⟩ := ho.has
      have HFX := Lib.hid hfx
      clear ho hby hdd hfx
      go_wp2_with fail
      refine (encode_any ax G.length capx G wy HFX.out rfl HQ1.out (HE.out.keep BY.out).pow).mono ?_
      rintro e wz ⟨vz, rfl, hoz, hbz⟩
      have BZ := Lib.hid (BY.out.trans (hbz.mono BY.out.size))
      rw [HEN.out] at hoz ⊢
      simp only at hoz ⊢
      obtain ⟨az, capz, rfl, hrz, _, _, _⟩ := hoz.row
      have kz := fun m => conv_at (w := wz.drewN m) (len := n) (cap := capz) hrz q4.symm
      have kb := fun m => conv_at (w := wz.drewN m) (len := n) (cap := cap1) (HFR.out wz BZ.out) q4.symm
      rw [← q4] at hsm2 ⊢
      clear hoz hbz hrz HEN HFX HFR HQ3 q4
      generalize frm (bodyL G) = L2 at *
      have hq : ((bs L2).toList == (bs L2).toList) = true := beq_self_eq_true _
      generalize bs L2 = S2 at *
      have i1 : (n : Int) ≤ (cap1 : Int) := by omega
      have i2 : (0 : Int) ≤ (n : Int) := by omega
      have d3 : decide ((n : Int) ≤ (len1 : Int)) = true := by rw [decide_eq_true_eq]; omega
      go_wp2
      go_quiet (fail)
      go_wp2
      go_ret
      exact ⟨rfl, BZ.out.trans ⟨rfl, rfl, rfl, Nat.le_refl _, fun _ _ => rfl⟩⟩
    · rw [hd] at hdd
      unfold DecIt at hdd
      simp only at hdd
      rw [BL.out] at q2
      have hne : (E == 0) = false := by rw [beq_eq_false_iff_ne]; omega
      have hne2 : (E != 0) = true := by rw [bne_iff_ne]; omega
      have d3 : decide ((n : Int) ≤ (len1 : Int)) = true := by rw [decide_eq_true_eq]; omega
      clear hd
      go_wp2_with fail
      refine hdd.mono ?_
      rintro e wy ⟨v, rfl, ho, hby⟩
      have BY := Lib.hid (HX.out.trans (hby.mono HX.out.size))
      obtain ⟨ax, capx, rfl, hfx, _, _, _⟩ := ho.has
      clear ho hby hdd hfx
      rcases q3 with ⟨q5, q6⟩ | ⟨q5, q6⟩
      · subst q5 q6
        go_wp2
        go_ret
        exact ⟨rfl, BY.out⟩
      · have D4 : Hid (decide (0 < n) = true) := Lib.hid (decide_eq_true q6)
        have d5 : (E != 10) = true := by rw [bne_iff_ne]; omega
        clear q5 q6
        go_wp2
        go_ret
        exact ⟨by rw [D4.out] <;> rfl, BY.out⟩
end Go.Proofs.YtjgkjmegpinelaaDoor.Tg

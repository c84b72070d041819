/-
  Layer 6: of the reference four, Name, Encode.
-/
import Derived.Test.YtdonkmkjblofpaaGreatDoorNQ
import Derived.Test.YtdonkmkjblofpaaGreatDoorWo
namespace Go.Proofs.YtdonkmkjblofpaaGreatDoor.Sn
open Go.RowKit Go.Sort Dx Sx Dk Wl
set_option linter.unusedVariables false
set_option linter.unusedSimpArgs false
set_option maxRecDepth 100000 in
theorem four6_any (n : Nat) (w : World) : Calls Tryz.prog 53 #[.int .u32 (n : Int)] w (CatIt w (le4 n)) := by
  have D : Hid (∃ v, Ending.returned (.slice (some ⟨w.heap.size, 0, none⟩) 4 4) = .returned v ∧ Ob.OwnB (w.alloc (.cells #[.int .u8 ((n : Int) % 256), .int .u8 ((n : Int) / 256 % 256), .int .u8 ((n : Int) / 65536 % 256), .int .u8 ((n : Int) / 16777216 % 256)] 5)) w.heap.size v (le4 n) ∧ Below w.heap.size w (w.alloc (.cells #[.int .u8 ((n : Int) % 256), .int .u8 ((n : Int) / 256 % 256), .int .u8 ((n : Int) / 65536 % 256), .int .u8 ((n : Int) / 16777216 % 256)] 5))) := Lib.hid ⟨_, rfl, by
    have := own_lit w (le4I (n : Int)) (Nat.le_refl _) (by show 4 ≤ maxLen; decide)
    rw [le4_int] at this
    rw [← le4_int] at this ⊢
    exact this, (Below.refl _ _).alloc (Nat.le_refl _) _⟩
  go_enter Tryz.func53, Tryz.ntmps53
  go_wp2
  go_ret
  exact D.out
theorem rname6_no (x : Int) (w : World) (h : x < 0 ∨ 999999999 < x) : Calls Tryz.prog 19 #[.int .i64 x] w fun e w' => e = .returned (.string ByteArray.empty) ∧ w = w' := by
  by_cases h1 : x < 0
  · go_enter Tryz.func19, Tryz.ntmps19
    go_wp2
    go_ret
    exact ⟨rfl, rfl⟩
  · have h2 : 999999999 < x := by omega
    clear h
    go_enter Tryz.func19, Tryz.ntmps19
    go_wp2
    go_ret
    exact ⟨rfl, rfl⟩
set_option maxRecDepth 100000 in
set_option maxHeartbeats 1600000 in
theorem rname6_some (m : Nat) (h2 : m ≤ 999999999) (w : World) : Calls Tryz.prog 19 #[.int .i64 (m : Int)] w fun e w' => e = .returned (.string (bs (lettN 115 m))) ∧ Below w.heap.size w w' := by
  have t1 : decide ((m : Int) < 0) = false := by rw [decide_eq_false_iff_not]; omega
  have t2 : decide ((999999999 : Int) < (m : Int)) = false := by rw [decide_eq_false_iff_not]; omega
  have hlast : ({ data := #[115] } : ByteArray) ++ bs (low 9 m) = bs (lettN 115 m) := bs_app [115] _
  obtain ⟨T, hT⟩ : ∃ T, bs (lettN 115 m) = T := ⟨_, rfl⟩
  have LAST := Lib.hid hlast
  rw [hT] at LAST ⊢
  clear hlast hT
  go_enter Tryz.func19, Tryz.ntmps19
  go_wp2
  go_loopg [0, 3, 4] 9 (fun g y o i wr => ∃ (k : Nat), k + g = 9 ∧ y = .int .i64 ((m / 10 ^ k : Nat) : Int) ∧ o = .string (bs (low k m)) ∧ i = .int .i64 (k : Int) ∧ Hid (Below w.heap.size w wr))
  case atStart => exact ⟨0, by omega, by simp, rfl, rfl, Lib.hid (Below.refl _ _)⟩
  case round =>
    obtain ⟨k, hg, rfl, rfl, rfl, hb⟩ := hrel
    by_cases hk : k < 9
    · have hcat : bs [dgt (m / 10 ^ k % 10)] ++ bs (low k m) = bs (low (k + 1) m) := by rw [bs_app, low_cons]; rfl
      have hS : (bs (low k m)).size ≤ 9 := by rw [bs_size, low_length]; omega
      have hdv : m / 10 ^ (k + 1) = m / 10 ^ k / 10 := by rw [Nat.div_div_eq_div_mul, Nat.pow_succ]
      obtain ⟨y, hy⟩ : ∃ y, m / 10 ^ k = y := ⟨_, rfl⟩
      have hyb : y ≤ 999999999 := by rw [← hy]; exact Nat.le_trans (Nat.div_le_self _ _) h2
      rw [hy] at hcat hdv ⊢
      obtain ⟨R, hR⟩ : ∃ R, y % 10 = R := ⟨_, rfl⟩
      obtain ⟨Q, hQ⟩ : ∃ Q, y / 10 = Q := ⟨_, rfl⟩
      have hyr : (y : Int) % 10 = (R : Int) := by omega
      have hyl : R < 10 := by omega
      have hyq : (y : Int) / 10 = (Q : Int) := by omega
      rw [hQ] at hdv
      rw [hR] at hcat
      have hDs : (bs [dgt R]).size = 1 := rfl
      generalize bs (low k m) = S0 at hS hcat ⊢
      obtain ⟨S', hS'⟩ : ∃ S', bs (low (k + 1) m) = S' := ⟨_, rfl⟩
      rw [hS'] at hcat
      have HS := Lib.hid hS'; have HD := Lib.hid hdv
      clear hS' hdv hy hR hQ
      have tk : decide ((k : Int) < 9) = true := by rw [decide_eq_true_eq]; omega
      have cv := conv1 wr R hyl
      go_wp2
      go_roundg (gk - 1)
      case measure => omega
      case rel => exact ⟨k + 1, by omega, by rw [HD.out], by rw [HS.out], by go_num, Lib.hid (hb.out.alloc hb.out.size _)⟩
    · have hk9 : k = 9 := by omega
      subst hk9
      have tk : decide (((9 : Nat) : Int) < 9) = false := by decide
      have hS : (bs (low 9 m)).size = 9 := by rw [bs_size, low_length]
      have LAST := LAST.out
      generalize bs (low 9 m) = S0 at hS LAST ⊢
      go_wp2
      go_ret
      exact ⟨rfl, hb.out⟩
theorem rname6_any (v : Int) (w : World) : Calls Tryz.prog 19 #[.int .i64 v] w fun e w' => e = .returned (.string (bs (snm v))) ∧ Below w.heap.size w w' := by
  by_cases h : 0 ≤ v ∧ v ≤ 999999999
  · obtain ⟨n, rfl⟩ := Int.eq_ofNat_of_zero_le h.1
    rw [snm_nat (by omega)]
    exact rname6_some n (by omega) w
  · rw [snm_none (by omega)]
    refine (rname6_no v w (by omega)).mono ?_
    rintro e w' ⟨rfl, rfl⟩
    exact ⟨rfl, Below.refl _ _⟩
set_option maxRecDepth 100000 in
set_option maxHeartbeats 1600000 in
theorem rencode_any (v : Int) (a : Option Addr) (len cap : Nat) (zs : List Int) (w : World) (hb : Bytes zs) (hrow : Fr.HasRow .u8 w a len zs) (hn : a = none → cap = 0) (h : len ≤ 140737488351232) :
    Calls Tryz.prog 22 #[.int .i64 v, .slice a len cap] w (CatIt w (encN (u32N v) (zs.take len))) := by
  have hzl : (zs.take len).length = len := by rw [List.length_take]; have := hrow.1; omega
  have HR := Lib.hid hrow
  obtain ⟨L, hL⟩ : ∃ L, zs.take len = L := ⟨_, rfl⟩
  rw [hL] at hzl ⊢
  have BL : Hid (Bytes L) := Lib.hid (by rw [← hL]; exact bytes_take hb len)
  have RL : Hid (∀ wx, Below w.heap.size w wx → Fr.HasRow .u8 wx a len L) := Lib.hid fun wx hx => by
    have := row_take (hrow.keep hx) (Nat.le_refl len)
    rw [hL] at this; exact this
  have u1 := u32N_wrap v
  obtain ⟨u, hu⟩ : ∃ u, u32N v = u := ⟨_, rfl⟩
  rw [hu] at u1 ⊢
  obtain ⟨u2, hq4⟩ := enc_wrap len
  obtain ⟨q, hq⟩ : ∃ q, len % 4294967296 = q := ⟨_, rfl⟩
  rw [hq] at u2 hq4
  have HQ : Hid (le4 q = le4 len) := Lib.hid (by rw [← hq]; exact le4_mod len)
  have HZL := Lib.hid hzl
  have F1 := Lib.hid (four6_any u w)
  have F2 := Lib.hid (four6_any q)
  have HN := Lib.hid hn
  clear hb hrow hn hzl hL hu hq hq4
  go_enter Tryz.func22, Tryz.ntmps22
  go_wp2_with fail
  refine F1.out.mono ?_
  rintro e w1 ⟨v1, rfl, ho1, hb1⟩
  have HO1 := Lib.hid ho1; have HB1 := Lib.hid hb1
  clear ho1 hb1
  go_wp2_with fail
  refine (F2.out w1).mono ?_
  rintro e w2 ⟨v2, rfl, ho2, hb2⟩
  obtain ⟨a2, c2, rfl, hr2, hn2, _, _⟩ := Ob.own_row ho2
  have HR2 := Lib.hid hr2
  have HO2 := Lib.hid (Ob.own_keep HO1.out hb2)
  have HB2 := Lib.hid (HB1.out.trans (hb2.mono HB1.out.size))
  clear ho2 hb2 hr2
  have e1 : le4 u ++ (le4 q).take 4 = frontN u L.length := by unfold frontN; rw [HZL.out, ← HQ.out]; rfl
  have E1 := Lib.hid e1
  obtain ⟨Fr0, hFr⟩ : ∃ F, frontN u L.length = F := ⟨_, rfl⟩
  have hF8 : Fr0.length = 8 := by rw [← hFr]; rfl
  have BF : Hid (Bytes Fr0) := Lib.hid (by rw [← hFr]; exact bytes_front _ _)
  have HE : Hid (encN u L = Fr0 ++ (le4 (crcN (Fr0 ++ L)) ++ L)) := Lib.hid (by unfold encN; rw [hFr])
  rw [hFr] at E1
  have HF8 := Lib.hid hF8
  obtain ⟨c, hc⟩ : ∃ c, crcN (Fr0 ++ L) = c := ⟨_, rfl⟩
  have HCC := Lib.hid hc
  have F3 := Lib.hid (four6_any c)
  have G1 : Hid ((le4 u).length + 4 ≤ 140737488355328 ∧ ([] : List Int).length + 8 ≤ 140737488355328 ∧ Fr0.length + len ≤ 140737488355328 ∧ Fr0.length + 4 ≤ 140737488355328 ∧ (Fr0 ++ (le4 c).take 4).length + len ≤ 140737488355328) := Lib.hid ⟨by rw [le4_length]; omega, by simp, by omega, by omega, by rw [List.length_append, hF8]; simp [le4]; omega⟩
  have T8 : Hid (Fr0.take 8 = Fr0 ∧ (le4 c).take 4 = le4 c ∧ L.take len = L ∧ (Fr0 ++ L).length = 8 + len) := Lib.hid ⟨by rw [← hF8, List.take_length], rfl, by rw [← HZL.out, List.take_length], by rw [List.length_append, hF8, HZL.out]⟩
  clear e1 hFr hF8 hc
  go_wp2_with (at_builtin; first
    | (go_loud (refine Ob.wp_apd rfl (.tmp 9) (.tmp 13) rfl w.heap.size v1 _ rfl HO2.out a2 4 c2 (le4 q) rfl HR2.out hn2 G1.out.1 HB2.out.size ?_); intro v3 w3 ho3 hb3; rw [E1.out] at ho3; have HO3 := Lib.hid ho3; have HB3 := Lib.hid (HB2.out.trans hb3); obtain ⟨a3, c3, e3, hr3, hn3, _, _⟩ := Ob.own_row ho3; rw [HF8.out] at e3 hr3; subst e3; have HR3 := Lib.hid hr3; have HN3 := Lib.hid hn3; clear ho3 hb3 hr3 hn3)
    | (go_loud (refine Ob.wp_apd rfl (.tmp 15) (.tmp 16) rfl w3.heap.size _ [] rfl (Ob.own_made w3 (Nat.le_refl _)) a3 8 c3 Fr0 rfl (HR3.out.keep ((Below.refl _ _).alloc (Nat.le_refl _) _)) HN3.out G1.out.2.1 (by simp) ?_); intro v4 w4 ho4 hb4; rw [List.nil_append, T8.out.1] at ho4; have HO4 := Lib.hid ho4; have HB4 := Lib.hid (((Below.refl _ _).alloc (Nat.le_refl _) _).trans hb4); clear ho4 hb4)
    | (go_loud (refine Ob.wp_apd rfl (.tmp 17) (.tmp 18) rfl w3.heap.size v4 Fr0 rfl HO4.out a len cap L rfl (RL.out _ (HB3.out.trans (HB4.out.mono HB3.out.size))) HN.out G1.out.2.2.1 HB4.out.size ?_); intro v5 w5 ho5 hb5; rw [T8.out.2.2.1] at ho5; obtain ⟨a5, c5, e5, hr5, _, _, _⟩ := Ob.own_row ho5; rw [T8.out.2.2.2] at e5 hr5; subst e5; have HR5 := Lib.hid hr5; have HB5 := Lib.hid (HB4.out.trans hb5); clear ho5 hb5 hr5))
  have CR : Hid (Calls Tryz.prog 46 #[.slice a5 (8 + len) c5] w5 fun e w' => e = .returned (.int .u32 (crcN ((Fr0 ++ L).take (8 + len)) : Int)) ∧ w5 = w') := Lib.hid (rcrc_any a5 (8 + len) c5 (Fr0 ++ L) w5 (bytes_append BF.out BL.out) HR5.out)
  have e8 : (Fr0 ++ L).take (8 + len) = Fr0 ++ L := by rw [← T8.out.2.2.2, List.take_length]
  rw [e8, HCC.out] at CR
  refine CR.out.mono ?_
  rintro e w6 ⟨rfl, rfl⟩
  clear CR HR5
  go_wp2_with fail
  refine (F3.out w5).mono ?_
  rintro e w7 ⟨v7, rfl, ho7, hb7⟩
  obtain ⟨a7, c7, rfl, hr7, hn7, _, _⟩ := Ob.own_row ho7
  have HR7 := Lib.hid hr7
  have HB7 := Lib.hid (HB5.out.trans (hb7.mono HB5.out.size))
  have HO7 := Lib.hid (Ob.own_keep HO3.out HB7.out)
  have HW7 := Lib.hid (HB3.out.trans (HB7.out.mono HB3.out.size))
  clear ho7 hb7 hr7
  go_wp2_with (at_builtin; first
    | (go_loud (refine Ob.wp_apd rfl (.tmp 21) (.tmp 23) rfl w.heap.size _ Fr0 rfl HO7.out a7 4 c7 (le4 c) rfl HR7.out hn7 G1.out.2.2.2.1 HW7.out.size ?_); intro v8 w8 ho8 hb8; have HO8 := Lib.hid ho8; have HW8 := Lib.hid (HW7.out.trans hb8); clear ho8 hb8)
    | (go_loud (refine Ob.wp_apd rfl (.tmp 24) (.tmp 25) rfl w.heap.size v8 _ rfl HO8.out a len cap L rfl (RL.out _ HW8.out) HN.out G1.out.2.2.2.2 HW8.out.size ?_); intro v9 w9 ho9 hb9; have HO9 := Lib.hid ho9; have HW9 := Lib.hid (HW8.out.trans hb9); clear ho9 hb9))
  go_ret
  refine ⟨_, rfl, ?_, HW9.out⟩
  have := HO9.out
  rw [T8.out.2.1, T8.out.2.2.1] at this
  rw [HE.out, HCC.out, ← List.append_assoc]
  exact this
end Go.Proofs.YtdonkmkjblofpaaGreatDoor.Sn

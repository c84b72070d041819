/-
  Layer 6: the reference; the law on what is done. (Packed by gen_mp.py out of Nu, Nv, Nw, Fl, Mo, Ma, Mb, Mc, Md, Me, Mf, Mg, Mh.)
-/
import Derived.Test.YtdonkmkjblofpaaGreatDoorNQ
import Derived.Test.YtdonkmkjblofpaaGreatDoorWo
import Derived.Test.YtdonkmkjblofpaaGreatDoorWs
import Derived.Test.YtdonkmkjblofpaaGreatDoorKn
import Derived.Test.YtdonkmkjblofpaaGreatDoorSa
import Derived.Deep.Matrix
import Derived.Deep.Grids
import Derived.Test.YtdonkmkjblofpaaGreatDoorChecked
import Derived.Test.YtdonkmkjblofpaaGreatDoorLQ
import Derived.Deep.RegionHeld3
/-! ## Nu -/
namespace Go.Proofs.YtdonkmkjblofpaaGreatDoor.Sn
open Go.RowKit Go.Sort Dx Sx Dk Wl
set_option linter.unusedVariables false
set_option linter.unusedSimpArgs false
set_option maxRecDepth 100000 in
theorem four6_any (n : Nat) (w : World) : Calls Tryz.prog 53 #[.int .u32 (n : Int)] w (CatIt w (le4 n)) := by
  have D : Hid (∃ v, Ending.returned (.slice (some ⟨w.heap.size, 0, none⟩) 4 4) = .returned v ∧ Ob.OwnB (w.alloc (.cells #[.int .u8 ((n : Int) % 256), .int .u8 ((n : Int) / 256 % 256), .int .u8 ((n : Int) / 65536 % 256), .int .u8 ((n : Int) / 16777216 % 256)] 5)) w.heap.size v (le4 n) ∧ Below w.heap.size w (w.alloc (.cells #[.int .u8 ((n : Int) % 256), .int .u8 ((n : Int) / 256 % 256), .int .u8 ((n : Int) / 65536 % 256), .int .u8 ((n : Int) / 16777216 % 256)] 5))) := Lib.hid ⟨_, rfl, by
    have := own_lit w (le4I (n : Int)) (Nat.le_refl _) (by show 4 ≤ maxLen; decide)
    rw [le4_int] at this
    rw [← le4_int] at this ⊢
    exact this, (Below.refl _ _).alloc (Nat.le_refl _) _⟩
  go_enter Tryz.func53, Tryz.ntmps53
  go_wp2
  go_ret
  exact D.out
theorem rname6_no (x : Int) (w : World) (h : x < 0 ∨ 999999999 < x) : Calls Tryz.prog 19 #[.int .i64 x] w fun e w' => e = .returned (.string ByteArray.empty) ∧ w = w' := by
  by_cases h1 : x < 0
  · go_enter Tryz.func19, Tryz.ntmps19
    go_wp2
    go_ret
    exact ⟨rfl, rfl⟩
  · have h2 : 999999999 < x := by omega
    clear h
    go_enter Tryz.func19, Tryz.ntmps19
    go_wp2
    go_ret
    exact ⟨rfl, rfl⟩
set_option maxRecDepth 100000 in
set_option maxHeartbeats 1600000 in
theorem rname6_some (m : Nat) (h2 : m ≤ 999999999) (w : World) : Calls Tryz.prog 19 #[.int .i64 (m : Int)] w fun e w' => e = .returned (.string (bs (lettN 115 m))) ∧ Below w.heap.size w w' := by
  have t1 : decide ((m : Int) < 0) = false := by rw [decide_eq_false_iff_not]; omega
  have t2 : decide ((999999999 : Int) < (m : Int)) = false := by rw [decide_eq_false_iff_not]; omega
  have hlast : ({ data := #[115] } : ByteArray) ++ bs (low 9 m) = bs (lettN 115 m) := bs_app [115] _
  obtain ⟨T, hT⟩ : ∃ T, bs (lettN 115 m) = T := ⟨_, rfl⟩
  have LAST := Lib.hid hlast
  rw [hT] at LAST ⊢
  clear hlast hT
  go_enter Tryz.func19, Tryz.ntmps19
  go_wp2
  go_loopg [0, 3, 4] 9 (fun g y o i wr => ∃ (k : Nat), k + g = 9 ∧ y = .int .i64 ((m / 10 ^ k : Nat) : Int) ∧ o = .string (bs (low k m)) ∧ i = .int .i64 (k : Int) ∧ Hid (Below w.heap.size w wr))
  case atStart => exact ⟨0, by omega, by simp, rfl, rfl, Lib.hid (Below.refl _ _)⟩
  case round =>
    obtain ⟨k, hg, rfl, rfl, rfl, hb⟩ := hrel
    by_cases hk : k < 9
    · have hcat : bs [dgt (m / 10 ^ k % 10)] ++ bs (low k m) = bs (low (k + 1) m) := by rw [bs_app, low_cons]; rfl
      have hS : (bs (low k m)).size ≤ 9 := by rw [bs_size, low_length]; omega
      have hdv : m / 10 ^ (k + 1) = m / 10 ^ k / 10 := by rw [Nat.div_div_eq_div_mul, Nat.pow_succ]
      obtain ⟨y, hy⟩ : ∃ y, m / 10 ^ k = y := ⟨_, rfl⟩
      have hyb : y ≤ 999999999 := by rw [← hy]; exact Nat.le_trans (Nat.div_le_self _ _) h2
      rw [hy] at hcat hdv ⊢
      obtain ⟨R, hR⟩ : ∃ R, y % 10 = R := ⟨_, rfl⟩
      obtain ⟨Q, hQ⟩ : ∃ Q, y / 10 = Q := ⟨_, rfl⟩
      have hyr : (y : Int) % 10 = (R : Int) := by omega
      have hyl : R < 10 := by omega
      have hyq : (y : Int) / 10 = (Q : Int) := by omega
      rw [hQ] at hdv
      rw [hR] at hcat
      have hDs : (bs [dgt R]).size = 1 := rfl
      generalize bs (low k m) = S0 at hS hcat ⊢
      obtain ⟨S', hS'⟩ : ∃ S', bs (low (k + 1) m) = S' := ⟨_, rfl⟩
      rw [hS'] at hcat
      have HS := Lib.hid hS'; have HD := Lib.hid hdv
      clear hS' hdv hy hR hQ
      have tk : decide ((k : Int) < 9) = true := by rw [decide_eq_true_eq]; omega
      have cv := conv1 wr R hyl
      go_wp2
      go_roundg (gk - 1)
      case measure => omega
      case rel => exact ⟨k + 1, by omega, by rw [HD.out], by rw [HS.out], by go_num, Lib.hid (hb.out.alloc hb.out.size _)⟩
    · have hk9 : k = 9 := by omega
      subst hk9
      have tk : decide (((9 : Nat) : Int) < 9) = false := by decide
      have hS : (bs (low 9 m)).size = 9 := by rw [bs_size, low_length]
      have LAST := LAST.out
      generalize bs (low 9 m) = S0 at hS LAST ⊢
      go_wp2
      go_ret
      exact ⟨rfl, hb.out⟩
theorem rname6_any (v : Int) (w : World) : Calls Tryz.prog 19 #[.int .i64 v] w fun e w' => e = .returned (.string (bs (snm v))) ∧ Below w.heap.size w w' := by
  by_cases h : 0 ≤ v ∧ v ≤ 999999999
  · obtain ⟨n, rfl⟩ := Int.eq_ofNat_of_zero_le h.1
    rw [snm_nat (by omega)]
    exact rname6_some n (by omega) w
  · rw [snm_none (by omega)]
    refine (rname6_no v w (by omega)).mono ?_
    rintro e w' ⟨rfl, rfl⟩
    exact ⟨rfl, Below.refl _ _⟩
set_option maxRecDepth 100000 in
set_option maxHeartbeats 1600000 in
theorem rencode_any (v : Int) (a : Option Addr) (len cap : Nat) (zs : List Int) (w : World) (hb : Bytes zs) (hrow : Fr.HasRow .u8 w a len zs) (hn : a = none → cap = 0) (h : len ≤ 140737488351232) :
    Calls Tryz.prog 22 #[.int .i64 v, .slice a len cap] w (CatIt w (encN (u32N v) (zs.take len))) := by
  have hzl : (zs.take len).length = len := by rw [List.length_take]; have := hrow.1; omega
  have HR := Lib.hid hrow
  obtain ⟨L, hL⟩ : ∃ L, zs.take len = L := ⟨_, rfl⟩
  rw [hL] at hzl ⊢
  have BL : Hid (Bytes L) := Lib.hid (by rw [← hL]; exact bytes_take hb len)
  have RL : Hid (∀ wx, Below w.heap.size w wx → Fr.HasRow .u8 wx a len L) := Lib.hid fun wx hx => by
    have := row_take (hrow.keep hx) (Nat.le_refl len)
    rw [hL] at this; exact this
  have u1 := u32N_wrap v
  obtain ⟨u, hu⟩ : ∃ u, u32N v = u := ⟨_, rfl⟩
  rw [hu] at u1 ⊢
  obtain ⟨u2, hq4⟩ := enc_wrap len
  obtain ⟨q, hq⟩ : ∃ q, len % 4294967296 = q := ⟨_, rfl⟩
  rw [hq] at u2 hq4
  have HQ : Hid (le4 q = le4 len) := Lib.hid (by rw [← hq]; exact le4_mod len)
  have HZL := Lib.hid hzl
  have F1 := Lib.hid (four6_any u w)
  have F2 := Lib.hid (four6_any q)
  have HN := Lib.hid hn
  clear hb hrow hn hzl hL hu hq hq4
  go_enter Tryz.func22, Tryz.ntmps22
  go_wp2_with fail
  refine F1.out.mono ?_
  rintro e w1 ⟨v1, rfl, ho1, hb1⟩
  have HO1 := Lib.hid ho1; have HB1 := Lib.hid hb1
  clear ho1 hb1
  go_wp2_with fail
  refine (F2.out w1).mono ?_
  rintro e w2 ⟨v2, rfl, ho2, hb2⟩
  obtain ⟨a2, c2, rfl, hr2, hn2, _, _⟩ := Ob.own_row ho2
  have HR2 := Lib.hid hr2
  have HO2 := Lib.hid (Ob.own_keep HO1.out hb2)
  have HB2 := Lib.hid (HB1.out.trans (hb2.mono HB1.out.size))
  clear ho2 hb2 hr2
  have e1 : le4 u ++ (le4 q).take 4 = frontN u L.length := by unfold frontN; rw [HZL.out, ← HQ.out]; rfl
  have E1 := Lib.hid e1
  obtain ⟨Fr0, hFr⟩ : ∃ F, frontN u L.length = F := ⟨_, rfl⟩
  have hF8 : Fr0.length = 8 := by rw [← hFr]; rfl
  have BF : Hid (Bytes Fr0) := Lib.hid (by rw [← hFr]; exact bytes_front _ _)
  have HE : Hid (encN u L = Fr0 ++ (le4 (crcN (Fr0 ++ L)) ++ L)) := Lib.hid (by unfold encN; rw [hFr])
  rw [hFr] at E1
  have HF8 := Lib.hid hF8
  obtain ⟨c, hc⟩ : ∃ c, crcN (Fr0 ++ L) = c := ⟨_, rfl⟩
  have HCC := Lib.hid hc
  have F3 := Lib.hid (four6_any c)
  have G1 : Hid ((le4 u).length + 4 ≤ 140737488355328 ∧ ([] : List Int).length + 8 ≤ 140737488355328 ∧ Fr0.length + len ≤ 140737488355328 ∧ Fr0.length + 4 ≤ 140737488355328 ∧ (Fr0 ++ (le4 c).take 4).length + len ≤ 140737488355328) := Lib.hid ⟨by rw [le4_length]; omega, by simp, by omega, by omega, by rw [List.length_append, hF8]; simp [le4]; omega⟩
  have T8 : Hid (Fr0.take 8 = Fr0 ∧ (le4 c).take 4 = le4 c ∧ L.take len = L ∧ (Fr0 ++ L).length = 8 + len) := Lib.hid ⟨by rw [← hF8, List.take_length], rfl, by rw [← HZL.out, List.take_length], by rw [List.length_append, hF8, HZL.out]⟩
  clear e1 hFr hF8 hc
  go_wp2_with (at_builtin; first
    | (go_loud (refine Ob.wp_apd rfl (.tmp 9) (.tmp 13) rfl w.heap.size v1 _ rfl HO2.out a2 4 c2 (le4 q) rfl HR2.out hn2 G1.out.1 HB2.out.size ?_); intro v3 w3 ho3 hb3; rw [E1.out] at ho3; have HO3 := Lib.hid ho3; have HB3 := Lib.hid (HB2.out.trans hb3); obtain ⟨a3, c3, e3, hr3, hn3, _, _⟩ := Ob.own_row ho3; rw [HF8.out] at e3 hr3; subst e3; have HR3 := Lib.hid hr3; have HN3 := Lib.hid hn3; clear ho3 hb3 hr3 hn3)
    | (go_loud (refine Ob.wp_apd rfl (.tmp 15) (.tmp 16) rfl w3.heap.size _ [] rfl (Ob.own_made w3 (Nat.le_refl _)) a3 8 c3 Fr0 rfl (HR3.out.keep ((Below.refl _ _).alloc (Nat.le_refl _) _)) HN3.out G1.out.2.1 (by simp) ?_); intro v4 w4 ho4 hb4; rw [List.nil_append, T8.out.1] at ho4; have HO4 := Lib.hid ho4; have HB4 := Lib.hid (((Below.refl _ _).alloc (Nat.le_refl _) _).trans hb4); clear ho4 hb4)
    | (go_loud (refine Ob.wp_apd rfl (.tmp 17) (.tmp 18) rfl w3.heap.size v4 Fr0 rfl HO4.out a len cap L rfl (RL.out _ (HB3.out.trans (HB4.out.mono HB3.out.size))) HN.out G1.out.2.2.1 HB4.out.size ?_); intro v5 w5 ho5 hb5; rw [T8.out.2.2.1] at ho5; obtain ⟨a5, c5, e5, hr5, _, _, _⟩ := Ob.own_row ho5; rw [T8.out.2.2.2] at e5 hr5; subst e5; have HR5 := Lib.hid hr5; have HB5 := Lib.hid (HB4.out.trans hb5); clear ho5 hb5 hr5))
  have CR : Hid (Calls Tryz.prog 46 #[.slice a5 (8 + len) c5] w5 fun e w' => e = .returned (.int .u32 (crcN ((Fr0 ++ L).take (8 + len)) : Int)) ∧ w5 = w') := Lib.hid (rcrc_any a5 (8 + len) c5 (Fr0 ++ L) w5 (bytes_append BF.out BL.out) HR5.out)
  have e8 : (Fr0 ++ L).take (8 + len) = Fr0 ++ L := by rw [← T8.out.2.2.2, List.take_length]
  rw [e8, HCC.out] at CR
  refine CR.out.mono ?_
  rintro e w6 ⟨rfl, rfl⟩
  clear CR HR5
  go_wp2_with fail
  refine (F3.out w5).mono ?_
  rintro e w7 ⟨v7, rfl, ho7, hb7⟩
  obtain ⟨a7, c7, rfl, hr7, hn7, _, _⟩ := Ob.own_row ho7
  have HR7 := Lib.hid hr7
  have HB7 := Lib.hid (HB5.out.trans (hb7.mono HB5.out.size))
  have HO7 := Lib.hid (Ob.own_keep HO3.out HB7.out)
  have HW7 := Lib.hid (HB3.out.trans (HB7.out.mono HB3.out.size))
  clear ho7 hb7 hr7
  go_wp2_with (at_builtin; first
    | (go_loud (refine Ob.wp_apd rfl (.tmp 21) (.tmp 23) rfl w.heap.size _ Fr0 rfl HO7.out a7 4 c7 (le4 c) rfl HR7.out hn7 G1.out.2.2.2.1 HW7.out.size ?_); intro v8 w8 ho8 hb8; have HO8 := Lib.hid ho8; have HW8 := Lib.hid (HW7.out.trans hb8); clear ho8 hb8)
    | (go_loud (refine Ob.wp_apd rfl (.tmp 24) (.tmp 25) rfl w.heap.size v8 _ rfl HO8.out a len cap L rfl (RL.out _ HW8.out) HN.out G1.out.2.2.2.2 HW8.out.size ?_); intro v9 w9 ho9 hb9; have HO9 := Lib.hid ho9; have HW9 := Lib.hid (HW8.out.trans hb9); clear ho9 hb9))
  go_ret
  refine ⟨_, rfl, ?_, HW9.out⟩
  have := HO9.out
  rw [T8.out.2.1, T8.out.2.2.1] at this
  rw [HE.out, HCC.out, ← List.append_assoc]
  exact this
end Go.Proofs.YtdonkmkjblofpaaGreatDoor.Sn
/-! ## Nv -/
namespace Go.Proofs.YtdonkmkjblofpaaGreatDoor.Sn
open Go.RowKit Go.Sort Dx Sx Dk Wl
set_option linter.unusedVariables false
set_option linter.unusedSimpArgs false
theorem str_ext {a b : ByteArray} (h : (a.toList == b.toList) = true) : a = b := by
  have := eq_of_beq h
  rw [ByteArray.toList_eq, ByteArray.toList_eq] at this
  exact ByteArray.ext (Array.toList_inj.1 this)
theorem le4_inj {a b : Nat} (ha : a < 4294967296) (hb : b < 4294967296) (h : le4 a = le4 b) : a = b := by
  have h1 := num4_le4 ha []
  have h2 := num4_le4 hb []
  rw [h, h2] at h1; exact h1.symm
theorem four_iff {zs : List Int} (hb : Bytes zs) (h : 4 ≤ zs.length) {u : Nat} (hu : u < 4294967296) : le4 u = zs.take 4 ↔ num4 zs = u := by
  rw [← le4_num4 hb h]
  exact ⟨fun e => (le4_inj hu (num4_lt hb) e).symm, fun e => by rw [e]⟩
theorem split4 (zs : List Int) : zs = zs.take 8 ++ ((zs.drop 8).take 4 ++ zs.drop 12) := by
  have h1 : zs.drop 12 = (zs.drop 8).drop 4 := by rw [List.drop_drop]
  rw [h1, List.take_append_drop, List.take_append_drop]
theorem enc_iff {zs : List Int} (hb : Bytes zs) (h12 : 12 ≤ zs.length) {u : Nat} (h1 : num4 zs = u) (h2 : num4 (zs.drop 4) = (zs.drop 12).length) :
    encN u (zs.drop 12) = zs ↔ num4 (zs.drop 8) = crcN (zs.take 8 ++ zs.drop 12) := by
  have a1 := le4_num4 hb (by omega : 4 ≤ zs.length)
  have a2 := le4_num4 (bytes_drop hb 4) (by rw [List.length_drop]; omega)
  have a3 := le4_num4 (bytes_drop hb 8) (by rw [List.length_drop]; omega)
  have hf : frontN u (zs.drop 12).length = zs.take 8 := by
    unfold frontN
    rw [← h1, ← h2, a1, a2, ← List.take_add]
  unfold encN
  rw [hf]
  have hs := split4 zs
  constructor
  · intro h
    have h' := h.trans hs
    have e := (List.append_inj h' rfl).2
    have e2 := (List.append_inj e (by rw [le4_length, List.length_take, List.length_drop]; omega)).1
    rw [← a3] at e2
    exact (le4_inj (crcN_lt _) (num4_lt (bytes_drop hb 8)) e2).symm
  · intro h
    rw [← h, a3]
    exact hs.symm
theorem rdec_short (v : Int) (a : Option Addr) (len cap : Nat) (zs : List Int) (w : World) (hm : len ≤ 9223372036854775807) (hl : zs.length = len) (h : len < 12) :
    Calls Tryz.prog 17 #[.int .i64 v, .slice a len cap] w (DecIt w v zs) := by
  have D : Hid (DecIt w v zs (.returned (.tuple #[.slice none 0 0, .int .i64 10])) w) := Lib.hid (dec_err (by unfold decS; rw [if_pos (by omega)]) (Below.refl _ _))
  have t1 : decide ((len : Int) < 12) = true := by rw [decide_eq_true_eq]; omega
  have t2 : (len : Int) < 12 := by omega
  go_enter Tryz.func17, Tryz.ntmps17
  go_wp2
  go_ret2
  exact D.out
set_option maxRecDepth 100000 in
set_option maxHeartbeats 1600000 in
theorem rdec_main (v : Int) (b off len cap : Nat) (zs : List Int) (w : World) (hb : Bytes zs) (hrow : Fr.HasRow .u8 w (some ⟨b, off, none⟩) len zs) (hl : zs.length = len) (h12 : 12 ≤ len) (hcap : len ≤ cap) (hcm : cap ≤ 9223372036854775807) (hbig : len ≤ 140737488351232) :
    Calls Tryz.prog 17 #[.int .i64 v, .slice (some ⟨b, off, none⟩) len cap] w (DecIt w v zs) := by
  obtain ⟨M, hM⟩ : ∃ M, len = M + 12 := ⟨len - 12, by omega⟩
  have hbl : (zs.drop 12).length = M := by rw [List.length_drop]; omega
  have row4 : Fr.HasRow .u8 w (some ⟨b, off + 4, none⟩) (M + 8) (zs.drop 4) := row_drop (M := M + 8) (k := 4) (by have := hrow; rwa [hM] at this)
  obtain ⟨x0, x1, x2, x3, F⟩ := four_of row4 (by omega) (bytes_drop hb 4)
  have hD : decS v zs = (if M < num4 (zs.drop 4) then ([], 10) else if num4 (zs.drop 4) < M ∨ snm v = [] ∨ num4 zs ≠ u32N v then ([], 11) else if num4 (zs.drop 8) ≠ crcN (zs.take 8 ++ zs.drop 12) then ([], 12) else (zs.drop 12, 0)) := by
    unfold decS
    rw [if_neg (by omega), hbl]
  have h4i := four_iff hb (by omega) (u32N_lt v)
  have hei : num4 zs = u32N v → num4 (zs.drop 4) = M → (encN (u32N v) (zs.drop 12) = zs ↔ num4 (zs.drop 8) = crcN (zs.take 8 ++ zs.drop 12)) := fun h1 h2 => enc_iff hb (by omega) h1 (by rw [h2, hbl])
  have hN32 := num4_lt (bytes_drop hb 4)
  obtain ⟨N, hN⟩ : ∃ N, num4 (zs.drop 4) = N := ⟨_, rfl⟩
  rw [hN] at hD hei hN32 F
  have cu := u32N_wrap v
  obtain ⟨u, hu⟩ : ∃ u, u32N v = u := ⟨_, rfl⟩
  rw [hu] at cu hD h4i hei
  obtain ⟨c0, c1, c2, c3, v0, v1, v2, v3, m1, m2, m3, s1, s2, s3⟩ := F
  have c1' : w.cell? ⟨b, off + 5, none⟩ = some (.int .u8 x1) := c1
  have c2' : w.cell? ⟨b, off + 6, none⟩ = some (.int .u8 x2) := c2
  have c3' : w.cell? ⟨b, off + 7, none⟩ = some (.int .u8 x3) := c3
  clear c1 c2 c3
  have t0 : decide ((len : Int) < 12) = false := by rw [decide_eq_false_iff_not]; omega
  have i4 : (4 : Int) < (len : Int) := by omega
  have i5 : (5 : Int) < (len : Int) := by omega
  have i6 : (6 : Int) < (len : Int) := by omega
  have i7 : (7 : Int) < (len : Int) := by omega
  have wl : IntKind.i64.wrap ((len : Int) - 12) = (M : Int) := by rw [IntWalk.i64_in _ (by omega)]; omega
  have HU := Lib.hid hu
  have HD := Lib.hid hD; have H4 := Lib.hid h4i; have HE := Lib.hid hei; have HM := Lib.hid hM; have HR := Lib.hid hrow; have HB := Lib.hid hb; have HL := Lib.hid hl; have HBL := Lib.hid hbl
  clear hD h4i hei hM hrow hb hl hbl row4 hN hu
  by_cases p1 : M < N
  · have t1 : decide (M < N) = true := decide_eq_true p1
    have t1' : decide ((N : Int) > (M : Int)) = true := by rw [decide_eq_true_eq]; omega
    have D : Hid (∀ w', Below w.heap.size w w' → DecIt w v zs (.returned (.tuple #[.slice none 0 0, .int .i64 10])) w') := Lib.hid fun w' hb => dec_err (by rw [HD.out, if_pos p1]) hb
    clear p1
    go_enter Tryz.func17, Tryz.ntmps17
    go_wp2_with fail
    go_quiet (fail)
    go_wp2_with fail
    go_ret2
    exact D.out _ (bel_dn (Below.refl _ _) _)
  have t1 : decide (M < N) = false := decide_eq_false p1
  have t1' : decide ((N : Int) > (M : Int)) = false := by rw [decide_eq_false_iff_not]; omega
  by_cases p2 : N < M ∨ v < 0 ∨ 999999999 < v
  · have D : Hid (∀ w', Below w.heap.size w w' → DecIt w v zs (.returned (.tuple #[.slice none 0 0, .int .i64 11])) w') := Lib.hid fun w' hb => dec_err (by rw [HD.out, if_neg p1, if_pos (by rcases p2 with h | h; exact .inl h; exact .inr (.inl (snm_none h)))]) hb
    have tt : decide (N < M) = true ∨ (decide (N < M) = false ∧ decide (v < 0) = true) ∨ (decide (N < M) = false ∧ decide (v < 0) = false ∧ decide (v > 999999999) = true) := by
      by_cases q1 : N < M
      · exact .inl (decide_eq_true q1)
      · by_cases q2 : v < 0
        · exact .inr (.inl ⟨decide_eq_false q1, decide_eq_true q2⟩)
        · exact .inr (.inr ⟨decide_eq_false q1, decide_eq_false q2, by rw [decide_eq_true_eq]; omega⟩)
    clear p1 p2
    rcases tt with t2 | ⟨t2, t3⟩ | ⟨t2, t3, t4⟩
    all_goals
      go_enter Tryz.func17, Tryz.ntmps17
      go_wp2_with fail
      go_quiet (fail)
      go_wp2_with fail
      go_quiet (fail)
      go_wp2_with fail
      go_ret2
      exact D.out _ (bel_dn (bel_dn (Below.refl _ _) _) _)
  have t2 : decide (N < M) = false := decide_eq_false (by omega)
  have t3 : decide (v < 0) = false := decide_eq_false (by omega)
  have t4 : decide (v > 999999999) = false := decide_eq_false (by omega)
  have hs : snm v ≠ [] := fun h => by
    obtain ⟨n, rfl⟩ := Int.eq_ofNat_of_zero_le (show 0 ≤ v by omega)
    rw [snm_nat (by omega)] at h
    cases h
  have eNM : N = M := by omega
  have F1 := Lib.hid (four6_any u)
  have row4 : Fr.HasRow .u8 w (some ⟨b, off, none⟩) 4 (zs.take 4) := row_take HR.out (by omega)
  have kcB : ∀ wx, Below w.heap.size w wx → (convert 22 9 (.slice (some ⟨b, off, none⟩) 4 cap)).run Tryz.prog wx = .ok (.string (strOfNums (zs.take 4))) wx := fun wx h => by
    have := conv_at (cap := cap) (row4.keep h)
    rwa [List.take_take, Nat.min_self] at this
  have j4 : (4 : Int) ≤ (cap : Int) := by omega
  obtain ⟨qe, hqe⟩ : ∃ qe, ((strOfNums (le4 u)).toList == (strOfNums (zs.take 4)).toList) = qe := ⟨_, rfl⟩
  have HQ4 := Lib.hid hqe
  clear hqe
  have F1' : Hid (∀ wx, Below w.heap.size w wx → Calls Tryz.prog 53 #[.int .u32 (u : Int)] wx fun e w' => ∃ a1 c1, e = .returned (.slice a1 4 c1) ∧ Fr.HasRow .u8 w' a1 4 (le4 u) ∧ Below w.heap.size w w') := Lib.hid fun wx hx => (F1.out wx).mono fun e w' ⟨v1, h1, h2, h3⟩ => by
    obtain ⟨a1, c1, rfl, hr, _⟩ := Ob.own_row h2
    exact ⟨a1, c1, h1, hr, hx.trans (h3.mono hx.size)⟩
  have A4 : Hid (∀ wx a1 c1, Fr.HasRow .u8 wx a1 4 (le4 u) → (convert 22 9 (.slice a1 4 c1)).run Tryz.prog wx = .ok (.string (strOfNums (le4 u))) wx) := Lib.hid fun wx a1 c1 h => conv_at (cap := c1) h
  have hq := HQ4.out
  clear p1 p2 row4
  subst eNM
  go_enter Tryz.func17, Tryz.ntmps17
  go_wp2_with fail
  go_quiet (fail)
  go_wp2_with fail
  clear c0 c1' c2' c3' v0 v1 v2 v3 m1 m2 m3 s1 s2 s3
  have hbq : Below w.heap.size w (w.drewN nq).drew := (bel_dn (Below.refl _ _) _).drew
  refine wp_region_noPanic ?_
  refine wp_region_held_drew (S := fun wx => Below w.heap.size w wx) (by kernel_rfl) hbq (fun hHeld => ?_)
  generalize (w.drewN nq).drew = wq at hbq hHeld ⊢
  -- the drawn region, by hand (gen_rdec.py)
  refine Wl.takeL (i := 0) (v := .int .i64 (N : Int)) rfl (by kernel_rfl) (by kernel_rfl) (by kernel_rfl) (fun _ _ _ h => h) (Or.inl ⟨by rfl, ?_⟩) hHeld ?_
  · intro w hSw
    (try dsimp only at hSw)
    go_simp
  (try simp only [Act.put, List.setIfInBounds_toArray, List.set_cons_zero, List.set_cons_succ])
  refine Wl.takeL (i := 1) (v := .slice (some ⟨b, off, none⟩) len cap) rfl (by kernel_rfl) (by kernel_rfl) (by kernel_rfl) (fun _ _ _ h => h) (Or.inl ⟨by rfl, ?_⟩) hHeld ?_
  · intro w hSw
    (try dsimp only at hSw)
    go_simp
  (try simp only [Act.put, List.setIfInBounds_toArray, List.set_cons_zero, List.set_cons_succ])
  refine Wl.takeL (i := 2) (v := .int .i64 (len : Int)) rfl (by kernel_rfl) (by kernel_rfl) (by kernel_rfl) (fun _ _ _ h => h) (Or.inl ⟨by rfl, ?_⟩) hHeld ?_
  · intro w hSw
    (try dsimp only at hSw)
    go_simp
  (try simp only [Act.put, List.setIfInBounds_toArray, List.set_cons_zero, List.set_cons_succ])
  refine Wl.takeL (i := 3) (v := .int .i64 (N : Int)) rfl (by kernel_rfl) (by kernel_rfl) (by kernel_rfl) (fun _ _ _ h => h) (Or.inl ⟨by rfl, ?_⟩) hHeld ?_
  · intro w hSw
    (try dsimp only at hSw)
    go_simp
  (try simp only [Act.put, List.setIfInBounds_toArray, List.set_cons_zero, List.set_cons_succ])
  refine Wl.takeL (i := 4) (v := .bool false) rfl (by kernel_rfl) (by kernel_rfl) (by kernel_rfl) (fun _ _ _ h => h) (Or.inl ⟨by rfl, ?_⟩) hHeld ?_
  · intro w hSw
    (try dsimp only at hSw)
    go_simp
  (try simp only [Act.put, List.setIfInBounds_toArray, List.set_cons_zero, List.set_cons_succ])
  refine Wl.takeL (i := 5) (v := .bool false) rfl (by kernel_rfl) (by kernel_rfl) (by kernel_rfl) (fun _ _ _ h => h) (Or.inl ⟨by rfl, ?_⟩) hHeld ?_
  · intro w hSw
    (try dsimp only at hSw)
    go_simp
  (try simp only [Act.put, List.setIfInBounds_toArray, List.set_cons_zero, List.set_cons_succ])
  refine Wl.takeL (i := 6) (v := .int .i64 v) rfl (by kernel_rfl) (by kernel_rfl) (by kernel_rfl) (fun _ _ _ h => h) (Or.inl ⟨by rfl, ?_⟩) hHeld ?_
  · intro w hSw
    (try dsimp only at hSw)
    go_simp
  (try simp only [Act.put, List.setIfInBounds_toArray, List.set_cons_zero, List.set_cons_succ])
  refine Wl.takeL (i := 7) (v := .bool false) rfl (by kernel_rfl) (by kernel_rfl) (by kernel_rfl) (fun _ _ _ h => h) (Or.inl ⟨by rfl, ?_⟩) hHeld ?_
  · intro w hSw
    (try dsimp only at hSw)
    go_simp
  (try simp only [Act.put, List.setIfInBounds_toArray, List.set_cons_zero, List.set_cons_succ])
  refine Wl.takeL (i := 8) (v := .bool false) rfl (by kernel_rfl) (by kernel_rfl) (by kernel_rfl) (fun _ _ _ h => h) (Or.inl ⟨by rfl, ?_⟩) hHeld ?_
  · intro w hSw
    (try dsimp only at hSw)
    go_simp
  (try simp only [Act.put, List.setIfInBounds_toArray, List.set_cons_zero, List.set_cons_succ])
  refine Wl.takeL (i := 9) (v := .bool false) rfl (by kernel_rfl) (by kernel_rfl) (by kernel_rfl) (fun _ _ _ h => h) (Or.inl ⟨by rfl, ?_⟩) hHeld ?_
  · intro w hSw
    (try dsimp only at hSw)
    go_simp
  (try simp only [Act.put, List.setIfInBounds_toArray, List.set_cons_zero, List.set_cons_succ])
  refine Wl.takeL (i := 10) (v := .int .i64 v) rfl (by kernel_rfl) (by kernel_rfl) (by kernel_rfl) (fun _ _ _ h => h) (Or.inl ⟨by rfl, ?_⟩) hHeld ?_
  · intro w hSw
    (try dsimp only at hSw)
    go_simp
  (try simp only [Act.put, List.setIfInBounds_toArray, List.set_cons_zero, List.set_cons_succ])
  refine Wl.takeL (i := 11) (v := .bool false) rfl (by kernel_rfl) (by kernel_rfl) (by kernel_rfl) (fun _ _ _ h => h) (Or.inl ⟨by rfl, ?_⟩) hHeld ?_
  · intro w hSw
    (try dsimp only at hSw)
    go_simp
  (try simp only [Act.put, List.setIfInBounds_toArray, List.set_cons_zero, List.set_cons_succ])
  refine Wl.takeL (i := 12) (v := .bool false) rfl (by kernel_rfl) (by kernel_rfl) (by kernel_rfl) (fun _ _ _ h => h) (Or.inl ⟨by rfl, ?_⟩) hHeld ?_
  · intro w hSw
    (try dsimp only at hSw)
    go_simp
  (try simp only [Act.put, List.setIfInBounds_toArray, List.set_cons_zero, List.set_cons_succ])
  refine Wl.takeL (i := 13) (v := .bool false) rfl (by kernel_rfl) (by kernel_rfl) (by kernel_rfl) (fun _ _ _ h => h) (Or.inl ⟨by rfl, ?_⟩) hHeld ?_
  · intro w hSw
    (try dsimp only at hSw)
    go_simp
  (try simp only [Act.put, List.setIfInBounds_toArray, List.set_cons_zero, List.set_cons_succ])
  refine Wl.takeL (i := 14) (v := .int .i64 v) rfl (by kernel_rfl) (by kernel_rfl) (by kernel_rfl) (fun _ _ _ h => h) (Or.inl ⟨by rfl, ?_⟩) hHeld ?_
  · intro w hSw
    (try dsimp only at hSw)
    go_simp
  (try simp only [Act.put, List.setIfInBounds_toArray, List.set_cons_zero, List.set_cons_succ])
  refine Wl.takeL (i := 15) (v := .int .u32 (u : Int)) rfl (by kernel_rfl) (by kernel_rfl) (by kernel_rfl) (fun _ _ _ h => h) (Or.inl ⟨by rfl, ?_⟩) hHeld ?_
  · intro w hSw
    (try dsimp only at hSw)
    go_simp
  (try simp only [Act.put, List.setIfInBounds_toArray, List.set_cons_zero, List.set_cons_succ])
  refine Wl.takeL (i := 18) (v := .slice (some ⟨b, off, none⟩) len cap) rfl (by kernel_rfl) (by kernel_rfl) (by kernel_rfl) (fun _ _ _ h => h) (Or.inl ⟨by rfl, ?_⟩) hHeld ?_
  · intro w hSw
    (try dsimp only at hSw)
    go_simp
  (try simp only [Act.put, List.setIfInBounds_toArray, List.set_cons_zero, List.set_cons_succ])
  refine Wl.takeL (i := 19) (v := .slice (some ⟨b, off, none⟩) 4 cap) rfl (by kernel_rfl) (by kernel_rfl) (by kernel_rfl) (fun _ _ _ h => h) (Or.inl ⟨by rfl, ?_⟩) hHeld ?_
  · intro w hSw
    (try dsimp only at hSw)
    go_simp
  (try simp only [Act.put, List.setIfInBounds_toArray, List.set_cons_zero, List.set_cons_succ])
  refine Wl.takeL (i := 20) (v := .string (strOfNums (zs.take 4))) rfl (by kernel_rfl) (by kernel_rfl) (by kernel_rfl) (fun _ _ _ h => h) (Or.inl ⟨by rfl, ?_⟩) hHeld ?_
  · intro w hSw
    (try dsimp only at hSw)
    go_simp
  (try simp only [Act.put, List.setIfInBounds_toArray, List.set_cons_zero, List.set_cons_succ])
  refine wpAnyH_ready (rs := [16]) (by kernel_rfl) (by simp) ?_
  refine Wl.consL rfl (fun K hK => ?_) AllReadyH.nil
  go_simp
  go_at_call 53
  refine (F1'.out _ hHeld).mono ?_
  rintro e w' ⟨a1, c1, rfl, hr1, hb1⟩
  have ka := A4.out w' a1 c1 hr1
  refine hK.out _ _ hb1 (fun hHeld => ?_)
  clear hK K
  (try simp only [Act.put, List.setIfInBounds_toArray, List.set_cons_zero, List.set_cons_succ])
  refine wpAnyH_ready (rs := [17]) (by kernel_rfl) (by simp) ?_
  refine Wl.consL rfl (fun K hK => ?_) AllReadyH.nil
  go_simp
  refine hK.out _ _ hb1 (fun hHeld => ?_)
  clear hK K ka
  (try simp only [Act.put, List.setIfInBounds_toArray, List.set_cons_zero, List.set_cons_succ])
  refine Wl.takeL (i := 21) (v := .bool (!qe)) rfl (by kernel_rfl) (by kernel_rfl) (by kernel_rfl) (fun _ _ _ h => h) (Or.inl ⟨by rfl, ?_⟩) hHeld ?_
  · intro w hSw
    (try dsimp only at hSw)
    go_simp
  (try simp only [Act.put, List.setIfInBounds_toArray, List.set_cons_zero, List.set_cons_succ])
  refine Wl.takeL (i := 22) (v := .bool (!qe)) rfl (by kernel_rfl) (by kernel_rfl) (by kernel_rfl) (fun _ _ _ h => h) (Or.inl ⟨by rfl, ?_⟩) hHeld ?_
  · intro w hSw
    (try dsimp only at hSw)
    go_simp
  (try simp only [Act.put, List.setIfInBounds_toArray, List.set_cons_zero, List.set_cons_succ])
  refine wpAnyH_done (by kernel_rfl) ?_ _
  refine NoPanic.normal ?_
  clear hHeld
  -- behind it
  cases qe with
  | false =>
    have D : Hid (∀ w', Below w.heap.size w w' → DecIt w v zs (.returned (.tuple #[.slice none 0 0, .int .i64 11])) w') := Lib.hid fun w' hb => dec_err (by rw [HD.out, if_neg (Nat.lt_irrefl _), if_pos (.inr (.inr fun h => by rw [H4.out.2 h] at hq; simp at hq))]) hb
    have HB1 := Lib.hid hb1
    clear hq hbq hb1
    go_wp2_with fail
    go_ret2
    exact D.out _ HB1.out
  | true =>
    have h1 : num4 zs = u := H4.out.1 (nums_inj (bytes_le4 u) (bytes_take HB.out 4) (str_ext hq))
    have HEN := Lib.hid (HE.out h1 trivial)
    have HB1 := Lib.hid hb1
    have HDD : Hid (decS v zs = if num4 (zs.drop 8) ≠ crcN (zs.take 8 ++ zs.drop 12) then ([], 12) else (zs.drop 12, 0)) := Lib.hid (by rw [HD.out, if_neg (Nat.lt_irrefl _), if_neg (by rintro (h | h | h); exact absurd h (Nat.lt_irrefl _); exact hs h; exact h h1)])
    have hbl := HBL.out
    clear hq hbq hb1 h1 HD HE
    by_cases h8 : cap = 12
    · subst h8
      have R12 : Hid (∀ wx, Below w.heap.size w wx → Fr.HasRow .u8 wx (some ⟨b, off, none⟩) N (zs.drop 12)) := Lib.hid fun wx hx => by rw [show N = 0 by have := HM.out; omega]; exact row_zero _
      have e1 : len - 12 = N := by have := HM.out; omega
      have g1 : Hid (([] : List Int).length + N ≤ 140737488355328) := Lib.hid (by simp; have := HM.out; omega)
      have d1 : Hid ((zs.drop 12).take N = zs.drop 12) := Lib.hid (by rw [← hbl, List.take_length])
      have i12 : (12 : Int) ≤ (len : Int) := by omega
      have i13 : (len : Int) ≤ (12 : Int) := by omega
      go_wp2_with (at_builtin; go_loud (refine Ob.wp_apd rfl (.tmp 61) (.tmp 63) rfl w'.heap.size _ [] rfl (Ob.own_made w' (Nat.le_refl _)) (some ⟨b, off, none⟩) N _ (zs.drop 12) rfl (R12.out _ (HB1.out.trans (((Below.refl _ w').alloc (Nat.le_refl _) _).mono HB1.out.size))) (fun h => by cases h) g1.out (by simp) ?_); intro v8 w8 ho8 hb8; rw [List.nil_append, d1.out] at ho8; have HO8 := Lib.hid ho8; have HB8 := Lib.hid (((Below.refl _ w').alloc (Nat.le_refl _) _).trans hb8); clear ho8 hb8)
      obtain ⟨a8, c8, rfl, hr8, hn8, _, _⟩ := Ob.own_row HO8.out
      rw [hbl] at hr8 HO8 ⊢
      have BW8 := Lib.hid (HB1.out.trans (HB8.out.mono HB1.out.size))
      have EN : Hid (∀ wx, Below w8.heap.size w8 wx → Calls Tryz.prog 22 #[.int .i64 v, .slice a8 N c8] wx fun e w' => ∃ a1 c1, e = .returned (.slice a1 len c1) ∧ Fr.HasRow .u8 w' a1 len (encN u (zs.drop 12)) ∧ Below w8.heap.size w8 w') := Lib.hid fun wx hx => by
        have := rencode_any v a8 N c8 (zs.drop 12) wx (bytes_drop HB.out 12) (hr8.keep hx) hn8 (by omega)
        rw [d1.out, HU.out] at this
        refine this.mono fun e w' ⟨v1, h1, h2, h3⟩ => ?_
        obtain ⟨a1, c1, rfl, hr, _⟩ := Ob.own_row h2
        rw [enc_length, hbl, show 12 + N = len by have := HM.out; omega] at h1 hr
        exact ⟨a1, c1, h1, hr, hx.trans (h3.mono hx.size)⟩
      have A5 : Hid (∀ wx a1 c1, Fr.HasRow .u8 wx a1 len (encN u (zs.drop 12)) → (convert 22 9 (.slice a1 len c1)).run Tryz.prog wx = .ok (.string (strOfNums (encN u (zs.drop 12)))) wx) := Lib.hid fun wx a1 c1 h => by
        have := conv_at (cap := c1) h
        rwa [List.take_of_length_le (by rw [enc_length, hbl]; have := HM.out; omega)] at this
      have kcC : ∀ wx, Below w8.heap.size w8 wx → (convert 22 9 (.slice (some ⟨b, off, none⟩) len 12)).run Tryz.prog wx = .ok (.string (strOfNums zs)) wx := fun wx h => by
        have := conv_at (cap := 12) (HR.out.keep (BW8.out.trans (h.mono BW8.out.size)))
        rwa [← HL.out, List.take_length, HL.out] at this
      obtain ⟨qf, hqf⟩ : ∃ qf, ((strOfNums (encN u (zs.drop 12))).toList == (strOfNums zs).toList) = qf := ⟨_, rfl⟩
      have HO8' := HO8
      clear hr8 R12 d1 kcB
      go_wp2_with fail
      have hbq : Below w8.heap.size w8 w8.drew := (Below.refl _ _).drew
      refine wp_region_noPanic ?_
      refine wp_region_held_drew (S := fun wx => Below w8.heap.size w8 wx) (by kernel_rfl) hbq (fun hHeld => ?_)
      generalize w8.drew = wq at hbq hHeld ⊢
      refine Wl.takeL (i := 0) (v := .int .i64 v) rfl (by kernel_rfl) (by kernel_rfl) (by kernel_rfl) (fun _ _ _ h => h) (Or.inl ⟨by rfl, ?_⟩) hHeld ?_
      · intro w hSw
        (try dsimp only at hSw)
        go_simp
      (try simp only [Act.put, List.setIfInBounds_toArray, List.set_cons_zero, List.set_cons_succ])
      refine Wl.takeL (i := 1) (v := .slice a8 N c8) rfl (by kernel_rfl) (by kernel_rfl) (by kernel_rfl) (fun _ _ _ h => h) (Or.inl ⟨by rfl, ?_⟩) hHeld ?_
      · intro w hSw
        (try dsimp only at hSw)
        go_simp
      (try simp only [Act.put, List.setIfInBounds_toArray, List.set_cons_zero, List.set_cons_succ])
      refine Wl.takeL (i := 4) (v := .slice (some ⟨b, off, none⟩) len 12) rfl (by kernel_rfl) (by kernel_rfl) (by kernel_rfl) (fun _ _ _ h => h) (Or.inl ⟨by rfl, ?_⟩) hHeld ?_
      · intro w hSw
        (try dsimp only at hSw)
        go_simp
      (try simp only [Act.put, List.setIfInBounds_toArray, List.set_cons_zero, List.set_cons_succ])
      refine Wl.takeL (i := 5) (v := .string (strOfNums zs)) rfl (by kernel_rfl) (by kernel_rfl) (by kernel_rfl) (fun _ _ _ h => h) (Or.inl ⟨by rfl, ?_⟩) hHeld ?_
      · intro w hSw
        (try dsimp only at hSw)
        go_simp
      (try simp only [Act.put, List.setIfInBounds_toArray, List.set_cons_zero, List.set_cons_succ])
      refine wpAnyH_ready (rs := [2]) (by kernel_rfl) (by simp) ?_
      refine Wl.consL rfl (fun K hK => ?_) AllReadyH.nil
      go_simp
      go_at_call 22
      refine (EN.out _ hHeld).mono ?_
      rintro e w9 ⟨a1, c1, rfl, hr1, hb1⟩
      have ka := A5.out w9 a1 c1 hr1
      refine hK.out _ _ hb1 (fun hHeld => ?_)
      clear hK K
      (try simp only [Act.put, List.setIfInBounds_toArray, List.set_cons_zero, List.set_cons_succ])
      refine wpAnyH_ready (rs := [3]) (by kernel_rfl) (by simp) ?_
      refine Wl.consL rfl (fun K hK => ?_) AllReadyH.nil
      go_simp
      refine hK.out _ _ hb1 (fun hHeld => ?_)
      clear hK K ka
      (try simp only [Act.put, List.setIfInBounds_toArray, List.set_cons_zero, List.set_cons_succ])
      refine Wl.takeL (i := 6) (v := .bool (!qf)) rfl (by kernel_rfl) (by kernel_rfl) (by kernel_rfl) (fun _ _ _ h => h) (Or.inl ⟨by rfl, ?_⟩) hHeld ?_
      · intro w hSw
        (try dsimp only at hSw)
        go_simp
      (try simp only [Act.put, List.setIfInBounds_toArray, List.set_cons_zero, List.set_cons_succ])
      refine wpAnyH_done (by kernel_rfl) ?_ _
      refine NoPanic.normal ?_
      clear hHeld
      have BW9 := Lib.hid (BW8.out.trans (hb1.mono BW8.out.size))
      cases qf with
      | false =>
        have D : Hid (DecIt w v zs (.returned (.tuple #[.slice none 0 0, .int .i64 12])) w9) := Lib.hid (dec_err (by rw [HDD.out, if_pos (fun h => by rw [HEN.out.2 h] at hqf; simp at hqf)]) BW9.out)
        clear hqf hbq hb1
        go_wp2_with fail
        go_ret2
        exact D.out
      | true =>
        have he : encN u (zs.drop 12) = zs := nums_inj (bytes_enc (bytes_drop HB.out 12)) HB.out (str_ext hqf)
        have D : Hid (DecIt w v zs (.returned (.tuple #[.slice a8 N c8, .int .i64 0])) w9) := Lib.hid ⟨_, by rw [HDD.out, if_neg (fun h => h (HEN.out.1 he))], by rw [HDD.out, if_neg (fun h => h (HEN.out.1 he))]; exact Joins.ownsRow_le (by have := Ob.own_keep HO8'.out hb1; unfold Ob.OwnB at this; rwa [hbl] at this ⊢) HB1.out.size, BW9.out⟩
        clear hqf hbq hb1 he
        go_wp2_with fail
        go_ret2
        exact D.out
    · have R12 : Hid (∀ wx, Below w.heap.size w wx → Fr.HasRow .u8 wx (some ⟨b, off + 12, none⟩) N (zs.drop 12)) := Lib.hid fun wx hx => row_drop (M := N) (k := 12) (by have := HR.out.keep hx; rwa [HM.out] at this)
      have e1 : len - 12 = N := by have := HM.out; omega
      have g1 : Hid (([] : List Int).length + N ≤ 140737488355328) := Lib.hid (by simp; have := HM.out; omega)
      have d1 : Hid ((zs.drop 12).take N = zs.drop 12) := Lib.hid (by rw [← hbl, List.take_length])
      have i12 : (12 : Int) ≤ (len : Int) := by omega
      have i13 : (len : Int) ≤ (cap : Int) := by omega
      go_wp2_with (at_builtin; go_loud (refine Ob.wp_apd rfl (.tmp 61) (.tmp 63) rfl w'.heap.size _ [] rfl (Ob.own_made w' (Nat.le_refl _)) (some ⟨b, off + 12, none⟩) N _ (zs.drop 12) rfl (R12.out _ (HB1.out.trans (((Below.refl _ w').alloc (Nat.le_refl _) _).mono HB1.out.size))) (fun h => by cases h) g1.out (by simp) ?_); intro v8 w8 ho8 hb8; rw [List.nil_append, d1.out] at ho8; have HO8 := Lib.hid ho8; have HB8 := Lib.hid (((Below.refl _ w').alloc (Nat.le_refl _) _).trans hb8); clear ho8 hb8)
      obtain ⟨a8, c8, rfl, hr8, hn8, _, _⟩ := Ob.own_row HO8.out
      rw [hbl] at hr8 HO8 ⊢
      have BW8 := Lib.hid (HB1.out.trans (HB8.out.mono HB1.out.size))
      have EN : Hid (∀ wx, Below w8.heap.size w8 wx → Calls Tryz.prog 22 #[.int .i64 v, .slice a8 N c8] wx fun e w' => ∃ a1 c1, e = .returned (.slice a1 len c1) ∧ Fr.HasRow .u8 w' a1 len (encN u (zs.drop 12)) ∧ Below w8.heap.size w8 w') := Lib.hid fun wx hx => by
        have := rencode_any v a8 N c8 (zs.drop 12) wx (bytes_drop HB.out 12) (hr8.keep hx) hn8 (by omega)
        rw [d1.out, HU.out] at this
        refine this.mono fun e w' ⟨v1, h1, h2, h3⟩ => ?_
        obtain ⟨a1, c1, rfl, hr, _⟩ := Ob.own_row h2
        rw [enc_length, hbl, show 12 + N = len by have := HM.out; omega] at h1 hr
        exact ⟨a1, c1, h1, hr, hx.trans (h3.mono hx.size)⟩
      have A5 : Hid (∀ wx a1 c1, Fr.HasRow .u8 wx a1 len (encN u (zs.drop 12)) → (convert 22 9 (.slice a1 len c1)).run Tryz.prog wx = .ok (.string (strOfNums (encN u (zs.drop 12)))) wx) := Lib.hid fun wx a1 c1 h => by
        have := conv_at (cap := c1) h
        rwa [List.take_of_length_le (by rw [enc_length, hbl]; have := HM.out; omega)] at this
      have kcC : ∀ wx, Below w8.heap.size w8 wx → (convert 22 9 (.slice (some ⟨b, off, none⟩) len cap)).run Tryz.prog wx = .ok (.string (strOfNums zs)) wx := fun wx h => by
        have := conv_at (cap := cap) (HR.out.keep (BW8.out.trans (h.mono BW8.out.size)))
        rwa [← HL.out, List.take_length, HL.out] at this
      obtain ⟨qf, hqf⟩ : ∃ qf, ((strOfNums (encN u (zs.drop 12))).toList == (strOfNums zs).toList) = qf := ⟨_, rfl⟩
      have HO8' := HO8
      clear hr8 R12 d1 kcB
      go_wp2_with fail
      have hbq : Below w8.heap.size w8 w8.drew := (Below.refl _ _).drew
      refine wp_region_noPanic ?_
      refine wp_region_held_drew (S := fun wx => Below w8.heap.size w8 wx) (by kernel_rfl) hbq (fun hHeld => ?_)
      generalize w8.drew = wq at hbq hHeld ⊢
      refine Wl.takeL (i := 0) (v := .int .i64 v) rfl (by kernel_rfl) (by kernel_rfl) (by kernel_rfl) (fun _ _ _ h => h) (Or.inl ⟨by rfl, ?_⟩) hHeld ?_
      · intro w hSw
        (try dsimp only at hSw)
        go_simp
      (try simp only [Act.put, List.setIfInBounds_toArray, List.set_cons_zero, List.set_cons_succ])
      refine Wl.takeL (i := 1) (v := .slice a8 N c8) rfl (by kernel_rfl) (by kernel_rfl) (by kernel_rfl) (fun _ _ _ h => h) (Or.inl ⟨by rfl, ?_⟩) hHeld ?_
      · intro w hSw
        (try dsimp only at hSw)
        go_simp
      (try simp only [Act.put, List.setIfInBounds_toArray, List.set_cons_zero, List.set_cons_succ])
      refine Wl.takeL (i := 4) (v := .slice (some ⟨b, off, none⟩) len cap) rfl (by kernel_rfl) (by kernel_rfl) (by kernel_rfl) (fun _ _ _ h => h) (Or.inl ⟨by rfl, ?_⟩) hHeld ?_
      · intro w hSw
        (try dsimp only at hSw)
        go_simp
      (try simp only [Act.put, List.setIfInBounds_toArray, List.set_cons_zero, List.set_cons_succ])
      refine Wl.takeL (i := 5) (v := .string (strOfNums zs)) rfl (by kernel_rfl) (by kernel_rfl) (by kernel_rfl) (fun _ _ _ h => h) (Or.inl ⟨by rfl, ?_⟩) hHeld ?_
      · intro w hSw
        (try dsimp only at hSw)
        go_simp
      (try simp only [Act.put, List.setIfInBounds_toArray, List.set_cons_zero, List.set_cons_succ])
      refine wpAnyH_ready (rs := [2]) (by kernel_rfl) (by simp) ?_
      refine Wl.consL rfl (fun K hK => ?_) AllReadyH.nil
      go_simp
      go_at_call 22
      refine (EN.out _ hHeld).mono ?_
      rintro e w9 ⟨a1, c1, rfl, hr1, hb1⟩
      have ka := A5.out w9 a1 c1 hr1
      refine hK.out _ _ hb1 (fun hHeld => ?_)
      clear hK K
      (try simp only [Act.put, List.setIfInBounds_toArray, List.set_cons_zero, List.set_cons_succ])
      refine wpAnyH_ready (rs := [3]) (by kernel_rfl) (by simp) ?_
      refine Wl.consL rfl (fun K hK => ?_) AllReadyH.nil
      go_simp
      refine hK.out _ _ hb1 (fun hHeld => ?_)
      clear hK K ka
      (try simp only [Act.put, List.setIfInBounds_toArray, List.set_cons_zero, List.set_cons_succ])
      refine Wl.takeL (i := 6) (v := .bool (!qf)) rfl (by kernel_rfl) (by kernel_rfl) (by kernel_rfl) (fun _ _ _ h => h) (Or.inl ⟨by rfl, ?_⟩) hHeld ?_
      · intro w hSw
        (try dsimp only at hSw)
        go_simp
      (try simp only [Act.put, List.setIfInBounds_toArray, List.set_cons_zero, List.set_cons_succ])
      refine wpAnyH_done (by kernel_rfl) ?_ _
      refine NoPanic.normal ?_
      clear hHeld
      have BW9 := Lib.hid (BW8.out.trans (hb1.mono BW8.out.size))
      cases qf with
      | false =>
        have D : Hid (DecIt w v zs (.returned (.tuple #[.slice none 0 0, .int .i64 12])) w9) := Lib.hid (dec_err (by rw [HDD.out, if_pos (fun h => by rw [HEN.out.2 h] at hqf; simp at hqf)]) BW9.out)
        clear hqf hbq hb1
        go_wp2_with fail
        go_ret2
        exact D.out
      | true =>
        have he : encN u (zs.drop 12) = zs := nums_inj (bytes_enc (bytes_drop HB.out 12)) HB.out (str_ext hqf)
        have D : Hid (DecIt w v zs (.returned (.tuple #[.slice a8 N c8, .int .i64 0])) w9) := Lib.hid ⟨_, by rw [HDD.out, if_neg (fun h => h (HEN.out.1 he))], by rw [HDD.out, if_neg (fun h => h (HEN.out.1 he))]; exact Joins.ownsRow_le (by have := Ob.own_keep HO8'.out hb1; unfold Ob.OwnB at this; rwa [hbl] at this ⊢) HB1.out.size, BW9.out⟩
        clear hqf hbq hb1 he
        go_wp2_with fail
        go_ret2
        exact D.out
end Go.Proofs.YtdonkmkjblofpaaGreatDoor.Sn
/-! ## Nw -/
namespace Go.Proofs.YtdonkmkjblofpaaGreatDoor.Sn
open Go.RowKit Go.Sort Dx Sx Dk Wl
set_option linter.unusedVariables false
set_option linter.unusedSimpArgs false
theorem rdecode_any (v : Int) (a : Option Addr) (len cap : Nat) (zs : List Int) (w : World) (hb : Bytes zs) (hrow : Fr.HasRow .u8 w a len zs) (hcap : len ≤ cap) (hcm : cap ≤ 9223372036854775807) (hbig : len ≤ 140737488351232) :
    Calls Tryz.prog 17 #[.int .i64 v, .slice a len cap] w (DecIt w v (zs.take len)) := by
  have hl : (zs.take len).length = len := by rw [List.length_take]; have := hrow.1; omega
  by_cases h : len < 12
  · exact rdec_short v a len cap (zs.take len) w (by omega) hl h
  · obtain ⟨b, off, rfl, _⟩ := hrow.2.2 (by omega)
    exact rdec_main v b off len cap (zs.take len) w (bytes_take hb len) (row_take hrow (Nat.le_refl len)) hl (by omega) hcap hcm hbig
set_option maxRecDepth 100000 in
set_option maxHeartbeats 1600000 in
theorem bytes6_walk (v : Int) (a : Option Addr) (len cap : Nat) (zs : List Int) (w : World) (ht : Tabs w) (hby : Bytes zs) (hn : a = none → cap = 0) (hrow : Fr.HasRow .u8 w a len zs) (hlc : len ≤ cap) (hcm : cap ≤ 140737488351232) :
    Calls Tryz.prog 4 #[.int .i64 v, .slice a len cap] w fun e w' => e = .returned (.bool true) ∧ Below w.heap.size w w' := by
  have HT := Lib.hid ht; have HR := Lib.hid hrow
  obtain ⟨l, hl⟩ : ∃ l, zs.take len = l := ⟨_, rfl⟩
  obtain ⟨X, q, hX⟩ : ∃ X q, decS v l = (X, q) := ⟨_, _, rfl⟩
  obtain ⟨nx, hnx⟩ : ∃ nx, X.length = nx := ⟨_, rfl⟩
  obtain ⟨E, hE⟩ : ∃ E, encN (u32N v) l = E := ⟨_, rfl⟩
  obtain ⟨ne, hne⟩ : ∃ ne, E.length = ne := ⟨_, rfl⟩
  obtain ⟨R, hR⟩ : ∃ R, bs (snm v) = R := ⟨_, rfl⟩
  have D1 : Hid (∀ wx, Below w.heap.size w wx → Calls Tryz.prog 16 #[.int .i64 v, .slice a len cap] wx fun e w' => ∃ a1 c1, e = .returned (.tuple #[.slice a1 nx c1, .int .i64 q]) ∧ Fr.HasRow .u8 w' a1 nx X ∧ Below w.heap.size w w' ∧ Below wx.heap.size wx w') := Lib.hid fun wx hx => by
    have := decode_any v a len cap zs wx (ht.keep hx) hby (hrow.keep hx) hlc (by omega) (by omega)
    rw [hl] at this
    refine this.mono fun e w' ⟨x, h1, h2, h3⟩ => ?_
    rw [hX] at h1 h2
    obtain ⟨a1, c1, rfl, hr, _⟩ := Ob.own_row h2
    simp only [] at h1 hr
    rw [hnx] at h1 hr
    exact ⟨a1, c1, h1, hr, hx.trans (h3.mono hx.size), h3⟩
  have D2 : Hid (∀ wx, Below w.heap.size w wx → Calls Tryz.prog 17 #[.int .i64 v, .slice a len cap] wx fun e w' => ∃ a1 c1, e = .returned (.tuple #[.slice a1 nx c1, .int .i64 q]) ∧ Fr.HasRow .u8 w' a1 nx X ∧ Below w.heap.size w w' ∧ Below wx.heap.size wx w') := Lib.hid fun wx hx => by
    have := rdecode_any v a len cap zs wx hby (hrow.keep hx) hlc (by omega) (by omega)
    rw [hl] at this
    refine this.mono fun e w' ⟨x, h1, h2, h3⟩ => ?_
    rw [hX] at h1 h2
    obtain ⟨a1, c1, rfl, hr, _⟩ := Ob.own_row h2
    simp only [] at h1 hr
    rw [hnx] at h1 hr
    exact ⟨a1, c1, h1, hr, hx.trans (h3.mono hx.size), h3⟩
  have N1 : Hid (∀ wx, Below w.heap.size w wx → Calls Tryz.prog 18 #[.int .i64 v] wx fun e w' => e = .returned (.string R) ∧ Below wx.heap.size wx w' ∧ Below w.heap.size w w') := Lib.hid fun wx hx => by
    have := name_any v wx (ht.keep hx)
    rw [hR] at this
    exact this.mono fun e w' ⟨h1, h2⟩ => ⟨h1, h2, hx.trans (h2.mono hx.size)⟩
  have N2 : Hid (∀ wx, Below w.heap.size w wx → Calls Tryz.prog 19 #[.int .i64 v] wx fun e w' => e = .returned (.string R) ∧ Below wx.heap.size wx w' ∧ Below w.heap.size w w') := Lib.hid fun wx hx => by
    have := rname6_any v wx
    rw [hR] at this
    exact this.mono fun e w' ⟨h1, h2⟩ => ⟨h1, h2, hx.trans (h2.mono hx.size)⟩
  have E1 : Hid (∀ wx, Below w.heap.size w wx → Calls Tryz.prog 21 #[.int .i64 v, .slice a len cap] wx fun e w' => ∃ a1 c1, e = .returned (.slice a1 ne c1) ∧ Fr.HasRow .u8 w' a1 ne E ∧ Below wx.heap.size wx w' ∧ Below w.heap.size w w') := Lib.hid fun wx hx => by
    have := encode_any v a len cap zs wx (ht.keep hx).crc hby (hrow.keep hx) hn (by omega)
    rw [hl, hE] at this
    refine this.mono fun e w' ⟨x, h1, h2, h3⟩ => ?_
    obtain ⟨a1, c1, rfl, hr, _⟩ := Ob.own_row h2
    rw [hne] at h1 hr
    exact ⟨a1, c1, h1, hr, h3, hx.trans (h3.mono hx.size)⟩
  have E2 : Hid (∀ wx, Below w.heap.size w wx → Calls Tryz.prog 22 #[.int .i64 v, .slice a len cap] wx fun e w' => ∃ a1 c1, e = .returned (.slice a1 ne c1) ∧ Fr.HasRow .u8 w' a1 ne E ∧ Below wx.heap.size wx w' ∧ Below w.heap.size w w') := Lib.hid fun wx hx => by
    have := rencode_any v a len cap zs wx hby (hrow.keep hx) hn (by omega)
    rw [hl, hE] at this
    refine this.mono fun e w' ⟨x, h1, h2, h3⟩ => ?_
    obtain ⟨a1, c1, rfl, hr, _⟩ := Ob.own_row h2
    rw [hne] at h1 hr
    exact ⟨a1, c1, h1, hr, h3, hx.trans (h3.mono hx.size)⟩
  have tR : (R.toList == R.toList) = true := beq_self_eq_true _
  have tq : (q == q) = true := beq_self_eq_true q
  clear ht hby hn hrow hl hX hnx hE hne hR
  go_enter Tryz.func4, Tryz.ntmps4
  go_wp2_with (go_at_call 15; (with_reducible refine (wakes6_any _ HT.out).mono ?_); rintro e w1 ⟨rfl, hb1⟩; have HB1 := Lib.hid hb1; clear hb1)
  refine (D1.out _ HB1.out).mono ?_
  rintro e w2 ⟨ax, cx, rfl, hx2, hb2, _⟩
  have HX2 := Lib.hid hx2; have HB2 := Lib.hid hb2
  clear hx2 hb2
  go_wp2_with fail
  refine (D2.out _ HB2.out).mono ?_
  rintro e w3 ⟨ay, cy, rfl, hy3, hb3, hc3⟩
  have HX3 := Lib.hid (HX2.out.keep hc3); have HY3 := Lib.hid hy3; have HB3 := Lib.hid hb3
  clear hy3 hb3 hc3
  go_wp2_with (first
    | (go_at_call 18; (with_reducible refine (N1.out _ HB3.out).mono ?_); rintro e w4 ⟨rfl, hc4, hb4⟩; have HX4 := Lib.hid (HX3.out.keep hc4); have HY4 := Lib.hid (HY3.out.keep hc4); have HB4 := Lib.hid hb4; clear hc4 hb4)
    | (go_at_call 19; (with_reducible refine (N2.out _ HB4.out).mono ?_); rintro e w5 ⟨rfl, hc5, hb5⟩; have HX5 := Lib.hid (HX4.out.keep hc5); have HY5 := Lib.hid (HY4.out.keep hc5); have HB5 := Lib.hid hb5; clear hc5 hb5)
    | (go_at_call 21; (with_reducible refine (E1.out _ HB5.out).mono ?_); rintro e w6 ⟨ae, ce, rfl, he6, hc6, hb6⟩; have HX6 := Lib.hid (HX5.out.keep hc6); have HY6 := Lib.hid (HY5.out.keep hc6); have HE6 := Lib.hid he6; have HB6 := Lib.hid hb6; clear hc6 hb6 he6)
    | (go_at_call 22; (with_reducible refine (E2.out _ HB6.out).mono ?_); rintro e w7 ⟨af, cf, rfl, hf7, hc7, hb7⟩; have HX7 := Lib.hid (HX6.out.keep hc7); have HY7 := Lib.hid (HY6.out.keep hc7); have HE7 := Lib.hid (HE6.out.keep hc7); have HF7 := Lib.hid hf7; have HB7 := Lib.hid hb7; clear hc7 hb7 hf7)
    | (go_at_call 20; (with_reducible refine (ssame_self HE7.out HF7.out).mono ?_); rintro e w8 ⟨rfl, hb8⟩; have HX8 := Lib.hid (HX7.out.keep hb8); have HY8 := Lib.hid (HY7.out.keep hb8); have HB8 := Lib.hid (HB7.out.trans (hb8.mono HB7.out.size)); clear hb8)
    | (go_at_call 20; (with_reducible refine (ssame_self HX8.out HY8.out).mono ?_); rintro e w9 ⟨rfl, hb9⟩; have HB9 := Lib.hid (HB8.out.trans (hb9.mono HB8.out.size)); clear hb9))
  go_ret
  exact ⟨rfl, HB9.out⟩
end Go.Proofs.YtdonkmkjblofpaaGreatDoor.Sn
/-! ## Fl -/
namespace Go.Proofs.YtdonkmkjblofpaaGreatDoor.Fo
open Go.ChangeShapes Go.WideShapes Go.ChangeAt Go.RowKit Go.Deep
set_option linter.unusedVariables false
theorem wf_byte {Z : List Int} (h : ∀ n ∈ Z, (Lit.int .u8 n).wf = true) {j : Nat} (hj : j < Z.length) : 0 ≤ Z.getD j 0 ∧ Z.getD j 0 ≤ 255 := by
  have := bounds_u8 (h Z[j] (List.getElem_mem hj))
  simp only [List.getD, List.getElem?_eq_getElem hj, Option.getD_some]
  omega
section
variable {H : Type} {enc : TypeId × Value → H} {P : Program} {W : World} {d : DataW H} {p : List MemPlace}
theorem rowsE_of {t e q : TypeId} {a : Option Addr} {len cap : Nat} (ht : P.underlying t = some (.slice e)) (he : P.underlying e = some (.slice q)) (hq : P.underlying q = some (.int .u8)) (ce : P.cellsOf e = 1) (cq : P.cellsOf q = 1) (hby : P.bytesOf q = 1)
    (hsz : ∀ n, n ∈ d.weights P t → n ≤ reachBytes)
    (h : DataW.Trod enc P W 0 (fun _ => true) true t (.slice a len cap) d p) : ∃ R, HasRows W a len R ∧ (∀ j, j < len → Sx.Bytes (R j).zs) ∧ len ≤ cap := by
  obtain ⟨fuel, hf⟩ := h
  rcases open_int_rows ht he hq ce cq hf with ⟨hcs, _⟩ | ⟨x, l, c, A, L, C, Z, hcs, _, hl, hm, hd, hrow⟩
  · simp [Value.cells] at hcs
    obtain ⟨rfl, rfl, rfl⟩ := hcs
    exact ⟨fun _ => ⟨none, 0, 0, []⟩, ⟨by decide, (fun h => absurd h (by decide)), fun j hj => absurd hj (Nat.not_lt_zero _)⟩, (fun j hj => absurd hj (Nat.not_lt_zero _)), Nat.le_refl _⟩
  · simp [Value.cells] at hcs
    obtain ⟨rfl, rfl, rfl⟩ := hcs
    have hm' := hm
    unfold maxLen at hm
    refine ⟨fun r => ⟨A r, L r, C r, Z r⟩, ⟨by omega, fun h0 => ?_, fun r hr => ?_⟩, (fun r hr j hj => wf_byte ((hrow r (by omega)).2.2.2.2.1) hj), by omega⟩
    · obtain ⟨b, off, rfl, hj⟩ := plain_at (V := fun r => .slice (A r) (L r) (C r)) (n := cap) (fun i hi => (hrow i hi).1) (by omega)
      exact ⟨b, off, rfl, fun j hj' => hj j (by omega)⟩
    · obtain ⟨_, x1, x2, x3, x4, x5, x6⟩ := hrow r (by omega)
      have hd1 := congrArg Prod.fst hd
      simp only at hd1
      have hw : C r ≤ 140737488351232 := by
        cases hA : A r with
        | none => rw [x5 hA]; decide
        | some a' =>
          have hmem : intRow IntKind.u8 (A r) (L r) (Z r) ∈ (List.range len).map fun r => intRow (H := H) IntKind.u8 (A r) (L r) (Z r) := List.mem_map.2 ⟨r, List.mem_range.2 hr, rfl⟩
          have hwt : C r * 1 ∈ (intRow (H := H) IntKind.u8 (A r) (L r) (Z r)).weights P e := by
            rw [hA]
            simp only [intRow, DataW.weights, he, hby, lits, List.length_map, List.length_take, List.length_drop, x3]
            refine List.mem_cons.2 (.inl ?_)
            omega
          have h3 : C r * 1 ≤ reachBytes := hsz _ (by
            rw [hd1]
            simp only [DataW.weights, ht]
            exact List.mem_cons_of_mem _ (List.mem_append_left _ (weight_all hmem hwt)))
          have h4 : reachBytes = 140737488351232 := by decide
          omega
      refine ⟨⟨by show L r ≤ (Z r).length; omega, by show L r ≤ _; omega, fun h0 => ?_⟩, x5, x1, hw⟩
      have h0' : 0 < L r := h0
      cases hA : A r with
      | none => have := x5 hA; omega
      | some a' =>
        obtain ⟨b, off, rfl, hj⟩ := plain_at (V := fun i => .int .u8 ((Z r).getD i 0)) (n := C r) (x6 a' hA).2 (by omega)
        exact ⟨b, off, by show A r = _; rw [hA], fun j hj' => hj j (by have : j < L r := hj'; omega)⟩
end
section
variable {H : Type} {enc : TypeId × Value → H} {W : World} {d : DataW H} {p : List MemPlace}
theorem shape_slice {P : Program} {t e : TypeId} {fuel : Nat} {cs : List Value} {y : DataW H × List MemPlace} (ht : P.underlying t = some (.slice e)) (h : DataW.trod enc P W 0 (fun _ => true) true fuel t cs = some y) : ∃ a len cap, cs = [.slice a len cap] := by
  rcases open_slice ht h with ⟨hcs, _⟩ | ⟨x, l, c, m, n, D, Pl, hcs, _⟩
  · exact ⟨_, _, _, hcs⟩
  · exact ⟨_, _, _, hcs⟩
end
end Go.Proofs.YtdonkmkjblofpaaGreatDoor.Fo
/-! ## Mo -/
namespace Go.Proofs.YtdonkmkjblofpaaGreatDoor.Fo
open Go.ChangeShapes Go.WideShapes Go.ChangeAt Go.RowKit Go.Deep
set_option linter.unusedVariables false
structure Opw where
  kind : Int
  n : Int
  k : Int
  b : Rw
def Opw.cells (x : Opw) : Array Value := #[.int .i64 x.kind, .int .i64 x.n, .int .i64 x.k, .slice x.b.a x.b.len x.b.cap]
structure Opw.Ok (w : World) (x : Opw) : Prop where
  row : RowOk w x.b
  bts : Sx.Bytes x.b.zs
  kind0 : -9223372036854775808 ≤ x.kind
  kind1 : x.kind ≤ 9223372036854775807
  n0 : -9223372036854775808 ≤ x.n
  n1 : x.n ≤ 9223372036854775807
  k0 : -9223372036854775808 ≤ x.k
  k1 : x.k ≤ 9223372036854775807
def HasOpw (w : World) (a : Option Addr) (len : Nat) (X : Nat → Opw) : Prop := len ≤ 9223372036854775807 ∧ (0 < len → ∃ b off, a = some ⟨b, off, none⟩ ∧ ∀ j, j < len → ∀ i, i < 4 → w.cell? ⟨b, off + (j * 4 + i), none⟩ = ((X j).cells)[i]?) ∧ ∀ j, j < len → Opw.Ok w (X j)
theorem Opw.Ok.keep {w w' : World} {x : Opw} (h : Opw.Ok w x) (hb : Below w.heap.size w w') : Opw.Ok w' x := ⟨h.row.keep hb, h.bts, h.kind0, h.kind1, h.n0, h.n1, h.k0, h.k1⟩
theorem HasOpw.keep {w w' : World} {a : Option Addr} {len : Nat} {X : Nat → Opw} (h : HasOpw w a len X) (hb : Below w.heap.size w w') : HasOpw w' a len X :=
  ⟨h.1, fun h0 => by
    obtain ⟨b, off, e, hj⟩ := h.2.1 h0
    refine ⟨b, off, e, fun j hj' i hi => ?_⟩
    have hc := hj j hj' i hi
    have hs : ∃ v, ((X j).cells)[i]? = some v := ⟨((X j).cells)[i]'(by simpa [Opw.cells] using hi), Array.getElem?_eq_getElem _⟩
    obtain ⟨v, hv⟩ := hs
    rw [hv] at hc ⊢
    exact (hb.cell (p := ⟨b, off + (j * 4 + i), none⟩) (Fr.lt_of_cell hc)).trans hc, fun j hj => (h.2.2 j hj).keep hb⟩
section
variable {H : Type} {enc : TypeId × Value → H} {W : World} {d : DataW H} {p : List MemPlace}
set_option maxRecDepth 100000 in
theorem Opw.at {n : Nat} {cs : List Value} {y : DataW H × List MemPlace} (h : DataW.trod enc Tryz.prog W 0 (fun _ => true) true n 48 cs = some y) :
    ∃ x : Opw, cs = x.cells.toList ∧ (-9223372036854775808 ≤ x.kind ∧ x.kind ≤ 9223372036854775807 ∧ -9223372036854775808 ≤ x.n ∧ x.n ≤ 9223372036854775807 ∧ -9223372036854775808 ≤ x.k ∧ x.k ≤ 9223372036854775807) ∧ Sx.Bytes x.b.zs ∧ Fr.HasRow .u8 W x.b.a x.b.len x.b.zs ∧ (x.b.a = none → x.b.cap = 0) ∧ x.b.len ≤ x.b.cap ∧
      ((x.b.cap = 0) ∨ x.b.cap * 1 ∈ y.1.weights Tryz.prog 48) := by
  obtain ⟨xs, m, _, hy, hl, hlen, hf⟩ := DataW.trod_struct Tryz.underlying48 h
  have h6 : cs.length = 4 := hl.trans (by kernel_rfl)
  have x6 : xs.length = 4 := hlen
  have k3 : Tryz.prog.cellsOf 3 = 1 := by kernel_rfl
  have k9 : Tryz.prog.cellsOf 9 = 1 := by kernel_rfl
  have k29 : Tryz.prog.cellsOf 22 = 1 := by kernel_rfl
  have k5 : Tryz.prog.cellsOf 5 = 1 := by kernel_rfl
  have b5 : Tryz.prog.bytesOf 5 = 1 := by kernel_rfl
  match cs, h6, xs, x6, hy, hf with
  | [c0, c1, c2, c3], _, [y0, y1, y2, y3], _, hy, hf =>
    have h0 := hf 0 _ rfl
    have h1 := hf 1 _ rfl
    have h2 := hf 2 _ rfl
    have h3 := hf 3 _ rfl
    simp [k3] at h0
    simp [k3] at h1
    simp [k3] at h2
    simp [k29] at h3
    obtain ⟨a0, e0, _, w0⟩ := DataW.trod_int Tryz.underlying3 h0
    obtain ⟨bd0a, bd0b⟩ := bounds_i64 w0
    obtain ⟨a1, e1, _, w1⟩ := DataW.trod_int Tryz.underlying3 h1
    obtain ⟨bd1a, bd1b⟩ := bounds_i64 w1
    obtain ⟨a2, e2, _, w2⟩ := DataW.trod_int Tryz.underlying3 h2
    obtain ⟨bd2a, bd2b⟩ := bounds_i64 w2
    simp at e0 e1 e2
    subst e0 e1 e2
    rcases open_ints Tryz.underlying22 Tryz.underlying5 k5 h3 with ⟨hcs, _⟩ | ⟨x, l, c, zs, hcs, _, hl5, hm5, hz5, hd5, hcell, hwf⟩
    · simp at hcs
      subst hcs
      exact ⟨⟨a0, a1, a2, ⟨none, 0, 0, []⟩⟩, rfl, ⟨by show _ ≤ a0; omega, by show a0 ≤ _; omega, by show _ ≤ a1; omega, by show a1 ≤ _; omega, by show _ ≤ a2; omega, by show a2 ≤ _; omega⟩, (fun j hj => absurd hj (Nat.not_lt_zero _)), ⟨Nat.le_refl _, Nat.zero_le _, fun h => absurd h (Nat.lt_irrefl 0)⟩, (fun _ => rfl), Nat.le_refl _, .inl rfl⟩
    · simp at hcs
      subst hcs
      have hz' : zs.length = c := by simpa using hz5
      unfold maxLen at hm5
      refine ⟨⟨a0, a1, a2, ⟨some x, l, c, zs⟩⟩, rfl, ⟨by show _ ≤ a0; omega, by show a0 ≤ _; omega, by show _ ≤ a1; omega, by show a1 ≤ _; omega, by show _ ≤ a2; omega, by show a2 ≤ _; omega⟩, (fun j hj => wf_byte hwf hj), ⟨by show l ≤ zs.length; omega, by show l ≤ _; omega, fun h0' => ?_⟩, (fun h => by cases h), hl5, .inr ?_⟩
      · have h0'' : 0 < l := h0'
        obtain ⟨b, off, rfl, hj⟩ := ints_at hcell (by omega)
        exact ⟨b, off, rfl, fun j hj' => hj j (by have : j < l := hj'; omega)⟩
      · rw [hy]
        have hd := congrArg Prod.fst hd5
        simp only at hd
        simp only [List.map_cons, List.map_nil, DataW.weights, Tryz.underlying48, DataW.weightsEach, hd, Tryz.underlying22, b5, lits, List.length_map, List.length_take, List.length_drop, hz']
        simp
        right; right; right; left
        omega
set_option maxRecDepth 100000 in
theorem Opw.s_at {a : Option Addr} {len cap : Nat} (ht : Tryz.prog.underlying 37 = some (.slice 48)) {ts : List TypeId} {ds : List (DataW H)} {j : Nat} (hsz : (DataW.weightsEach Tryz.prog ts ds).all (· ≤ reachBytes) = true) (htj : ts[j]? = some 37) (hdj : ds[j]? = some d)
    (h : DataW.Trod enc Tryz.prog W 0 (fun _ => true) true 37 (.slice a len cap) d p) : ∃ X, HasOpw W a len X := by
  obtain ⟨fuel, hf⟩ := h
  have k31 : Tryz.prog.cellsOf 48 = 4 := by kernel_rfl
  rcases open_slice ht hf with ⟨hcs, _⟩ | ⟨x, l, c, m, n, D, Pl, hcs, _, hl, hm, hmm, hd, hx⟩
  · simp [Value.cells] at hcs
    obtain ⟨rfl, rfl, rfl⟩ := hcs
    exact ⟨fun _ => ⟨0, 0, 0, ⟨none, 0, 0, []⟩⟩, by decide, (fun h => absurd h (by decide)), fun j hj => absurd hj (Nat.not_lt_zero _)⟩
  · simp [Value.cells] at hcs
    obtain ⟨rfl, rfl, rfl⟩ := hcs
    simp only [if_true] at hmm
    subst hmm
    unfold maxLen at hm
    rw [k31] at hx
    have each : ∀ i, i < m → ∃ x_ : Opw, (∀ q, q < 4 → W.cell? ((x.add (i * 4)).add q) = (x_.cells)[q]?) ∧ (-9223372036854775808 ≤ x_.kind ∧ x_.kind ≤ 9223372036854775807 ∧ -9223372036854775808 ≤ x_.n ∧ x_.n ≤ 9223372036854775807 ∧ -9223372036854775808 ≤ x_.k ∧ x_.k ≤ 9223372036854775807) ∧ Sx.Bytes x_.b.zs ∧ Fr.HasRow .u8 W x_.b.a x_.b.len x_.b.zs ∧ (x_.b.a = none → x_.b.cap = 0) ∧ x_.b.len ≤ x_.b.cap ∧
        ((x_.b.cap = 0) ∨ x_.b.cap * 1 ∈ (D i).weights Tryz.prog 48) := by
      intro i hi
      obtain ⟨cs', h1, h2⟩ := hx i hi
      obtain ⟨y, e, r⟩ := Opw.at h2
      refine ⟨y, fun q hq => ?_, r⟩
      rw [(World.cells?_some h1).2.2 q hq, e]
      simp
    haveI : Inhabited Opw := ⟨⟨0, 0, 0, ⟨none, 0, 0, []⟩⟩⟩
    obtain ⟨X, hX⟩ := choose_lt each
    refine ⟨X, by omega, fun h0 => ?_, fun i hi => ?_⟩
    · have h00 : W.cell? x = some (.int .i64 (X 0).kind) := by
        have := (hX 0 (by omega)).1 0 (by decide)
        simpa [Addr.add, Opw.cells] using this
      obtain ⟨b, off, spot⟩ := x
      have hspot : spot = none := by simpa using World.cell?_spot h00
      subst hspot
      refine ⟨b, off, rfl, fun j hj i hi => ?_⟩
      rw [← (hX j (by omega)).1 i hi, add_add, Go.WideShapes.add_plain]
    · obtain ⟨_, ⟨q0, q1, q2, q3, q4, q5⟩, r3c, r4, r5, r6, r7⟩ := hX i (by omega)
      refine ⟨⟨r4, r5, r6, ?_⟩, r3c, q0, q1, q2, q3, q4, q5⟩
      rcases r7 with r7 | r7
      · rw [r7]; decide
      · have hd1 := congrArg Prod.fst hd
        simp only at hd1
        have hmem : D i ∈ (List.range len).map D := List.mem_map.2 ⟨i, List.mem_range.2 hi, rfl⟩
        have := List.all_eq_true.1 hsz _ (DataW.weights_mem_each htj hdj ((X i).b.cap * 1) (by
          rw [hd1]
          simp only [DataW.weights, ht]
          exact List.mem_cons_of_mem _ (List.mem_append_left _ (weight_all hmem r7))))
        have h3 : (X i).b.cap * 1 ≤ reachBytes := by simpa using this
        have h4 : reachBytes = 140737488351232 := by decide
        omega
end
structure Flw where
  nm : ByteArray
  b : Rw
def Flw.cells (x : Flw) : Array Value := #[.string x.nm, .slice x.b.a x.b.len x.b.cap]
structure Flw.Ok (w : World) (x : Flw) : Prop where
  row : RowOk w x.b
  bts : Sx.Bytes x.b.zs
  nm0 : x.nm.size ≤ maxLen
def HasFlw (w : World) (a : Option Addr) (len : Nat) (X : Nat → Flw) : Prop := len ≤ 9223372036854775807 ∧ (0 < len → ∃ b off, a = some ⟨b, off, none⟩ ∧ ∀ j, j < len → ∀ i, i < 2 → w.cell? ⟨b, off + (j * 2 + i), none⟩ = ((X j).cells)[i]?) ∧ ∀ j, j < len → Flw.Ok w (X j)
theorem Flw.Ok.keep {w w' : World} {x : Flw} (h : Flw.Ok w x) (hb : Below w.heap.size w w') : Flw.Ok w' x := ⟨h.row.keep hb, h.bts, h.nm0⟩
theorem HasFlw.keep {w w' : World} {a : Option Addr} {len : Nat} {X : Nat → Flw} (h : HasFlw w a len X) (hb : Below w.heap.size w w') : HasFlw w' a len X :=
  ⟨h.1, fun h0 => by
    obtain ⟨b, off, e, hj⟩ := h.2.1 h0
    refine ⟨b, off, e, fun j hj' i hi => ?_⟩
    have hc := hj j hj' i hi
    have hs : ∃ v, ((X j).cells)[i]? = some v := ⟨((X j).cells)[i]'(by simpa [Flw.cells] using hi), Array.getElem?_eq_getElem _⟩
    obtain ⟨v, hv⟩ := hs
    rw [hv] at hc ⊢
    exact (hb.cell (p := ⟨b, off + (j * 2 + i), none⟩) (Fr.lt_of_cell hc)).trans hc, fun j hj => (h.2.2 j hj).keep hb⟩
section
variable {H : Type} {enc : TypeId × Value → H} {W : World} {d : DataW H} {p : List MemPlace}
set_option maxRecDepth 100000 in
theorem Flw.at {n : Nat} {cs : List Value} {y : DataW H × List MemPlace} (h : DataW.trod enc Tryz.prog W 0 (fun _ => true) true n 44 cs = some y) :
    ∃ x : Flw, cs = x.cells.toList ∧ (x.nm.size ≤ maxLen) ∧ Sx.Bytes x.b.zs ∧ Fr.HasRow .u8 W x.b.a x.b.len x.b.zs ∧ (x.b.a = none → x.b.cap = 0) ∧ x.b.len ≤ x.b.cap ∧
      ((x.b.cap = 0) ∨ x.b.cap * 1 ∈ y.1.weights Tryz.prog 44) := by
  obtain ⟨xs, m, _, hy, hl, hlen, hf⟩ := DataW.trod_struct Tryz.underlying44 h
  have h6 : cs.length = 2 := hl.trans (by kernel_rfl)
  have x6 : xs.length = 2 := hlen
  have k3 : Tryz.prog.cellsOf 3 = 1 := by kernel_rfl
  have k9 : Tryz.prog.cellsOf 9 = 1 := by kernel_rfl
  have k29 : Tryz.prog.cellsOf 22 = 1 := by kernel_rfl
  have k5 : Tryz.prog.cellsOf 5 = 1 := by kernel_rfl
  have b5 : Tryz.prog.bytesOf 5 = 1 := by kernel_rfl
  match cs, h6, xs, x6, hy, hf with
  | [c0, c1], _, [y0, y1], _, hy, hf =>
    have h0 := hf 0 _ rfl
    have h1 := hf 1 _ rfl
    simp [k9] at h0
    simp [k29] at h1
    obtain ⟨s0, e0, _, z0⟩ := DataW.trod_string Tryz.underlying9 h0
    simp at e0
    subst e0
    rcases open_ints Tryz.underlying22 Tryz.underlying5 k5 h1 with ⟨hcs, _⟩ | ⟨x, l, c, zs, hcs, _, hl5, hm5, hz5, hd5, hcell, hwf⟩
    · simp at hcs
      subst hcs
      exact ⟨⟨s0, ⟨none, 0, 0, []⟩⟩, rfl, z0, (fun j hj => absurd hj (Nat.not_lt_zero _)), ⟨Nat.le_refl _, Nat.zero_le _, fun h => absurd h (Nat.lt_irrefl 0)⟩, (fun _ => rfl), Nat.le_refl _, .inl rfl⟩
    · simp at hcs
      subst hcs
      have hz' : zs.length = c := by simpa using hz5
      unfold maxLen at hm5
      refine ⟨⟨s0, ⟨some x, l, c, zs⟩⟩, rfl, z0, (fun j hj => wf_byte hwf hj), ⟨by show l ≤ zs.length; omega, by show l ≤ _; omega, fun h0' => ?_⟩, (fun h => by cases h), hl5, .inr ?_⟩
      · have h0'' : 0 < l := h0'
        obtain ⟨b, off, rfl, hj⟩ := ints_at hcell (by omega)
        exact ⟨b, off, rfl, fun j hj' => hj j (by have : j < l := hj'; omega)⟩
      · rw [hy]
        have hd := congrArg Prod.fst hd5
        simp only at hd
        simp only [List.map_cons, List.map_nil, DataW.weights, Tryz.underlying44, DataW.weightsEach, hd, Tryz.underlying22, b5, lits, List.length_map, List.length_take, List.length_drop, hz']
        simp
        right; left
        omega
set_option maxRecDepth 100000 in
theorem Flw.s_at {a : Option Addr} {len cap : Nat} (ht : Tryz.prog.underlying 36 = some (.slice 44)) {ts : List TypeId} {ds : List (DataW H)} {j : Nat} (hsz : (DataW.weightsEach Tryz.prog ts ds).all (· ≤ reachBytes) = true) (htj : ts[j]? = some 36) (hdj : ds[j]? = some d)
    (h : DataW.Trod enc Tryz.prog W 0 (fun _ => true) true 36 (.slice a len cap) d p) : ∃ X, HasFlw W a len X := by
  obtain ⟨fuel, hf⟩ := h
  have k31 : Tryz.prog.cellsOf 44 = 2 := by kernel_rfl
  rcases open_slice ht hf with ⟨hcs, _⟩ | ⟨x, l, c, m, n, D, Pl, hcs, _, hl, hm, hmm, hd, hx⟩
  · simp [Value.cells] at hcs
    obtain ⟨rfl, rfl, rfl⟩ := hcs
    exact ⟨fun _ => ⟨ByteArray.empty, ⟨none, 0, 0, []⟩⟩, by decide, (fun h => absurd h (by decide)), fun j hj => absurd hj (Nat.not_lt_zero _)⟩
  · simp [Value.cells] at hcs
    obtain ⟨rfl, rfl, rfl⟩ := hcs
    simp only [if_true] at hmm
    subst hmm
    unfold maxLen at hm
    rw [k31] at hx
    have each : ∀ i, i < m → ∃ x_ : Flw, (∀ q, q < 2 → W.cell? ((x.add (i * 2)).add q) = (x_.cells)[q]?) ∧ (x_.nm.size ≤ maxLen) ∧ Sx.Bytes x_.b.zs ∧ Fr.HasRow .u8 W x_.b.a x_.b.len x_.b.zs ∧ (x_.b.a = none → x_.b.cap = 0) ∧ x_.b.len ≤ x_.b.cap ∧
        ((x_.b.cap = 0) ∨ x_.b.cap * 1 ∈ (D i).weights Tryz.prog 44) := by
      intro i hi
      obtain ⟨cs', h1, h2⟩ := hx i hi
      obtain ⟨y, e, r⟩ := Flw.at h2
      refine ⟨y, fun q hq => ?_, r⟩
      rw [(World.cells?_some h1).2.2 q hq, e]
      simp
    haveI : Inhabited Flw := ⟨⟨ByteArray.empty, ⟨none, 0, 0, []⟩⟩⟩
    obtain ⟨X, hX⟩ := choose_lt each
    refine ⟨X, by omega, fun h0 => ?_, fun i hi => ?_⟩
    · have h00 : W.cell? x = some (.string (X 0).nm) := by
        have := (hX 0 (by omega)).1 0 (by decide)
        simpa [Addr.add, Flw.cells] using this
      obtain ⟨b, off, spot⟩ := x
      have hspot : spot = none := by simpa using World.cell?_spot h00
      subst hspot
      refine ⟨b, off, rfl, fun j hj i hi => ?_⟩
      rw [← (hX j (by omega)).1 i hi, add_add, Go.WideShapes.add_plain]
    · obtain ⟨_, q0, r3c, r4, r5, r6, r7⟩ := hX i (by omega)
      refine ⟨⟨r4, r5, r6, ?_⟩, r3c, q0⟩
      rcases r7 with r7 | r7
      · rw [r7]; decide
      · have hd1 := congrArg Prod.fst hd
        simp only at hd1
        have hmem : D i ∈ (List.range len).map D := List.mem_map.2 ⟨i, List.mem_range.2 hi, rfl⟩
        have := List.all_eq_true.1 hsz _ (DataW.weights_mem_each htj hdj ((X i).b.cap * 1) (by
          rw [hd1]
          simp only [DataW.weights, ht]
          exact List.mem_cons_of_mem _ (List.mem_append_left _ (weight_all hmem r7))))
        have h3 : (X i).b.cap * 1 ≤ reachBytes := by simpa using this
        have h4 : reachBytes = 140737488351232 := by decide
        omega
end
end Go.Proofs.YtdonkmkjblofpaaGreatDoor.Fo
/-! ## Ma -/
namespace Go.Proofs.YtdonkmkjblofpaaGreatDoor.Sn
open Go.RowKit Go.Sort Dx Sx Dk Wl Fo
set_option linter.unusedVariables false
set_option linter.unusedSimpArgs false
set_option maxRecDepth 100000 in
set_option maxHeartbeats 1600000 in
theorem held6_any {w : World} {O1 O2 : Nat → Prop} {d m : Nat} {S : St} (hd : IsDisk w O1 d S) (hm : IsRef w O2 m S) :
    Calls Tryz.prog 40 #[.pointer (some ⟨d, 0, none⟩), .pointer (some ⟨m, 0, none⟩)] w fun e w' => e = .returned (.bool true) ∧ Below w.heap.size w w' := by
  have HD := Lib.hid hd; have HM := Lib.hid hm
  obtain ⟨q, hq⟩ : ∃ q, (namesL S).length = q := ⟨_, rfl⟩
  have hq16 : q ≤ 16 := by rw [← hq]; exact few_names hd.good
  have HQ := Lib.hid hq
  obtain ⟨dn, hdn⟩ : ∃ dn, S.down = dn := ⟨_, rfl⟩
  obtain ⟨wrn, hwr⟩ : ∃ x, S.wr = x := ⟨_, rfl⟩
  have MC : Hid (∀ wx, Below w.heap.size w wx → wx.cell? ⟨m, 2, none⟩ = some (.bool (!dn)) ∧ wx.cell? ⟨m, 3, none⟩ = some (.int .i64 wrn)) := Lib.hid fun wx hb => by
    obtain ⟨_, _, _, hr⟩ := HM.out.below hb
    rw [← hdn, ← hwr]
    exact ⟨hr.cells.2.2.1, hr.cells.2.2.2.1⟩
  have DWN : Hid (∀ wx, Below w.heap.size w wx → Calls Tryz.prog 63 #[.pointer (some ⟨d, 0, none⟩)] wx fun e w' => e = .returned (.bool dn) ∧ wx = w') := Lib.hid fun wx hb => by rw [← hdn]; exact down_disk (HD.out.below hb)
  have WRT : Hid (∀ wx, Below w.heap.size w wx → Calls Tryz.prog 76 #[.pointer (some ⟨d, 0, none⟩)] wx fun e w' => e = .returned (.int .i64 wrn) ∧ wx = w') := Lib.hid fun wx hb => by rw [← hwr]; exact writes_disk (HD.out.below hb)
  have n1 := names_hi (N := w.heap.size) hd (Nat.le_refl _)
  rw [hq] at n1
  have N1 := Lib.hid n1
  have N2 : Hid (∀ wx, Below w.heap.size w wx → Calls Tryz.prog 70 #[.pointer (some ⟨m, 0, none⟩)] wx fun e w' => ∃ ad cap, e = .returned (.slice ad q cap) ∧ q ≤ cap ∧ cap ≤ 9223372036854775807 ∧ NmOk w.heap.size w' ad (namesL S) ∧ Below wx.heap.size wx w') := Lib.hid fun wx hb => by
    have := refnames_hi (N := w.heap.size) (HM.out.below hb) hb.size
    rwa [hq] at this
  clear hd hm hq n1 hdn hwr
  go_enter Tryz.func40, Tryz.ntmps40
  go_wp2_with fail
  refine N1.out.mono ?_
  rintro e w1 ⟨ad1, cap1, rfl, hc1, hc1b, nm1, hb1⟩
  have NM1 := Lib.hid nm1; have B1 := Lib.hid hb1
  clear nm1 hb1
  go_wp2_with fail
  refine (N2.out _ B1.out).mono ?_
  rintro e w2 ⟨ad2, cap2, rfl, hc2, hc2b, nm2, hb2⟩
  have B2 := Lib.hid (B1.out.trans (hb2.mono B1.out.size))
  have NM1b := Lib.hid (NM1.out.keep (KeepHi.of_below hb2)); have NM2 := Lib.hid nm2
  clear nm2 hb2
  have tq : ((q : Int) == (q : Int)) = true := by simp
  have tq2 : ((q : Int) != (q : Int)) = false := by simp
  have td : (dn == !dn) = false := by cases dn <;> rfl
  have tw : (wrn != wrn) = false := by simp
  go_wp2
  go_region_held3 (fun wx => wx.cell? ⟨m, 2, none⟩ = some (.bool (!dn)) ∧ wx.cell? ⟨m, 3, none⟩ = some (.int .i64 wrn))
    (exact MC.out _ (Below.drew B2.out))
    (first
      | (go_at_call 63; (with_reducible refine (DWN.out _ (Below.drew B2.out)).mono ?_); rintro e w' ⟨rfl, rfl⟩)
      | (go_at_call 76; (with_reducible refine (WRT.out _ (Below.drew B2.out)).mono ?_); rintro e w' ⟨rfl, rfl⟩))
  go_split_ands
  go_wp2
  have B2d : Hid (Below w.heap.size w w2.drew) := Lib.hid B2.out.drew
  go_loopg [41] q (fun mm i wr => ∃ j : Nat, j + mm = q ∧ i = .int .i64 (j : Int) ∧ Hid (Below w2.heap.size w2 wr))
  case atStart => exact ⟨0, by omega, rfl, Lib.hid (Below.drew (Below.refl _ _))⟩
  case round =>
    obtain ⟨j, hj, rfl, HB⟩ := hrel
    by_cases hlt : j < q
    · have hjl : j < (namesL S).length := by rw [HQ.out]; exact hlt
      have BW : Hid (Below w.heap.size w wr) := Lib.hid (B2.out.trans (HB.out.mono B2.out.size))
      obtain ⟨g1, e1, n1⟩ := nm_cell (b := 0) (off := 0) (NM1b.out.keep (KeepHi.of_below HB.out)) hjl
      obtain ⟨g2, e2, n2⟩ := nm_cell (b := 0) (off := 0) (NM2.out.keep (KeepHi.of_below HB.out)) hjl
      have rd := read_nm (HD.out.below BW.out) hjl
      have rr : ∀ wx, Below w.heap.size w wx → Calls Tryz.prog 67 #[.pointer (some ⟨m, 0, none⟩), .string (nmV (namesL S) j)] wx (RowOut wx 0 ((contL S).getD j [])) := fun wx hb => refread_nm (HM.out.below hb) hjl
      obtain ⟨lj, hlj⟩ : ∃ lj, (contL S).getD j [] = lj := ⟨_, rfl⟩
      obtain ⟨nj, hnj⟩ : ∃ nj, nmV (namesL S) j = nj := ⟨_, rfl⟩
      rw [hlj, hnj] at rd
      rw [hlj, hnj] at rr
      rw [hnj] at n1 n2
      obtain ⟨ll, hll⟩ : ∃ ll, lj.length = ll := ⟨_, rfl⟩
      unfold RowOut at rd rr
      rw [hll] at rd rr
      have RD := Lib.hid rd; have RR := Lib.hid rr; have N1c := Lib.hid n1; have N2c := Lib.hid n2
      subst e1
      subst e2
      have hj0 : (0 : Int) ≤ (j : Int) := by omega
      have hj1 : (j : Int) < (q : Int) := by omega
      have hjc1 : (j : Int) < (cap1 : Int) := by omega
      clear rd rr hlj hnj hjl n1
      have n1 := N1c.out
      clear n2
      go_wp2_with fail
      clear n1
      refine RD.out.mono ?_
      rintro e w5 ⟨ad5, cap5, rfl, _, row5, _, _, hb5⟩
      have ROW5 := Lib.hid row5; have B5 := Lib.hid (HB.out.trans (hb5.mono HB.out.size))
      have BW5 := Lib.hid (B2.out.trans (B5.out.mono B2.out.size))
      have n2 := (hb5.cell (p := ⟨g2, j, none⟩) (Fr.lt_of_cell N2c.out)).trans N2c.out
      have N1d := Lib.hid ((hb5.cell (p := ⟨g1, j, none⟩) (Fr.lt_of_cell N1c.out)).trans N1c.out)
      clear row5 hb5
      go_wp2_with fail
      have N2d := Lib.hid n2
      clear n2
      refine (RR.out _ BW5.out).mono ?_
      rintro e w6 ⟨ad6, cap6, rfl, _, row6, _, _, hb6⟩
      have B6 := Lib.hid (B5.out.trans (hb6.mono B5.out.size))
      have KS : Hid (∀ wx, Below w6.heap.size w6 wx → wx.cell? ⟨g1, j, none⟩ = some (.string nj) ∧ wx.cell? ⟨g2, j, none⟩ = some (.string nj)) := Lib.hid fun wx hb => by
        have m1 := (hb6.cell (p := ⟨g1, j, none⟩) (Fr.lt_of_cell N1d.out)).trans N1d.out
        have m2 := (hb6.cell (p := ⟨g2, j, none⟩) (Fr.lt_of_cell N2d.out)).trans N2d.out
        exact ⟨(hb.cell (p := ⟨g1, j, none⟩) (Fr.lt_of_cell m1)).trans m1, (hb.cell (p := ⟨g2, j, none⟩) (Fr.lt_of_cell m2)).trans m2⟩
      have SM : Hid (∀ wx, Below w6.heap.size w6 wx → Calls Tryz.prog 20 #[.slice ad5 ll cap5, .slice ad6 ll cap6] wx fun e w' => e = .returned (.bool true) ∧ Below wx.heap.size wx w') := Lib.hid fun wx hb => by
        have := ssame_any ad5 ll cap5 lj ad6 ll cap6 lj wx ((ROW5.out.keep hb6).keep hb) (row6.keep hb)
        rwa [sameB_self] at this
      have s0 := Below.refl w6.heap.size w6
      have tn : (nj.toList == nj.toList) = true := by simp
      clear row6 hb6 hll
      go_wp2
      go_region_held3 (fun wx => wx.cell? ⟨g1, j, none⟩ = some (.string nj) ∧ wx.cell? ⟨g2, j, none⟩ = some (.string nj))
        (first | exact KS.out _ hb7 | exact KS.out _ (Below.drew s0))
        (first | (go_at_call 20; (with_reducible refine (SM.out _ (Below.drew s0)).mono ?_); rintro e w7 ⟨rfl, hb7'⟩; have hb7 : Below w6.heap.size w6 w7 := (Below.drew s0).trans (hb7'.mono (Nat.le_refl _)); clear hb7'))
      have B7 := Lib.hid (B6.out.trans (hb7.mono B6.out.size))
      clear hb7
      go_split_ands
      go_wp2
      go_roundg (q - (j + 1))
      case measure => omega
      case rel => exact ⟨j + 1, by omega, by go_num, B7⟩
    · obtain rfl : q = j := by omega
      have BE := Lib.hid (B2.out.trans (HB.out.mono B2.out.size))
      go_wp2
      go_ret
      exact ⟨rfl, BE.out⟩
end Go.Proofs.YtdonkmkjblofpaaGreatDoor.Sn
/-! ## Mb -/
namespace Go.Proofs.YtdonkmkjblofpaaGreatDoor.Sn
open Go.RowKit Go.Sort Dx Sx Dk Wl Fo
set_option linter.unusedVariables false
set_option linter.unusedSimpArgs false
def vald : List UInt8 → Nat → Nat
  | [], n => n
  | c :: r, n => vald r (n * 10 + (c.toNat - 48))
def isDig (c : UInt8) : Prop := 48 ≤ c.toNat ∧ c.toNat ≤ 57
theorem vald_app : ∀ (a b : List UInt8) (n : Nat), vald (a ++ b) n = vald b (vald a n)
  | [], _, _ => rfl
  | c :: a, b, n => by rw [List.cons_append, vald, vald_app a b, vald]
theorem vald_low : ∀ (k : Nat) (l : List UInt8), l.length = k → (∀ c ∈ l, isDig c) → vald l 0 < 10 ^ k ∧ low k (vald l 0) = l
  | 0, l, h, _ => by
    have : l = [] := List.eq_nil_of_length_eq_zero h
    subst this; exact ⟨by decide, rfl⟩
  | k + 1, l, h, hd => by
    obtain ⟨a, c, rfl⟩ : ∃ a c, l = a ++ [c] := ⟨l.dropLast, l.getLast (by intro e; rw [e] at h; cases h), (List.dropLast_concat_getLast _).symm⟩
    have ha : a.length = k := by simpa using h
    obtain ⟨i1, i2⟩ := vald_low k a ha fun x hx => hd x (by simp [hx])
    have hc := hd c (by simp)
    rw [vald_app]
    simp only [vald]
    refine ⟨by rw [Nat.pow_succ]; have := hc.2; omega, ?_⟩
    have e1 : (vald a 0 * 10 + (c.toNat - 48)) / 10 = vald a 0 := by have := hc.2; omega
    have e2 : (vald a 0 * 10 + (c.toNat - 48)) % 10 = c.toNat - 48 := by have := hc.2; omega
    have e3 : dgt (c.toNat - 48) = c := by
      unfold dgt
      rw [show 48 + (c.toNat - 48) = c.toNat by have := hc.1; omega]
      simp
    rw [low, e1, e2, i2, e3]
theorem low_dig : ∀ (k n : Nat), ∀ c ∈ low k n, isDig c
  | 0, _, c, h => by simp [low] at h
  | k + 1, n, c, h => by
    rw [low, List.mem_append] at h
    rcases h with h | h
    · exact low_dig k (n / 10) c h
    · rw [List.mem_singleton] at h
      subst h
      unfold isDig dgt
      rw [UInt8.toNat_ofNat']
      omega
def numR (l : List UInt8) : Int := match hitN snm l with
  | some v => v
  | none => -1
theorem numR_bad {l : List UInt8} (h0 : l ≠ []) (h : ∀ n : Nat, n ≤ 999999999 → l ≠ lettN 115 n) : numR l = -1 := by
  unfold numR
  cases hh : hitN snm l with
  | none => rfl
  | some v =>
    obtain ⟨h1, h2⟩ := (hit_iff (c := 115) (m := 0) h0).1 hh
    exact absurd h2 (h v.toNat (by omega))
theorem numR_good {n : Nat} (h : n ≤ 999999999) : numR (lettN 115 n) = (n : Int) := by
  unfold numR
  have : hitN snm (lettN 115 n) = some (n : Int) := (hit_iff (c := 115) (m := 0) (by unfold lettN; simp)).2 ⟨⟨by omega, by omega, by omega⟩, by simp⟩
  rw [this]
set_option maxRecDepth 100000 in
set_option maxHeartbeats 1600000 in
theorem number6_any (s : ByteArray) (l : List UInt8) (hsl : s.data.toList = l) (hs : s.size ≤ 9223372036854775807) (h0 : l ≠ []) (w : World) :
    Calls Tryz.prog 71 #[.string s] w fun e w' => e = .returned (.int .i64 (numR l)) ∧ ∃ n, w' = w.drewN n := by
  have hz : s.size = l.length := by rw [← hsl, Array.length_toList]; rfl
  have hi : ∀ k (h : k < l.length) h', (s[k]'h').toNat = (l[k]'h).toNat := fun k h h' => by
    subst hsl
    simp only [Array.getElem_toList]
    rfl
  by_cases h10 : l.length = 10
  rotate_left
  · have D := Lib.hid (numR_bad h0 fun n _ e => h10 (by rw [e, lettN_length]))
    have t1 : ((s.size : Int) != 10) = true := by rw [bne_iff_ne]; omega
    clear hi hsl h0
    go_enter Tryz.func71, Tryz.ntmps71
    go_wp2
    go_ret
    exact ⟨by rw [D.out] <;> rfl, ⟨0, rfl⟩⟩
  have t1 : ((s.size : Int) != 10) = false := by rw [bne_eq_false_iff_eq]; omega
  have hz10 : s.size = 10 := by omega
  have HI : Hid (∀ k (h : k < 10) h', (s[k]'h').toNat = (l.getD k 0).toNat) := Lib.hid fun k h h' => by rw [hi k (by omega) h']; simp [List.getD, show k < l.length by omega]
  have b0 := fun h' => HI.out 0 (by decide) h'
  by_cases hc : l.getD 0 0 = 115
  rotate_left
  · have D := Lib.hid (numR_bad h0 fun n _ e => hc (by rw [e]; rfl))
    have hne : ((l.getD 0 0).toNat : Int) ≠ 115 := fun h => hc (UInt8.toNat_inj.1 (by rw [show (l.getD 0 0).toNat = 115 by omega]; rfl))
    obtain ⟨x, hx⟩ : ∃ x : Nat, (l.getD 0 0).toNat = x := ⟨_, rfl⟩
    rw [hx] at b0 hne
    have t2 : ((x : Int) != 115) = true := by rw [bne_iff_ne]; exact hne
    clear hi hsl h0 hc hx HI
    go_enter Tryz.func71, Tryz.ntmps71
    go_wp2
    go_ret
    exact ⟨by rw [D.out] <;> rfl, ⟨0, rfl⟩⟩
  have b0' : ∀ h', (s[0]'h').toNat = 115 := fun h' => by rw [b0 h', hc]; rfl
  have HL : Hid (l = 115 :: l.drop 1) := Lib.hid (by
    match l, h10 with
    | c :: r, _ => simp at hc; rw [hc]; rfl)
  have H10 := Lib.hid h10; have H0 := Lib.hid h0
  clear hi hsl h0 hc b0 h10
  go_enter Tryz.func71, Tryz.ntmps71
  go_wp2
  go_loopg [3, 4] 9 (fun m n i wr => ∃ (j v : Nat), j + m = 10 ∧ n = .int .i64 (v : Int) ∧ i = .int .i64 (j : Int) ∧ 1 ≤ j ∧ v ≤ 999999999 ∧ Hid (v = vald ((l.drop 1).take (j - 1)) 0) ∧ Hid (∀ c ∈ (l.drop 1).take (j - 1), isDig c) ∧ ∃ q, wr = w.drewN q)
  case atStart => exact ⟨1, 0, by omega, rfl, rfl, by omega, by omega, Lib.hid (by simp [vald]), Lib.hid (by simp), 0, rfl⟩
  case round =>
    obtain ⟨j, v, hj, rfl, rfl, hj1, hv, HV, HD, q, rfl⟩ := hrel
    by_cases hlt : j < 10
    · have hidx := fun h' => HI.out j hlt h'
      obtain ⟨x, hx⟩ : ∃ x : Nat, (l.getD j 0).toNat = x := ⟨_, rfl⟩
      rw [hx] at hidx
      have hx255 : x ≤ 255 := by rw [← hx]; have := (l.getD j 0).toNat_lt; omega
      have HX := Lib.hid hx
      have hdr : (l.drop 1)[j - 1]? = some (l.getD j 0) := by
        rw [List.getElem?_drop, show 1 + (j - 1) = j by omega]
        have : j < l.length := by rw [H10.out]; exact hlt
        simp [List.getD, this]
      have HDR := Lib.hid hdr
      have j0 : (0 : Int) ≤ (j : Int) := by omega
      have j1 : (j : Int) < 10 := by omega
      have t9 : decide ((j : Int) < 10) = true := by rw [decide_eq_true_eq]; omega
      clear hx hdr
      by_cases hd : 48 ≤ x ∧ x ≤ 57
      · have u1 : decide ((x : Int) < 48) = false := by rw [decide_eq_false_iff_not]; omega
        have u2 : decide ((x : Int) > 57) = false := by rw [decide_eq_false_iff_not]; omega
        obtain ⟨d, hde⟩ : ∃ d : Nat, x = d + 48 := ⟨x - 48, by omega⟩
        have u3 : IntKind.u8.wrap ((x : Int) - 48) = (d : Int) := by rw [IntKind.wrap_u8]; omega
        have u4 : IntKind.i64.wrap ((v : Int) * 10) = (v : Int) * 10 := IntWalk.i64_in _ (by omega)
        have u5 : IntKind.i64.wrap ((v : Int) * 10 + (d : Int)) = ((v * 10 + d : Nat) : Int) := by rw [IntWalk.i64_in _ (by omega)]; omega
        have u6 : IntKind.i64.wrap (d : Int) = (d : Int) := IntWalk.i64_in _ (by omega)
        have tk : (l.drop 1).take (j + 1 - 1) = (l.drop 1).take (j - 1) ++ [l.getD j 0] := by
          rw [show j + 1 - 1 = (j - 1) + 1 by omega, List.take_add_one, HDR.out]; rfl
        have V2 : Hid (v * 10 + d = vald ((l.drop 1).take (j + 1 - 1)) 0) := Lib.hid (by
          rw [tk, vald_app, ← HV.out]; simp only [vald]; rw [HX.out]; omega)
        have D2 : Hid (∀ c ∈ (l.drop 1).take (j + 1 - 1), isDig c) := Lib.hid (by
          rw [tk]
          intro c hc
          rcases List.mem_append.1 hc with hc | hc
          · exact HD.out c hc
          · rw [List.mem_singleton] at hc
            subst hc
            unfold isDig
            rw [HX.out]; exact hd)
        have hv2 : v * 10 + d ≤ 999999999 := by
          have hlen : ((l.drop 1).take (j + 1 - 1)).length = j := by rw [List.length_take, List.length_drop, H10.out]; omega
          have := (vald_low j _ hlen D2.out).1
          rw [← V2.out] at this
          have : (10 : Nat) ^ j ≤ 10 ^ 9 := Nat.pow_le_pow_right (by decide) (by omega)
          omega
        have HV2 := Lib.hid hv2
        clear hd hde tk HV HD hv2 HX HDR hv
        go_wp2
        go_roundg (10 - (j + 1))
        case measure => omega
        case rel => exact ⟨j + 1, v * 10 + d, by omega, by first | rfl | go_num, by go_num, by omega, HV2.out, V2, D2, _, rfl⟩
      · have D := Lib.hid (numR_bad H0.out fun n _ e => hd (by
          have h1 := HDR.out
          rw [e] at h1
          unfold lettN at h1
          rw [List.drop_succ_cons, List.drop_zero] at h1
          have := low_dig 9 n _ (List.mem_of_getElem? h1)
          unfold isDig at this
          rw [← HX.out, e]; exact this))
        have u0 : x < 48 ∨ (48 ≤ x ∧ 57 < x) := by omega
        rcases u0 with u0 | ⟨u0, u0'⟩
        · have u1 : decide ((x : Int) < 48) = true := by rw [decide_eq_true_eq]; omega
          clear hd u0
          go_wp2
          go_ret
          exact ⟨by rw [D.out] <;> rfl, _, rfl⟩
        · have u1 : decide ((x : Int) < 48) = false := by rw [decide_eq_false_iff_not]; omega
          have u2 : decide ((x : Int) > 57) = true := by rw [decide_eq_true_eq]; omega
          clear hd u0 u0'
          go_wp2
          go_ret
          exact ⟨by rw [D.out] <;> rfl, _, rfl⟩
    · obtain rfl : j = 10 := by omega
      have D : Hid (numR l = (v : Int)) := Lib.hid (by
        have hlen : ((l.drop 1).take (10 - 1)).length = 9 := by rw [List.length_take, List.length_drop, H10.out]; rfl
        have := (vald_low 9 _ hlen HD.out).2
        rw [← HV.out] at this
        have e9 : (l.drop 1).take (10 - 1) = l.drop 1 := List.take_of_length_le (by rw [List.length_drop, H10.out]; decide)
        rw [e9] at this
        have : l = lettN 115 v := by rw [HL.out, ← this]; rfl
        rw [this]; exact numR_good hv)
      have t9 : decide (((10 : Nat) : Int) < 10) = false := by decide
      go_wp2
      go_ret
      exact ⟨by rw [D.out] <;> rfl, _, rfl⟩
end Go.Proofs.YtdonkmkjblofpaaGreatDoor.Sn
/-! ## Mc -/
namespace Go.Proofs.YtdonkmkjblofpaaGreatDoor.Sn
open Go.RowKit Go.Sort Dx Sx Dk Wl Fo
set_option linter.unusedVariables false
set_option linter.unusedSimpArgs false
def rmR (v : Int) : List (List UInt8) → St → Int × St
  | [], S => (0, S)
  | k :: r, S => if 0 ≤ numR k ∧ numR k ≠ v then (if (removeS k S).1 ≠ 0 then removeS k S else rmR v r (removeS k S).2) else rmR v r S
theorem rmR_eq (v : Int) : ∀ (L : List (List UInt8)) (S : St), (∀ k ∈ L, k ≠ []) → rmR v L S = rmS v (numsL snm L) S
  | [], S, _ => rfl
  | k :: r, S, h => by
    have ih := fun S => rmR_eq v r S fun x hx => h x (by simp [hx])
    have h0 := h k (by simp)
    unfold rmR numsL
    rw [List.filterMap_cons]
    cases hh : hitN snm k with
    | none =>
      have hn : numR k = -1 := by unfold numR; rw [hh]
      rw [hn, if_neg (by omega), ih]; rfl
    | some m =>
      have hn : numR k = m := by unfold numR; rw [hh]
      obtain ⟨h1, h2⟩ := (hit_iff (c := 115) (m := 0) h0).1 hh
      obtain ⟨m', rfl⟩ := Int.eq_ofNat_of_zero_le h1.1
      have hk : snm ((m' : Nat) : Int) = k := by rw [snm_nat (by omega), h2]; rfl
      rw [hn]
      show _ = rmS v ((m' : Int) :: numsL snm r) S
      unfold rmS
      rw [hk]
      by_cases hv : (m' : Int) = v
      · rw [if_neg (by omega), if_pos hv, ih]
      · rw [if_pos ⟨by omega, hv⟩, if_neg hv, ih]
theorem names_ne {S : St} (h : Dk.Good S) : ∀ k ∈ namesL S, k ≠ [] := by
  intro k hk e
  unfold namesL at hk
  split at hk
  · cases hk
  · obtain ⟨f, hf, rfl⟩ := List.mem_map.1 hk
    have := h.name f hf
    rw [e] at this
    exact absurd this (by decide)
theorem draft_there {S : St} (hup : S.down = false) : there drf S = 0 ↔ drf ∈ namesL S := by
  have hb : badName drf = false := by decide
  unfold there namesL
  rw [hb, hup]
  simp only [Bool.false_eq_true, if_false]
  constructor
  · intro h
    cases hl : Dk.look drf S.fs with
    | none => rw [hl] at h; simp at h
    | some f =>
      obtain ⟨h1, h2⟩ := Dk.look_some hl
      exact List.mem_map.2 ⟨f, h1, h2⟩
  · intro h
    obtain ⟨f, hf, e⟩ := List.mem_map.1 h
    cases hl : Dk.look drf S.fs with
    | none => exact absurd e (Dk.look_none hl f hf)
    | some g => simp
theorem save_up {v : Int} {l : List Int} {S : St} (hn : snm v ≠ []) (hl : ¬ 1048564 < l.length) (hup : S.down = false) : saveS v l S =
    if (wdS (encN (u32N v) l) S).1 ≠ 0 then wdS (encN (u32N v) l) S else
    if (renameS drf (snm v) (wdS (encN (u32N v) l) S).2).1 ≠ 0 then renameS drf (snm v) (wdS (encN (u32N v) l) S).2 else
    rmS v (numsL snm (namesL (renameS drf (snm v) (wdS (encN (u32N v) l) S).2).2)) (renameS drf (snm v) (wdS (encN (u32N v) l) S).2).2 := by
  unfold saveS
  rw [if_neg hn, if_neg hl, if_neg (by rw [hup]; decide)]
theorem rdid_of {w w1 w' : World} {O O1 : Nat → Prop} {d : Nat} {x : Int × St} {r : Int} {S' : St} (st : Step w O w1 O1) (h : RHas w1 O1 d S' w') (he : (r, S') = x) : RDid2 w O d x (.returned (.int .i64 r)) w' := by
  subst he
  obtain ⟨O2, h1, h2⟩ := h
  exact ⟨rfl, O2, st.trans h1, h2⟩
theorem rdid_end {w w' : World} {O O' : Nat → Prop} {d : Nat} {x : Int × St} {r : Int} {S' : St} (st : Step w O w' O') (h : IsRef w' O' d S') (he : (r, S') = x) : RDid2 w O d x (.returned (.int .i64 r)) w' := by
  subst he
  exact ⟨rfl, O', st, h⟩
set_option maxRecDepth 100000 in
set_option maxHeartbeats 1600000 in
theorem rsave_bad {w : World} {O : Nat → Prop} {d : Nat} {S : St} (v : Int) (hd : IsRef w O d S) (a : Option Addr) (len cap : Nat) (zs : List Int) (hrow : Fr.HasRow .u8 w a len zs) (hlen : len ≤ 140737488351232) (hbad : snm v = [] ∨ 1048564 < len ∨ S.down = true) :
    Calls Tryz.prog 31 #[.pointer (some ⟨d, 0, none⟩), .int .i64 v, .slice a len cap] w (RDid2 w O d (saveS v (zs.take len) S)) := by
  have hzl : (zs.take len).length = len := by rw [List.length_take]; have := hrow.1; omega
  have NM := Lib.hid (rname6_any v w)
  have tn := fun h : snm v = [] => bs_none h
  have ts := fun h : snm v ≠ [] => bs_some h
  obtain ⟨R, hR⟩ : ∃ R, bs (snm v) = R := ⟨_, rfl⟩
  rw [hR] at NM tn ts
  obtain ⟨Y, hY⟩ : ∃ Y, saveS v (zs.take len) S = Y := ⟨_, rfl⟩
  have HD := Lib.hid hd
  have PW : Hid (∀ wx, Below w.heap.size w wx → wx.cell? ⟨d, 2, none⟩ = some (.bool (!S.down))) := Lib.hid fun wx hx => by
    obtain ⟨_, _, _, hr⟩ := hd.below hx
    exact hr.cells.2.2.1
  have END : Hid (∀ w', Below w.heap.size w w' → ∀ r, (r, S) = Y → RDid2 w O d Y (.returned (.int .i64 r)) w') := Lib.hid fun w' hb r he => rdid_end (Step.of (Turned.of_below hb)) (hd.below hb) he
  have w12 : IntKind.i64.wrap ((len : Int) + 12) = (len : Int) + 12 := IntWalk.i64_in _ (by omega)
  rw [hY]
  by_cases h1 : snm v = []
  · have t1 := tn h1
    have D := Lib.hid fun w' hb => END.out w' hb 1 (by rw [← hY]; unfold saveS; rw [if_pos h1])
    clear hd hbad h1 tn ts hR hY hrow hzl
    go_enter Tryz.func31, Tryz.ntmps31
    go_wp2_with (go_at_call 19; (with_reducible refine NM.out.mono ?_); rintro e w1 ⟨rfl, hb1⟩; have HB1 := Lib.hid hb1; clear hb1)
    go_ret
    exact D.out _ HB1.out
  have t1 := ts h1
  by_cases h2 : 1048564 < len
  · have t2 : decide ((len : Int) + 12 > 1048576) = true := by rw [decide_eq_true_eq]; omega
    have D := Lib.hid fun w' hb => END.out w' hb 3 (by rw [← hY]; unfold saveS; rw [if_neg h1, if_pos (by rw [hzl]; exact h2)])
    clear hd hbad h1 tn ts hR hY hrow hzl h2
    go_enter Tryz.func31, Tryz.ntmps31
    go_wp2_with (go_at_call 19; (with_reducible refine NM.out.mono ?_); rintro e w1 ⟨rfl, hb1⟩; have HB1 := Lib.hid hb1; clear hb1)
    go_ret
    exact D.out _ HB1.out
  have t2 : decide ((len : Int) + 12 > 1048576) = false := by rw [decide_eq_false_iff_not]; omega
  have h3 : S.down = true := by rcases hbad with h | h | h; exact absurd h h1; exact absurd h h2; exact h
  have D := Lib.hid fun w' hb => END.out w' hb 20 (by rw [← hY]; unfold saveS; rw [if_neg h1, if_neg (by rw [hzl]; exact h2), if_pos (by rw [h3])])
  rw [h3] at PW
  clear hd hbad h1 tn ts hR hY hrow hzl h2 h3
  go_enter Tryz.func31, Tryz.ntmps31
  go_wp2_with (go_at_call 19; (with_reducible refine NM.out.mono ?_); rintro e w1 ⟨rfl, hb1⟩; have HB1 := Lib.hid hb1; have pw := PW.out w1 hb1; clear hb1)
  go_ret
  exact D.out _ HB1.out
end Go.Proofs.YtdonkmkjblofpaaGreatDoor.Sn
/-! ## Md -/
namespace Go.Proofs.YtdonkmkjblofpaaGreatDoor.Sn
open Go.RowKit Go.Sort Dx Sx Dk Wl Fo
set_option linter.unusedVariables false
set_option linter.unusedSimpArgs false
theorem bs_data (l : List UInt8) : (bs l).data.toList = l := by rw [← ByteArray.toList_eq, bs_toList]
theorem bs_short {v : Int} : (bs (snm v)).size ≤ maxLen := by
  rw [bs_size]
  by_cases h : snm v = []
  · rw [h]; exact Nat.zero_le _
  · obtain ⟨n, rfl, hn⟩ := snm_inv h
    rw [snm_nat hn, lettN_length]; decide
theorem names_len {S : St} (h : Dk.Good S) : ∀ k ∈ namesL S, k.length ≤ 16 := by
  intro k hk
  unfold namesL at hk
  split at hk
  · cases hk
  · obtain ⟨f, hf, rfl⟩ := List.mem_map.1 hk
    have := h.name f hf
    unfold badName at this
    simp at this
    omega
theorem rturn_row {k : IntKind} {Q : Nat → Prop} {w w' : World} {a : Option Addr} {len : Nat} {zs : List Int} (ht : Turned Q w w') (h : Fr.HasRow k w a len zs) (hb : 0 < len → ∀ x, a = some x → ¬ Q x.block) : Fr.HasRow k w' a len zs :=
  ⟨h.1, h.2.1, fun h0 => by
    obtain ⟨b, off, e, hc⟩ := h.2.2 h0
    refine ⟨b, off, e, fun j hj => ?_⟩
    have hcj := hc j hj
    have := ht.block b (Fr.lt_of_cell hcj) (hb h0 _ e)
    unfold World.cell? at hcj ⊢
    rw [this]; exact hcj⟩
set_option maxRecDepth 100000 in
set_option maxHeartbeats 3200000 in
theorem rsave_good {w : World} {O : Nat → Prop} {d : Nat} {S : St} (v : Int) (hd : IsRef w O d S) (a : Option Addr) (len cap : Nat) (zs : List Int) (hb : Bytes zs) (hrow : Fr.HasRow .u8 w a len zs) (hn : a = none → cap = 0) (hs : snm v ≠ []) (hl : ¬ 1048564 < len) (hup : S.down = false) (hsep : 0 < len → ∀ x, a = some x → ¬ O x.block) :
    Calls Tryz.prog 31 #[.pointer (some ⟨d, 0, none⟩), .int .i64 v, .slice a len cap] w (RDid2 w O d (saveS v (zs.take len) S)) := by
  have hzl : (zs.take len).length = len := by rw [List.length_take]; have := hrow.1; omega
  have NM := Lib.hid (rname6_any v)
  have t1 := bs_some hs
  obtain ⟨l, hll⟩ : ∃ l, zs.take len = l := ⟨_, rfl⟩
  have hsv := save_up (v := v) (l := l) (S := S) hs (by rw [← hll, hzl]; exact hl) hup
  have EN : Hid (∀ wx, Turned O w wx → Calls Tryz.prog 22 #[.int .i64 v, .slice a len cap] wx (CatIt wx (encN (u32N v) l))) := Lib.hid fun wx hx => by
    have := rencode_any v a len cap zs wx hb (rturn_row hx hrow hsep) hn (by omega)
    rwa [hll] at this
  obtain ⟨E, hE⟩ : ∃ E, encN (u32N v) l = E := ⟨_, rfl⟩
  have hEl : E.length = 12 + len := by rw [← hE, enc_length, ← hll, hzl]
  rw [hE] at EN hsv
  rw [hll]
  obtain ⟨Y, hY⟩ : ∃ Y, saveS v l S = Y := ⟨_, rfl⟩
  rw [hY] at hsv ⊢
  obtain ⟨RN, hRN⟩ : ∃ RN, bs (snm v) = RN := ⟨_, rfl⟩
  have hRd : RN.data.toList = snm v := by rw [← hRN, bs_data]
  have hRs : RN.size ≤ maxLen := by rw [← hRN]; exact bs_short
  rw [hRN] at NM t1
  have t2 : decide ((len : Int) + 12 > 1048576) = false := by rw [decide_eq_false_iff_not]; omega
  have w12 : IntKind.i64.wrap ((len : Int) + 12) = (len : Int) + 12 := IntWalk.i64_in _ (by omega)
  have PW : Hid (∀ wx, Below w.heap.size w wx → wx.cell? ⟨d, 2, none⟩ = some (.bool true)) := Lib.hid fun wx hx => by
    obtain ⟨_, _, _, hr⟩ := hd.below hx
    have := hr.cells.2.2.1
    rwa [hup] at this
  have RD : Hid (∀ wx, Below w.heap.size w wx → Calls Tryz.prog 67 #[.pointer (some ⟨d, 0, none⟩), .string ⟨#[100, 114, 97, 102, 116]⟩] wx (ReadIt wx drf S)) := Lib.hid fun wx hx => read_ref (hd.below hx) ⟨#[100, 114, 97, 102, 116]⟩ (by decide)
  have RM : Hid (∀ wx, Below w.heap.size w wx → Calls Tryz.prog 68 #[.pointer (some ⟨d, 0, none⟩), .string ⟨#[100, 114, 97, 102, 116]⟩] wx (RDid2 wx O d (removeS drf S))) := Lib.hid fun wx hx => remove_ref ref_off (hd.below hx) ⟨#[100, 114, 97, 102, 116]⟩ (by decide)
  have hdt := draft_there hup
  have HD := Lib.hid hd
  -- a draft that cannot be removed
  by_cases hx : drf ∈ namesL S ∧ (removeS drf S).1 ≠ 0
  · obtain ⟨r, S', hr⟩ : ∃ r S', removeS drf S = (r, S') := ⟨_, _, rfl⟩
    have hcl : clS S = (r, S') := by unfold clS; rw [if_pos hx.1, hr]
    have hr0 : r ≠ 0 := by have := hx.2; rwa [hr] at this
    have hw : wdS E S = (r, S') := by unfold wdS; rw [hcl]; exact if_pos hr0
    have hyr : (r, S') = Y := by rw [hsv, hw]; exact (if_pos hr0).symm
    rw [hr] at RM
    have th := hdt.2 hx.1
    unfold ReadIt at RD
    rw [th] at RD
    have tr : (r == 0) = false := by rw [beq_eq_false_iff_ne]; exact hr0
    have tr2 : (r != 0) = true := by rw [bne_iff_ne]; exact hr0
    have HYR := Lib.hid hyr
    clear hx hcl hw hr0 hyr hr th hdt hsv hY hE hEl hll hzl hd hRN hRd hRs EN
    go_enter Tryz.func31, Tryz.ntmps31
    go_wp2_with (first
      | (go_at_call 19; (with_reducible refine (NM.out w).mono ?_); rintro e w1 ⟨rfl, hb1⟩; have HB1 := Lib.hid hb1; have pw := PW.out w1 hb1; clear hb1)
      | (go_at_call 67; (with_reducible refine (RD.out w1 HB1.out).mono ?_); rintro e w2 ⟨v2, rfl, _, hb2⟩; have HB2 := Lib.hid (HB1.out.trans (hb2.mono HB1.out.size)); clear hb2)
      | (go_at_call 68; (with_reducible refine (RM.out w2 HB2.out).mono ?_); rintro e w3 ⟨rfl, h3⟩; have H3 := Lib.hid h3; clear h3))
    go_ret
    exact rdid_of (Step.of (Turned.of_below HB2.out)) H3.out HYR.out
  -- the draft is away
  obtain ⟨S1, hcl⟩ : ∃ S1, clS S = (0, S1) := by
    unfold clS
    by_cases h : drf ∈ namesL S
    · rw [if_pos h]
      obtain ⟨r, S', hr⟩ : ∃ r S', removeS drf S = (r, S') := ⟨_, _, rfl⟩
      have : r = 0 := by
        by_cases h0 : r = 0
        · exact h0
        · exact absurd ⟨h, by rw [hr]; exact h0⟩ hx
      exact ⟨S', by rw [hr, this]⟩
    · rw [if_neg h]; exact ⟨S, rfl⟩
  obtain ⟨r2, S2, h2⟩ : ∃ r S', appendS drf E S1 = (r, S') := ⟨_, _, rfl⟩
  obtain ⟨r3, S3, h3⟩ : ∃ r S', syncS drf S2 = (r, S') := ⟨_, _, rfl⟩
  obtain ⟨r4, S4, h4⟩ : ∃ r S', renameS drf (snm v) S3 = (r, S') := ⟨_, _, rfl⟩
  have hwd2 : r2 ≠ 0 → wdS E S = (r2, S2) := fun h => by
    unfold wdS; rw [hcl]
    simp only [ne_eq, not_true_eq_false, if_false]
    rw [h2]; exact if_pos h
  have hwd3 : r2 = 0 → wdS E S = (r3, S3) := fun h => by
    unfold wdS; rw [hcl]
    simp only [ne_eq, not_true_eq_false, if_false]
    rw [h2, if_neg (show ¬ ¬ (r2, S2).1 = 0 from fun hh => hh h), h3]
  have F2 : Hid (r2 ≠ 0 → (r2, S2) = Y) := Lib.hid fun h => by rw [hsv, hwd2 h]; exact (if_pos h).symm
  have F3 : Hid (r2 = 0 → r3 ≠ 0 → (r3, S3) = Y) := Lib.hid fun h h' => by rw [hsv, hwd3 h]; exact (if_pos h').symm
  have F4 : Hid (r2 = 0 → r3 = 0 → r4 ≠ 0 → (r4, S4) = Y) := Lib.hid fun h h' h'' => by
    rw [hsv, hwd3 h, if_neg (show ¬ (r3, S3).1 ≠ 0 from fun hh => hh h')]
    dsimp only
    rw [h4]; exact (if_pos h'').symm
  have F5 : Hid (r2 = 0 → r3 = 0 → r4 = 0 → rmS v (numsL snm (namesL S4)) S4 = Y) := Lib.hid fun h h' h'' => by
    rw [hsv, hwd3 h, if_neg (show ¬ (r3, S3).1 ≠ 0 from fun hh => hh h')]
    dsimp only
    rw [h4]; exact (if_neg (show ¬ (r4, S4).1 ≠ 0 from fun hh => hh h'')).symm
  have AP : Hid (∀ wx Ox a1 c1, IsRef wx Ox d S1 → Fr.HasRow .u8 wx a1 (12 + len) E → (a1 = none → c1 = 0) → Calls Tryz.prog 27 #[.pointer (some ⟨d, 0, none⟩), .string ⟨#[100, 114, 97, 102, 116]⟩, .slice a1 (12 + len) c1] wx fun e w' => e = .returned (.int .i64 r2) ∧ RHas wx Ox d S2 w') := Lib.hid fun wx Ox a1 c1 h hr hn1 => by
    have := append_ref ref_off h ⟨#[100, 114, 97, 102, 116]⟩ (by decide) a1 (12 + len) c1 E hr hn1 (by omega)
    rw [← hEl, List.take_length] at this
    rw [← hEl]
    have e : appendS (⟨#[100, 114, 97, 102, 116]⟩ : ByteArray).data.toList E S1 = (r2, S2) := h2
    rw [e] at this
    exact this
  have SY : Hid (∀ wx Ox, IsRef wx Ox d S2 → Calls Tryz.prog 29 #[.pointer (some ⟨d, 0, none⟩), .string ⟨#[100, 114, 97, 102, 116]⟩] wx fun e w' => e = .returned (.int .i64 r3) ∧ RHas wx Ox d S3 w') := Lib.hid fun wx Ox h => by
    have := sync_ref ref_off h ⟨#[100, 114, 97, 102, 116]⟩ (by decide)
    have e : syncS (⟨#[100, 114, 97, 102, 116]⟩ : ByteArray).data.toList S2 = (r3, S3) := h3
    rw [e] at this
    exact this
  have RE : Hid (∀ wx Ox, IsRef wx Ox d S3 → Calls Tryz.prog 69 #[.pointer (some ⟨d, 0, none⟩), .string ⟨#[100, 114, 97, 102, 116]⟩, .string RN] wx fun e w' => e = .returned (.int .i64 r4) ∧ RHas wx Ox d S4 w') := Lib.hid fun wx Ox h => by
    have := rename_ref ref_off h ⟨#[100, 114, 97, 102, 116]⟩ RN (by decide) hRs
    rw [hRd] at this
    have e : renameS (⟨#[100, 114, 97, 102, 116]⟩ : ByteArray).data.toList (snm v) S3 = (r4, S4) := h4
    rw [e] at this
    exact this
  have HEL := Lib.hid hEl
  obtain ⟨q1, hq1⟩ : ∃ q, there drf S = q := ⟨_, rfl⟩
  unfold ReadIt at RD
  rw [hq1] at RD hdt
  have RM0 : Hid (q1 = 0 → ∀ wx, Below w.heap.size w wx → Calls Tryz.prog 68 #[.pointer (some ⟨d, 0, none⟩), .string ⟨#[100, 114, 97, 102, 116]⟩] wx fun e w' => e = .returned (.int .i64 0) ∧ RHas wx O d S1 w') := Lib.hid fun h wx hx' => by
    have := RM.out wx hx'
    unfold clS at hcl
    rw [if_pos (hdt.1 h)] at hcl
    rw [hcl] at this
    exact this
  have HS1 : Hid (q1 ≠ 0 → S1 = S) := Lib.hid fun h => by
    unfold clS at hcl
    rw [if_neg (fun h' => h (hdt.2 h'))] at hcl
    exact (Prod.mk.inj hcl).2.symm
  clear hx hcl h2 h3 h4 hwd2 hwd3 hdt hsv hY hE hEl hll hzl hd hRN hRd hRs RM hq1
  by_cases hq0 : q1 = 0
  case' pos =>
    have RMy := Lib.hid (RM0.out hq0)
    subst hq0
    go_enter Tryz.func31, Tryz.ntmps31
    go_wp2_with (first
      | (go_at_call 19; (with_reducible refine (NM.out w).mono ?_); rintro e w1 ⟨rfl, hb1⟩; have HB1 := Lib.hid hb1; have pw := PW.out w1 hb1; clear hb1)
      | (go_at_call 67; (with_reducible refine (RD.out w1 HB1.out).mono ?_); rintro e w2 ⟨v2, rfl, _, hb2⟩; have HB2 := Lib.hid (HB1.out.trans (hb2.mono HB1.out.size)); clear hb2)
      | (go_at_call 68; (with_reducible refine (RMy.out w2 HB2.out).mono ?_); rintro e w3 ⟨rfl, O3, st3, rf3⟩; have ST3 : Hid (Step w O w3 O3) := Lib.hid ((Step.of (Turned.of_below HB2.out)).trans st3); have RF3 := Lib.hid rf3; clear st3 rf3))
  case' neg =>
    have tq : (q1 == 0) = false := by rw [beq_eq_false_iff_ne]; exact hq0
    have S1S := HS1.out hq0
    clear hq0
    go_enter Tryz.func31, Tryz.ntmps31
    go_wp2_with (first
      | (go_at_call 19; (with_reducible refine (NM.out w).mono ?_); rintro e w1 ⟨rfl, hb1⟩; have HB1 := Lib.hid hb1; have pw := PW.out w1 hb1; clear hb1)
      | (go_at_call 67; (with_reducible refine (RD.out w1 HB1.out).mono ?_); rintro e w3 ⟨v2, rfl, _, hb3⟩; have hb := (HB1.out.trans (hb3.mono HB1.out.size)); obtain ⟨O3, ST3, RF3⟩ : ∃ O3, Hid (Step w O w3 O3) ∧ Hid (IsRef w3 O3 d S1) := ⟨O, Lib.hid (Step.of (Turned.of_below hb)), Lib.hid (by rw [S1S]; exact HD.out.below hb)⟩; clear hb3 hb))
  all_goals
    refine (EN.out w3 ST3.out.toTurned).mono ?_
    rintro e w4 ⟨v4, rfl, ho4, hb4⟩
    obtain ⟨a4, c4, rfl, hr4, hn4, _, _⟩ := Ob.own_row ho4
    rw [HEL.out] at hr4 ⊢
    have ST4 := Lib.hid (ST3.out.trans (Step.of (Turned.of_below hb4)))
    have RF4 := Lib.hid (RF3.out.below hb4)
    have APy := Lib.hid (AP.out w4 _ a4 c4 RF4.out hr4 hn4)
    clear ho4 hb4 hr4 hn4 AP ST3 RF3
    go_wp2_with fail
    refine APy.out.mono ?_
    rintro e w5 ⟨rfl, O5, st5, rf5⟩
    have ST5 := Lib.hid (ST4.out.trans st5); have RF5 := Lib.hid rf5
    clear st5 rf5 ST4 RF4 APy
    by_cases q2 : r2 = 0
    · subst q2
      have SYy := Lib.hid (SY.out w5 O5 RF5.out)
      go_wp2_with fail
      refine SYy.out.mono ?_
      rintro e w6 ⟨rfl, O6, st6, rf6⟩
      have ST6 := Lib.hid (ST5.out.trans st6); have RF6 := Lib.hid rf6
      clear st6 rf6 ST5 RF5 SYy
      by_cases q3 : r3 = 0
      · subst q3
        go_wp2_with (go_at_call 19; (with_reducible refine (NM.out w6).mono ?_); rintro e w7 ⟨rfl, hb7⟩; have ST7 := Lib.hid (ST6.out.trans (Step.of (Turned.of_below hb7))); have RF7 := Lib.hid (RF6.out.below hb7); clear hb7)
        refine (RE.out w7 O6 RF7.out).mono ?_
        rintro e w8 ⟨rfl, O8, st8, rf8⟩
        have ST8 := Lib.hid (ST7.out.trans st8); have RF8 := Lib.hid rf8
        clear st8 rf8 ST7 RF7 ST6 RF6
        by_cases q4 : r4 = 0
        · subst q4
          have N8 := Lib.hid (refnames_hi (N := w8.heap.size) RF8.out (Nat.le_refl _))
          obtain ⟨L, hLL⟩ : ∃ L, namesL S4 = L := ⟨_, rfl⟩
          obtain ⟨q, hq⟩ : ∃ q, L.length = q := ⟨_, rfl⟩
          have FY := Lib.hid (F5.out (by trivial) (by trivial) (by trivial))
          have hne : ∀ k ∈ L, k ≠ [] := by
            rw [← hLL]
            obtain ⟨_, _, _, hr⟩ := RF8.out
            exact names_ne hr.good
          have hns : ∀ k ∈ L, k.length ≤ 16 := by
            rw [← hLL]
            obtain ⟨_, _, _, hr⟩ := RF8.out
            exact names_len hr.good
          have hq16 : q ≤ 16 := by
            rw [← hq, ← hLL]
            obtain ⟨_, _, _, hr⟩ := RF8.out
            exact few_names hr.good
          rw [hLL, ← rmR_eq v L S4 hne] at FY
          rw [hLL, hq] at N8
          have HQ := Lib.hid hq; have HNE := Lib.hid hne; have HNS := Lib.hid hns
          clear hLL hq hne hns
          go_wp2_with fail
          refine N8.out.mono ?_
          rintro e w9 ⟨ad, cp, rfl, hc1, hc2, nm9, hb9⟩
          have NM9 := Lib.hid nm9
          have ST9 := Lib.hid (ST8.out.trans (Step.of (Turned.of_below hb9)))
          have RF9 := Lib.hid (RF8.out.below hb9)
          have DM8 : Hid (∀ i, O8 i → i < w8.heap.size) := Lib.hid RF8.out.dom
          clear nm9 hb9 N8 RF8 ST8 RE SY NM EN RD PW
          go_wp2
          go_loopg [57] q (fun m i wr => ∃ (j : Nat) (Sx : St) (Ox : Nat → Prop), j + m = q ∧ i = .int .i64 (j : Int) ∧ Hid (Step w9 O8 wr Ox) ∧ Hid (IsRef wr Ox d Sx) ∧ Hid (rmR v (L.drop j) Sx = Y))
          case atStart => exact ⟨0, S4, O8, by omega, rfl, Lib.hid (Step.refl _ _), RF9, Lib.hid FY.out⟩
          case round =>
            obtain ⟨j, Sx, Ox, hj, rfl, HST, HRF, HRM⟩ := hrel
            by_cases hlt : j < q
            · have hjl : j < L.length := by rw [HQ.out]; exact hlt
              obtain ⟨g1, e1, n1⟩ := nm_cell (b := 0) (off := 0) (NM9.out.keep (KeepHi.of_step HST.out DM8.out)) hjl
              have hK : (nmV L j).data.toList = L[j] := by rw [nmV_list]; simp [List.getD, hjl]
              have hKm : L[j] ∈ L := List.getElem_mem hjl
              have hrm := HRM.out
              rw [List.drop_eq_getElem_cons hjl] at hrm
              obtain ⟨K, hKK⟩ : ∃ K, L[j] = K := ⟨_, rfl⟩
              rw [hKK] at hK hKm hrm
              obtain ⟨nj, hnj⟩ : ∃ nj, nmV L j = nj := ⟨_, rfl⟩
              rw [hnj] at n1 hK
              have hnz : nj.size ≤ 16 := by
                have := HNS.out K hKm
                rw [← hK, Array.length_toList] at this
                exact this
              have NB := Lib.hid (number6_any nj K hK (by omega) (HNE.out K hKm) wr)
              obtain ⟨rr, Sy, hr⟩ : ∃ r S', removeS K Sx = (r, S') := ⟨_, _, rfl⟩
              have RMK : Hid (∀ k, Calls Tryz.prog 68 #[.pointer (some ⟨d, 0, none⟩), .string nj] (wr.drewN k) fun e w' => e = .returned (.int .i64 rr) ∧ RHas (wr.drewN k) Ox d Sy w') := Lib.hid fun k => by
                have := remove_ref ref_off (HRF.out.below (bel_dn (Below.refl _ _) k)) nj (by unfold maxLen; omega)
                rw [hK, hr] at this
                exact this
              unfold rmR at hrm
              rw [hr] at hrm
              obtain ⟨z, hz⟩ : ∃ z, numR K = z := ⟨_, rfl⟩
              rw [hz] at NB hrm
              have HRR := Lib.hid hrm
              have j0 : (0 : Int) ≤ (j : Int) := by omega
              have j1 : (j : Int) < (q : Int) := by omega
              subst e1
              clear hjl hK hKm hKK hnj hnz hr hz hrm
              by_cases hgo : 0 ≤ z ∧ z ≠ v
              · have g0 : decide (z ≥ 0) = true := by rw [decide_eq_true_eq]; exact hgo.1
                have g1' : (z == v) = false := by rw [beq_eq_false_iff_ne]; exact hgo.2
                have g2 : (z != v) = true := by rw [bne_iff_ne]; exact hgo.2
                have hrm := HRR.out
                rw [if_pos hgo] at hrm
                by_cases hr0 : rr = 0
                · subst hr0
                  rw [if_neg (show ¬ (((0 : Int), Sy).1 ≠ 0) from fun h => h rfl)] at hrm
                  have HRX := Lib.hid hrm
                  clear hgo hrm
                  go_wp2_with (go_at_call 71; (with_reducible refine NB.out.mono ?_); rintro e wa ⟨rfl, na, rfl⟩)
                  refine (RMK.out na).mono ?_
                  rintro e wb ⟨rfl, Ob', stb, rfb⟩
                  have STB := Lib.hid (HST.out.trans ((Step.of (Turned.drewN _ wr na)).trans stb)); have RFB := Lib.hid rfb
                  clear stb rfb n1
                  go_wp2_with fail
                  go_roundg (q - (j + 1))
                  case measure => omega
                  case rel => exact ⟨j + 1, Sy, Ob', by omega, by first | rfl | go_num, STB, RFB, Lib.hid HRX.out⟩
                · have tr : (rr == 0) = false := by rw [beq_eq_false_iff_ne]; exact hr0
                  have tr2 : (rr != 0) = true := by rw [bne_iff_ne]; exact hr0
                  rw [if_pos (show ((rr, Sy).1 ≠ 0) from hr0)] at hrm
                  have HRX := Lib.hid hrm
                  clear hgo hrm hr0
                  go_wp2_with (go_at_call 71; (with_reducible refine NB.out.mono ?_); rintro e wa ⟨rfl, na, rfl⟩)
                  refine (RMK.out na).mono ?_
                  rintro e wb ⟨rfl, Ob', stb, rfb⟩
                  have D := Lib.hid (rdid_end (ST9.out.trans (HST.out.trans ((Step.of (Turned.drewN _ wr na)).trans stb))) rfb HRX.out)
                  clear stb rfb n1
                  go_wp2_with fail
                  go_ret
                  exact D.out
              · have hrm := HRR.out
                rw [if_neg hgo] at hrm
                have HRX := Lib.hid hrm
                have tt : decide (z ≥ 0) = false ∨ (decide (z ≥ 0) = true ∧ (z != v) = false) := by
                  by_cases h : 0 ≤ z
                  · exact .inr ⟨by rw [decide_eq_true_eq]; exact h, by rw [bne_eq_false_iff_eq]; by_cases h' : z = v; exact h'; exact absurd ⟨h, h'⟩ hgo⟩
                  · exact .inl (by rw [decide_eq_false_iff_not]; omega)
                clear hgo hrm
                rcases tt with g0 | ⟨g0, g1'⟩
                all_goals
                  go_wp2_with (go_at_call 71; (with_reducible refine NB.out.mono ?_); rintro e wa ⟨rfl, na, rfl⟩; have STB := Lib.hid (HST.out.trans (Step.of (Turned.drewN _ wr na))); have RFB := Lib.hid (HRF.out.below (bel_dn (Below.refl _ _) na)))
                  go_roundg (q - (j + 1))
                  case measure => omega
                  case rel => exact ⟨j + 1, Sx, Ox, by omega, by first | rfl | go_num, STB, RFB, Lib.hid HRX.out⟩
            · obtain rfl : q = j := by omega
              have hY : ((0 : Int), Sx) = Y := by
                have := HRM.out
                rw [← HQ.out, List.drop_length] at this
                exact this
              have D := Lib.hid (rdid_end (ST9.out.trans HST.out) HRF.out hY)
              clear hY
              go_wp2
              go_ret
              exact D.out
        · have tr : (r4 == 0) = false := by rw [beq_eq_false_iff_ne]; exact q4
          have tr2 : (r4 != 0) = true := by rw [bne_iff_ne]; exact q4
          have D := Lib.hid (rdid_end ST8.out RF8.out (F4.out (by trivial) (by trivial) q4))
          clear q4
          go_wp2_with fail
          go_ret
          exact D.out
      · have tr : (r3 == 0) = false := by rw [beq_eq_false_iff_ne]; exact q3
        have tr2 : (r3 != 0) = true := by rw [bne_iff_ne]; exact q3
        have D := Lib.hid (rdid_end ST6.out RF6.out (F3.out (by trivial) q3))
        clear q3
        go_wp2_with fail
        go_ret
        exact D.out
    · have tr : (r2 == 0) = false := by rw [beq_eq_false_iff_ne]; exact q2
      have tr2 : (r2 != 0) = true := by rw [bne_iff_ne]; exact q2
      have D := Lib.hid (rdid_end ST5.out RF5.out (F2.out q2))
      clear q2
      go_wp2_with fail
      go_ret
      exact D.out
end Go.Proofs.YtdonkmkjblofpaaGreatDoor.Sn
/-! ## Me -/
namespace Go.Proofs.YtdonkmkjblofpaaGreatDoor.Sn
open Go.RowKit Go.Sort Dx Sx Dk Wl Fo
set_option linter.unusedVariables false
set_option linter.unusedSimpArgs false
def Ball (S : St) : Prop := ∀ f ∈ S.fs, Bytes f.l
theorem Ball.read {S : St} (h : Ball S) (k : List UInt8) : Bytes (readL k S) := by
  unfold readL
  split
  · unfold fileOf
    split
    · rename_i f hf
      exact h f (Dk.look_some hf).1
    · exact bytes_nil'
  · exact bytes_nil'
theorem read_len {S : St} (h : Dk.Good S) (k : List UInt8) : (readL k S).length ≤ 1048576 := by
  unfold readL
  split
  · unfold fileOf
    split
    · rename_i f hf
      exact h.size f (Dk.look_some hf).1
    · exact Nat.zero_le _
  · exact Nat.zero_le _
theorem nums_snoc {L : List (List UInt8)} {j : Nat} (h : j < L.length) : (numsL snm (L.take (j + 1))).reverse = (hitN snm L[j]).toList ++ (numsL snm (L.take j)).reverse := by
  rw [nums_take h, List.reverse_append]
  cases hitN snm L[j] <;> rfl
theorem step_hit {S : St} {K : List UInt8} {m : Int} (h0 : K ≠ []) (hh : hitN snm K = some m) (ht : there K S = 0) : snm m = K ∧ numR K = m ∧ 0 ≤ m ∧ step1 S m = if (decS m (readL K S)).2 = 0 then some (m, (decS m (readL K S)).1, 0) else none := by
  obtain ⟨h1, h2⟩ := (hit_iff (c := 115) (m := 0) h0).1 hh
  obtain ⟨m', rfl⟩ := Int.eq_ofNat_of_zero_le h1.1
  have hk : snm ((m' : Nat) : Int) = K := by rw [snm_nat (by omega), h2]; rfl
  refine ⟨hk, by unfold numR; rw [hh], h1.1, ?_⟩
  unfold step1
  rw [hk, ht, if_neg (by simp)]
theorem there_nm {S : St} (hg : Dk.Good S) (hup : S.down = false) {K : List UInt8} (h : K ∈ namesL S) : there K S = 0 := by
  have hm := h
  unfold namesL at hm
  rw [hup] at hm
  simp only [Bool.false_eq_true, if_false] at hm
  obtain ⟨f, hf, e⟩ := List.mem_map.1 hm
  have hb := hg.name f hf
  rw [e] at hb
  unfold there
  rw [hb, hup]
  simp only [Bool.false_eq_true, if_false]
  cases hl : Dk.look K S.fs with
  | none => exact absurd e (Dk.look_none hl f hf)
  | some g => simp
theorem rload_down {w : World} {O : Nat → Prop} {d : Nat} {S : St} (hd : IsRef w O d S) (h : S.down = true) : Calls Tryz.prog 33 #[.pointer (some ⟨d, 0, none⟩)] w (LoadIt w (loadS S)) := by
  have D : Hid (LoadIt w (loadS S) (.returned (.tuple #[.int .i64 0, .slice none 0 0, .int .i64 20])) w) := Lib.hid (by
    unfold loadS; rw [if_pos (by rw [h])]
    exact ⟨_, rfl, own_none _ _, Below.refl _ _⟩)
  obtain ⟨_, _, _, hr⟩ := hd
  have c := hr.cells.2.2.1
  rw [h] at c
  clear hr h
  go_enter Tryz.func33, Tryz.ntmps33
  go_wp2
  go_ret3
  exact D.out
set_option maxRecDepth 100000 in
set_option maxHeartbeats 1600000 in
theorem rload_up {w : World} {O : Nat → Prop} {d : Nat} {S : St} (hd : IsRef w O d S) (h : S.down = false) (hby : Ball S) : Calls Tryz.prog 33 #[.pointer (some ⟨d, 0, none⟩)] w (LoadIt w (loadS S)) := by
  have hg : Dk.Good S := by obtain ⟨_, _, _, hr⟩ := hd; exact hr.good
  have cP : w.cell? ⟨d, 2, none⟩ = some (.bool true) := by
    obtain ⟨_, _, _, hr⟩ := hd
    have := hr.cells.2.2.1
    rwa [h] at this
  have N8 := Lib.hid (refnames_hi (N := w.heap.size) hd (Nat.le_refl _))
  obtain ⟨Y, hY⟩ : ∃ Y, loadS S = Y := ⟨_, rfl⟩
  have hY' : findL S (numsL snm (namesL S)).reverse = Y := by rw [← hY]; unfold loadS; rw [if_neg (by rw [h]; decide)]
  rw [hY]
  obtain ⟨L, hLL⟩ : ∃ L, namesL S = L := ⟨_, rfl⟩
  have hne : ∀ k ∈ L, k ≠ [] ∧ k.length ≤ 16 ∧ there k S = 0 := by
    rw [← hLL]; exact fun k hk => ⟨names_ne hg k hk, names_len hg k hk, there_nm hg h hk⟩
  rw [hLL] at hY' N8
  obtain ⟨q, hq⟩ : ∃ q, L.length = q := ⟨_, rfl⟩
  have hq16 : q ≤ 16 := by rw [← hq, ← hLL]; exact few_names hg
  rw [hq] at N8
  have HNE := Lib.hid hne; have HQ := Lib.hid hq; have HYY := Lib.hid hY'; have HD := Lib.hid hd; have HBY := Lib.hid hby
  clear hd hg hY hY' hLL hne hq hby h
  go_enter Tryz.func33, Tryz.ntmps33
  go_wp2_with fail
  refine N8.out.mono ?_
  rintro e w1 ⟨ad, cp, rfl, hc1, hc2, nm1, hb1⟩
  have NM1 := Lib.hid nm1; have HB1 := Lib.hid hb1
  clear nm1 hb1 N8 cP
  go_wp2
  go_loopg [5, 6, 22] q (fun m b o i wr => ∃ (j n : Nat) (best : Int) (lst : List Int) (ao : Option Addr) (co : Nat), j + m = q ∧ b = .int .i64 best ∧ o = .slice ao n co ∧ i = .int .i64 (j : Int) ∧ Hid (Ob.OwnB wr w.heap.size (.slice ao n co) lst) ∧ Hid (lst.length = n) ∧ Hid (findL S (numsL snm (L.take j)).reverse = (best, lst, 0)) ∧ Hid (Below w1.heap.size w1 wr))
  case atStart => exact ⟨0, 0, -1, [], none, 0, by omega, rfl, rfl, rfl, Lib.hid (own_none _ _), Lib.hid rfl, Lib.hid rfl, Lib.hid (Below.refl _ _)⟩
  case round =>
    obtain ⟨j, n, best, lst, ao, co, hj, rfl, rfl, rfl, HO, HN, HF, HB⟩ := hrel
    by_cases hlt : j < q
    · have hjl : j < L.length := by rw [HQ.out]; exact hlt
      obtain ⟨g1, e1, n1⟩ := nm_cell (b := 0) (off := 0) (NM1.out.keep (KeepHi.of_below HB.out)) hjl
      have hK : (nmV L j).data.toList = L[j] := by rw [nmV_list]; simp [List.getD, hjl]
      have hKm : L[j] ∈ L := List.getElem_mem hjl
      have hsn := nums_snoc hjl
      obtain ⟨K, hKK⟩ : ∃ K, L[j] = K := ⟨_, rfl⟩
      rw [hKK] at hK hKm hsn
      obtain ⟨nj, hnj⟩ : ∃ nj, nmV L j = nj := ⟨_, rfl⟩
      rw [hnj] at n1 hK
      obtain ⟨k1, k2, k3⟩ := HNE.out K hKm
      have hnz : nj.size ≤ 16 := by
        have := k2
        rw [← hK, Array.length_toList] at this
        exact this
      have BWr : Hid (Below w.heap.size w wr) := Lib.hid (HB1.out.trans (HB.out.mono HB1.out.size))
      have NB := Lib.hid (number6_any nj K hK (by omega) k1 wr)
      obtain ⟨z, hz⟩ : ∃ z, numR K = z := ⟨_, rfl⟩
      rw [hz] at NB
      have j0 : (0 : Int) ≤ (j : Int) := by omega
      have j1 : (j : Int) < (q : Int) := by omega
      have hjc : (j : Int) < (cp : Int) := by omega
      subst e1
      cases hh : hitN snm K with
      | none =>
        have hz1 : z = -1 := by rw [← hz]; unfold numR; rw [hh]
        have t0 : decide (z < 0) = true := by rw [hz1]; decide
        rw [hh] at hsn
        have HF2 : Hid (findL S (numsL snm (L.take (j + 1))).reverse = (best, lst, 0)) := Lib.hid (by rw [hsn]; exact HF.out)
        clear hjl hK hKm hKK hnj hnz hz hz1 hsn hh k1 k2 k3
        go_wp2_with (go_at_call 71; (with_reducible refine NB.out.mono ?_); rintro e wa ⟨rfl, na, rfl⟩; have HOA := Lib.hid (Ob.own_keep HO.out (bel_dn (Below.refl _ _) na)); have HBA := Lib.hid (bel_dn HB.out na))
        go_roundg (q - (j + 1))
        case measure => omega
        case rel => exact ⟨j + 1, n, best, lst, ao, co, by omega, rfl, rfl, by first | rfl | go_num, HOA, HN, HF2, HBA⟩
      | some m =>
        obtain ⟨s1, s2, s3, s4⟩ := step_hit k1 hh k3
        have hz1 : z = m := by rw [← hz]; exact s2
        subst hz1
        have t0 : decide (z < 0) = false := by rw [decide_eq_false_iff_not]; omega
        rw [hh] at hsn
        have RDK : Hid (∀ k, Calls Tryz.prog 67 #[.pointer (some ⟨d, 0, none⟩), .string nj] (wr.drewN k) fun e w' => ∃ v, e = .returned (.tuple #[v, .int .i64 0]) ∧ Ob.OwnB w' (wr.drewN k).heap.size v (readL K S) ∧ Below (wr.drewN k).heap.size (wr.drewN k) w') := Lib.hid fun k => by
          have := read_ref (HD.out.below (bel_dn BWr.out k)) nj (by unfold maxLen; omega)
          unfold ReadIt at this
          rw [hK, k3] at this
          exact this
        obtain ⟨rd, hrd⟩ : ∃ rd, readL K S = rd := ⟨_, rfl⟩
        have hrb : Bytes rd := by rw [← hrd]; exact HBY.out.read K
        have hrl : rd.length ≤ 1048576 := by
          rw [← hrd]
          obtain ⟨_, _, _, hr⟩ := HD.out
          exact read_len hr.good K
        rw [hrd] at RDK s4
        obtain ⟨X, er, hX⟩ : ∃ X er, decS z rd = (X, er) := ⟨_, _, rfl⟩
        rw [hX] at s4
        have DEC : Hid (∀ wx ad1 cp1, Fr.HasRow .u8 wx ad1 rd.length rd → rd.length ≤ cp1 → cp1 ≤ maxLen → Calls Tryz.prog 17 #[.int .i64 z, .slice ad1 rd.length cp1] wx fun e w' => ∃ x, e = .returned (.tuple #[x, .int .i64 er]) ∧ Ob.OwnB w' wx.heap.size x X ∧ Below wx.heap.size wx w') := Lib.hid fun wx ad1 cp1 hr h1 h2 => by
          have := rdecode_any z ad1 rd.length cp1 rd wx hrb hr h1 (by unfold maxLen at h2; exact h2) (by omega)
          rw [List.take_length] at this
          unfold DecIt at this
          rw [hX] at this
          exact this
        obtain ⟨rl, hrl2⟩ : ∃ rl, rd.length = rl := ⟨_, rfl⟩
        rw [hrl2] at DEC
        have HRL := Lib.hid hrl2
        have HF2 : Hid (findL S (numsL snm (L.take (j + 1))).reverse = if er = 0 then (z, X, 0) else (best, lst, 0)) := Lib.hid (by
          rw [hsn]
          show (match step1 S z with | some x => x | none => findL S (numsL snm (L.take j)).reverse) = _
          rw [s4]
          by_cases h : er = 0
          · rw [if_pos h, if_pos h]
          · rw [if_neg h, if_neg h]; exact HF.out)
        clear hjl hK hKm hKK hnj hnz hz hsn hh k1 k2 k3 s1 s2 s3 s4 hrd hrb hrl hX hrl2
        by_cases her : er = 0
        · subst her
          have HF3 := HF2.out
          rw [if_pos (by trivial)] at HF3
          have HF4 := Lib.hid HF3
          obtain ⟨nx, hnx⟩ : ∃ nx, X.length = nx := ⟨_, rfl⟩
          have HNX := Lib.hid hnx
          clear HF2 HF3 hnx
          go_wp2_with (go_at_call 71; (with_reducible refine NB.out.mono ?_); rintro e wa ⟨rfl, na, rfl⟩)
          refine (RDK.out na).mono ?_
          rintro e w2 ⟨v2, rfl, ho2, hb2⟩
          obtain ⟨a2, c2, rfl, hr2, _, q1, q2⟩ := Ob.own_row ho2
          rw [HRL.out] at hr2 q1 ⊢
          have DC := Lib.hid (DEC.out w2 a2 c2 hr2 q1 q2)
          have HB2 : Hid (Below w1.heap.size w1 w2) := Lib.hid ((bel_dn HB.out na).trans (hb2.mono (bel_dn HB.out na).size))
          clear ho2 hb2 hr2 q1 q2
          go_wp2_with fail
          refine DC.out.mono ?_
          rintro e w3 ⟨v3, rfl, ho3, hb3⟩
          obtain ⟨a3, c3, rfl, _, _, _, _⟩ := Ob.own_row ho3
          rw [HNX.out] at ho3 ⊢
          have HB3 := Lib.hid (HB2.out.trans (hb3.mono HB2.out.size))
          have HO3 : Hid (Ob.OwnB w3 w.heap.size (.slice a3 nx c3) X) := Lib.hid (Joins.ownsRow_le ho3 (Nat.le_trans HB1.out.size HB2.out.size))
          clear ho3 hb3 DC
          go_wp2_with fail
          go_roundg (q - (j + 1))
          case measure => omega
          case rel => exact ⟨j + 1, nx, z, X, a3, c3, by omega, rfl, rfl, by first | rfl | go_num, HO3, HNX, HF4, HB3⟩
        · have tr : (er == 0) = false := by rw [beq_eq_false_iff_ne]; exact her
          have HF3 := HF2.out
          rw [if_neg her] at HF3
          have HF4 := Lib.hid HF3
          clear HF2 HF3 her
          go_wp2_with (go_at_call 71; (with_reducible refine NB.out.mono ?_); rintro e wa ⟨rfl, na, rfl⟩)
          refine (RDK.out na).mono ?_
          rintro e w2 ⟨v2, rfl, ho2, hb2⟩
          obtain ⟨a2, c2, rfl, hr2, _, q1, q2⟩ := Ob.own_row ho2
          rw [HRL.out] at hr2 q1 ⊢
          have DC := Lib.hid (DEC.out w2 a2 c2 hr2 q1 q2)
          have HB2 : Hid (Below w1.heap.size w1 w2) := Lib.hid ((bel_dn HB.out na).trans (hb2.mono (bel_dn HB.out na).size))
          have HOA := Lib.hid (Ob.own_keep (Ob.own_keep HO.out (bel_dn (Below.refl _ _) na)) hb2)
          clear ho2 hb2 hr2 q1 q2
          go_wp2_with fail
          refine DC.out.mono ?_
          rintro e w3 ⟨v3, rfl, _, hb3⟩
          have HB3 := Lib.hid (HB2.out.trans (hb3.mono HB2.out.size))
          have HO3 := Lib.hid (Ob.own_keep HOA.out hb3)
          clear hb3 DC
          go_wp2_with fail
          go_roundg (q - (j + 1))
          case measure => omega
          case rel => exact ⟨j + 1, n, best, lst, ao, co, by omega, rfl, rfl, by first | rfl | go_num, HO3, HN, HF4, HB3⟩
    · obtain rfl : q = j := by omega
      have D : Hid (LoadIt w Y (.returned (.tuple #[.int .i64 best, .slice ao n co, .int .i64 0])) wr) := Lib.hid (by
        have := HF.out
        rw [← HQ.out, List.take_length] at this
        rw [← HYY.out, this]
        exact ⟨_, rfl, HO.out, HB1.out.trans (HB.out.mono HB1.out.size)⟩)
      go_wp2
      go_ret3
      exact D.out
theorem rload_any {w : World} {O : Nat → Prop} {d : Nat} {S : St} (hd : IsRef w O d S) (hby : Ball S) : Calls Tryz.prog 33 #[.pointer (some ⟨d, 0, none⟩)] w (LoadIt w (loadS S)) := by
  cases h : S.down with
  | true => exact rload_down hd h
  | false => exact rload_up hd h hby
end Go.Proofs.YtdonkmkjblofpaaGreatDoor.Sn
/-! ## Mf -/
namespace Go.Proofs.YtdonkmkjblofpaaGreatDoor.Sn
open Go.RowKit Go.Sort Dx Sx Dk Wl Fo
set_option linter.unusedVariables false
set_option linter.unusedSimpArgs false
theorem Ball.off {S : St} (h : Ball S) (keep : Int) : Ball (off keep S) := by
  unfold Dk.off
  split
  · exact h
  · intro f hf
    obtain ⟨g, hg, rfl⟩ := List.mem_map.1 hf
    exact bytes_take (h g hg) _
theorem Ball.tick {S : St} (h : Ball S) : Ball (tick S) := h
theorem Ball.wrote {S : St} (h : Ball S) : Ball (wrote S) := by
  unfold Dk.wrote
  split
  · exact h.tick.off _
  · exact h
theorem Ball.file {S : St} (h : Ball S) (k : List UInt8) : Bytes (fileOf k S.fs).l := by
  unfold fileOf
  split
  · rename_i f hf
    exact h f (Dk.look_some hf).1
  · exact bytes_nil'
theorem Ball.append {S : St} (h : Ball S) (k : List UInt8) {b : List Int} (hb : Bytes b) : Ball (appendS k b S).2 := by
  unfold appendS
  split
  · exact h
  · refine Ball.wrote fun f hf => ?_
    rcases Dk.mem_put.1 hf with rfl | ⟨h1, _⟩
    · exact bytes_append (h.file k) hb
    · exact h f h1
theorem Ball.sync {S : St} (h : Ball S) (k : List UInt8) : Ball (syncS k S).2 := by
  unfold syncS
  split
  · exact h
  · split
    · exact h.wrote
    · intro f hf
      obtain ⟨g, hg, rfl⟩ := Dk.mem_upd.1 hf
      split
      · exact h g hg
      · exact h g hg
theorem Ball.remove {S : St} (h : Ball S) (k : List UInt8) : Ball (removeS k S).2 := by
  unfold removeS
  split
  · exact h
  · split
    · exact h.wrote
    · exact fun f hf => h f (Dk.mem_del.1 hf).1
theorem Ball.rename {S : St} (h : Ball S) (k t : List UInt8) : Ball (renameS k t S).2 := by
  unfold renameS
  split
  · exact h
  · split
    · exact h
    · split
      · exact h.wrote
      · dsimp only
        split
        · rename_i g hg
          intro f hf
          rcases Dk.mem_put.1 hf with rfl | ⟨h1, _⟩
          · exact h g (Dk.look_some hg).1
          · exact h f (Dk.mem_del.1 h1).1
        · exact h
theorem Ball.rm {v : Int} : ∀ (L : List Int) {S : St}, Ball S → Ball (rmS v L S).2
  | [], S, h => h
  | x :: r, S, h => by
    unfold rmS
    split
    · exact Ball.rm r h
    · split
      · exact h.remove _
      · exact Ball.rm r (h.remove _)
theorem Ball.cl {S : St} (h : Ball S) : Ball (clS S).2 := by
  unfold clS
  split
  · exact h.remove _
  · exact h
theorem Ball.wd {S : St} (h : Ball S) {b : List Int} (hb : Bytes b) : Ball (wdS b S).2 := by
  unfold wdS
  split
  · exact h.cl
  · split
    · exact h.cl.append _ hb
    · exact (h.cl.append _ hb).sync _
theorem Ball.save {S : St} (h : Ball S) (v : Int) {l : List Int} (hl : Bytes l) : Ball (saveS v l S).2 := by
  unfold saveS
  have hw := h.wd (bytes_enc (u := u32N v) hl)
  split
  · exact h
  · split
    · exact h
    · split
      · exact h
      · split
        · exact hw
        · split
          · exact hw.rename _ _
          · exact Ball.rm _ (hw.rename _ _)
theorem Ball.some {S : St} (h : Ball S) : BytesS S := fun f hf _ => h f hf
theorem opw_cells {w : World} {b off j : Nat} {x : Opw} (h : ∀ i, i < 4 → w.cell? ⟨b, off + (j * 4 + i), none⟩ = x.cells[i]?) :
    w.cell? ⟨b, off + j * 4, none⟩ = some (.int .i64 x.kind) ∧ w.cell? ⟨b, off + j * 4 + 1, none⟩ = some (.int .i64 x.n) ∧ w.cell? ⟨b, off + j * 4 + 2, none⟩ = some (.int .i64 x.k) ∧ w.cell? ⟨b, off + j * 4 + 3, none⟩ = some (.slice x.b.a x.b.len x.b.cap) :=
  ⟨h 0 (by decide), by have := h 1 (by decide); rwa [← Nat.add_assoc] at this, by have := h 2 (by decide); rwa [← Nat.add_assoc] at this, by have := h 3 (by decide); rwa [← Nat.add_assoc] at this⟩
theorem flw_cells {w : World} {b off j : Nat} {x : Flw} (h : ∀ i, i < 2 → w.cell? ⟨b, off + (j * 2 + i), none⟩ = x.cells[i]?) :
    w.cell? ⟨b, off + j * 2, none⟩ = some (.string x.nm) ∧ w.cell? ⟨b, off + j * 2 + 1, none⟩ = some (.slice x.b.a x.b.len x.b.cap) :=
  ⟨h 0 (by decide), by have := h 1 (by decide); rwa [← Nat.add_assoc] at this⟩
/-- What is played is short. -/
def Shorts (nf no : Nat) (F : Nat → Flw) (X : Nat → Opw) : Prop := nf ≤ 16 ∧ no ≤ 256 ∧ (∀ j, j < nf → (F j).b.len ≤ 65536) ∧ ∀ j, j < no → (X j).b.len ≤ 4194304
def LongIt (w : World) (nf no : Nat) (F : Nat → Flw) (X : Nat → Opw) (e : Ending) (w' : World) : Prop := ∃ b, e = .returned (.bool b) ∧ Below w.heap.size w w' ∧ (b = false → Shorts nf no F X)
set_option maxRecDepth 100000 in
set_option maxHeartbeats 1600000 in
theorem long6_any (a : Option Addr) (nf cf : Nat) (F : Nat → Flw) (a2 : Option Addr) (no co : Nat) (X : Nat → Opw) (w : World) (fs : HasFlw w a nf F) (ops : HasOpw w a2 no X) :
    Calls Tryz.prog 23 #[.slice a nf cf, .slice a2 no co] w (LongIt w nf no F X) := by
  have hm := fs.1; have hm2 := ops.1
  have HF := Lib.hid fs; have HO := Lib.hid ops
  clear fs ops
  go_enter Tryz.func23, Tryz.ntmps23
  go_wp2
  go_loopg [5, 12] nf (fun m t i wr => ∃ k u : Nat, k + m = nf ∧ i = .int .i64 (k : Int) ∧ t = .int .i64 (u : Int) ∧ u ≤ 65536 ∧ Hid (∀ j, j < k → (F j).b.len ≤ u) ∧ Hid (Below w.heap.size w wr))
  case atStart => exact ⟨0, 0, by omega, rfl, rfl, by decide, Lib.hid (fun j hj => absurd hj (Nat.not_lt_zero _)), Lib.hid (Below.refl _ _)⟩
  case round =>
    obtain ⟨k, u, hk, rfl, rfl, hu, HU, HB⟩ := hrel
    by_cases hlt : k < nf
    · have ho := HF.out.keep HB.out
      obtain ⟨b, off, e1, hc⟩ := ho.2.1 (by omega)
      obtain ⟨c0, c1⟩ := flw_cells (hc k hlt)
      have hok := (ho.2.2 k hlt).row
      have hL := hok.le; have hC := hok.cap
      subst e1
      clear hc hok ho
      obtain ⟨L, hLL⟩ : ∃ L, (F k).b.len = L := ⟨_, rfl⟩
      rw [hLL] at c1 hL
      have HLL := Lib.hid hLL
      clear hLL
      generalize (F k).b.cap = rc at *
      generalize (F k).b.a = ra at *
      generalize (F k).nm = x0 at *
      have B1 : Hid (Below w.heap.size w (wr.alloc (.cells #[.string x0, .slice ra L rc] 44))) := HB.out.alloc HB.out.size _
      by_cases hbig : 65536 < u + L
      · have t1 : decide (((u : Int) + (L : Int)) > 65536) = true := by rw [decide_eq_true_eq]; omega
        go_wp2
        go_ret
        exact ⟨true, rfl, B1.out, fun h => by cases h⟩
      · have t1 : decide (((u : Int) + (L : Int)) > 65536) = false := by rw [decide_eq_false_iff_not]; omega
        have HU2 : Hid (∀ j, j < k + 1 → (F j).b.len ≤ u + L) := Lib.hid fun j hj => by
          by_cases h : j < k
          · have := HU.out j h; omega
          · obtain rfl : j = k := by omega
            rw [HLL.out]; omega
        go_wp2
        go_roundg (nf - (k + 1))
        case measure => omega
        case rel => exact ⟨k + 1, u + L, by omega, by go_num, by go_num, by omega, HU2, B1⟩
    · obtain rfl : nf = k := by omega
      have HFS : Hid (∀ j, j < nf → (F j).b.len ≤ 65536) := Lib.hid fun j hj => Nat.le_trans (HU.out j hj) hu
      have HB0 := HB
      go_wp2
      go_loopg [5, 26] no (fun m t i wr => ∃ k u : Nat, k + m = no ∧ i = .int .i64 (k : Int) ∧ t = .int .i64 (u : Int) ∧ u ≤ 4194304 ∧ Hid (∀ j, j < k → (X j).b.len ≤ u) ∧ Hid (Below w.heap.size w wr))
      case atStart => exact ⟨0, u, by omega, rfl, rfl, by omega, Lib.hid (fun j hj => absurd hj (Nat.not_lt_zero _)), HB0⟩
      case round =>
        clear HB0 HB HU hu hk
        obtain ⟨k, u, hk, rfl, rfl, hu, HU, HB⟩ := hrel
        by_cases hlt : k < no
        · have ho := HO.out.keep HB.out
          obtain ⟨b, off, e1, hc⟩ := ho.2.1 (by omega)
          obtain ⟨c0, c1, c2, c3⟩ := opw_cells (hc k hlt)
          have hok := (ho.2.2 k hlt).row
          have hL := hok.le; have hC := hok.cap
          subst e1
          clear hc hok ho
          obtain ⟨L, hLL⟩ : ∃ L, (X k).b.len = L := ⟨_, rfl⟩
          rw [hLL] at c3 hL
          have HLL := Lib.hid hLL
          clear hLL
          generalize (X k).b.cap = rc at *
          generalize (X k).b.a = ra at *
          generalize (X k).kind = x0 at *
          generalize (X k).n = x1 at *
          generalize (X k).k = x2 at *
          have B1 : Hid (Below w.heap.size w (wr.alloc (.cells #[.int .i64 x0, .int .i64 x1, .int .i64 x2, .slice ra L rc] 48))) := HB.out.alloc HB.out.size _
          by_cases hbig : 4194304 < u + L
          · have t1 : decide (((u : Int) + (L : Int)) > 4194304) = true := by rw [decide_eq_true_eq]; omega
            go_wp2
            go_ret
            exact ⟨true, rfl, B1.out, fun h => by cases h⟩
          · have t1 : decide (((u : Int) + (L : Int)) > 4194304) = false := by rw [decide_eq_false_iff_not]; omega
            have HU2 : Hid (∀ j, j < k + 1 → (X j).b.len ≤ u + L) := Lib.hid fun j hj => by
              by_cases h : j < k
              · have := HU.out j h; omega
              · obtain rfl : j = k := by omega
                rw [HLL.out]; omega
            go_wp2
            go_roundg (no - (k + 1))
            case measure => omega
            case rel => exact ⟨k + 1, u + L, by omega, by go_num, by go_num, by omega, HU2, B1⟩
        · obtain rfl : no = k := by omega
          have HOS : Hid (∀ j, j < no → (X j).b.len ≤ 4194304) := Lib.hid fun j hj => Nat.le_trans (HU.out j hj) hu
          have D : Hid (∀ b1 b2 : Bool, decide ((no : Int) > 256) = b1 → decide ((nf : Int) > 16) = b2 → ((b1 = true ∨ b2 = true) ∨ Shorts nf no F X)) := Lib.hid fun b1 b2 h1 h2 => by
            cases b1 with
            | true => exact .inl (.inl rfl)
            | false =>
              cases b2 with
              | true => exact .inl (.inr rfl)
              | false =>
                rw [decide_eq_false_iff_not] at h1 h2
                exact .inr ⟨by omega, by omega, HFS.out, HOS.out⟩
          obtain ⟨b1, h1⟩ : ∃ b, decide ((no : Int) > 256) = b := ⟨_, rfl⟩
          obtain ⟨b2, h2⟩ : ∃ b, decide ((nf : Int) > 16) = b := ⟨_, rfl⟩
          have D2 := Lib.hid (D.out b1 b2 h1 h2)
          clear D
          cases b1 with
          | true =>
            go_wp2
            go_ret
            exact ⟨true, rfl, HB.out, fun h => by cases h⟩
          | false =>
            cases b2 with
            | true =>
              go_wp2
              go_ret
              exact ⟨true, rfl, HB.out, fun h => by cases h⟩
            | false =>
              have sh : Shorts nf no F X := by rcases D2.out with (h | h) | h; cases h; cases h; exact h
              have SH := Lib.hid sh
              clear sh D2
              go_wp2
              go_ret
              exact ⟨false, rfl, HB.out, fun _ => SH.out⟩
end Go.Proofs.YtdonkmkjblofpaaGreatDoor.Sn
/-! ## Mg -/
namespace Go.Proofs.YtdonkmkjblofpaaGreatDoor.Sn
open Go.RowKit Go.Sort Dx Sx Dk Wl Fo
set_option linter.unusedVariables false
set_option linter.unusedSimpArgs false
structure Bx (W w : World) (O1 : Nat → Prop) (d : Nat) (S : St) (O2 : Nat → Prop) (m : Nat) (T : St) (N : Nat) (cs : Array Value) (t : TypeId) : Prop where
  pair : Pair W w O1 d S O2 m T
  box : w.heap[N]? = some (.cells cs t (0, 0))
  n1 : ¬ O1 N
  n2 : ¬ O2 N
section
variable {W w w' : World} {O1 O2 O' : Nat → Prop} {d m N : Nat} {S T S' : St} {cs : Array Value} {t : TypeId}
theorem Bx.below (h : Bx W w O1 d S O2 m T N cs t) (hb : Below w.heap.size w w') : Bx W w' O1 d S O2 m T N cs t :=
  ⟨h.pair.below hb, (hb.block N (lt_of_heap h.box)).trans h.box, h.n1, h.n2⟩
theorem Bx.stepd (h : Bx W w O1 d S O2 m T N cs t) (hst : Step w O1 w' O') (hd : IsDisk w' O' d S') : Bx W w' O' d S' O2 m T N cs t :=
  ⟨h.pair.stepd hst hd, (hst.block N (lt_of_heap h.box) h.n1).trans h.box, fun hn => by
    rcases hst.own N hn with h1 | h1
    · exact h.n1 h1
    · have := lt_of_heap h.box; omega, h.n2⟩
theorem Bx.stepr (h : Bx W w O1 d S O2 m T N cs t) (hst : Step w O2 w' O') (hd : IsRef w' O' m S') : Bx W w' O1 d S O' m S' N cs t :=
  ⟨h.pair.stepr hst hd, (hst.block N (lt_of_heap h.box) h.n2).trans h.box, h.n1, fun hn => by
    rcases hst.own N hn with h1 | h1
    · exact h.n2 h1
    · have := lt_of_heap h.box; omega⟩
theorem Bx.cell (h : Bx W w O1 d S O2 m T N cs t) (i : Nat) : w.cell? ⟨N, i, none⟩ = cs[i]? := Joins.cell_of_block h.box i
def DidD (W : World) (d : Nat) (O2 : Nat → Prop) (m : Nat) (T : St) (N : Nat) (cs : Array Value) (t : TypeId) (r : Value) (S' : St) (e : Ending) (w' : World) : Prop := e = .returned r ∧ ∃ O', Bx W w' O' d S' O2 m T N cs t
def DidR (W : World) (O1 : Nat → Prop) (d : Nat) (S : St) (m : Nat) (N : Nat) (cs : Array Value) (t : TypeId) (r : Value) (T' : St) (e : Ending) (w' : World) : Prop := e = .returned r ∧ ∃ O', Bx W w' O1 d S O' m T' N cs t
theorem bx_app_d (h : Bx W w O1 d S O2 m T N cs t) (s : ByteArray) (hs : s.size ≤ maxLen) (a : Option Addr) (len cap : Nat) (zs : List Int) (hrow : Fr.HasRow .u8 w a len zs) (hn : a = none → cap = 0) (hlb : len ≤ 140737488355328) {r : Int} (he : appendS s.data.toList (zs.take len) S = (r, S')) :
    Calls Tryz.prog 26 #[.pointer (some ⟨d, 0, none⟩), .string s, .slice a len cap] w (DidD W d O2 m T N cs t (.int .i64 r) S') := by
  have c := append_disk h.pair.disk s hs a len cap zs hrow hn hlb
  rw [he] at c
  exact c.mono fun e w' ⟨h1, O', st, hd⟩ => ⟨h1, O', h.stepd st hd⟩
theorem bx_app_r (h : Bx W w O1 d S O2 m T N cs t) (s : ByteArray) (hs : s.size ≤ maxLen) (a : Option Addr) (len cap : Nat) (zs : List Int) (hrow : Fr.HasRow .u8 w a len zs) (hn : a = none → cap = 0) (hlb : len ≤ 140737488355328) {r : Int} (he : appendS s.data.toList (zs.take len) T = (r, S')) :
    Calls Tryz.prog 27 #[.pointer (some ⟨m, 0, none⟩), .string s, .slice a len cap] w (DidR W O1 d S m N cs t (.int .i64 r) S') := by
  have c := append_ref ref_off h.pair.ref s hs a len cap zs hrow hn hlb
  rw [he] at c
  exact c.mono fun e w' ⟨h1, O', st, hd⟩ => ⟨h1, O', h.stepr st hd⟩
theorem bx_sync_d (h : Bx W w O1 d S O2 m T N cs t) (s : ByteArray) (hs : s.size ≤ maxLen) {r : Int} (he : syncS s.data.toList S = (r, S')) :
    Calls Tryz.prog 28 #[.pointer (some ⟨d, 0, none⟩), .string s] w (DidD W d O2 m T N cs t (.int .i64 r) S') := by
  have c := sync_disk h.pair.disk s hs
  rw [he] at c
  exact c.mono fun e w' ⟨h1, O', st, hd⟩ => ⟨h1, O', h.stepd st hd⟩
theorem bx_sync_r (h : Bx W w O1 d S O2 m T N cs t) (s : ByteArray) (hs : s.size ≤ maxLen) {r : Int} (he : syncS s.data.toList T = (r, S')) :
    Calls Tryz.prog 29 #[.pointer (some ⟨m, 0, none⟩), .string s] w (DidR W O1 d S m N cs t (.int .i64 r) S') := by
  have c := sync_ref ref_off h.pair.ref s hs
  rw [he] at c
  exact c.mono fun e w' ⟨h1, O', st, hd⟩ => ⟨h1, O', h.stepr st hd⟩
theorem bx_save_d (h : Bx W w O1 d S O2 m T N cs t) (ht : Tabs W) (v : Int) (a : Option Addr) (len cap : Nat) (zs : List Int) (hb : Bytes zs) (hrow : Fr.HasRow .u8 w a len zs) (hn : a = none → cap = 0) (hlen : len ≤ 140737488351232) {r : Int} (he : saveS v (zs.take len) S = (r, S')) :
    Calls Tryz.prog 30 #[.pointer (some ⟨d, 0, none⟩), .int .i64 v, .slice a len cap] w (DidD W d O2 m T N cs t (.int .i64 r) S') := by
  have c := save_any v h.pair.disk (ht.keep h.pair.frame) (ok_glob ht h.pair.h1) a len cap zs hb hrow hn hlen
  rw [he] at c
  exact c.mono fun e w' ⟨h1, O', st, hd⟩ => ⟨h1, O', h.stepd st hd⟩
theorem bx_save_r (h : Bx W w O1 d S O2 m T N cs t) (v : Int) (a : Option Addr) (len cap : Nat) (zs : List Int) (hb : Bytes zs) (hrow : Fr.HasRow .u8 w a len zs) (hrow0 : Fr.HasRow .u8 W a len zs) (hn : a = none → cap = 0) (hlen : len ≤ 140737488351232) {r : Int} (he : saveS v (zs.take len) T = (r, S')) :
    Calls Tryz.prog 31 #[.pointer (some ⟨m, 0, none⟩), .int .i64 v, .slice a len cap] w (DidR W O1 d S m N cs t (.int .i64 r) S') := by
  have c : Calls Tryz.prog 31 #[.pointer (some ⟨m, 0, none⟩), .int .i64 v, .slice a len cap] w (RDid2 w O2 m (saveS v (zs.take len) T)) := by
    by_cases hbad : snm v = [] ∨ 1048564 < len ∨ T.down = true
    · exact rsave_bad v h.pair.ref a len cap zs hrow hlen hbad
    · have h1 : ¬ snm v = [] := fun e => hbad (.inl e)
      have h2 : ¬ 1048564 < len := fun e => hbad (.inr (.inl e))
      have h3 : T.down = false := by
        cases e : T.down
        · rfl
        · exact absurd (.inr (.inr e)) hbad
      refine rsave_good v h.pair.ref a len cap zs hb hrow hn h1 h2 h3 fun h0 x hx ho => ?_
      obtain ⟨b, off, e, hc⟩ := hrow0.2.2 h0
      rw [e] at hx
      cases hx
      have l1 := Fr.lt_of_cell (hc 0 h0)
      have l2 := h.pair.h2 _ ho
      simp only at l1 l2
      omega
  rw [he] at c
  exact c.mono fun e w' ⟨h1, O', st, hd⟩ => ⟨h1, O', h.stepr st hd⟩
theorem bx_arm_d (h : Bx W w O1 d S O2 m T N cs t) (n keep : Int) (hn : n ≤ 9223372036854775807) {S'} (he : armS n keep S = S') : Calls Tryz.prog 34 #[.pointer (some ⟨d, 0, none⟩), .int .i64 n, .int .i64 keep] w (DidD W d O2 m T N cs t (.tuple #[]) S') := by
  subst he
  exact (arm_disk h.pair.disk n keep hn).mono fun e w' ⟨h1, O', st, hd⟩ => ⟨h1, O', h.stepd st hd⟩
theorem bx_arm_r (h : Bx W w O1 d S O2 m T N cs t) (n keep : Int) (hn : n ≤ 9223372036854775807) {S'} (he : armS n keep T = S') : Calls Tryz.prog 35 #[.pointer (some ⟨m, 0, none⟩), .int .i64 n, .int .i64 keep] w (DidR W O1 d S m N cs t (.tuple #[]) S') := by
  subst he
  exact (arm_ref h.pair.ref n keep hn).mono fun e w' ⟨h1, O', st, hd⟩ => ⟨h1, O', h.stepr st hd⟩
theorem bx_off_d (h : Bx W w O1 d S O2 m T N cs t) (keep : Int) {S'} (he : off keep S = S') : Calls Tryz.prog 36 #[.pointer (some ⟨d, 0, none⟩), .int .i64 keep] w (DidD W d O2 m T N cs t (.tuple #[]) S') := by
  subst he
  exact (off_disk h.pair.disk keep).mono fun e w' ⟨h1, O', st, hd⟩ => ⟨h1, O', h.stepd st hd⟩
theorem bx_off_r (h : Bx W w O1 d S O2 m T N cs t) (keep : Int) {S'} (he : off keep T = S') : Calls Tryz.prog 37 #[.pointer (some ⟨m, 0, none⟩), .int .i64 keep] w (DidR W O1 d S m N cs t (.tuple #[]) S') := by
  subst he
  exact (off_ref ref_off h.pair.ref keep).mono fun e w' ⟨h1, O', st, hd⟩ => ⟨h1, O', h.stepr st hd⟩
theorem bx_on_d (h : Bx W w O1 d S O2 m T N cs t) : Calls Tryz.prog 38 #[.pointer (some ⟨d, 0, none⟩)] w (DidD W d O2 m T N cs t (.tuple #[]) { S with down := false }) :=
  (on_disk h.pair.disk).mono fun e w' ⟨h1, O', st, hd⟩ => ⟨h1, O', h.stepd st hd⟩
theorem bx_room_d (h : Bx W w O1 d S O2 m T N cs t) (n : Int) : Calls Tryz.prog 39 #[.pointer (some ⟨d, 0, none⟩), .int .i64 n] w (DidD W d O2 m T N cs t (.tuple #[]) { S with room := n }) :=
  (room_disk h.pair.disk n).mono fun e w' ⟨h1, O', st, hd⟩ => ⟨h1, O', h.stepd st hd⟩
theorem bx_power (h : Bx W w O1 d S O2 m T N cs t) : (∀ i, w.frozen? ⟨m, i, none⟩ = false) ∧ (∃ v, w.cell? ⟨m, 2, none⟩ = some v) ∧ Bx W (w.setCell ⟨m, 2, none⟩ (.bool true)) O1 d S O2 m { T with down := false } N cs t := by
  obtain ⟨fv, P, Q, hr⟩ := h.pair.ref
  exact ⟨hr.cells.2.2.2.2.2.2, ⟨_, hr.cells.2.2.1⟩, h.stepr (Step.of (Turned.setCell _ 2 hr.od _)) ⟨fv, P, Q, hr.field (S' := { T with down := false }) 2 (.bool true) rfl rfl hr.good.arm⟩⟩
theorem bx_space (h : Bx W w O1 d S O2 m T N cs t) (n : Int) : (∀ i, w.frozen? ⟨m, i, none⟩ = false) ∧ (∃ v, w.cell? ⟨m, 1, none⟩ = some v) ∧ Bx W (w.setCell ⟨m, 1, none⟩ (.int .i64 n)) O1 d S O2 m { T with room := n } N cs t := by
  obtain ⟨fv, P, Q, hr⟩ := h.pair.ref
  exact ⟨hr.cells.2.2.2.2.2.2, ⟨_, hr.cells.2.1⟩, h.stepr (Step.of (Turned.setCell _ 1 hr.od _)) ⟨fv, P, Q, hr.field (S' := { T with room := n }) 1 (.int .i64 n) rfl rfl hr.good.arm⟩⟩
end
set_option maxRecDepth 100000 in
theorem load_nil (w : World) : Calls Tryz.prog 32 #[.pointer none] w fun e w' => e = .returned (.tuple #[.int .i64 0, .slice none 0 0, .int .i64 2]) ∧ Below w.heap.size w w' := by
  have HB : Hid (∀ a b c e, Below w.heap.size w ((((w.alloc a).alloc b).alloc c).alloc e)) := Lib.hid fun a b c e => ((((Below.refl _ _).alloc (Nat.le_refl _) _).alloc (by simp) _).alloc (by simp; omega) _).alloc (by simp; omega) _
  go_enter Tryz.func32, Tryz.ntmps32
  go_wp2
  exact bodyPost_ret (v := .tuple #[.int .i64 0, .slice none 0 0, .int .i64 2]) (by simp [results, Tryz.results32, go_sem]) rfl ⟨rfl, HB.out _ _ _ _⟩
set_option maxRecDepth 100000 in
theorem save_nil (w : World) (v : Int) (a : Option Addr) (len cap : Nat) : Calls Tryz.prog 30 #[.pointer none, .int .i64 v, .slice a len cap] w fun e w' => e = .returned (.int .i64 2) ∧ Below w.heap.size w w' := by
  go_enter Tryz.func30, Tryz.ntmps30
  go_wp2
  go_ret
  exact ⟨rfl, Below.refl _ _⟩
end Go.Proofs.YtdonkmkjblofpaaGreatDoor.Sn
/-! ## Mh -/
namespace Go.Proofs.YtdonkmkjblofpaaGreatDoor.Sn
open Go.RowKit Go.Sort Dx Sx Dk Wl Fo
set_option linter.unusedVariables false
set_option linter.unusedSimpArgs false
set_option maxRecDepth 100000 in
set_option maxHeartbeats 6400000 in
theorem does6_walk (a : Option Addr) (nf cf : Nat) (F : Nat → Flw) (a2 : Option Addr) (no co : Nat) (X : Nat → Opw) (w : World) (ht : Tabs w) (fs : HasFlw w a nf F) (ops : HasOpw w a2 no X) :
    Calls Tryz.prog 5 #[.slice a nf cf, .slice a2 no co] w fun e w' => e = .returned (.bool true) ∧ Below w.heap.size w w' := by
  have hm := fs.1; have hm2 := ops.1
  have HF := Lib.hid fs; have HO := Lib.hid ops; have HT := Lib.hid ht
  clear fs ops ht
  go_enter Tryz.func5, Tryz.ntmps5
  go_wp2_with fail
  refine (wakes6_any _ HT.out).mono ?_
  rintro e w1 ⟨rfl, hb1⟩
  have B1 := Lib.hid hb1; clear hb1
  go_wp2_with fail
  refine (long6_any a nf cf F a2 no co X w1 (HF.out.keep B1.out) (HO.out.keep B1.out)).mono ?_
  rintro e w2 ⟨lb, rfl, hb2, hsh⟩
  have B2 := Lib.hid (B1.out.trans (hb2.mono B1.out.size)); clear hb2
  cases lb with
  | true =>
    go_wp2_with fail
    go_ret
    exact ⟨rfl, B2.out⟩
  | false =>
  have SH := Lib.hid (hsh rfl)
  clear hsh
  go_wp2_with fail
  refine (new_any w2 2097152).mono ?_
  rintro e w3 ⟨rfl, hb3, hz3, hd3⟩
  have ID3 := Lib.hid hd3; have B3 := Lib.hid hb3
  clear hd3 hb3 hz3
  go_wp2_with fail
  refine (ref_new w3 2097152).mono ?_
  rintro e w4 ⟨rfl, hb4, hz4, hr4⟩
  have P4 : Hid (Pair w2 w4 (fun i => i = w2.heap.size ∨ i = w2.heap.size + 1) (w2.heap.size + 1) (Dk.start 2097152) (fun i => i = w3.heap.size) w3.heap.size (Dk.start 2097152)) := Lib.hid (by
    have hdom := disk_dom ID3.out
    exact ⟨ID3.out.below hb4, hr4, (fun i hi => by rcases hi with rfl | rfl <;> omega), (fun i hi => by subst hi; exact B3.out.size), (fun i hi h2 => by have := hdom i hi; omega), B3.out.trans (hb4.mono B3.out.size)⟩)
  obtain ⟨d, hd⟩ : ∃ d, d = w2.heap.size + 1 := ⟨_, rfl⟩
  obtain ⟨m, hm3⟩ : ∃ m, m = w3.heap.size := ⟨_, rfl⟩
  rw [← hd] at P4 ⊢
  rw [← hm3] at P4 ⊢
  have HF2 := Lib.hid (HF.out.keep B2.out); have HO2 := Lib.hid (HO.out.keep B2.out); have HT2 := Lib.hid (HT.out.keep B2.out)
  clear hd hm3 hb4 hz4 hr4 ID3 B3 B1
  go_wp2_with fail
  go_loopg [29] nf (fun mm i wr => ∃ (k : Nat) (S : St) (O1 O2 : Nat → Prop), k + mm = nf ∧ i = .int .i64 (k : Int) ∧ Hid (Pair w2 wr O1 d S O2 m S) ∧ Hid (Ball S))
  case atStart => exact ⟨0, _, _, _, by omega, rfl, P4, Lib.hid (fun f hf => by cases hf)⟩
  case round =>
    obtain ⟨k, S, O1, O2, hk, rfl, HP, HBA⟩ := hrel
    by_cases hlt : k < nf
    · have os := HF2.out.keep HP.out.frame
      obtain ⟨b, off, e1, hc⟩ := os.2.1 (by omega)
      obtain ⟨c0, c1⟩ := flw_cells (hc k hlt)
      have ok0 := HF2.out.2.2 k hlt
      obtain ⟨x, hx⟩ : ∃ x, F k = x := ⟨_, rfl⟩
      rw [hx] at c0 c1 ok0
      obtain ⟨nm, ⟨ra, L, rc, zs⟩⟩ := x
      simp only at c0 c1
      have OK : Hid (Flw.Ok w2 ⟨nm, ⟨ra, L, rc, zs⟩⟩) := Lib.hid ok0
      have hL := ok0.row.le; have hC := ok0.row.cap
      simp only at hL hC
      subst e1
      obtain ⟨r1, S1, h1⟩ : ∃ r S', appendS nm.data.toList (zs.take L) S = (r, S') := ⟨_, _, rfl⟩
      obtain ⟨r2, S2, h2⟩ : ∃ r S', syncS nm.data.toList S1 = (r, S') := ⟨_, _, rfl⟩
      have HB2 : Hid (Ball S2) := Lib.hid (by
        have b1 := HBA.out.append nm.data.toList (bytes_take OK.out.bts L)
        rw [h1] at b1
        have b2 := Ball.sync b1 nm.data.toList
        rw [h2] at b2
        exact b2)
      obtain ⟨N, hN⟩ : ∃ N, N = wr.heap.size := ⟨_, rfl⟩
      obtain ⟨wa, hwa⟩ : ∃ wa, wa = wr.alloc (.cells #[.string nm, .slice ra L rc] 44) := ⟨_, rfl⟩
      have hx0 : Bx w2 wa O1 d S O2 m S N #[.string nm, .slice ra L rc] 44 := by
        refine ⟨by rw [hwa]; exact HP.out.below ((Below.refl _ _).alloc (Nat.le_refl _) _), by rw [hwa, hN]; exact (MapKept.heap_alloc wr _).1, fun h => ?_, fun h => ?_⟩
        · have := disk_dom HP.out.disk N h; omega
        · have := HP.out.ref.dom N h; omega
      have KS : Hid (∀ wx P1 Q1 P2 Q2, Bx w2 wx P1 d Q1 P2 m Q2 N #[.string nm, .slice ra L rc] 44 → wx.cell? ⟨N, 0, none⟩ = some (.string nm) ∧ wx.cell? ⟨N, 1, none⟩ = some (.slice ra L rc)) := Lib.hid fun wx P1 Q1 P2 Q2 h => ⟨h.cell 0, h.cell 1⟩
      have A1 : Hid (∀ wx P1 P2, Bx w2 wx P1 d S P2 m S N #[.string nm, .slice ra L rc] 44 → Calls Tryz.prog 26 #[.pointer (some ⟨d, 0, none⟩), .string nm, .slice ra L rc] wx (DidD w2 d P2 m S N #[.string nm, .slice ra L rc] 44 (.int .i64 r1) S1)) := Lib.hid fun wx P1 P2 h => by
        have rw1 := OK.out.row.keep h.pair.frame
        exact bx_app_d h nm OK.out.nm0 ra L rc zs rw1.row rw1.nil (by omega) h1
      have A2 : Hid (∀ wx P1 P2, Bx w2 wx P1 d S1 P2 m S N #[.string nm, .slice ra L rc] 44 → Calls Tryz.prog 27 #[.pointer (some ⟨m, 0, none⟩), .string nm, .slice ra L rc] wx (DidR w2 P1 d S1 m N #[.string nm, .slice ra L rc] 44 (.int .i64 r1) S1)) := Lib.hid fun wx P1 P2 h => by
        have rw1 := OK.out.row.keep h.pair.frame
        exact bx_app_r h nm OK.out.nm0 ra L rc zs rw1.row rw1.nil (by omega) h1
      have A3 : Hid (∀ wx P1 P2, Bx w2 wx P1 d S1 P2 m S1 N #[.string nm, .slice ra L rc] 44 → Calls Tryz.prog 28 #[.pointer (some ⟨d, 0, none⟩), .string nm] wx (DidD w2 d P2 m S1 N #[.string nm, .slice ra L rc] 44 (.int .i64 r2) S2)) := Lib.hid fun wx P1 P2 h => bx_sync_d h nm OK.out.nm0 h2
      have A4 : Hid (∀ wx P1 P2, Bx w2 wx P1 d S2 P2 m S1 N #[.string nm, .slice ra L rc] 44 → Calls Tryz.prog 29 #[.pointer (some ⟨m, 0, none⟩), .string nm] wx (DidR w2 P1 d S2 m N #[.string nm, .slice ra L rc] 44 (.int .i64 r2) S2)) := Lib.hid fun wx P1 P2 h => bx_sync_r h nm OK.out.nm0 h2
      have tq1 : (r1 == r1) = true := beq_self_eq_true r1
      have tq2 : (r2 == r2) = true := beq_self_eq_true r2
      have tn1 : (r1 != r1) = false := by simp
      have tn2 : (r2 != r2) = false := by simp
      have HX0 := Lib.hid hx0; have HWA := Lib.hid hwa; have HNN := Lib.hid hN
      have hk0 : (0 : Int) ≤ (k : Int) := by omega
      have hk1 : (k : Int) < (nf : Int) := by omega
      clear os hc ok0 hx h1 h2 hx0 hwa hN
      unfold DidD at A1 A3
      unfold DidR at A2 A4
      go_wp2_with fail
      rw [← HWA.out]
      rw [← HNN.out]
      go_region_held3 (fun wx => wx.cell? ⟨N, 0, none⟩ = some (.string nm) ∧ wx.cell? ⟨N, 1, none⟩ = some (.slice ra L rc))
        (first | exact KS.out _ _ _ _ _ hx4 | exact KS.out _ _ _ _ _ hx3 | exact KS.out _ _ _ _ _ hx2 | exact KS.out _ _ _ _ _ hx1 | exact KS.out _ _ _ _ _ (HX0.out.below (Below.drew (Below.refl _ _))))
        (first
          | (go_at_call 26; (with_reducible refine (A1.out _ _ _ (HX0.out.below (Below.drew (Below.refl _ _)))).mono ?_); rintro e w5 ⟨rfl, P1, hx1⟩)
          | (go_at_call 27; (with_reducible refine (A2.out _ _ _ hx1).mono ?_); rintro e w6 ⟨rfl, P2, hx2⟩)
          | (go_at_call 28; (with_reducible refine (A3.out _ _ _ hx2).mono ?_); rintro e w7 ⟨rfl, P3, hx3⟩)
          | (go_at_call 29; (with_reducible refine (A4.out _ _ _ hx3).mono ?_); rintro e w8 ⟨rfl, P4, hx4⟩))
      go_split_ands
      have HX4 := Lib.hid hx4.pair
      clear hx1 hx2 hx3 hx4
      go_wp2
      go_roundg (nf - (k + 1))
      case measure => omega
      case rel => exact ⟨k + 1, S2, P3, P4, by omega, by first | rfl | go_num, HX4, HB2⟩
    · obtain rfl : nf = k := by omega
      go_wp2_with fail
      -- the script (gen_mh.py)
      go_loopg [60] no (fun mm i wr => ∃ (k : Nat) (S : St) (O1 O2 : Nat → Prop), k + mm = no ∧ i = .int .i64 (k : Int) ∧ Hid (Pair w2 wr O1 d S O2 m S) ∧ Hid (Ball S))
      case atStart => exact ⟨0, S, O1, O2, by omega, rfl, HP, HBA⟩
      case round =>
        clear HP HBA hk hlt
        obtain ⟨k, S, O1, O2, hk, rfl, HP, HBA⟩ := hrel
        by_cases hlt : k < no
        · have os := HO2.out.keep HP.out.frame
          obtain ⟨b, off, e1, hc⟩ := os.2.1 (by omega)
          obtain ⟨c0, c1, c2, c3⟩ := opw_cells (hc k hlt)
          have ok0 := HO2.out.2.2 k hlt
          have hl4 := SH.out.2.2.2 k hlt
          obtain ⟨x, hx⟩ : ∃ x, X k = x := ⟨_, rfl⟩
          rw [hx] at c0 c1 c2 c3 ok0 hl4
          obtain ⟨kind, n, kk, ⟨ra, L, rc, zs⟩⟩ := x
          simp only at c0 c1 c2 c3 hl4
          have OK : Hid (Opw.Ok w2 ⟨kind, n, kk, ⟨ra, L, rc, zs⟩⟩) := Lib.hid ok0
          have hL := ok0.row.le; have hC := ok0.row.cap
          simp only at hL hC
          subst e1
          obtain ⟨N, hN⟩ : ∃ N, N = wr.heap.size := ⟨_, rfl⟩
          obtain ⟨wa, hwa⟩ : ∃ wa, wa = wr.alloc (.cells #[.int .i64 kind, .int .i64 n, .int .i64 kk, .slice ra L rc] 48) := ⟨_, rfl⟩
          have hx0 : Bx w2 wa O1 d S O2 m S N #[.int .i64 kind, .int .i64 n, .int .i64 kk, .slice ra L rc] 48 := by
            refine ⟨by rw [hwa]; exact HP.out.below ((Below.refl _ _).alloc (Nat.le_refl _) _), by rw [hwa, hN]; exact (MapKept.heap_alloc wr _).1, fun h => ?_, fun h => ?_⟩
            · have := disk_dom HP.out.disk N h; omega
            · have := HP.out.ref.dom N h; omega
          have hk0 : (0 : Int) ≤ (k : Int) := by omega
          have hk1 : (k : Int) < (no : Int) := by omega
          have HX0 := Lib.hid hx0; have HWA := Lib.hid hwa; have HNN := Lib.hid hN
          have cN0 := hx0.cell 0
          clear os hc ok0 hx hx0 hwa hN hl4
          by_cases h0 : kind = 0
          · subst h0
            obtain ⟨r1, S1, h1⟩ : ∃ r S', saveS n (zs.take L) S = (r, S') := ⟨_, _, rfl⟩
            have HB2 : Hid (Ball S1) := Lib.hid (by
              have b1 := HBA.out.save n (bytes_take OK.out.bts L)
              rw [h1] at b1; exact b1)
            have KS : Hid (∀ wx P1 Q1 P2 Q2, Bx w2 wx P1 d Q1 P2 m Q2 N #[.int .i64 0, .int .i64 n, .int .i64 kk, .slice ra L rc] 48 → wx.cell? ⟨N, 1, none⟩ = some (.int .i64 n) ∧ wx.cell? ⟨N, 2, none⟩ = some (.int .i64 kk) ∧ wx.cell? ⟨N, 3, none⟩ = some (.slice ra L rc)) := Lib.hid fun wx P1 Q1 P2 Q2 h => ⟨h.cell 1, h.cell 2, h.cell 3⟩
            have A1 : Hid (∀ wx P1 P2, Bx w2 wx P1 d S P2 m S N #[.int .i64 0, .int .i64 n, .int .i64 kk, .slice ra L rc] 48 → Calls Tryz.prog 30 #[.pointer (some ⟨d, 0, none⟩), .int .i64 n, .slice ra L rc] wx (DidD w2 d P2 m S N #[.int .i64 0, .int .i64 n, .int .i64 kk, .slice ra L rc] 48 (.int .i64 r1) S1)) := Lib.hid fun wx P1 P2 h => by
              have rw1 := OK.out.row.keep h.pair.frame
              exact bx_save_d h HT2.out n ra L rc zs OK.out.bts rw1.row rw1.nil (by omega) h1
            have A2 : Hid (∀ wx P1 P2, Bx w2 wx P1 d S1 P2 m S N #[.int .i64 0, .int .i64 n, .int .i64 kk, .slice ra L rc] 48 → Calls Tryz.prog 31 #[.pointer (some ⟨m, 0, none⟩), .int .i64 n, .slice ra L rc] wx (DidR w2 P1 d S1 m N #[.int .i64 0, .int .i64 n, .int .i64 kk, .slice ra L rc] 48 (.int .i64 r1) S1)) := Lib.hid fun wx P1 P2 h => by
              have rw1 := OK.out.row.keep h.pair.frame
              exact bx_save_r h n ra L rc zs OK.out.bts rw1.row OK.out.row.row rw1.nil (by omega) h1
            unfold DidD at A1
            unfold DidR at A2
            have tq1 : (r1 == r1) = true := beq_self_eq_true r1
            have tn1 : (r1 != r1) = false := by simp
            clear h1
            go_wp2_with fail
            rw [← HWA.out]
            rw [← HNN.out]
            go_region_held3 (fun wx => wx.cell? ⟨N, 1, none⟩ = some (.int .i64 n) ∧ wx.cell? ⟨N, 2, none⟩ = some (.int .i64 kk) ∧ wx.cell? ⟨N, 3, none⟩ = some (.slice ra L rc))
              (first | exact KS.out _ _ _ _ _ hx2 | exact KS.out _ _ _ _ _ hx1 | exact KS.out _ _ _ _ _ (HX0.out.below (Below.drew (Below.refl _ _))))
              (first
                | (go_at_call 30; (with_reducible refine (A1.out _ _ _ (HX0.out.below (Below.drew (Below.refl _ _)))).mono ?_); rintro e w5 ⟨rfl, P1, hx1⟩)
                | (go_at_call 31; (with_reducible refine (A2.out _ _ _ hx1).mono ?_); rintro e w6 ⟨rfl, P2, hx2⟩))
            go_split_ands
            have HX2 := Lib.hid hx2.pair
            clear hx1 hx2
            have HE := Lib.hid (held6_any HX2.out.disk HX2.out.ref)
            go_wp2_with fail
            refine HE.out.mono ?_
            rintro e wz ⟨rfl, hbz⟩
            have PZ := Lib.hid (HX2.out.below hbz)
            clear hbz HE
            go_wp2_with fail
            go_roundg (no - (k + 1))
            case measure => omega
            case rel => exact ⟨k + 1, S1, _, _, by omega, by first | rfl | go_num, PZ, HB2⟩
          by_cases h1 : kind = 1
          · subst h1
            have LD := Lib.hid (load_any HX0.out.pair.disk (HT2.out.keep HX0.out.pair.frame) HBA.out.some)
            have LR : Hid (∀ wx, Below wa.heap.size wa wx → Calls Tryz.prog 33 #[.pointer (some ⟨m, 0, none⟩)] wx (LoadIt wx (loadS S))) := Lib.hid fun wx hb => rload_any (HX0.out.below hb).pair.ref HBA.out
            obtain ⟨R1, R2, R3, hR⟩ : ∃ R1 R2 R3, loadS S = (R1, R2, R3) := ⟨_, _, _, rfl⟩
            rw [hR] at LD LR
            obtain ⟨nl, hnl⟩ : ∃ nl, R2.length = nl := ⟨_, rfl⟩
            have HNL := Lib.hid hnl
            have HPA := Lib.hid HX0.out.pair
            unfold LoadIt at LD LR
            simp only at LD LR
            have tq1 : (R1 == R1) = true := beq_self_eq_true R1
            have tn1 : (R1 != R1) = false := by simp
            have tq3 : (R3 == R3) = true := beq_self_eq_true R3
            have tn3 : (R3 != R3) = false := by simp
            clear hR hnl
            go_wp2_with fail
            rw [← HWA.out]
            rw [← HNN.out]
            refine LD.out.mono ?_
            rintro e w5 ⟨v5, rfl, ho5, hb5⟩
            obtain ⟨a5, c5, rfl, hr5, _, _, _⟩ := Ob.own_row ho5
            rw [HNL.out] at hr5 ⊢
            have HR5 := Lib.hid hr5; have HB5 := Lib.hid hb5
            clear ho5 hb5 hr5
            go_wp2_with fail
            refine (LR.out _ HB5.out).mono ?_
            rintro e w6 ⟨v6, rfl, ho6, hb6⟩
            obtain ⟨a6, c6, rfl, hr6, _, _, _⟩ := Ob.own_row ho6
            rw [HNL.out] at hr6 ⊢
            have SM := Lib.hid (ssame_self (HR5.out.keep hb6) hr6 (c := c5) (c' := c6))
            have HB6 := Lib.hid (HB5.out.trans (hb6.mono HB5.out.size))
            clear ho6 hb6 hr6
            go_wp2_with fail
            refine SM.out.mono ?_
            rintro e w7 ⟨rfl, hb7⟩
            have PX := Lib.hid (HPA.out.below (HB6.out.trans (hb7.mono HB6.out.size)))
            clear hb7 SM
            have HE := Lib.hid (held6_any PX.out.disk PX.out.ref)
            go_wp2_with fail
            refine HE.out.mono ?_
            rintro e wz ⟨rfl, hbz⟩
            have PZ := Lib.hid (PX.out.below hbz)
            clear hbz HE
            go_wp2_with fail
            go_roundg (no - (k + 1))
            case measure => omega
            case rel => exact ⟨k + 1, S, _, _, by omega, by first | rfl | go_num, PZ, HBA⟩
          by_cases h2 : kind = 2
          · subst h2
            obtain ⟨S1, hs1⟩ : ∃ S1, armS n kk S = S1 := ⟨_, rfl⟩
            have HB2 : Hid (Ball S1) := Lib.hid (by rw [← hs1]; exact HBA.out)
            have KS : Hid (∀ wx P1 Q1 P2 Q2, Bx w2 wx P1 d Q1 P2 m Q2 N #[.int .i64 2, .int .i64 n, .int .i64 kk, .slice ra L rc] 48 → wx.cell? ⟨N, 1, none⟩ = some (.int .i64 n) ∧ wx.cell? ⟨N, 2, none⟩ = some (.int .i64 kk) ∧ wx.cell? ⟨N, 3, none⟩ = some (.slice ra L rc)) := Lib.hid fun wx P1 Q1 P2 Q2 h => ⟨h.cell 1, h.cell 2, h.cell 3⟩
            have A1 : Hid (∀ wx P1 P2, Bx w2 wx P1 d S P2 m S N #[.int .i64 2, .int .i64 n, .int .i64 kk, .slice ra L rc] 48 → Calls Tryz.prog 34 #[.pointer (some ⟨d, 0, none⟩), .int .i64 n, .int .i64 kk] wx (DidD w2 d P2 m S N #[.int .i64 2, .int .i64 n, .int .i64 kk, .slice ra L rc] 48 (.tuple #[]) S1)) := Lib.hid fun wx P1 P2 h => bx_arm_d h n kk OK.out.n1 hs1
            have A2 : Hid (∀ wx P1 P2, Bx w2 wx P1 d S1 P2 m S N #[.int .i64 2, .int .i64 n, .int .i64 kk, .slice ra L rc] 48 → Calls Tryz.prog 35 #[.pointer (some ⟨m, 0, none⟩), .int .i64 n, .int .i64 kk] wx (DidR w2 P1 d S1 m N #[.int .i64 2, .int .i64 n, .int .i64 kk, .slice ra L rc] 48 (.tuple #[]) S1)) := Lib.hid fun wx P1 P2 h => bx_arm_r h n kk OK.out.n1 hs1
            unfold DidD at A1
            unfold DidR at A2
            clear hs1
            go_wp2_with fail
            rw [← HWA.out]
            rw [← HNN.out]
            refine (A1.out _ _ _ HX0.out).mono ?_
            rintro e w5 ⟨rfl, P1, hx1⟩
            obtain ⟨q1, q2, q3⟩ := KS.out _ _ _ _ _ hx1
            have HX1 := Lib.hid hx1
            clear hx1
            go_wp2_with fail
            clear q1 q2 q3
            refine (A2.out _ _ _ HX1.out).mono ?_
            rintro e w6 ⟨rfl, P2, hx2⟩
            have HX2 := Lib.hid hx2.pair
            clear hx2
            have HE := Lib.hid (held6_any HX2.out.disk HX2.out.ref)
            go_wp2_with fail
            refine HE.out.mono ?_
            rintro e wz ⟨rfl, hbz⟩
            have PZ := Lib.hid (HX2.out.below hbz)
            clear hbz HE
            go_wp2_with fail
            go_roundg (no - (k + 1))
            case measure => omega
            case rel => exact ⟨k + 1, S1, _, _, by omega, by first | rfl | go_num, PZ, HB2⟩
          by_cases h3 : kind = 3
          · subst h3
            obtain ⟨S1, hs1⟩ : ∃ S1, Dk.off kk S = S1 := ⟨_, rfl⟩
            have HB2 : Hid (Ball S1) := Lib.hid (by rw [← hs1]; exact HBA.out.off kk)
            have KS : Hid (∀ wx P1 Q1 P2 Q2, Bx w2 wx P1 d Q1 P2 m Q2 N #[.int .i64 3, .int .i64 n, .int .i64 kk, .slice ra L rc] 48 → wx.cell? ⟨N, 1, none⟩ = some (.int .i64 n) ∧ wx.cell? ⟨N, 2, none⟩ = some (.int .i64 kk) ∧ wx.cell? ⟨N, 3, none⟩ = some (.slice ra L rc)) := Lib.hid fun wx P1 Q1 P2 Q2 h => ⟨h.cell 1, h.cell 2, h.cell 3⟩
            have A1 : Hid (∀ wx P1 P2, Bx w2 wx P1 d S P2 m S N #[.int .i64 3, .int .i64 n, .int .i64 kk, .slice ra L rc] 48 → Calls Tryz.prog 36 #[.pointer (some ⟨d, 0, none⟩), .int .i64 kk] wx (DidD w2 d P2 m S N #[.int .i64 3, .int .i64 n, .int .i64 kk, .slice ra L rc] 48 (.tuple #[]) S1)) := Lib.hid fun wx P1 P2 h => bx_off_d h kk hs1
            have A2 : Hid (∀ wx P1 P2, Bx w2 wx P1 d S1 P2 m S N #[.int .i64 3, .int .i64 n, .int .i64 kk, .slice ra L rc] 48 → Calls Tryz.prog 37 #[.pointer (some ⟨m, 0, none⟩), .int .i64 kk] wx (DidR w2 P1 d S1 m N #[.int .i64 3, .int .i64 n, .int .i64 kk, .slice ra L rc] 48 (.tuple #[]) S1)) := Lib.hid fun wx P1 P2 h => bx_off_r h kk hs1
            unfold DidD at A1
            unfold DidR at A2
            clear hs1
            go_wp2_with fail
            rw [← HWA.out]
            rw [← HNN.out]
            refine (A1.out _ _ _ HX0.out).mono ?_
            rintro e w5 ⟨rfl, P1, hx1⟩
            obtain ⟨q1, q2, q3⟩ := KS.out _ _ _ _ _ hx1
            have HX1 := Lib.hid hx1
            clear hx1
            go_wp2_with fail
            clear q1 q2 q3
            refine (A2.out _ _ _ HX1.out).mono ?_
            rintro e w6 ⟨rfl, P2, hx2⟩
            have HX2 := Lib.hid hx2.pair
            clear hx2
            have HE := Lib.hid (held6_any HX2.out.disk HX2.out.ref)
            go_wp2_with fail
            refine HE.out.mono ?_
            rintro e wz ⟨rfl, hbz⟩
            have PZ := Lib.hid (HX2.out.below hbz)
            clear hbz HE
            go_wp2_with fail
            go_roundg (no - (k + 1))
            case measure => omega
            case rel => exact ⟨k + 1, S1, _, _, by omega, by first | rfl | go_num, PZ, HB2⟩
          by_cases h4 : kind = 4
          · subst h4
            have A1 := Lib.hid (bx_on_d HX0.out)
            unfold DidD at A1
            have HB2 : Hid (Ball { S with down := false }) := Lib.hid HBA.out
            go_wp2_with fail
            rw [← HWA.out]
            rw [← HNN.out]
            refine A1.out.mono ?_
            rintro e w5 ⟨rfl, P1, hx1⟩
            obtain ⟨fz, ⟨v5, cv⟩, hx2⟩ := bx_power hx1
            have fz2 := fz 2
            have HX2 := Lib.hid hx2.pair
            clear fz hx1 hx2 A1
            have HE := Lib.hid (held6_any HX2.out.disk HX2.out.ref)
            go_wp2_with fail
            refine HE.out.mono ?_
            rintro e wz ⟨rfl, hbz⟩
            have PZ := Lib.hid (HX2.out.below hbz)
            clear hbz HE
            go_wp2_with fail
            go_roundg (no - (k + 1))
            case measure => omega
            case rel => exact ⟨k + 1, { S with down := false }, _, _, by omega, by first | rfl | go_num, PZ, HB2⟩
          by_cases h5 : kind = 5
          · subst h5
            have KS : Hid (∀ wx P1 Q1 P2 Q2, Bx w2 wx P1 d Q1 P2 m Q2 N #[.int .i64 5, .int .i64 n, .int .i64 kk, .slice ra L rc] 48 → wx.cell? ⟨N, 1, none⟩ = some (.int .i64 n) ∧ wx.cell? ⟨N, 2, none⟩ = some (.int .i64 kk) ∧ wx.cell? ⟨N, 3, none⟩ = some (.slice ra L rc)) := Lib.hid fun wx P1 Q1 P2 Q2 h => ⟨h.cell 1, h.cell 2, h.cell 3⟩
            have A1 : Hid (∀ wx P1 P2, Bx w2 wx P1 d S P2 m S N #[.int .i64 5, .int .i64 n, .int .i64 kk, .slice ra L rc] 48 → Calls Tryz.prog 39 #[.pointer (some ⟨d, 0, none⟩), .int .i64 n] wx (DidD w2 d P2 m S N #[.int .i64 5, .int .i64 n, .int .i64 kk, .slice ra L rc] 48 (.tuple #[]) { S with room := n })) := Lib.hid fun wx P1 P2 h => bx_room_d h n
            unfold DidD at A1
            have HB2 : Hid (Ball { S with room := n }) := Lib.hid HBA.out
            go_wp2_with fail
            rw [← HWA.out]
            rw [← HNN.out]
            refine (A1.out _ _ _ HX0.out).mono ?_
            rintro e w5 ⟨rfl, P1, hx1⟩
            obtain ⟨q1, q2, q3⟩ := KS.out _ _ _ _ _ hx1
            obtain ⟨fz, ⟨v5, cv⟩, hx2⟩ := bx_space hx1 n
            have fz1 := fz 1
            have HX2 := Lib.hid hx2.pair
            clear fz hx1 hx2 A1
            have HE := Lib.hid (held6_any HX2.out.disk HX2.out.ref)
            go_wp2_with fail
            refine HE.out.mono ?_
            rintro e wz ⟨rfl, hbz⟩
            have PZ := Lib.hid (HX2.out.below hbz)
            clear hbz HE
            go_wp2_with fail
            go_roundg (no - (k + 1))
            case measure => omega
            case rel => exact ⟨k + 1, { S with room := n }, _, _, by omega, by first | rfl | go_num, PZ, HB2⟩
          have g0 : (kind == 0) = false := by rw [beq_eq_false_iff_ne]; exact h0
          have g1 : (kind == 1) = false := by rw [beq_eq_false_iff_ne]; exact h1
          have g2 : (kind == 2) = false := by rw [beq_eq_false_iff_ne]; exact h2
          have g3 : (kind == 3) = false := by rw [beq_eq_false_iff_ne]; exact h3
          have g4 : (kind == 4) = false := by rw [beq_eq_false_iff_ne]; exact h4
          have g5 : (kind == 5) = false := by rw [beq_eq_false_iff_ne]; exact h5
          have HX2 := Lib.hid HX0.out.pair
          clear h0 h1 h2 h3 h4 h5
          go_wp2_with fail
          rw [← HWA.out]
          rw [← HNN.out]
          have HE := Lib.hid (held6_any HX2.out.disk HX2.out.ref)
          go_wp2_with fail
          refine HE.out.mono ?_
          rintro e wz ⟨rfl, hbz⟩
          have PZ := Lib.hid (HX2.out.below hbz)
          clear hbz HE
          go_wp2_with fail
          go_roundg (no - (k + 1))
          case measure => omega
          case rel => exact ⟨k + 1, S, _, _, by omega, by first | rfl | go_num, PZ, HBA⟩
        · obtain rfl : no = k := by omega
          have BE : Hid (Below w.heap.size w wr) := Lib.hid (B2.out.trans (HP.out.frame.mono B2.out.size))
          clear HP HBA
          go_wp2_with fail
          refine (load_nil _).mono ?_
          rintro e w5 ⟨rfl, hb5⟩
          have BE5 := Lib.hid (BE.out.trans (hb5.mono BE.out.size))
          clear hb5
          go_wp2_with fail
          refine (save_nil _ _ _ _ _).mono ?_
          rintro e w6 ⟨rfl, hb6⟩
          have BE6 := Lib.hid (BE5.out.trans (hb6.mono BE5.out.size))
          clear hb6
          go_wp2_with fail
          go_ret
          exact ⟨rfl, BE6.out⟩
end Go.Proofs.YtdonkmkjblofpaaGreatDoor.Sn

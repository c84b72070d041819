/-
  Layer 5: of the reference four, Frame, Name.
-/
import Derived.Test.YtdonkmkjblofpaaGreatDoorWn
namespace Go.Proofs.YtdonkmkjblofpaaGreatDoor.Wl
open Go.RowKit Go.Sort Dx Sx Dk
set_option linter.unusedVariables false
set_option linter.unusedSimpArgs false
theorem own_lit (w : World) (l : List Int) {base : Nat} (hb : base ≤ w.heap.size) (hl : l.length ≤ maxLen) : Ob.OwnB (w.alloc (.cells (l.map (Value.int .u8)).toArray 5)) base (.slice (some ⟨w.heap.size, 0, none⟩) l.length l.length) l :=
  ⟨by simp, .inr ⟨w.heap.size, l.length, _, rfl, hb, (MapKept.heap_alloc w _).1, Nat.le_refl _, hl, by simp, by rw [Nat.mul_one]; exact List.take_of_length_le (by simp)⟩⟩
set_option maxRecDepth 100000 in
theorem four_any (n : Nat) (w : World) : Calls Tryz.prog 45 #[.int .u32 (n : Int)] w fun e w' => ∃ v, e = .returned v ∧ Ob.OwnB w' w.heap.size v (le4 n) ∧ Below w.heap.size w w' := by
  have D : Hid (∃ v, Ending.returned (.slice (some ⟨w.heap.size, 0, none⟩) 4 4) = .returned v ∧ Ob.OwnB (w.alloc (.cells #[.int .u8 ((n : Int) % 256), .int .u8 ((n : Int) / 256 % 256), .int .u8 ((n : Int) / 65536 % 256), .int .u8 ((n : Int) / 16777216 % 256)] 5)) w.heap.size v (le4 n) ∧ Below w.heap.size w (w.alloc (.cells #[.int .u8 ((n : Int) % 256), .int .u8 ((n : Int) / 256 % 256), .int .u8 ((n : Int) / 65536 % 256), .int .u8 ((n : Int) / 16777216 % 256)] 5))) := Lib.hid ⟨_, rfl, by
    have := own_lit w (le4I (n : Int)) (Nat.le_refl _) (by show 4 ≤ maxLen; decide)
    rw [le4_int] at this
    rw [← le4_int] at this ⊢
    exact this, (Below.refl _ _).alloc (Nat.le_refl _) _⟩
  go_enter Tryz.func45, Tryz.ntmps45
  go_wp2
  go_ret
  exact D.out
theorem rframe_long (a : Option Addr) (len cap : Nat) (w : World) (hm : len ≤ 9223372036854775807) (h : 65536 < len) : Calls Tryz.prog 8 #[.slice a len cap] w fun e w' => e = .returned (.tuple #[.slice none 0 0, .int .i64 3]) ∧ w = w' := by
  have t1 : decide ((len : Int) > 65536) = true := by rw [decide_eq_true_eq]; omega
  go_enter Tryz.func8, Tryz.ntmps8
  go_wp2
  go_ret2
  exact ⟨rfl, rfl⟩
set_option maxRecDepth 100000 in
set_option maxHeartbeats 800000 in
theorem rframe_any (a : Option Addr) (len cap : Nat) (zs : List Int) (w : World) (hb : Bytes zs) (hrow : Fr.HasRow .u8 w a len zs) (hn : a = none → cap = 0) (h : len ≤ 65536) :
    Calls Tryz.prog 8 #[.slice a len cap] w (FrameIt w (zs.take len)) := by
  have hzl : (zs.take len).length = len := by rw [List.length_take]; have := hrow.1; omega
  have D : Hid (∀ v w', Ob.OwnB w' w.heap.size v (le4 len ++ (le4 (crcN (zs.take len))).take 4 ++ zs.take len) → Below w.heap.size w w' → FrameIt w (zs.take len) (.returned (.tuple #[v, .int .i64 0])) w') := Lib.hid fun v w' h1 h2 => ⟨v, rfl, by
    unfold frm; rw [hzl]
    rw [List.take_of_length_le (by rw [le4_length]; omega)] at h1
    simpa [List.append_assoc] using h1, h2⟩
  have HR := Lib.hid hrow
  have CR : Hid (∀ wx, Below w.heap.size w wx → Calls Tryz.prog 46 #[.slice a len cap] wx fun e w' => e = .returned (.int .u32 (crcN (zs.take len) : Int)) ∧ wx = w') := Lib.hid fun wx hbx => rcrc_any a len cap zs wx hb (hrow.keep hbx)
  obtain ⟨c, hc⟩ : ∃ c, crcN (zs.take len) = c := ⟨_, rfl⟩
  rw [hc] at CR D
  have t1 : decide ((len : Int) > 65536) = false := by rw [decide_eq_false_iff_not]; omega
  have F1 := Lib.hid (four_any len w)
  have F2 := Lib.hid (four_any c)
  clear hrow hb hc hzl
  go_enter Tryz.func8, Tryz.ntmps8
  go_wp2_with fail
  refine F1.out.mono ?_
  rintro e w1 ⟨v1, rfl, ho1, hb1⟩
  have HO1 := Lib.hid ho1; have HB1 := Lib.hid hb1
  clear ho1 hb1
  go_wp2_with fail
  refine (CR.out _ HB1.out).mono ?_
  rintro e w' ⟨rfl, rfl⟩
  go_wp2_with fail
  refine (F2.out w1).mono ?_
  rintro e w2 ⟨v2, rfl, ho2, hb2⟩
  obtain ⟨ad, cp, e2, hr2, hn2, _, _⟩ := Ob.own_row ho2
  subst e2
  have HR2 := Lib.hid hr2
  have HO2 := Lib.hid (Ob.own_keep HO1.out hb2)
  have HB2 := Lib.hid (HB1.out.trans (hb2.mono HB1.out.size))
  clear ho2 hb2 hr2
  go_wp2_with (at_builtin; first
    | (go_loud (refine Ob.wp_apd rfl (.tmp 11) (.tmp 14) rfl w.heap.size v1 _ rfl HO2.out ad 4 cp (le4 c) rfl HR2.out hn2 (by rw [le4_length]; omega) HB2.out.size ?_); intro v3 w3 ho3 hb3; have HO3 := Lib.hid ho3; have HB3 := Lib.hid (HB2.out.trans hb3); clear ho3 hb3)
    | (go_loud (refine Ob.wp_apd rfl (.tmp 16) (.tmp 17) rfl w.heap.size v3 _ rfl HO3.out a len cap zs rfl (HR.out.keep HB3.out) hn (by simp [le4]; omega) HB3.out.size ?_); intro v4 w4 ho4 hb4; have HO4 := Lib.hid ho4; have HB4 := Lib.hid (HB3.out.trans hb4); clear ho4 hb4))
  go_ret2
  exact D.out _ _ HO4.out HB4.out
theorem conv1 (W : World) (R : Nat) (h : R < 10) :
    (convert 22 9 (.slice (some { block := W.heap.size, off := 0 }) 1 1)).run Tryz.prog (W.alloc (.cells #[.int .u8 (48 + (R : Int))] 5)) = .ok (.string (bs [dgt R])) (W.alloc (.cells #[.int .u8 (48 + (R : Int))] 5)) := by
  refine run_convert_bytes_back _ 22 9 5 { block := W.heap.size, off := 0 } 1 [dgt R] Tryz.underlying22 Tryz.underlying5 Tryz.underlying9 ?_
  intro j hj
  have : j = 0 := by simp at hj; omega
  subst this
  show (W.alloc _).cell? ⟨W.heap.size, 0 + 0, none⟩ = _
  rw [World.cell?_alloc_new, show ([dgt R][0]'hj).toNat = 48 + R by show (dgt R).toNat = _; unfold dgt; simp only [UInt8.toNat_ofNat']; omega]
  simp
theorem rname_no (x : Int) (w : World) (h : x < 1 ∨ 999999999 < x) : Calls Tryz.prog 12 #[.int .i64 x] w fun e w' => e = .returned (.string ByteArray.empty) ∧ w = w' := by
  by_cases h1 : x < 1
  · go_enter Tryz.func12, Tryz.ntmps12
    go_wp2
    go_ret
    exact ⟨rfl, rfl⟩
  · have h2 : 999999999 < x := by omega
    clear h
    go_enter Tryz.func12, Tryz.ntmps12
    go_wp2
    go_ret
    exact ⟨rfl, rfl⟩
set_option maxRecDepth 100000 in
set_option maxHeartbeats 1600000 in
theorem rname_any (m : Nat) (h1 : 1 ≤ m) (h2 : m ≤ 999999999) (w : World) : Calls Tryz.prog 12 #[.int .i64 (m : Int)] w fun e w' => e = .returned (.string (bs (segN m))) ∧ Below w.heap.size w w' := by
  have t1 : decide ((m : Int) < 1) = false := by rw [decide_eq_false_iff_not]; omega
  have t2 : decide ((999999999 : Int) < (m : Int)) = false := by rw [decide_eq_false_iff_not]; omega
  have hlast : ({ data := #[106] } : ByteArray) ++ bs (low 9 m) = bs (segN m) := bs_app [106] _
  obtain ⟨T, hT⟩ : ∃ T, bs (segN m) = T := ⟨_, rfl⟩
  have LAST := Lib.hid hlast
  rw [hT] at LAST ⊢
  clear hlast hT
  go_enter Tryz.func12, Tryz.ntmps12
  go_wp2
  go_loopg [0, 3, 4] 9 (fun g y o i wr => ∃ (k : Nat), k + g = 9 ∧ y = .int .i64 ((m / 10 ^ k : Nat) : Int) ∧ o = .string (bs (low k m)) ∧ i = .int .i64 (k : Int) ∧ Hid (Below w.heap.size w wr))
  case atStart => exact ⟨0, by omega, by simp, rfl, rfl, Lib.hid (Below.refl _ _)⟩
  case round =>
    obtain ⟨k, hg, rfl, rfl, rfl, hb⟩ := hrel
    by_cases hk : k < 9
    · have hcat : bs [dgt (m / 10 ^ k % 10)] ++ bs (low k m) = bs (low (k + 1) m) := by rw [bs_app, low_cons]; rfl
      have hS : (bs (low k m)).size ≤ 9 := by rw [bs_size, low_length]; omega
      have hdv : m / 10 ^ (k + 1) = m / 10 ^ k / 10 := by rw [Nat.div_div_eq_div_mul, Nat.pow_succ]
      obtain ⟨y, hy⟩ : ∃ y, m / 10 ^ k = y := ⟨_, rfl⟩
      have hyb : y ≤ 999999999 := by rw [← hy]; exact Nat.le_trans (Nat.div_le_self _ _) h2
      rw [hy] at hcat hdv ⊢
      obtain ⟨R, hR⟩ : ∃ R, y % 10 = R := ⟨_, rfl⟩
      obtain ⟨Q, hQ⟩ : ∃ Q, y / 10 = Q := ⟨_, rfl⟩
      have hyr : (y : Int) % 10 = (R : Int) := by omega
      have hyl : R < 10 := by omega
      have hyq : (y : Int) / 10 = (Q : Int) := by omega
      rw [hQ] at hdv
      rw [hR] at hcat
      have hDs : (bs [dgt R]).size = 1 := rfl
      generalize bs (low k m) = S0 at hS hcat ⊢
      obtain ⟨S', hS'⟩ : ∃ S', bs (low (k + 1) m) = S' := ⟨_, rfl⟩
      rw [hS'] at hcat
      have HS := Lib.hid hS'; have HD := Lib.hid hdv
      clear hS' hdv hy hR hQ
      have tk : decide ((k : Int) < 9) = true := by rw [decide_eq_true_eq]; omega
      have cv := conv1 wr R hyl
      go_wp2
      go_roundg (gk - 1)
      case measure => omega
      case rel => exact ⟨k + 1, by omega, by rw [HD.out], by rw [HS.out], by go_num, Lib.hid (hb.out.alloc hb.out.size _)⟩
    · have hk9 : k = 9 := by omega
      subst hk9
      have tk : decide (((9 : Nat) : Int) < 9) = false := by decide
      have hS : (bs (low 9 m)).size = 9 := by rw [bs_size, low_length]
      have LAST := LAST.out
      generalize bs (low 9 m) = S0 at hS LAST ⊢
      go_wp2
      go_ret
      exact ⟨rfl, hb.out⟩
end Go.Proofs.YtdonkmkjblofpaaGreatDoor.Wl

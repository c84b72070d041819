/-
  Layer 1 (exact amounts): what math/bits.Div64 returns where the quotient fits.
-/
import Derived.Test.YtbnihoimhfcjiaaDoorFx2
import Derived.Deep.QuietTactic
import Derived.BigQuiet
import Derived.Outline
import Derived.Deep.CutBlock
import Derived.Deep.DeepCutAuto
import Derived.Deep.LoopGhost
namespace Go.Proofs.YtbnihoimhfcjiaaDoor.Fx
open Go.RowKit
set_option linter.unusedVariables false

theorem shlN (y s D : Nat) (h : D = y * 2 ^ s) (hb : D < 18446744073709551616) : IntKind.u64.wrap ((y : Int) * 2 ^ s) = (D : Int) := by
  subst h
  have e : ((y : Int) * 2 ^ s) = ((y * 2 ^ s : Nat) : Int) := by simp
  rw [e]; exact wrapN _ hb
theorem shlM (y s D : Nat) (h : D = y * 2 ^ s % 18446744073709551616) : IntKind.u64.wrap ((y : Int) * 2 ^ s) = (D : Int) := by
  subst h
  have e : ((y : Int) * 2 ^ s) = ((y * 2 ^ s : Nat) : Int) := by simp
  rw [e]; exact wrapM _
theorem shrN (l s D : Nat) (h : D = l / 2 ^ s) : ((l : Int) / 2 ^ s) = (D : Int) := by
  subst h; simp
theorem orN (a b D : Nat) (ha : a < 18446744073709551616) (hb : b < 18446744073709551616) (h : D = a ||| b) : bits .or .u64 (a : Int) (b : Int) = (D : Int) := by
  subst h; exact bits_or_u64_nat a b ha hb

theorem quoW (u y : Nat) (hu : u < 18446744073709551616) : IntKind.u64.wrap ((u : Int) / (y : Int)) = ((u / y : Nat) : Int) := by
  have : u / y ≤ u := Nat.div_le_self _ _
  rw [show ((u : Int) / (y : Int)) = ((u / y : Nat) : Int) from by simp, wrapN _ (by omega)]
theorem mulW (q y m : Nat) (h : m = q * y) (hm : m < 18446744073709551616) : IntKind.u64.wrap ((q : Int) * (y : Int)) = (m : Int) := by
  subst h; rw [mulN, wrapN _ hm]
theorem mulV (q y m : Nat) (h : m = q * y % 18446744073709551616) : IntKind.u64.wrap ((q : Int) * (y : Int)) = (m : Int) := by
  subst h; rw [mulN, wrapM]
theorem mulK (q m : Nat) (h : m = q * 4294967296 % 18446744073709551616) : IntKind.u64.wrap ((q : Int) * 4294967296) = (m : Int) := by
  rw [IntKind.wrap_u64]; omega
theorem addV (q y m : Nat) (h : m = (q + y) % 18446744073709551616) : IntKind.u64.wrap ((q : Int) + (y : Int)) = (m : Int) := by
  rw [IntKind.wrap_u64]; omega
/-- What is left behind a digit: whatever was cut off above, the difference is right. -/
theorem leftV (u a D q V z1 z2 z3 : Nat) (hD : 0 < D) (hD2 : D < 18446744073709551616) (hq : q = (u * 4294967296 + a) / D) (hV : V = (u * 4294967296 + a) % D) (h1 : z1 = u * 4294967296 % 18446744073709551616)
    (h2 : z2 = (z1 + a) % 18446744073709551616) (h3 : z3 = q * D % 18446744073709551616) : IntKind.u64.wrap ((z2 : Int) - (z3 : Int)) = (V : Int) := by
  have e := Nat.div_add_mod' (u * 4294967296 + a) D
  have l := Nat.mod_lt (u * 4294967296 + a) hD
  rw [← hq, ← hV] at e
  rw [← hV] at l
  clear hq hV
  generalize q * D = m at *
  rw [IntKind.wrap_u64]
  omega
/-- The first try at a digit. -/
theorem firstV (u y1 : Nat) (hu : u < 18446744073709551616) : ∃ q m : Nat, q = u / y1 ∧ m = u / y1 * y1 ∧ m ≤ u ∧ IntKind.u64.wrap ((u : Int) / (y1 : Int)) = (q : Int) ∧ IntKind.u64.wrap ((q : Int) * (y1 : Int)) = (m : Int) := by
  have := Nat.div_mul_le_self u y1
  exact ⟨_, _, rfl, rfl, this, quoW u y1 hu, mulW _ _ _ rfl (by omega)⟩
theorem tried_lt {u d y1 y0 q r : Nat} (hq : ¬ 4294967296 ≤ q) (hy : y0 < 4294967296) : ∃ m : Nat, m = q * y0 ∧ IntKind.u64.wrap ((q : Int) * (y0 : Int)) = (m : Int) := by
  refine ⟨_, rfl, mulW _ _ _ rfl ?_⟩
  have h2 : q * y0 ≤ 4294967295 * 4294967295 := Nat.mul_le_mul (by omega) (by omega)
  omega
theorem less_one {q : Nat} (h : 1 ≤ q) : Value.int .u64 ((q : Int) - 1) = .int .u64 ((q - 1 : Nat) : Int) := by
  congr 1; omega
theorem plus {r y : Nat} : Value.int .u64 ((r : Int) + (y : Int)) = .int .u64 ((r + y : Nat) : Int) := by
  congr 1
theorem minus {r y : Nat} (h : y ≤ r) : Value.int .u64 ((r : Int) - (y : Int)) = .int .u64 ((r - y : Nat) : Int) := by
  congr 1; omega

theorem two_halves {L a1 a0 : Nat} (h1 : a1 = L / 4294967296) (h0 : a0 = L % 4294967296) : a1 * 4294967296 + a0 = L := by omega
theorem divide_end (h l y s D U L hp lp : Nat) (hsh : (h * 18446744073709551616 + l) * 2 ^ s = (h * 2 ^ s + l / 2 ^ (64 - s)) * 18446744073709551616 + l * 2 ^ s % 18446744073709551616)
    (hU : U = hp ||| lp) (hor : hp ||| lp = hp + lp) (hhp : hp = h * 2 ^ s) (hlp : lp = l / 2 ^ (64 - s)) (hL : L = l * 2 ^ s % 18446744073709551616) :
    U * 18446744073709551616 + L = (h * 18446744073709551616 + l) * 2 ^ s := by
  rw [hsh, hU, hor, hhp, hlp, hL]
theorem divide_end1 (h l y s D U L a1 a0 V Q1 Q2 : Nat) {hp lp : Nat} (hD0 : 0 < D) (hsh : (h * 18446744073709551616 + l) * 2 ^ s = (h * 2 ^ s + l / 2 ^ (64 - s)) * 18446744073709551616 + l * 2 ^ s % 18446744073709551616)
    (hD : D = y * 2 ^ s) (hU : U = hp ||| lp) (hor : hp ||| lp = hp + lp) (hhp : hp = h * 2 ^ s) (hlp : lp = l / 2 ^ (64 - s)) (hL : L = l * 2 ^ s % 18446744073709551616)
    (ha1 : a1 = L / 4294967296) (ha0 : a0 = L % 4294967296) (hQ1 : Q1 = (U * 4294967296 + a1) / D) (hV : V = (U * 4294967296 + a1) % D) (hQ2 : Q2 = (V * 4294967296 + a0) / D) (hh : h < y) (hl : l < 18446744073709551616) :
    IntKind.u64.wrap (IntKind.u64.wrap ((Q1 : Int) * 4294967296) + (Q2 : Int)) = (quoN h l y : Int) := by
  have e := divide_end h l y s D U L hp lp hsh hU hor hhp hlp hL
  have t := (two_digits (u := U) (a := a1) (b := a0) hD0).1
  have hLL : a1 * 4294967296 + a0 = L := two_halves ha1 ha0
  have t1 : Q1 * 4294967296 + Q2 = (U * 18446744073709551616 + (a1 * 4294967296 + a0)) / D := by rw [hQ2, hV, hQ1]; exact t
  have t2 : (U * 18446744073709551616 + (a1 * 4294967296 + a0)) / D = (U * 18446744073709551616 + L) / D := congrArg (fun z => (U * 18446744073709551616 + z) / D) hLL
  have t3 : (U * 18446744073709551616 + L) / D = (h * 18446744073709551616 + l) * 2 ^ s / D := congrArg (fun z => z / D) e
  have t4 : (h * 18446744073709551616 + l) * 2 ^ s / D = quoN h l y := by rw [hD]; exact Nat.mul_div_mul_right _ _ (Nat.two_pow_pos s)
  have b : quoN h l y < 18446744073709551616 := by
    unfold quoN
    rw [Nat.div_lt_iff_lt_mul (by omega)]
    omega
  have q := t1.trans (t2.trans (t3.trans t4))
  generalize quoN h l y = z at *
  clear e t hLL t1 t2 t3 t4 hQ1 hQ2 hV hD hL ha1 ha0 hU hor hhp hlp hsh
  rw [IntKind.wrap_u64, IntKind.wrap_u64]
  omega
theorem divide_end2 (h l y s D U L a1 a0 V T : Nat) {hp lp : Nat} (hD0 : 0 < D) (hsh : (h * 18446744073709551616 + l) * 2 ^ s = (h * 2 ^ s + l / 2 ^ (64 - s)) * 18446744073709551616 + l * 2 ^ s % 18446744073709551616)
    (hD : D = y * 2 ^ s) (hU : U = hp ||| lp) (hor : hp ||| lp = hp + lp) (hhp : hp = h * 2 ^ s) (hlp : lp = l / 2 ^ (64 - s)) (hL : L = l * 2 ^ s % 18446744073709551616)
    (ha1 : a1 = L / 4294967296) (ha0 : a0 = L % 4294967296) (hV : V = (U * 4294967296 + a1) % D) (hT : T = (V * 4294967296 + a0) % D) :
    (T : Int) / 2 ^ s = (remN h l y : Int) := by
  have e := divide_end h l y s D U L hp lp hsh hU hor hhp hlp hL
  have t := (two_digits (u := U) (a := a1) (b := a0) hD0).2
  have hLL : a1 * 4294967296 + a0 = L := two_halves ha1 ha0
  have t1 : T = (U * 18446744073709551616 + (a1 * 4294967296 + a0)) % D := by rw [hT, hV]; exact t
  have t2 : (U * 18446744073709551616 + (a1 * 4294967296 + a0)) % D = (U * 18446744073709551616 + L) % D := congrArg (fun z => (U * 18446744073709551616 + z) % D) hLL
  have t3 : (U * 18446744073709551616 + L) % D = (h * 18446744073709551616 + l) * 2 ^ s % D := congrArg (fun z => z % D) e
  have t4 : (h * 18446744073709551616 + l) * 2 ^ s % D = remN h l y * 2 ^ s := by rw [hD]; exact Nat.mul_mod_mul_right _ _ _
  rw [shrN T s _ rfl, t1.trans (t2.trans (t3.trans t4)), Nat.mul_div_cancel _ (Nat.two_pow_pos s)]

set_option maxRecDepth 100000 in
set_option maxHeartbeats 1000000 in
theorem div64_any (h l y : Nat) (w : World) (hh : h < y) (hy : y < 18446744073709551616) (hl : l < 18446744073709551616) :
    Calls Tryd.prog 51 #[.int .u64 h, .int .u64 l, .int .u64 y] w fun e w' =>
      e = .returned (.tuple #[.int .u64 (quoN h l y : Int), .int .u64 (remN h l y : Int)]) ∧ ∃ n, w' = w.drewN n := by
  by_cases h0 : h = 0
  · subst h0
    have hq : (quoN 0 l y : Int) = IntKind.u64.wrap ((l : Int) / (y : Int)) := by
      have : l / y ≤ l := Nat.div_le_self _ _
      rw [show ((l : Int) / (y : Int)) = ((l / y : Nat) : Int) from by simp, wrapN _ (by omega)]
      unfold quoN; simp
    have hr : (remN 0 l y : Int) = (l : Int) % (y : Int) := by unfold remN; simp
    have HQ := Lib.hid hq; have HR := Lib.hid hr; clear hq hr
    go_enter Tryd.func51, Tryd.ntmps51
    go_wp2
    go_quiet (fail)
    go_wp2
    go_ret2
    exact ⟨by rw [HQ.out, HR.out] <;> rfl, _, rfl⟩
  · obtain ⟨hs, hD1, hD2⟩ := lz_norm y (by omega) hy
    have hsh := shifted h l (lz y) hs hl
    have hpos := Nat.two_pow_pos (lz y)
    have hhp : h * 2 ^ lz y + l / 2 ^ (64 - lz y) < y * 2 ^ lz y := by
      have := Nat.mul_le_mul_right (2 ^ lz y) (Nat.succ_le_of_lt hh)
      rw [Nat.succ_mul] at this
      have := hsh.2
      omega
    have hor := or_add h (l / 2 ^ (64 - lz y)) (lz y) hsh.2
    obtain ⟨D, hD⟩ : ∃ D, D = y * 2 ^ lz y := ⟨_, rfl⟩
    obtain ⟨hp, hhpe⟩ : ∃ D, D = h * 2 ^ lz y := ⟨_, rfl⟩
    obtain ⟨lp, hlp⟩ : ∃ D, D = l / 2 ^ (64 - lz y) := ⟨_, rfl⟩
    obtain ⟨L, hL⟩ : ∃ D, D = l * 2 ^ lz y % 18446744073709551616 := ⟨_, rfl⟩
    rw [← hD] at hD1 hD2 hhp
    rw [← hlp, ← hhpe] at hhp hor
    obtain ⟨U, hU⟩ : ∃ D, D = hp ||| lp := ⟨_, rfl⟩
    have hUl : U < D := by rw [hU, hor]; exact hhp
    have hLl : L < 18446744073709551616 := by rw [hL]; exact Nat.mod_lt _ (by decide)
    have r1 := shlN y (lz y) D hD hD2
    have r2 := shlN h (lz y) hp hhpe (by omega)
    have r3 := shrN l (64 - lz y) lp hlp
    have r4 := orN hp lp U (by omega) (by omega) hU
    have r5 := shlM l (lz y) L hL
    obtain ⟨y1, hy1⟩ : ∃ z, z = D / 4294967296 := ⟨_, rfl⟩
    obtain ⟨y0, hy0⟩ : ∃ z, z = D % 4294967296 := ⟨_, rfl⟩
    obtain ⟨a1, ha1⟩ : ∃ z, z = L / 4294967296 := ⟨_, rfl⟩
    obtain ⟨a0, ha0⟩ : ∃ z, z = L % 4294967296 := ⟨_, rfl⟩
    have r6 := divN D; rw [← hy1] at r6
    have r7 := maskN D hD2; rw [← hy0] at r7
    have r8 := divN L; rw [← ha1] at r8
    have r9 := maskN L hLl; rw [← ha0] at r9
    have by1 : 2147483648 ≤ y1 ∧ y1 < 4294967296 := by omega
    have by0 : y0 < 4294967296 := by omega
    have ba1 : a1 < 4294967296 := by omega
    have ba0 : a0 < 4294967296 := by omega
    have HD := Lib.hid hD; have Hhp := Lib.hid hhpe; have Hlp := Lib.hid hlp; have HL := Lib.hid hL; have HU := Lib.hid hU
    have Hy1 := Lib.hid hy1; have Hy0 := Lib.hid hy0; have Ha1 := Lib.hid ha1; have Ha0 := Lib.hid ha0; have Hor := Lib.hid hor
    clear hD hhpe hlp hL hU hy1 hy0 ha1 ha0 hor hpos
    have hyy : D = y1 * 4294967296 + y0 := by rw [Hy1.out, Hy0.out]; omega
    have hUy : U < y1 * 4294967296 + y0 := by omega
    have HUy := Lib.hid hUy; have Hyy := Lib.hid hyy; clear hUy
    obtain ⟨q0, m0, hq0, hm0, lm0, r10, r11⟩ := firstV U y1 (by omega)
    have Hq0 := Lib.hid hq0; have Hm0 := Lib.hid hm0; clear hq0 hm0
    have lq0 : (q0 : Int) ≤ 18446744073709551615 := by have := Nat.div_le_self U y1; rw [Hq0.out]; omega
    obtain ⟨Q1, hQ1⟩ : ∃ z, z = (U * 4294967296 + a1) / D := ⟨_, rfl⟩
    obtain ⟨V, hV⟩ : ∃ z, z = (U * 4294967296 + a1) % D := ⟨_, rfl⟩
    obtain ⟨z1, hz1⟩ : ∃ z, z = U * 4294967296 % 18446744073709551616 := ⟨_, rfl⟩
    obtain ⟨z2, hz2⟩ : ∃ z, z = (z1 + a1) % 18446744073709551616 := ⟨_, rfl⟩
    obtain ⟨z3, hz3⟩ : ∃ z, z = Q1 * D % 18446744073709551616 := ⟨_, rfl⟩
    have lV : V < D := by rw [hV]; exact Nat.mod_lt _ (by omega)
    have s1 := mulK U z1 hz1
    have s2 := addV z1 a1 z2 hz2
    have s3 := mulV Q1 D z3 hz3
    have s4 := leftV U a1 D Q1 V z1 z2 z3 (by omega) hD2 hQ1 hV hz1 hz2 hz3
    obtain ⟨q4, m4, hq4, hm4, lm4, r20, r21⟩ := firstV V y1 (by omega)
    have Hq4 := Lib.hid hq4; have Hm4 := Lib.hid hm4; clear hq4 hm4
    have lq4 : (q4 : Int) ≤ 18446744073709551615 := by have := Nat.div_le_self V y1; rw [Hq4.out]; omega
    obtain ⟨Q2, hQ2⟩ : ∃ z, z = (V * 4294967296 + a0) / D := ⟨_, rfl⟩
    obtain ⟨T, hT⟩ : ∃ z, z = (V * 4294967296 + a0) % D := ⟨_, rfl⟩
    obtain ⟨z5, hz5⟩ : ∃ z, z = V * 4294967296 % 18446744073709551616 := ⟨_, rfl⟩
    obtain ⟨z6, hz6⟩ : ∃ z, z = (z5 + a0) % 18446744073709551616 := ⟨_, rfl⟩
    obtain ⟨z7, hz7⟩ : ∃ z, z = Q2 * D % 18446744073709551616 := ⟨_, rfl⟩
    have hVy : V < y1 * 4294967296 + y0 := by omega
    have HVy := Lib.hid hVy; clear hVy hyy
    have s5 := mulK V z5 hz5
    have s6 := addV z5 a0 z6 hz6
    have s7 := mulV Q2 D z7 hz7
    have s8 := leftV V a0 D Q2 T z5 z6 z7 (by omega) hD2 hQ2 hT hz5 hz6 hz7
    have f1 : IntKind.u64.wrap (IntKind.u64.wrap ((Q1 : Int) * 4294967296) + (Q2 : Int)) = (quoN h l y : Int) := divide_end1 h l y (lz y) D U L a1 a0 V Q1 Q2 (by omega) hsh.1 HD.out HU.out Hor.out Hhp.out Hlp.out HL.out Ha1.out Ha0.out hQ1 hV hQ2 hh hl
    have f2 : (T : Int) / 2 ^ lz y = (remN h l y : Int) := divide_end2 h l y (lz y) D U L a1 a0 V T (by omega) hsh.1 HD.out HU.out Hor.out Hhp.out Hlp.out HL.out Ha1.out Ha0.out hV hT
    have F1 := Lib.hid f1; have F2 := Lib.hid f2; clear f1 f2
    have HQ1 := Lib.hid hQ1; have HV := Lib.hid hV; have HQ2 := Lib.hid hQ2; have HT := Lib.hid hT
    clear hsh hQ1 hV hQ2 hT hz1 hz2 hz3 hz5 hz6 hz7
    go_enter Tryd.func51, Tryd.ntmps51
    go_upto_block 0 with (go_at_call 53; refine (lz64_any _ _ (by omega)).mono ?_; rintro e w' ⟨rfl, rfl⟩)
    go_cut [15] (fun s wc => s = .int .u64 Q1 ∧ wc = w)
    case first =>
      go_wp2_with fail
      go_loopg [15, 16] q0 (fun k s t wr => ∃ q r : Nat, k = q ∧ s = .int .u64 q ∧ t = .int .u64 r ∧ Tried U a1 y1 y0 q r ∧ (q : Int) ≤ 18446744073709551615 ∧ wr = w)
      case atStart => exact ⟨q0, U - m0, rfl, rfl, minus lm0, by rw [Hq0.out, Hm0.out]; exact tried_first (by omega) (by omega) ba1, lq0, rfl⟩
      case round =>
        obtain ⟨q, r, rfl, rfl, rfl, ht, lq, hw⟩ := hrel
        subst hw
        have lr := ht.2.1
        have Ht := Lib.hid ht; clear ht
        by_cases c1 : 4294967296 ≤ gk
        · obtain ⟨p1, p2, p3⟩ := tried_more (by omega) HUy.out ba1 Ht.out (Or.inl c1)
          have d1 : decide ((4294967296 : Int) ≤ (gk : Int)) = true := decide_eq_true (by omega)
          clear c1
          have P2 := Lib.hid p2; have P3 := Lib.hid p3; clear p2 p3
          by_cases cr : r + y1 < 4294967296
          · have d2 : decide ((4294967296 : Int) ≤ (r : Int) + (y1 : Int)) = false := decide_eq_false (by omega)
            have Hr := Lib.hid cr; clear cr
            go_wp2
            go_roundg (gk - 1)
            case measure => omega
            case rel => exact ⟨gk - 1, r + y1, rfl, less_one p1, plus, ⟨P2.out, Hr.out, P3.out⟩, by omega, rfl⟩
          · have d2 : decide ((4294967296 : Int) ≤ (r : Int) + (y1 : Int)) = true := decide_eq_true (by omega)
            have Hr := Lib.hid cr; clear cr
            go_wp2_with fail
            go_meet
            have e := tried_break (by omega) by0 HUy.out P2.out (by have := Hr.out; omega) P3.out
            rw [← Hyy.out, ← HQ1.out] at e
            exact ⟨by rw [← e]; exact less_one p1, rfl⟩
        · obtain ⟨m, hm, rm⟩ := tried_lt (u := U) (d := a1) (y1 := y1) (r := r) c1 by0
          have d1 : decide ((4294967296 : Int) ≤ (gk : Int)) = false := decide_eq_false (by omega)
          have Hm := Lib.hid hm; have Hc := Lib.hid c1; clear hm c1
          by_cases c2 : 4294967296 * r + a1 < m
          · obtain ⟨p1, p2, p3⟩ := tried_more (by omega) HUy.out ba1 Ht.out (Or.inr (by rw [← Hm.out]; exact c2))
            have d3 : decide ((4294967296 : Int) * (r : Int) + (a1 : Int) < (m : Int)) = true := decide_eq_true (by omega)
            clear c2
            have P2 := Lib.hid p2; have P3 := Lib.hid p3; clear p2 p3
            by_cases cr : r + y1 < 4294967296
            · have d2 : decide ((4294967296 : Int) ≤ (r : Int) + (y1 : Int)) = false := decide_eq_false (by omega)
              have Hr := Lib.hid cr; clear cr
              go_wp2
              go_roundg (gk - 1)
              case measure => omega
              case rel => exact ⟨gk - 1, r + y1, rfl, less_one p1, plus, ⟨P2.out, Hr.out, P3.out⟩, by omega, rfl⟩
            · have d2 : decide ((4294967296 : Int) ≤ (r : Int) + (y1 : Int)) = true := decide_eq_true (by omega)
              have Hr := Lib.hid cr; clear cr
              go_wp2_with fail
              go_meet
              have e := tried_break (by omega) by0 HUy.out P2.out (by have := Hr.out; omega) P3.out
              rw [← Hyy.out, ← HQ1.out] at e
              exact ⟨by rw [← e]; exact less_one p1, rfl⟩
          · have d3 : decide ((4294967296 : Int) * (r : Int) + (a1 : Int) < (m : Int)) = false := decide_eq_false (by omega)
            have e := tried_end (by omega) Ht.out (by rw [← Hm.out]; omega)
            rw [← Hyy.out, ← HQ1.out] at e
            have He := Lib.hid e; clear e c2
            go_wp2_with fail
            go_meet
            exact ⟨by rw [He.out], rfl⟩
    case rest =>
      obtain ⟨rfl, rfl⟩ := hcut
      go_upto_block 2 with fail
      go_cut [18] (fun s wd => s = .int .u64 Q2 ∧ wd = wc)
      case first =>
        go_wp2_with fail
        go_loopg [18, 16] q4 (fun k s t wr => ∃ q r : Nat, k = q ∧ s = .int .u64 q ∧ t = .int .u64 r ∧ Tried V a0 y1 y0 q r ∧ (q : Int) ≤ 18446744073709551615 ∧ wr = wc)
        case atStart => exact ⟨q4, V - m4, rfl, rfl, minus lm4, by rw [Hq4.out, Hm4.out]; exact tried_first (by omega) (by omega) ba0, lq4, rfl⟩
        case round =>
          obtain ⟨q, r, rfl, rfl, rfl, ht, lq, hw⟩ := hrel
          subst hw
          have lr := ht.2.1
          have Ht := Lib.hid ht; clear ht
          by_cases c1 : 4294967296 ≤ gk
          · obtain ⟨p1, p2, p3⟩ := tried_more (by omega) HVy.out ba0 Ht.out (Or.inl c1)
            have d1 : decide ((4294967296 : Int) ≤ (gk : Int)) = true := decide_eq_true (by omega)
            clear c1
            have P2 := Lib.hid p2; have P3 := Lib.hid p3; clear p2 p3
            by_cases cr : r + y1 < 4294967296
            · have d2 : decide ((4294967296 : Int) ≤ (r : Int) + (y1 : Int)) = false := decide_eq_false (by omega)
              have Hr := Lib.hid cr; clear cr
              go_wp2
              go_roundg (gk - 1)
              case measure => omega
              case rel => exact ⟨gk - 1, r + y1, rfl, less_one p1, plus, ⟨P2.out, Hr.out, P3.out⟩, by omega, rfl⟩
            · have d2 : decide ((4294967296 : Int) ≤ (r : Int) + (y1 : Int)) = true := decide_eq_true (by omega)
              have Hr := Lib.hid cr; clear cr
              go_wp2_with fail
              go_meet
              have e := tried_break (by omega) by0 HVy.out P2.out (by have := Hr.out; omega) P3.out
              rw [← Hyy.out, ← HQ2.out] at e
              exact ⟨by rw [← e]; exact less_one p1, rfl⟩
          · obtain ⟨m, hm, rm⟩ := tried_lt (u := V) (d := a0) (y1 := y1) (r := r) c1 by0
            have d1 : decide ((4294967296 : Int) ≤ (gk : Int)) = false := decide_eq_false (by omega)
            have Hm := Lib.hid hm; have Hc := Lib.hid c1; clear hm c1
            by_cases c2 : 4294967296 * r + a0 < m
            · obtain ⟨p1, p2, p3⟩ := tried_more (by omega) HVy.out ba0 Ht.out (Or.inr (by rw [← Hm.out]; exact c2))
              have d3 : decide ((4294967296 : Int) * (r : Int) + (a0 : Int) < (m : Int)) = true := decide_eq_true (by omega)
              clear c2
              have P2 := Lib.hid p2; have P3 := Lib.hid p3; clear p2 p3
              by_cases cr : r + y1 < 4294967296
              · have d2 : decide ((4294967296 : Int) ≤ (r : Int) + (y1 : Int)) = false := decide_eq_false (by omega)
                have Hr := Lib.hid cr; clear cr
                go_wp2
                go_roundg (gk - 1)
                case measure => omega
                case rel => exact ⟨gk - 1, r + y1, rfl, less_one p1, plus, ⟨P2.out, Hr.out, P3.out⟩, by omega, rfl⟩
              · have d2 : decide ((4294967296 : Int) ≤ (r : Int) + (y1 : Int)) = true := decide_eq_true (by omega)
                have Hr := Lib.hid cr; clear cr
                go_wp2_with fail
                go_meet
                have e := tried_break (by omega) by0 HVy.out P2.out (by have := Hr.out; omega) P3.out
                rw [← Hyy.out, ← HQ2.out] at e
                exact ⟨by rw [← e]; exact less_one p1, rfl⟩
            · have d3 : decide ((4294967296 : Int) * (r : Int) + (a0 : Int) < (m : Int)) = false := decide_eq_false (by omega)
              have e := tried_end (by omega) Ht.out (by rw [← Hm.out]; omega)
              rw [← Hyy.out, ← HQ2.out] at e
              have He := Lib.hid e; clear e c2
              go_wp2_with fail
              go_meet
              exact ⟨by rw [He.out], rfl⟩
      case rest =>
        obtain ⟨rfl, rfl⟩ := hcut
        go_wp2
        go_ret2
        exact ⟨by rw [F1.out, F2.out] <;> rfl, 0, rfl⟩
end Go.Proofs.YtbnihoimhfcjiaaDoor.Fx

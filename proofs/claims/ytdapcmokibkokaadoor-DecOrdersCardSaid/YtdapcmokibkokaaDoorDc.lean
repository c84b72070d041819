/-
  Layer 2: the reference's Format.
-/
import Derived.Test.YtdapcmokibkokaaDoorDb
import Derived.Laws.IdiomStrings
import Derived.Laws.AppendOwnNone
import Derived.SizedLaws
namespace Go.Proofs.YtdapcmokibkokaaDoor.Dx
open Go.RowKit Go.Sort
set_option linter.unusedVariables false
set_option linter.unusedSimpArgs false

theorem dgt_toNat (R : Nat) (h : R < 10) : (dgt R).toNat = 48 + R := by
  unfold dgt; simp only [UInt8.toNat_ofNat']; omega

/-- 'string([]byte{c})' of a slice just made. -/
theorem conv1 (W : World) (R : Nat) (h : R < 10) :
    (convert 36 9 (.slice (some { block := W.heap.size, off := 0 }) 1 1)).run Tryd.prog (W.alloc (.cells #[.int .u8 (48 + (R : Int))] 5)) = .ok (.string (bs [dgt R])) (W.alloc (.cells #[.int .u8 (48 + (R : Int))] 5)) := by
  refine run_convert_bytes_back _ 36 9 5 { block := W.heap.size, off := 0 } 1 [dgt R] Tryd.underlying36 Tryd.underlying5 Tryd.underlying9 ?_
  intro j hj
  have : j = 0 := by simp at hj; omega
  subst this
  show (W.alloc _).cell? ⟨W.heap.size, 0 + 0, none⟩ = _
  rw [World.cell?_alloc_new, show ([dgt R][0]'hj).toNat = 48 + R from dgt_toNat R h]
  simp

theorem rformat_arg (x p : Int) (w : World) (h : ¬ (0 ≤ p ∧ p ≤ 9)) :
    Calls Tryd.prog 9 #[.int .i64 x, .int .i64 p] w fun e w' => e = .returned (.tuple #[.string (bs []), .int .i64 1]) ∧ Below w.heap.size w w' := by
  rcases Int.lt_or_le p 0 with h1 | h1
  · go_enter Tryd.func9, Tryd.ntmps9
    go_wp2
    go_ret2
    exact ⟨rfl, Below.refl _ _⟩
  · have h2 : 9 < p := by omega
    go_enter Tryd.func9, Tryd.ntmps9
    go_wp2
    go_ret2
    exact ⟨rfl, Below.refl _ _⟩

theorem rformat_over (x : Int) (p : Nat) (w : World) (h : p ≤ 9) (hx : Fx.fitB x = false) :
    Calls Tryd.prog 9 #[.int .i64 x, .int .i64 p] w fun e w' => e = .returned (.tuple #[.string (bs []), .int .i64 4]) ∧ Below w.heap.size w w' := by
  have hf : ∀ w, Calls Tryd.prog 17 #[.int .i64 x] w fun e w' => e = .returned (.bool false) ∧ w = w' := fun w => by have := Fx.rfits_any x w; rwa [hx] at this
  have h2 : decide ((9 : Int) < ↑p) = false := by simp; omega
  go_enter Tryd.func9, Tryd.ntmps9
  go_wp2_with (go_at_call 17; refine (hf _).mono ?_; rintro e w' ⟨rfl, rfl⟩)
  go_ret2
  exact ⟨rfl, Below.refl _ _⟩

set_option maxRecDepth 100000 in
set_option maxHeartbeats 4000000 in
theorem rformat_ok (x : Int) (p : Nat) (w : World) (h : p ≤ 9) (hx : Fx.fitB x = true) :
    Calls Tryd.prog 9 #[.int .i64 x, .int .i64 p] w fun e w' => e = .returned (.tuple #[.string (bs (fmtT x p)), .int .i64 0]) ∧ Below w.heap.size w w' := by
  have hfit := Fx.fitB_true hx
  have hf : ∀ w, Calls Tryd.prog 17 #[.int .i64 x] w fun e w' => e = .returned (.bool true) ∧ w = w' := fun w => by have := Fx.rfits_any x w; rwa [hx] at this
  clear hx
  have hh : decide ((9 : Int) < ↑p) = false := by simp; omega
  by_cases hn : x < 0
  · obtain ⟨m, hm⟩ : ∃ m : Nat, x = -(m : Int) := ⟨x.natAbs, by omega⟩
    have hm1 : 0 < m := by omega
    subst hm
    have hm2 : m ≤ 4611686018427387904 := by omega
    have e1 : bs (fmtT (-(m : Int)) p) = bs (45 :: txtN m p) := by unfold fmtT; rw [if_pos hn, show (-(m : Int)).natAbs = m by omega]
    rw [e1]
    clear e1
    have q2 := nd_lt20 (m := m / 10 ^ p) (Nat.lt_of_le_of_lt (Nat.div_le_self _ _) (by omega))
    go_enter Tryd.func9, Tryd.ntmps9
    go_wp2_with (go_at_call 17; refine (hf _).mono ?_; rintro e w' ⟨rfl, rfl⟩)
    go_loopg [0, 7, 8] (p + nd (m / 10 ^ p)) (fun g y o i wr => ∃ (n : Nat), n + g = p + nd (m / 10 ^ p) ∧ y = .int .i64 ((m / 10 ^ n : Nat) : Int) ∧ o = .string (bs (outN n m p)) ∧ i = .int .i64 (n : Int) ∧ Below w.heap.size w wr)
    case atStart => exact ⟨0, by omega, by simp, by rw [outN_zero]; rfl, rfl, Below.refl _ _⟩
    case round =>
      obtain ⟨n, hg, rfl, rfl, rfl, hb⟩ := hrel
      have so := outN_length n m p
      by_cases hc : n ≤ p ∨ 0 < m / 10 ^ n
      · have hmore := more_digits hc
        by_cases hpt : n = p ∧ 0 < p
        · have HOUT := outN_point (n := n) (m := m) (p := p) hpt.1 hpt.2
          obtain ⟨y, hy⟩ : ∃ y, m / 10 ^ n = y := ⟨_, rfl⟩
          have hyb : y ≤ 4611686018427387904 := by rw [← hy]; exact Nat.le_trans (Nat.div_le_self _ _) hm2
          have hdv : m / 10 ^ (n + 1) = y / 10 := by rw [← hy, Nat.div_div_eq_div_mul, Nat.pow_succ]
          rw [hy] at hc HOUT ⊢
          obtain ⟨R, hR⟩ : ∃ R, y % 10 = R := ⟨_, rfl⟩
          obtain ⟨Q, hQ⟩ : ∃ Q, y / 10 = Q := ⟨_, rfl⟩
          have hyr : (y : Int) % 10 = (R : Int) := by omega
          have hyl : R < 10 := by omega
          have hyq : (y : Int) / 10 = (Q : Int) := by omega
          rw [hQ] at hdv
          rw [hR] at HOUT
          have hS : (bs (outN n m p)).size ≤ n + 1 := so
          have hcat0 : ({ data := #[46] } : ByteArray) ++ bs (outN n m p) = bs (46 :: outN n m p) := bs_app [46] _
          have hS0 : (bs (46 :: outN n m p)).size ≤ n + 2 := by rw [bs_size, List.length_cons]; omega
          have hcat : bs [dgt R] ++ bs (46 :: outN n m p) = bs (outN (n + 1) m p) := by rw [bs_app, HOUT]; rfl
          have hD : bs [dgt R] = bs [dgt R] := rfl
          have hDs : (bs [dgt R]).size = 1 := rfl
          generalize bs (46 :: outN n m p) = S0 at hS0 hcat0 hcat
          generalize bs (outN n m p) = S at hS hcat0 ⊢
          obtain ⟨S', hS'⟩ : ∃ S', bs (outN (n + 1) m p) = S' := ⟨_, rfl⟩
          rw [hS'] at hcat
          have HS := Lib.hid hS'
          clear hS'
          have HD := Lib.hid hdv
          have hrv : ∀ a b : Nat, a = b → Value.int .i64 (a : Int) = .int .i64 (b : Int) := fun a b e => by rw [e]
          have hnp : n = p := hpt.1
          have hp0 : 0 < p := hpt.2
          have hp0' : decide ((0 : Int) < ↑p) = true := by simp; omega
          clear hpt HOUT so hy hR hQ hc hD hdv
          have f1 : decide (n ≤ p) = true := by simp; omega
          have f2 : ((n : Int) == ↑p) = true := by simp; omega
          have cv := conv1 wr R hyl
          go_wp2
          go_roundg (gk - 1)
          case measure => omega
          case rel => exact ⟨n + 1, by omega, by rw [HD.out], by rw [HS.out], by go_num, hb.alloc hb.size _⟩
        · have HOUT := outN_plain (n := n) (m := m) (p := p) hpt
          obtain ⟨y, hy⟩ : ∃ y, m / 10 ^ n = y := ⟨_, rfl⟩
          have hyb : y ≤ 4611686018427387904 := by rw [← hy]; exact Nat.le_trans (Nat.div_le_self _ _) hm2
          have hdv : m / 10 ^ (n + 1) = y / 10 := by rw [← hy, Nat.div_div_eq_div_mul, Nat.pow_succ]
          rw [hy] at hc HOUT ⊢
          obtain ⟨R, hR⟩ : ∃ R, y % 10 = R := ⟨_, rfl⟩
          obtain ⟨Q, hQ⟩ : ∃ Q, y / 10 = Q := ⟨_, rfl⟩
          have hyr : (y : Int) % 10 = (R : Int) := by omega
          have hyl : R < 10 := by omega
          have hyq : (y : Int) / 10 = (Q : Int) := by omega
          rw [hQ] at hdv
          rw [hR] at HOUT
          have hS : (bs (outN n m p)).size ≤ n + 1 := so
          have hcat : bs [dgt R] ++ bs (outN n m p) = bs (outN (n + 1) m p) := by rw [bs_app, HOUT]; rfl
          have hDs : (bs [dgt R]).size = 1 := rfl
          generalize bs (outN n m p) = S at hS hcat ⊢
          obtain ⟨S', hS'⟩ : ∃ S', bs (outN (n + 1) m p) = S' := ⟨_, rfl⟩
          rw [hS'] at hcat
          have HS := Lib.hid hS'
          clear hS'
          have HD := Lib.hid hdv
          clear HOUT so hy hR hQ hdv
          by_cases hnp : n = p
          · have hp0 : p = 0 := by omega
            subst hp0
            subst hnp
            have cv := conv1 wr R hyl
            go_wp2
            go_roundg (gk - 1)
            case measure => omega
            case rel => exact ⟨0 + 1, by omega, by rw [HD.out], by rw [HS.out], by go_num, hb.alloc hb.size _⟩
          · by_cases hle : n ≤ p
            · have f1 : decide (n ≤ p) = true := by simp; omega
              have f2 : ((n : Int) == ↑p) = false := by simp; omega
              have cv := conv1 wr R hyl
              go_wp2
              go_roundg (gk - 1)
              case measure => omega
              case rel => exact ⟨n + 1, by omega, by rw [HD.out], by rw [HS.out], by go_num, hb.alloc hb.size _⟩
            · have f1 : decide (n ≤ p) = false := by simp; omega
              have f2 : ((n : Int) == ↑p) = false := by simp; omega
              have f3 : decide ((0 : Int) < ↑y) = true := by simp; omega
              have cv := conv1 wr R hyl
              go_wp2
              go_roundg (gk - 1)
              case measure => omega
              case rel => exact ⟨n + 1, by omega, by rw [HD.out], by rw [HS.out], by go_num, hb.alloc hb.size _⟩
      · have h1 : p < n := by omega
        have h2 : m / 10 ^ n = 0 := Nat.eq_zero_of_not_pos (fun h => hc (Or.inr h))
        have hend := outN_end h1 h2 (by omega)
        rw [h2, hend]
        rw [hend] at so
        have hS : (bs (txtN m p)).size ≤ n + 1 := so
        have hng : ({ data := #[45] } : ByteArray) ++ bs (txtN m p) = bs (45 :: txtN m p) := bs_app [45] _
        obtain ⟨S, hS1⟩ : ∃ S, bs (txtN m p) = S := ⟨_, rfl⟩
        obtain ⟨S', hS2⟩ : ∃ S', bs (45 :: txtN m p) = S' := ⟨_, rfl⟩
        rw [hS1] at hS hng ⊢
        rw [hS2] at hng
        have H1 := Lib.hid hS1
        have H2 := Lib.hid hS2
        clear hS1 hS2
        clear hend so h2 hc
        have f1 : decide (n ≤ p) = false := by simp; omega
        go_wp2
        go_ret2
        exact ⟨by first | (rw [H2.out]; rfl) | (rw [H1.out]; rfl), hb⟩
  · obtain ⟨m, hm⟩ : ∃ m : Nat, x = (m : Int) := ⟨x.natAbs, by omega⟩
    subst hm
    have hm2 : m ≤ 4611686018427387904 := by omega
    have e1 : bs (fmtT (m : Int) p) = bs (txtN m p) := by unfold fmtT; rw [if_neg hn, show (m : Int).natAbs = m by omega]
    rw [e1]
    clear e1
    have q2 := nd_lt20 (m := m / 10 ^ p) (Nat.lt_of_le_of_lt (Nat.div_le_self _ _) (by omega))
    go_enter Tryd.func9, Tryd.ntmps9
    go_wp2_with (go_at_call 17; refine (hf _).mono ?_; rintro e w' ⟨rfl, rfl⟩)
    go_loopg [0, 7, 8] (p + nd (m / 10 ^ p)) (fun g y o i wr => ∃ (n : Nat), n + g = p + nd (m / 10 ^ p) ∧ y = .int .i64 ((m / 10 ^ n : Nat) : Int) ∧ o = .string (bs (outN n m p)) ∧ i = .int .i64 (n : Int) ∧ Below w.heap.size w wr)
    case atStart => exact ⟨0, by omega, by simp, by rw [outN_zero]; rfl, rfl, Below.refl _ _⟩
    case round =>
      obtain ⟨n, hg, rfl, rfl, rfl, hb⟩ := hrel
      have so := outN_length n m p
      by_cases hc : n ≤ p ∨ 0 < m / 10 ^ n
      · have hmore := more_digits hc
        by_cases hpt : n = p ∧ 0 < p
        · have HOUT := outN_point (n := n) (m := m) (p := p) hpt.1 hpt.2
          obtain ⟨y, hy⟩ : ∃ y, m / 10 ^ n = y := ⟨_, rfl⟩
          have hyb : y ≤ 4611686018427387904 := by rw [← hy]; exact Nat.le_trans (Nat.div_le_self _ _) hm2
          have hdv : m / 10 ^ (n + 1) = y / 10 := by rw [← hy, Nat.div_div_eq_div_mul, Nat.pow_succ]
          rw [hy] at hc HOUT ⊢
          obtain ⟨R, hR⟩ : ∃ R, y % 10 = R := ⟨_, rfl⟩
          obtain ⟨Q, hQ⟩ : ∃ Q, y / 10 = Q := ⟨_, rfl⟩
          have hyr : (y : Int) % 10 = (R : Int) := by omega
          have hyl : R < 10 := by omega
          have hyq : (y : Int) / 10 = (Q : Int) := by omega
          rw [hQ] at hdv
          rw [hR] at HOUT
          have hS : (bs (outN n m p)).size ≤ n + 1 := so
          have hcat0 : ({ data := #[46] } : ByteArray) ++ bs (outN n m p) = bs (46 :: outN n m p) := bs_app [46] _
          have hS0 : (bs (46 :: outN n m p)).size ≤ n + 2 := by rw [bs_size, List.length_cons]; omega
          have hcat : bs [dgt R] ++ bs (46 :: outN n m p) = bs (outN (n + 1) m p) := by rw [bs_app, HOUT]; rfl
          have hD : bs [dgt R] = bs [dgt R] := rfl
          have hDs : (bs [dgt R]).size = 1 := rfl
          generalize bs (46 :: outN n m p) = S0 at hS0 hcat0 hcat
          generalize bs (outN n m p) = S at hS hcat0 ⊢
          obtain ⟨S', hS'⟩ : ∃ S', bs (outN (n + 1) m p) = S' := ⟨_, rfl⟩
          rw [hS'] at hcat
          have HS := Lib.hid hS'
          clear hS'
          have HD := Lib.hid hdv
          have hrv : ∀ a b : Nat, a = b → Value.int .i64 (a : Int) = .int .i64 (b : Int) := fun a b e => by rw [e]
          have hnp : n = p := hpt.1
          have hp0 : 0 < p := hpt.2
          have hp0' : decide ((0 : Int) < ↑p) = true := by simp; omega
          clear hpt HOUT so hy hR hQ hc hD hdv
          have f1 : decide (n ≤ p) = true := by simp; omega
          have f2 : ((n : Int) == ↑p) = true := by simp; omega
          have cv := conv1 wr R hyl
          go_wp2
          go_roundg (gk - 1)
          case measure => omega
          case rel => exact ⟨n + 1, by omega, by rw [HD.out], by rw [HS.out], by go_num, hb.alloc hb.size _⟩
        · have HOUT := outN_plain (n := n) (m := m) (p := p) hpt
          obtain ⟨y, hy⟩ : ∃ y, m / 10 ^ n = y := ⟨_, rfl⟩
          have hyb : y ≤ 4611686018427387904 := by rw [← hy]; exact Nat.le_trans (Nat.div_le_self _ _) hm2
          have hdv : m / 10 ^ (n + 1) = y / 10 := by rw [← hy, Nat.div_div_eq_div_mul, Nat.pow_succ]
          rw [hy] at hc HOUT ⊢
          obtain ⟨R, hR⟩ : ∃ R, y % 10 = R := ⟨_, rfl⟩
          obtain ⟨Q, hQ⟩ : ∃ Q, y / 10 = Q := ⟨_, rfl⟩
          have hyr : (y : Int) % 10 = (R : Int) := by omega
          have hyl : R < 10 := by omega
          have hyq : (y : Int) / 10 = (Q : Int) := by omega
          rw [hQ] at hdv
          rw [hR] at HOUT
          have hS : (bs (outN n m p)).size ≤ n + 1 := so
          have hcat : bs [dgt R] ++ bs (outN n m p) = bs (outN (n + 1) m p) := by rw [bs_app, HOUT]; rfl
          have hDs : (bs [dgt R]).size = 1 := rfl
          generalize bs (outN n m p) = S at hS hcat ⊢
          obtain ⟨S', hS'⟩ : ∃ S', bs (outN (n + 1) m p) = S' := ⟨_, rfl⟩
          rw [hS'] at hcat
          have HS := Lib.hid hS'
          clear hS'
          have HD := Lib.hid hdv
          clear HOUT so hy hR hQ hdv
          by_cases hnp : n = p
          · have hp0 : p = 0 := by omega
            subst hp0
            subst hnp
            have cv := conv1 wr R hyl
            go_wp2
            go_roundg (gk - 1)
            case measure => omega
            case rel => exact ⟨0 + 1, by omega, by rw [HD.out], by rw [HS.out], by go_num, hb.alloc hb.size _⟩
          · by_cases hle : n ≤ p
            · have f1 : decide (n ≤ p) = true := by simp; omega
              have f2 : ((n : Int) == ↑p) = false := by simp; omega
              have cv := conv1 wr R hyl
              go_wp2
              go_roundg (gk - 1)
              case measure => omega
              case rel => exact ⟨n + 1, by omega, by rw [HD.out], by rw [HS.out], by go_num, hb.alloc hb.size _⟩
            · have f1 : decide (n ≤ p) = false := by simp; omega
              have f2 : ((n : Int) == ↑p) = false := by simp; omega
              have f3 : decide ((0 : Int) < ↑y) = true := by simp; omega
              have cv := conv1 wr R hyl
              go_wp2
              go_roundg (gk - 1)
              case measure => omega
              case rel => exact ⟨n + 1, by omega, by rw [HD.out], by rw [HS.out], by go_num, hb.alloc hb.size _⟩
      · have h1 : p < n := by omega
        have h2 : m / 10 ^ n = 0 := Nat.eq_zero_of_not_pos (fun h => hc (Or.inr h))
        have hend := outN_end h1 h2 (by omega)
        rw [h2, hend]
        rw [hend] at so
        have hS : (bs (txtN m p)).size ≤ n + 1 := so
        have hng : ({ data := #[45] } : ByteArray) ++ bs (txtN m p) = bs (45 :: txtN m p) := bs_app [45] _
        obtain ⟨S, hS1⟩ : ∃ S, bs (txtN m p) = S := ⟨_, rfl⟩
        obtain ⟨S', hS2⟩ : ∃ S', bs (45 :: txtN m p) = S' := ⟨_, rfl⟩
        rw [hS1] at hS hng ⊢
        rw [hS2] at hng
        have H1 := Lib.hid hS1
        have H2 := Lib.hid hS2
        clear hS1 hS2
        clear hend so h2 hc
        have f1 : decide (n ≤ p) = false := by simp; omega
        go_wp2
        go_ret2
        exact ⟨by first | (rw [H2.out]; rfl) | (rw [H1.out]; rfl), hb⟩
end Go.Proofs.YtdapcmokibkokaaDoor.Dx

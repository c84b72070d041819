/-
  Layer 1's reference: what each of its functions returns.
-/
import Derived.Test.YtbnihoimhfcjiaaDoorFx6
import Derived.Test.YtbnihoimhfcjiaaDoorFx4
import Derived.Handy
import Derived.Below
namespace Go.Proofs.YtbnihoimhfcjiaaDoor.Fx
open Go.RowKit
set_option linter.unusedVariables false

theorem rfits_any (x : Int) (w : World) :
    Calls Tryd.prog 28 #[.int .i64 x] w fun e w' => e = .returned (.bool (fitB x)) ∧ w = w' := by
  by_cases h1 : x ≤ 4611686018427387904
  · by_cases h2 : -4611686018427387904 ≤ x
    · go_enter Tryd.func28, Tryd.ntmps28
      go_wp2
      go_ret
      exact ⟨by rw [fitB_mk h2 h1] <;> rfl, rfl⟩
    · have H := fitB_not (x := x) (by omega)
      have HH := Lib.hid H; clear H
      go_enter Tryd.func28, Tryd.ntmps28
      go_wp2
      go_ret
      exact ⟨by rw [HH.out] <;> rfl, rfl⟩
  · have H := fitB_not (x := x) (by omega)
    have HH := Lib.hid H; clear H
    go_enter Tryd.func28, Tryd.ntmps28
    go_wp2
    go_ret
    exact ⟨by rw [HH.out] <;> rfl, rfl⟩

theorem abs_any (x : Int) (w : World) (hx : -9223372036854775808 < x ∧ x ≤ 9223372036854775807) :
    Calls Tryd.prog 31 #[.int .i64 x] w fun e w' => e = .returned (.int .u64 (absN x : Int)) ∧ w = w' := by
  by_cases h : x < 0
  · have e1 : -x = (absN x : Int) := by unfold absN; omega
    have HE := Lib.hid e1; clear e1
    go_enter Tryd.func31, Tryd.ntmps31
    go_wp2
    go_ret
    exact ⟨by rw [HE.out] <;> rfl, rfl⟩
  · have e1 : x = (absN x : Int) := by unfold absN; omega
    have HE := Lib.hid e1; clear e1
    go_enter Tryd.func31, Tryd.ntmps31
    go_wp2
    go_ret
    exact ⟨by rw [← HE.out] <;> rfl, rfl⟩

theorem radd_any (a b : Int) (w : World) :
    Calls Tryd.prog 40 #[.int .i64 a, .int .i64 b] w fun e w' => e = .returned (.tuple #[.int .i64 (addS a b).1, .int .i64 (addS a b).2]) ∧ w = w' := by
  cases ha : fitB a
  · go_enter Tryd.func40, Tryd.ntmps40
    go_wp2_with (go_at_call 28; refine (rfits_any _ _).mono ?_; rintro e w' ⟨rfl, rfl⟩)
    go_ret2
    exact ⟨by rw [addS_no1 ha] <;> rfl, rfl⟩
  · cases hb : fitB b
    · go_enter Tryd.func40, Tryd.ntmps40
      go_wp2_with (go_at_call 28; refine (rfits_any _ _).mono ?_; rintro e w' ⟨rfl, rfl⟩)
      go_ret2
      exact ⟨by rw [addS_no2 hb] <;> rfl, rfl⟩
    · have ba := fitB_true ha
      have bb := fitB_true hb
      have hs := addS_fit ha hb
      by_cases h1 : 0 < a
      · have t1 : decide (0 < a) = true := decide_eq_true h1
        have t2 : decide (a < 0) = false := decide_eq_false (by omega)
        by_cases h2 : 4611686018427387904 - a < b
        · have t3 : decide (4611686018427387904 - a < b) = true := decide_eq_true h2
          rw [chkS_no (fitB_not (by omega))] at hs
          have HS := Lib.hid hs; clear hs
          go_enter Tryd.func40, Tryd.ntmps40
          go_wp2_with (go_at_call 28; refine (rfits_any _ _).mono ?_; rintro e w' ⟨rfl, rfl⟩)
          go_ret2
          exact ⟨by rw [HS.out] <;> rfl, rfl⟩
        · have t3 : decide (4611686018427387904 - a < b) = false := decide_eq_false h2
          rw [chkS_fit (fitB_mk (by omega) (by omega))] at hs
          have HS := Lib.hid hs; clear hs
          go_enter Tryd.func40, Tryd.ntmps40
          go_wp2_with (go_at_call 28; refine (rfits_any _ _).mono ?_; rintro e w' ⟨rfl, rfl⟩)
          go_ret2
          exact ⟨by rw [HS.out] <;> rfl, rfl⟩
      · have t1 : decide (0 < a) = false := decide_eq_false h1
        by_cases h3 : a < 0
        · have t2 : decide (a < 0) = true := decide_eq_true h3
          by_cases h2 : b < -4611686018427387904 - a
          · have t3 : decide (b < -4611686018427387904 - a) = true := decide_eq_true h2
            rw [chkS_no (fitB_not (by omega))] at hs
            have HS := Lib.hid hs; clear hs
            go_enter Tryd.func40, Tryd.ntmps40
            go_wp2_with (go_at_call 28; refine (rfits_any _ _).mono ?_; rintro e w' ⟨rfl, rfl⟩)
            go_ret2
            exact ⟨by rw [HS.out] <;> rfl, rfl⟩
          · have t3 : decide (b < -4611686018427387904 - a) = false := decide_eq_false h2
            rw [chkS_fit (fitB_mk (by omega) (by omega))] at hs
            have HS := Lib.hid hs; clear hs
            go_enter Tryd.func40, Tryd.ntmps40
            go_wp2_with (go_at_call 28; refine (rfits_any _ _).mono ?_; rintro e w' ⟨rfl, rfl⟩)
            go_ret2
            exact ⟨by rw [HS.out] <;> rfl, rfl⟩
        · have t2 : decide (a < 0) = false := decide_eq_false h3
          rw [chkS_fit (fitB_mk (by omega) (by omega))] at hs
          have HS := Lib.hid hs; clear hs
          go_enter Tryd.func40, Tryd.ntmps40
          go_wp2_with (go_at_call 28; refine (rfits_any _ _).mono ?_; rintro e w' ⟨rfl, rfl⟩)
          go_ret2
          exact ⟨by rw [HS.out] <;> rfl, rfl⟩

/-- Twice a number of 128 bits, and a bit: its two halves. -/
def twHi (h l : Nat) : Nat := h * 2 % 18446744073709551616 + l / 9223372036854775808
def twLo (l bit : Nat) : Nat := l * 2 % 18446744073709551616 + bit

theorem tw_or (x b : Nat) (hb : b ≤ 1) : x * 2 % 18446744073709551616 ||| b = x * 2 % 18446744073709551616 + b := by
  have e : x * 2 % 18446744073709551616 = x % 9223372036854775808 * 2 ^ 1 := by omega
  rw [e]; exact or_add _ b 1 (by omega)
theorem tw_val (h l bit : Nat) (hh : h < 9223372036854775808) (hl : l < 18446744073709551616) (hb : bit ≤ 1) :
    twHi h l * 18446744073709551616 + twLo l bit = 2 * (h * 18446744073709551616 + l) + bit ∧ twHi h l < 18446744073709551616 ∧ twLo l bit < 18446744073709551616 := by
  unfold twHi twLo; omega
theorem twLo_lt (l bit : Nat) (hb : bit ≤ 1) : twLo l bit < 18446744073709551616 := by unfold twLo; omega

set_option maxRecDepth 100000 in
theorem twice_any (h l bit : Nat) (w : World) (hh : h < 18446744073709551616) (hl : l < 18446744073709551616) (hb : bit ≤ 1) :
    Calls Tryd.prog 38 #[.agg #[.int .u64 h, .int .u64 l], .int .u64 bit] w fun e w' => e = .returned (.agg #[.int .u64 (twHi h l : Int), .int .u64 (twLo l bit : Int)]) ∧ Below w.heap.size w w' := by
  obtain ⟨h2, e1⟩ : ∃ z, z = h * 2 % 18446744073709551616 := ⟨_, rfl⟩
  obtain ⟨lt, e2⟩ : ∃ z, z = l / 9223372036854775808 := ⟨_, rfl⟩
  obtain ⟨l2, e3⟩ : ∃ z, z = l * 2 % 18446744073709551616 := ⟨_, rfl⟩
  have r1 : IntKind.u64.wrap ((h : Int) * 2) = (h2 : Int) := by rw [IntKind.wrap_u64]; omega
  have r2 : (l : Int) / 9223372036854775808 = (lt : Int) := by omega
  have r3 : bits .or .u64 (h2 : Int) (lt : Int) = (twHi h l : Int) := orN _ _ _ (by omega) (by omega) (by rw [e1, e2]; exact (tw_or h _ (by omega)).symm)
  have r4 : IntKind.u64.wrap ((l : Int) * 2) = (l2 : Int) := by rw [IntKind.wrap_u64]; omega
  have r5 : bits .or .u64 (l2 : Int) (bit : Int) = (twLo l bit : Int) := orN _ _ _ (by omega) (by omega) (by rw [e3]; exact (tw_or l _ hb).symm)
  clear e1 e2 e3
  go_enter Tryd.func38, Tryd.ntmps38
  go_wp2
  exact bodyPost_ret (v := .agg #[.int .u64 (twHi h l : Int), .int .u64 (twLo l bit : Int)]) (by simp [results, Tryd.results38, go_sem]) rfl ⟨rfl, ((Below.refl _ _).alloc (Nat.le_refl _) _).alloc (by simp) _⟩

/-- A block of two cells of the call's own, known whole. -/
def Two (w : World) (b : Nat) (x y : Value) : Prop := w.heap[b]? = some (.cells #[x, y] 55 (0, 0))
theorem Two.c0 {w : World} {b : Nat} {x y : Value} (h : Two w b x y) : w.cell? ⟨b, 0, none⟩ = some x := by unfold World.cell?; unfold Two at h; simp [h]
theorem Two.c1 {w : World} {b : Nat} {x y : Value} (h : Two w b x y) : w.cell? ⟨b, 1, none⟩ = some y := by unfold World.cell?; unfold Two at h; simp [h]
theorem Two.f {w : World} {b : Nat} {x y : Value} (h : Two w b x y) (o : Nat) : w.frozen? ⟨b, o, none⟩ = false := by unfold World.frozen?; unfold Two at h; simp [h]
theorem Two.below {w w' : World} {b B : Nat} {x y : Value} (h : Two w b x y) (hb : Below B w w') (hB : b < B) : Two w' b x y := (hb.block b hB).trans h
theorem Two.lt {w : World} {b : Nat} {x y : Value} (h : Two w b x y) : b < w.heap.size := by
  unfold Two at h
  rcases Nat.lt_or_ge b w.heap.size with h1 | h1
  · exact h1
  · rw [Array.getElem?_eq_none h1] at h; cases h
theorem Two.set0 {w : World} {b : Nat} {x y : Value} (h : Two w b x y) (v : Value) : Two (w.setCell ⟨b, 0, none⟩ v) b v y := by
  unfold Two at *; simp only [World.setCell, Array.getElem?_modify]; simp [h]
theorem Two.set1 {w : World} {b : Nat} {x y : Value} (h : Two w b x y) (v : Value) : Two (w.setCell ⟨b, 1, none⟩ v) b x v := by
  unfold Two at *; simp only [World.setCell, Array.getElem?_modify]; simp [h]
theorem Two.other {w : World} {b : Nat} {x y : Value} (h : Two w b x y) (a : Addr) (ha : a.block ≠ b) (v : Value) : Two (w.setCell a v) b x y := by
  unfold Two at *; simp only [World.setCell, Array.getElem?_modify]; rw [if_neg ha]; exact h

theorem half_bit (b k : Nat) : b / 2 ^ k = 2 * (b / 2 ^ (k + 1)) + b / 2 ^ k % 2 := by
  rw [Nat.pow_succ, ← Nat.div_div_eq_div_mul]; omega
theorem times_small {a b k h l : Nat} (ha : a < 18446744073709551616) (hb : b < 18446744073709551616) (hv : h * 18446744073709551616 + l = a * (b / 2 ^ (k + 1))) : h < 9223372036854775808 := by
  have h1 : b / 2 ^ (k + 1) ≤ 9223372036854775807 := by
    have : b / 2 ^ (k + 1) ≤ b / 2 := by
      rw [Nat.pow_succ, Nat.mul_comm, ← Nat.div_div_eq_div_mul]; exact Nat.div_le_self _ _
    omega
  have h2 := Nat.mul_le_mul (Nat.le_of_lt_succ ha) h1
  generalize a * (b / 2 ^ (k + 1)) = V at *
  omega
theorem times_next {a b k h l : Nat} (hv : h * 18446744073709551616 + l = a * (b / 2 ^ (k + 1))) :
    2 * (h * 18446744073709551616 + l) + a * (b / 2 ^ k % 2) = a * (b / 2 ^ k) := by
  have e := congrArg (fun z => a * z) (half_bit b k)
  rw [hv]
  refine Eq.trans ?_ e.symm
  show _ = a * (2 * (b / 2 ^ (k + 1)) + b / 2 ^ k % 2)
  rw [Nat.mul_add, Nat.mul_left_comm]
theorem times_lt {a b k : Nat} (ha : a < 18446744073709551616) (hb : b < 18446744073709551616) : a * (b / 2 ^ k) < 340282366920938463463374607431768211456 := by
  have h1 : b / 2 ^ k ≤ 18446744073709551615 := Nat.le_trans (Nat.div_le_self _ _) (by omega)
  have h2 := Nat.mul_le_mul (Nat.le_of_lt_succ ha) h1
  generalize a * (b / 2 ^ k) = V at *
  omega
theorem times_end {a b h l : Nat} (hv : h * 18446744073709551616 + l = a * (b / 2 ^ 0)) (hl : l < 18446744073709551616) : h = hiN a b ∧ l = loN a b := by
  unfold hiN loN
  rw [Nat.pow_zero, Nat.div_one] at hv
  rw [← hv]
  omega
theorem times_carry {a h l bk lo th tl : Nat} (q1 : 2 * (h * 18446744073709551616 + l) + a = a * bk) (q2 : th * 18446744073709551616 + tl = 2 * (h * 18446744073709551616 + l) + 0) (q3 : a * bk < 340282366920938463463374607431768211456)
    (hc : 18446744073709551616 ≤ tl + a) (elo : lo = tl + a - 18446744073709551616) (hl : tl < 18446744073709551616) (ha : a < 18446744073709551616) :
    (th + 1) * 18446744073709551616 + lo = a * bk ∧ th + 1 < 18446744073709551616 ∧ lo < 18446744073709551616 := by
  generalize a * bk = V at *
  omega
theorem times_plain {a h l bk lo th tl : Nat} (q1 : 2 * (h * 18446744073709551616 + l) + a = a * bk) (q2 : th * 18446744073709551616 + tl = 2 * (h * 18446744073709551616 + l) + 0)
    (hc : ¬ 18446744073709551616 ≤ tl + a) (elo : lo = tl + a) : th * 18446744073709551616 + lo = a * bk ∧ lo < 18446744073709551616 := by
  generalize a * bk = V at *
  omega
theorem andOne (x : Nat) (hx : x < 18446744073709551616) : bits .and .u64 (x : Int) 1 = ((x % 2 : Nat) : Int) := by
  have h := bits_and_u64_nat x 1 hx (by omega)
  have e : x &&& 1 = x % 2 := Nat.and_one_is_mod x
  rw [e] at h
  exact h
theorem zero_two (w : World) : Two (w.alloc (.cells #[.int .u64 0, .int .u64 0] 55)) w.heap.size (.int .u64 0) (.int .u64 0) := by
  unfold Two; exact (MapKept.heap_alloc w _).1
theorem Two.alloc {w : World} {b : Nat} {x y : Value} (h : Two w b x y) (o : Obj) : Two (w.alloc o) b x y :=
  h.below (B := w.heap.size) ((Below.refl _ _).alloc (Nat.le_refl _) o) h.lt

set_option maxRecDepth 100000 in
set_option maxHeartbeats 2000000 in
theorem times_any (a b : Nat) (w : World) (ha : a < 18446744073709551616) (hb : b < 18446744073709551616) :
    Calls Tryd.prog 30 #[.int .u64 a, .int .u64 b] w fun e w' => e = .returned (.agg #[.int .u64 (hiN a b : Int), .int .u64 (loN a b : Int)]) ∧ Below w.heap.size w w' := by
  go_enter Tryd.func30, Tryd.ntmps30
  go_wp2
  go_loopg [6] 64 (fun k i wr => ∃ h l : Nat, k ≤ 64 ∧ i = .int .i64 ((k : Int) - 1) ∧ h * 18446744073709551616 + l = a * (b / 2 ^ k) ∧ h < 18446744073709551616 ∧ l < 18446744073709551616 ∧
    Two wr (w.heap.size + 1) (.int .u64 h) (.int .u64 l) ∧ Two wr w.heap.size (.int .u64 0) (.int .u64 0) ∧ Below w.heap.size w wr)
  case atStart =>
    refine ⟨0, 0, Nat.le_refl _, rfl, ?_, by decide, by decide, ?_, (zero_two w).alloc _, ((Below.refl _ _).alloc (Nat.le_refl _) _).alloc (by simp) _⟩
    · rw [show b / 2 ^ 64 = 0 from Nat.div_eq_of_lt hb]; rfl
    · have := zero_two (w.alloc (.cells #[.int .u64 0, .int .u64 0] 55))
      rw [World.size_alloc] at this
      exact this
  case round =>
    obtain ⟨h, l, hk, rfl, hv, hh, hl, t1, t2, hb1⟩ := hrel
    have HV := Lib.hid hv; clear hv
    have c0 := t1.c0; have c1 := t1.c1; have f0 := t1.f 0; have f1 := t1.f 1
    have d0 := t2.c0; have d1 := t2.c1; have g0 := t2.f 0; have g1 := t2.f 1
    by_cases hk0 : 0 < gk
    · obtain ⟨k, rfl⟩ : ∃ k, gk = k + 1 := ⟨gk - 1, by omega⟩
      rw [show ((k + 1 : Nat) : Int) - 1 = (k : Int) from by omega]
      obtain ⟨bk, e1⟩ : ∃ z, z = b / 2 ^ k := ⟨_, rfl⟩
      have r1 : (b : Int) / 2 ^ k = (bk : Int) := shrN b k bk e1
      have lbk : bk < 18446744073709551616 := by rw [e1]; exact Nat.lt_of_le_of_lt (Nat.div_le_self _ _) hb
      have hs := times_small ha hb HV.out
      have hn := times_next HV.out
      have hz := times_lt (k := k) ha hb
      rw [← e1] at hn hz
      have htw := tw_val h l 0 hs hl (by omega)
      have HN := Lib.hid hn; have HZ := Lib.hid hz; have HT := Lib.hid htw; clear hn hz htw
      have ltw : twLo l 0 < 18446744073709551616 := HT.out.2.2
      have lth : twHi h l < 18446744073709551616 := HT.out.2.1
      have E1 := Lib.hid e1; clear e1
      have R2 := Lib.hid (andOne bk lbk)
      by_cases hbit : bk % 2 = 0
      · have r2 : bits .and .u64 (bk : Int) 1 = 0 := by rw [R2.out, hbit]; rfl
        have HB := Lib.hid hbit; clear hbit
        go_wp2_with fail
        refine (twice_any h l 0 _ hh hl (by omega)).mono ?_
        rintro e w1 ⟨rfl, hb2⟩
        have s1 := t1.below hb2 t1.lt
        have s2 := t2.below hb2 t2.lt
        have c0 := s1.c0; have c1 := s1.c1; have f0 := s1.f 0; have f1 := s1.f 1
        go_wp2
        go_roundg k
        case measure => omega
        case rel =>
          refine ⟨twHi h l, twLo l 0, by omega, rfl, ?_, lth, ltw, ((s1.set0 _).set1 _), ((s2.other _ (by simp) _).other _ (by simp) _), ((hb1.trans (hb2.mono hb1.size)).setCell (by simp) _).setCell (by simp) _⟩
          have q1 := HN.out; have q2 := HT.out.1
          rw [HB.out] at q1
          rw [← E1.out, ← q1, q2]; rfl
      · have hbit1 : bk % 2 = 1 := by omega
        have r2 : bits .and .u64 (bk : Int) 1 = 1 := by rw [R2.out, hbit1]; rfl
        have HB := Lib.hid hbit1; clear hbit hbit1
        have q1 := HN.out; have q2 := HT.out.1; have q3 := HZ.out
        rw [HB.out, Nat.mul_one] at q1
        by_cases hc : 18446744073709551616 ≤ twLo l 0 + a
        · obtain ⟨lo, elo⟩ : ∃ z, z = twLo l 0 + a - 18446744073709551616 := ⟨_, rfl⟩
          have r3 : IntKind.u64.wrap ((twLo l 0 : Int) + (a : Int)) = (lo : Int) := by rw [IntKind.wrap_u64]; omega
          have r4 : decide (lo < a) = true := decide_eq_true (by omega)
          have hfin : (twHi h l + 1) * 18446744073709551616 + lo = a * bk ∧ twHi h l + 1 < 18446744073709551616 ∧ lo < 18446744073709551616 := times_carry q1 q2 q3 hc elo ltw ha
          have r5 : IntKind.u64.wrap ((twHi h l : Int) + 1) = ((twHi h l + 1 : Nat) : Int) := by rw [IntKind.wrap_u64]; have := hfin.2.1; omega
          have HF := Lib.hid hfin; clear hfin q1 q2 q3 elo hc
          go_wp2_with fail
          refine (twice_any h l 0 _ hh hl (by omega)).mono ?_
          rintro e w1 ⟨rfl, hb2⟩
          have s1 := t1.below hb2 t1.lt
          have s2 := t2.below hb2 t2.lt
          have c0 := s1.c0; have c1 := s1.c1; have f0 := s1.f 0; have f1 := s1.f 1
          go_wp2
          go_roundg k
          case measure => omega
          case rel =>
            refine ⟨twHi h l + 1, lo, by omega, rfl, by rw [← E1.out]; exact HF.out.1, HF.out.2.1, HF.out.2.2, ((((s1.set0 _).set1 _).set0 _).set1 _), ((((s2.other _ (by simp) _).other _ (by simp) _).other _ (by simp) _).other _ (by simp) _), ((((hb1.trans (hb2.mono hb1.size)).setCell (by simp) _).setCell (by simp) _).setCell (by simp) _).setCell (by simp) _⟩
        · obtain ⟨lo, elo⟩ : ∃ z, z = twLo l 0 + a := ⟨_, rfl⟩
          have r3 : IntKind.u64.wrap ((twLo l 0 : Int) + (a : Int)) = (lo : Int) := by rw [IntKind.wrap_u64]; omega
          have r4 : decide (lo < a) = false := decide_eq_false (by omega)
          have hfin : twHi h l * 18446744073709551616 + lo = a * bk ∧ lo < 18446744073709551616 := times_plain q1 q2 hc elo
          have HF := Lib.hid hfin; clear hfin q1 q2 q3 elo hc
          go_wp2_with fail
          refine (twice_any h l 0 _ hh hl (by omega)).mono ?_
          rintro e w1 ⟨rfl, hb2⟩
          have s1 := t1.below hb2 t1.lt
          have s2 := t2.below hb2 t2.lt
          have c0 := s1.c0; have c1 := s1.c1; have f0 := s1.f 0; have f1 := s1.f 1
          go_wp2
          go_roundg k
          case measure => omega
          case rel =>
            refine ⟨twHi h l, lo, by omega, rfl, by rw [← E1.out]; exact HF.out.1, lth, HF.out.2, (((s1.set0 _).set1 _).set1 _), (((s2.other _ (by simp) _).other _ (by simp) _).other _ (by simp) _), (((hb1.trans (hb2.mono hb1.size)).setCell (by simp) _).setCell (by simp) _).setCell (by simp) _⟩
    · have hk1 : gk = 0 := by omega
      have hv := HV.out
      rw [hk1] at hv
      obtain ⟨e1, e2⟩ := times_end hv hl
      have E1 := Lib.hid e1; have E2 := Lib.hid e2; clear e1 e2 hk1 hv
      go_wp2
      exact bodyPost_ret (v := .agg #[.int .u64 (h : Int), .int .u64 (l : Int)]) (by simp [results, Tryd.results30, go_sem, d0, d1]) rfl ⟨by rw [E1.out, E2.out], (hb1.setCell (by simp) _).setCell (by simp) _⟩
end Go.Proofs.YtbnihoimhfcjiaaDoor.Fx

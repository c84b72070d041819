/-
  Layer 1's reference: what its long division returns.
-/
import Derived.Test.YtbnihoimhfcjiaaDoorFx7
namespace Go.Proofs.YtbnihoimhfcjiaaDoor.Fx
open Go.RowKit
set_option linter.unusedVariables false

def hiW (n : Nat) : Nat := n / 18446744073709551616
def loW (n : Nat) : Nat := n % 18446744073709551616
theorem and63 : ∀ k : Fin 128, bits .and .i64 ((k.val : Nat) : Int) 63 = ((k.val % 64 : Nat) : Int) := by decide +kernel
/-- The bit at place k of a number of 128 bits, off its half. -/
theorem bit_low (h l k : Nat) (hk : k ≤ 63) : (h * 18446744073709551616 + l) / 2 ^ k % 2 = l / 2 ^ k % 2 := by
  have hp : 18446744073709551616 = 2 ^ k * (2 * 2 ^ (63 - k)) := by
    rw [show 2 * 2 ^ (63 - k) = 2 ^ (64 - k) from by rw [show 64 - k = (63 - k) + 1 from by omega, Nat.pow_succ, Nat.mul_comm], ← Nat.pow_add, show k + (64 - k) = 64 from by omega]
  have e : h * 18446744073709551616 + l = 2 ^ k * (h * (2 * 2 ^ (63 - k))) + l := by
    rw [Nat.mul_left_comm, ← hp]
  rw [e, Nat.mul_add_div (Nat.two_pow_pos k), Nat.mul_left_comm]
  omega
theorem bit_high (h l k : Nat) (hk : 64 ≤ k) (hl : l < 18446744073709551616) : (h * 18446744073709551616 + l) / 2 ^ k % 2 = h / 2 ^ (k - 64) % 2 := by
  obtain ⟨j, rfl⟩ : ∃ j, k = 64 + j := ⟨k - 64, by omega⟩
  rw [Nat.pow_add, ← Nat.div_div_eq_div_mul, show (64 + j - 64) = j from by omega]
  have : (h * 18446744073709551616 + l) / 2 ^ 64 = h := by
    show (h * 18446744073709551616 + l) / 18446744073709551616 = h
    omega
  rw [this]
theorem over_next {N q r c k b : Nat} (hv : q * c + r = N / 2 ^ (k + 1)) (hb : b = N / 2 ^ k % 2) : (2 * q) * c + (r * 2 + b) = N / 2 ^ k := by
  have e := half_bit N k
  rw [e, ← hv, ← hb, Nat.mul_assoc, Nat.mul_add]
  omega
theorem over_bound {N q r c k : Nat} (hv : q * c + r = N / 2 ^ (k + 1)) (hc : 0 < c) (hN : N < 340282366920938463463374607431768211456) : q < 170141183460469231731687303715884105728 := by
  have h1 : N / 2 ^ (k + 1) ≤ N / 2 := by
    rw [Nat.pow_succ, Nat.mul_comm, ← Nat.div_div_eq_div_mul]; exact Nat.div_le_self _ _
  have h2 : q ≤ q * c := Nat.le_mul_of_pos_right q hc
  omega
theorem over_more {q c r : Nat} (h : c ≤ r) : (2 * q) * c + r = (2 * q + 1) * c + (r - c) := by
  rw [Nat.add_mul]; omega
theorem over_end {N q r c : Nat} (hv : q * c + r = N / 2 ^ 0) (hr : r < c) : q = N / c ∧ r = N % c := by
  rw [Nat.pow_zero, Nat.div_one] at hv
  subst hv
  rw [Nat.mul_comm q c]
  refine ⟨?_, ?_⟩
  · rw [Nat.mul_add_div (by omega), Nat.div_eq_of_lt hr]; rfl
  · rw [Nat.mul_add_mod, Nat.mod_eq_of_lt hr]
theorem halves {h l q : Nat} (e : h * 18446744073709551616 + l = q) (hl : l < 18446744073709551616) : h = hiW q ∧ l = loW q := by
  unfold hiW loW; omega
theorem wide_lt {h l : Nat} (hh : h < 18446744073709551616) (hl : l < 18446744073709551616) : h * 18446744073709551616 + l < 340282366920938463463374607431768211456 := by omega
theorem twice_small {h l q : Nat} (e : h * 18446744073709551616 + l = q) (hq : q < 170141183460469231731687303715884105728) : h < 9223372036854775808 := by omega

set_option maxRecDepth 100000 in
set_option maxHeartbeats 2000000 in
theorem over_any (h l c : Nat) (w : World) (hh : h < 18446744073709551616) (hl : l < 18446744073709551616) (hc0 : 0 < c) (hc : c < 9223372036854775808) :
    Calls Tryd.prog 29 #[.agg #[.int .u64 h, .int .u64 l], .int .u64 c] w fun e w' =>
      e = .returned (.tuple #[.agg #[.int .u64 (hiW (quoN h l c) : Int), .int .u64 (loW (quoN h l c) : Int)], .int .u64 (remN h l c : Int)]) ∧ Below w.heap.size w w' := by
  have hN := wide_lt hh hl
  have HN := Lib.hid hN; clear hN
  go_enter Tryd.func29, Tryd.ntmps29
  go_wp2
  go_loopg [7, 8] 128 (fun k r i wr => ∃ q rr qh ql : Nat, k ≤ 128 ∧ i = .int .i64 ((k : Int) - 1) ∧ r = .int .u64 rr ∧ q * c + rr = (h * 18446744073709551616 + l) / 2 ^ k ∧ rr < c ∧
    qh * 18446744073709551616 + ql = q ∧ ql < 18446744073709551616 ∧ qh < 18446744073709551616 ∧
    Two wr w.heap.size (.int .u64 h) (.int .u64 l) ∧ Two wr (w.heap.size + 2) (.int .u64 qh) (.int .u64 ql) ∧ Two wr (w.heap.size + 1) (.int .u64 0) (.int .u64 0) ∧ Below w.heap.size w wr)
  case atStart =>
    refine ⟨0, 0, 0, 0, Nat.le_refl _, rfl, rfl, ?_, hc0, rfl, by decide, by decide, ?_, ?_, ?_, (((Below.refl _ _).alloc (Nat.le_refl _) _).alloc (by simp <;> omega) _).alloc (by simp <;> omega) _⟩
    · rw [Nat.div_eq_of_lt HN.out]; simp
    · have h0 : Two (w.alloc (.cells #[.int .u64 h, .int .u64 l] 55)) w.heap.size (.int .u64 h) (.int .u64 l) := by unfold Two; exact (MapKept.heap_alloc w _).1
      exact (h0.alloc _).alloc _
    · have := zero_two ((w.alloc (.cells #[.int .u64 h, .int .u64 l] 55)).alloc (.cells #[.int .u64 0, .int .u64 0] 55))
      rw [World.size_alloc, World.size_alloc] at this
      exact this
    · have := zero_two (w.alloc (.cells #[.int .u64 h, .int .u64 l] 55))
      rw [World.size_alloc] at this
      exact this.alloc _
  case round =>
    obtain ⟨q, rr, qh, ql, hk, rfl, rfl, hv, hr, he, hql, hqh, t0, t1, t2, hb1⟩ := hrel
    have c0 := t1.c0; have c1 := t1.c1; have f0 := t1.f 0; have f1 := t1.f 1
    have d0 := t2.c0; have d1 := t2.c1; have g0 := t2.f 0; have g1 := t2.f 1
    have x0 := t0.c0; have x1 := t0.c1
    have HE := Lib.hid he; clear he
    by_cases hk0 : 0 < gk
    · obtain ⟨k, rfl⟩ : ∃ k, gk = k + 1 := ⟨gk - 1, by omega⟩
      rw [show ((k + 1 : Nat) : Int) - 1 = (k : Int) from by omega]
      have lk : k < 128 := by omega
      obtain ⟨km, hkm⟩ : ∃ z, z = k % 64 := ⟨_, rfl⟩
      have lkm : km < 64 := by omega
      have r63 : bits .and .i64 (k : Int) 63 = (km : Int) := by rw [hkm]; exact and63 ⟨k, lk⟩
      have hqb := over_bound hv hc0 HN.out
      have hqs := twice_small HE.out hqb
      obtain ⟨b, hb⟩ : ∃ z, z = (h * 18446744073709551616 + l) / 2 ^ k % 2 := ⟨_, rfl⟩
      have hb2 : b ≤ 1 := by omega
      have hnext := over_next hv hb
      have hor := tw_or rr b hb2
      have e1 : rr * 2 % 18446744073709551616 = rr * 2 := by omega
      obtain ⟨r2, hr2⟩ : ∃ z, z = rr * 2 + b := ⟨_, rfl⟩
      rw [e1] at hor
      have q2 : bits .or .u64 ((rr : Int) * 2) (b : Int) = (r2 : Int) := by
        have := orN (rr * 2) b r2 (by omega) (by omega) (by rw [hr2]; exact hor.symm)
        rw [← this]; simp
      rw [← hr2] at hnext
      have lr2 : r2 - c < c := by omega
      have lr3 : (r2 : Int) ≤ 18446744073709551615 := by omega
      obtain ⟨xl, hxl⟩ : ∃ z, z = l / 2 ^ km := ⟨_, rfl⟩
      have rl1 := shrN l km xl hxl
      obtain ⟨xh, hxh⟩ : ∃ z, z = h / 2 ^ km := ⟨_, rfl⟩
      have rh1 := shrN h km xh hxh
      have lxl : xl < 18446744073709551616 := by rw [hxl]; exact Nat.lt_of_le_of_lt (Nat.div_le_self _ _) hl
      have lxh : xh < 18446744073709551616 := by rw [hxh]; exact Nat.lt_of_le_of_lt (Nat.div_le_self _ _) hh
      have al := andOne xl lxl
      have ah := andOne xh lxh
      have HV := Lib.hid hv; clear hv
      have HX := Lib.hid hnext; clear hor hnext e1 hqb hr2
      by_cases h63 : k ≤ 63
      · have rl2 : bits .and .u64 (xl : Int) 1 = (b : Int) := by
          rw [al, hb, hxl, hkm, Nat.mod_eq_of_lt (by omega : k < 64), bit_low h l k h63]
        clear al ah hb hxl hxh hkm
        by_cases hge : c ≤ r2
        · have d1 : decide (c ≤ r2) = true := decide_eq_true hge
          go_wp2_with fail
          refine (twice_any qh ql 1 _ hqh hql (by omega)).mono ?_
          rintro e w1 ⟨rfl, hb2⟩
          have s0 := t0.below hb2 t0.lt
          have s1 := t1.below hb2 t1.lt
          have s2 := t2.below hb2 t2.lt
          have c0 := s1.c0; have c1 := s1.c1; have f0 := s1.f 0; have f1 := s1.f 1
          go_wp2
          go_roundg k
          case measure => omega
          case rel =>
            have tv := tw_val qh ql 1 hqs hql (by omega)
            rw [HE.out] at tv
            refine ⟨2 * q + 1, r2 - c, twHi qh ql, twLo ql 1, by omega, rfl, minus hge, (over_more (q := q) hge).symm.trans HX.out, lr2, tv.1, tv.2.2, tv.2.1, ((s0.other _ (by simp <;> omega) _).other _ (by simp <;> omega) _), ((s1.set0 _).set1 _), ((s2.other _ (by simp <;> omega) _).other _ (by simp <;> omega) _), ((hb1.trans (hb2.mono hb1.size)).setCell (by simp <;> omega) _).setCell (by simp <;> omega) _⟩
        · have d1 : decide (c ≤ r2) = false := decide_eq_false hge
          go_wp2_with fail
          refine (twice_any qh ql 0 _ hqh hql (by omega)).mono ?_
          rintro e w1 ⟨rfl, hb2⟩
          have s0 := t0.below hb2 t0.lt
          have s1 := t1.below hb2 t1.lt
          have s2 := t2.below hb2 t2.lt
          have c0 := s1.c0; have c1 := s1.c1; have f0 := s1.f 0; have f1 := s1.f 1
          go_wp2
          go_roundg k
          case measure => omega
          case rel =>
            have tv := tw_val qh ql 0 hqs hql (by omega)
            rw [HE.out] at tv
            refine ⟨2 * q, r2, twHi qh ql, twLo ql 0, by omega, rfl, rfl, HX.out, by omega, tv.1, tv.2.2, tv.2.1, ((s0.other _ (by simp <;> omega) _).other _ (by simp <;> omega) _), ((s1.set0 _).set1 _), ((s2.other _ (by simp <;> omega) _).other _ (by simp <;> omega) _), ((hb1.trans (hb2.mono hb1.size)).setCell (by simp <;> omega) _).setCell (by simp <;> omega) _⟩
      · obtain ⟨bl, hbl⟩ : ∃ z, z = xl % 2 := ⟨_, rfl⟩
        rw [← hbl] at al
        have rh2 : bits .and .u64 (xh : Int) 1 = (b : Int) := by
          rw [ah, hb, hxh, hkm, show k % 64 = k - 64 from by omega, bit_high h l k (by omega) hl]
        clear ah hb hxl hxh hkm hbl
        by_cases hge : c ≤ r2
        · have d1 : decide (c ≤ r2) = true := decide_eq_true hge
          go_wp2_with fail
          refine (twice_any qh ql 1 _ hqh hql (by omega)).mono ?_
          rintro e w1 ⟨rfl, hb2⟩
          have s0 := t0.below hb2 t0.lt
          have s1 := t1.below hb2 t1.lt
          have s2 := t2.below hb2 t2.lt
          have c0 := s1.c0; have c1 := s1.c1; have f0 := s1.f 0; have f1 := s1.f 1
          go_wp2
          go_roundg k
          case measure => omega
          case rel =>
            have tv := tw_val qh ql 1 hqs hql (by omega)
            rw [HE.out] at tv
            refine ⟨2 * q + 1, r2 - c, twHi qh ql, twLo ql 1, by omega, rfl, minus hge, (over_more (q := q) hge).symm.trans HX.out, lr2, tv.1, tv.2.2, tv.2.1, ((s0.other _ (by simp <;> omega) _).other _ (by simp <;> omega) _), ((s1.set0 _).set1 _), ((s2.other _ (by simp <;> omega) _).other _ (by simp <;> omega) _), ((hb1.trans (hb2.mono hb1.size)).setCell (by simp <;> omega) _).setCell (by simp <;> omega) _⟩
        · have d1 : decide (c ≤ r2) = false := decide_eq_false hge
          go_wp2_with fail
          refine (twice_any qh ql 0 _ hqh hql (by omega)).mono ?_
          rintro e w1 ⟨rfl, hb2⟩
          have s0 := t0.below hb2 t0.lt
          have s1 := t1.below hb2 t1.lt
          have s2 := t2.below hb2 t2.lt
          have c0 := s1.c0; have c1 := s1.c1; have f0 := s1.f 0; have f1 := s1.f 1
          go_wp2
          go_roundg k
          case measure => omega
          case rel =>
            have tv := tw_val qh ql 0 hqs hql (by omega)
            rw [HE.out] at tv
            refine ⟨2 * q, r2, twHi qh ql, twLo ql 0, by omega, rfl, rfl, HX.out, by omega, tv.1, tv.2.2, tv.2.1, ((s0.other _ (by simp <;> omega) _).other _ (by simp <;> omega) _), ((s1.set0 _).set1 _), ((s2.other _ (by simp <;> omega) _).other _ (by simp <;> omega) _), ((hb1.trans (hb2.mono hb1.size)).setCell (by simp <;> omega) _).setCell (by simp <;> omega) _⟩
    · have hk1 : gk = 0 := by omega
      rw [hk1] at hv
      obtain ⟨e1, e2⟩ := over_end hv hr
      obtain ⟨e3, e4⟩ := halves HE.out hql
      rw [e1] at e3 e4
      have E2 := Lib.hid e2; have E3 := Lib.hid e3; have E4 := Lib.hid e4; clear e1 e2 e3 e4 hk1 hv
      go_wp2
      exact bodyPost_ret (v := .tuple #[.agg #[.int .u64 (qh : Int), .int .u64 (ql : Int)], .int .u64 (rr : Int)]) (by simp [results, Tryd.results29, go_sem, d0, d1]) rfl ⟨by rw [E2.out, E3.out, E4.out]; rfl, (hb1.setCell (by simp <;> omega) _).setCell (by simp <;> omega) _⟩
end Go.Proofs.YtbnihoimhfcjiaaDoor.Fx

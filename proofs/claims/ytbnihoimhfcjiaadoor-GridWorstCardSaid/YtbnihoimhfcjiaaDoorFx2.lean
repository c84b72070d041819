/-
  Layer 1 (exact amounts): what the functions of math/bits that it calls return.
-/
import Derived.Test.YtbnihoimhfcjiaaDoorFx1
import Derived.Test.YtbnihoimhfcjiaaDoorFx3
namespace Go.Proofs.YtbnihoimhfcjiaaDoor.Fx
open Go.RowKit

theorem tab_at (i : Nat) (h : i < Lib.len8tab.size) : (Lib.len8tab[i].toNat : Int) = Lib.bitLen i := by
  have h2 : i < 256 := by rw [Lib.len8tab_size] at h; exact h
  have e := Lib.len8_eq ⟨i, h2⟩
  simp only [Lib.len8, Int.toNat_natCast, ByteArray.getElem?_lt' _ _ h, Option.getD_some] at e
  exact e
theorem tab_le (i : Nat) (h : i < 256) : Lib.bitLen i ≤ 8 := Lib.bitLen_le8 ⟨i, h⟩
theorem tab_step (k : Int) (n i j : Nat) (hi : i < 256) (hn : (Lib.bitLen n : Int) = k + Lib.bitLen j) (hk : 0 ≤ k ∧ k ≤ 56) (hj : i = j) (h : i < Lib.len8tab.size) :
    wrap64 (k + wrap64 ↑Lib.len8tab[i].toNat) = ↑(Lib.bitLen n) := by
  subst hj
  have l := tab_le i hi
  rw [tab_at, hn]
  generalize Lib.bitLen i = q at *
  unfold wrap64
  omega
theorem tab_step0 (n i : Nat) (hi : i < 256) (hj : i = n) (h : i < Lib.len8tab.size) :
    wrap64 (wrap64 ↑Lib.len8tab[i].toNat) = ↑(Lib.bitLen n) := by
  subst hj
  have l := tab_le i hi
  rw [tab_at]
  generalize Lib.bitLen i = q at *
  unfold wrap64
  omega
theorem bl56 (n : Nat) (h : 72057594037927936 ≤ n) (hx : n < 18446744073709551616) : (Lib.bitLen n : Int) = 56 + Lib.bitLen (n / 72057594037927936) := by rw [Lib.bitLen_shift56 n h hx]; rfl
theorem bl48 (n : Nat) (h : 281474976710656 ≤ n) (hx : n < 18446744073709551616) : (Lib.bitLen n : Int) = 48 + Lib.bitLen (n / 281474976710656) := by rw [Lib.bitLen_shift48 n h hx]; rfl
theorem bl40 (n : Nat) (h : 1099511627776 ≤ n) (hx : n < 18446744073709551616) : (Lib.bitLen n : Int) = 40 + Lib.bitLen (n / 1099511627776) := by rw [Lib.bitLen_shift40 n h hx]; rfl
theorem bl32 (n : Nat) (h : 4294967296 ≤ n) (hx : n < 18446744073709551616) : (Lib.bitLen n : Int) = 32 + Lib.bitLen (n / 4294967296) := by rw [Lib.bitLen_shift32 n h hx]; rfl
theorem bl24 (n : Nat) (h : 16777216 ≤ n) (hx : n < 18446744073709551616) : (Lib.bitLen n : Int) = 24 + Lib.bitLen (n / 16777216) := by rw [Lib.bitLen_shift24 n h hx]; rfl
theorem bl16 (n : Nat) (h : 65536 ≤ n) (hx : n < 18446744073709551616) : (Lib.bitLen n : Int) = 16 + Lib.bitLen (n / 65536) := by rw [Lib.bitLen_shift16 n h hx]; rfl
theorem bl8 (n : Nat) (h : 256 ≤ n) (hx : n < 18446744073709551616) : (Lib.bitLen n : Int) = 8 + Lib.bitLen (n / 256) := by rw [Lib.bitLen_shift8 n h hx]; rfl

set_option maxHeartbeats 1000000 in
set_option maxRecDepth 100000 in
theorem len64_any (x : Int) (w : World) (h0 : 0 ≤ x) (h1 : x ≤ 18446744073709551615) :
    Calls Tryd.prog 54 #[.int .u64 x] w fun e w' => e = .returned (.int .i64 (Lib.bitLen x.toNat)) ∧ w = w' := by
  have hsz : Lib.len8tab.size = 256 := Lib.len8tab_size
  go_enter Tryd.func54, Tryd.ntmps54
  go_wp2
  all_goals (go_ret; refine ⟨congrArg Ending.returned (congrArg (Value.int IntKind.i64) ?_), rfl⟩)
  all_goals first
    | exact tab_step 56 x.toNat _ _ (by omega) (bl56 _ (by omega) (by omega)) (by decide) (by omega) _
    | exact tab_step 48 x.toNat _ _ (by omega) (bl48 _ (by omega) (by omega)) (by decide) (by omega) _
    | exact tab_step 40 x.toNat _ _ (by omega) (bl40 _ (by omega) (by omega)) (by decide) (by omega) _
    | exact tab_step 32 x.toNat _ _ (by omega) (bl32 _ (by omega) (by omega)) (by decide) (by omega) _
    | exact tab_step 24 x.toNat _ _ (by omega) (bl24 _ (by omega) (by omega)) (by decide) (by omega) _
    | exact tab_step 16 x.toNat _ _ (by omega) (bl16 _ (by omega) (by omega)) (by decide) (by omega) _
    | exact tab_step 8 x.toNat _ _ (by omega) (bl8 _ (by omega) (by omega)) (by decide) (by omega) _
    | exact tab_step0 x.toNat _ (by omega) rfl _

theorem lz64_any (x : Nat) (w : World) (h1 : x ≤ 18446744073709551615) :
    Calls Tryd.prog 53 #[.int .u64 x] w fun e w' => e = .returned (.int .i64 (lz x : Int)) ∧ w = w' := by
  have l := Lib.bitLen_le x 64 (by omega) (by omega)
  have e8 : 64 - (Lib.bitLen x : Int) = (lz x : Int) := by unfold lz; omega
  have H8 := Lib.hid e8; clear e8
  go_enter Tryd.func53, Tryd.ntmps53
  go_wp2_with (go_at_call 54; refine (len64_any _ _ (by omega) (by omega)).mono ?_; rintro e w' ⟨rfl, rfl⟩)
  go_ret
  exact ⟨by rw [← H8.out] <;> rfl, rfl⟩

theorem maskN (a : Nat) (ha : a < 18446744073709551616) : bits .and .u64 (a : Int) 4294967295 = ((a % 4294967296 : Nat) : Int) := by
  have h := bits_and_u64_nat a 4294967295 ha (by omega)
  have e : a &&& 4294967295 = a % 4294967296 := Nat.and_two_pow_sub_one_eq_mod a 32
  rw [e] at h
  exact h
theorem divN (a : Nat) : (a : Int) / 4294967296 = ((a / 4294967296 : Nat) : Int) := by omega
theorem mulN (a b : Nat) : (a : Int) * (b : Int) = ((a * b : Nat) : Int) := (Int.natCast_mul a b).symm
theorem addN (a b : Nat) : (a : Int) + (b : Int) = ((a + b : Nat) : Int) := (Int.natCast_add a b).symm
theorem wrapN (a : Nat) (ha : a < 18446744073709551616) : IntKind.u64.wrap (a : Int) = (a : Int) := by rw [IntKind.wrap_u64]; omega
theorem wrapM (a : Nat) : IntKind.u64.wrap (a : Int) = ((a % 18446744073709551616 : Nat) : Int) := by rw [IntKind.wrap_u64]; omega

set_option maxHeartbeats 1000000 in
theorem mul64_any (x y : Nat) (hx : x < 18446744073709551616) (hy : y < 18446744073709551616) (w : World) :
    Calls Tryd.prog 49 #[.int .u64 x, .int .u64 y] w fun e w' => e = .returned (.tuple #[.int .u64 (hiN x y : Int), .int .u64 (loN x y : Int)]) ∧ w = w' := by
  obtain ⟨bd, bt, bw, hhi⟩ := Lib.mul64_hi x y hx hy
  have ba := Lib.half_mul_le (a := x / 4294967296) (b := y / 4294967296) (by omega) (by omega)
  have bb := Lib.half_mul_le (a := x / 4294967296) (b := y % 4294967296) (by omega) (by omega)
  have bc := Lib.half_mul_le (a := x % 4294967296) (b := y / 4294967296) (by omega) (by omega)
  have ba' : x / 4294967296 * (y / 4294967296) < 18446744073709551616 := by omega
  have bb' : x / 4294967296 * (y % 4294967296) < 18446744073709551616 := by omega
  have bc' : x % 4294967296 * (y / 4294967296) < 18446744073709551616 := by omega
  have bh1 : x / 4294967296 * (y / 4294967296) + (x / 4294967296 * (y % 4294967296) + x % 4294967296 * (y % 4294967296) / 4294967296) / 4294967296 < 18446744073709551616 := by omega
  have bh : x / 4294967296 * (y / 4294967296) + (x / 4294967296 * (y % 4294967296) + x % 4294967296 * (y % 4294967296) / 4294967296) / 4294967296 + ((x / 4294967296 * (y % 4294967296) + x % 4294967296 * (y % 4294967296) / 4294967296) % 4294967296 + x % 4294967296 * (y / 4294967296)) / 4294967296 < 18446744073709551616 := by omega
  have HH := Lib.hid hhi; clear hhi
  go_enter Tryd.func49, Tryd.ntmps49
  go_wp2
  simp only [maskN x hx, maskN y hy, divN, mulN, addN, wrapN _ bd, wrapN _ bb', wrapN _ bt, maskN _ bt, wrapN _ bc', wrapN _ bw, wrapN _ ba', wrapN _ bh1, wrapN _ bh, wrapM (x * y)]
  rw [HH.out]
  go_ret2
  exact ⟨rfl, rfl⟩
end Go.Proofs.YtbnihoimhfcjiaaDoor.Fx

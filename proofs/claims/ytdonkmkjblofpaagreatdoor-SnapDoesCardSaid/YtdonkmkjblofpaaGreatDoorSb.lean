/-
  Layer 3: what the functions of package sum, and the document's own, return for every list of bytes.
-/
import Derived.Test.YtdonkmkjblofpaaGreatDoorChecked
import Derived.Test.YtdonkmkjblofpaaGreatDoorSa
import Derived.Test.YtdonkmkjblofpaaGreatDoorFr
import Derived.Deep.LoopGhost
import Derived.Lib.LaidTab
import Derived.Lib.Hide
import Derived.IntWalk
namespace Go.Proofs.YtdonkmkjblofpaaGreatDoor.Sx
open Go.RowKit
set_option linter.unusedVariables false

abbrev Tab (w : World) : Prop := Lib.TabIs Tryz.prog w "bulwark/sum.nibbleCrcs" .u32 nibTab
theorem tab_cell {w : World} (h : Tab w) (i : Nat) (hi : i < 16) : w.cell? ⟨0, i, none⟩ = some (.int .u32 (nibTab.getD i 0)) :=
  h.cell (g := 0) (by kernel_rfl) i hi

set_option maxRecDepth 100000 in
theorem shift_any (r : BitVec 32) (w : World) (ht : Tab w) :
    Calls Tryz.prog 80 #[.int .u32 (r.toNat : Int)] w fun e w' => e = .returned (.int .u32 ((stN 4 r).toNat : Int)) ∧ w = w' := by
  have c0 := tab_cell ht (r &&& 15#32).toNat (and15 r)
  rw [nib_at] at c0
  have i15 : bits .and .u32 (r.toNat : Int) 15 = ((r &&& 15#32).toNat : Int) := andI r 15#32
  have l15 := and15 r
  have s4 := shr4 r
  have x4 := nib_xor r
  rw [← s4] at x4
  have lr := u32_lt r
  generalize (stN 4 (r &&& 15#32)).toNat = T at *
  generalize (stN 4 r).toNat = Y at *
  generalize (r &&& 15#32).toNat = I at *
  generalize r.toNat = X at *
  clear ht s4
  have X4 := Lib.hid x4; clear x4
  go_enter Tryz.func80, Tryz.ntmps80
  go_wp2
  go_ret
  exact ⟨by rw [← X4.out] <;> rfl, rfl⟩

theorem ofInt_of (z : Int) (h0 : 0 ≤ z) (h1 : z ≤ 255) : ∃ n : Nat, z = (n : Int) ∧ n ≤ 255 ∧ (BitVec.ofInt 32 z).toNat = n :=
  ⟨z.toNat, by omega, by omega, (ofInt_byte h0 h1).1⟩

set_option maxRecDepth 100000 in
set_option maxHeartbeats 1000000 in
theorem crc_any (a : Option Addr) (len cap : Nat) (zs : List Int) (w : World) (ht : Tab w) (hb : Bytes zs) (hrow : Fr.HasRow .u8 w a len zs) :
    Calls Tryz.prog 44 #[.slice a len cap] w fun e w' => e = .returned (.int .u32 ((crcS (zs.take len)).toNat : Int)) ∧ w = w' := by
  obtain ⟨hl, hm, hc⟩ := hrow
  have HC := Lib.hid hc; have HB := Lib.hid hb; have HT := Lib.hid ht; clear hc hb ht
  go_enter Tryz.func44, Tryz.ntmps44
  go_wp2
  go_loopg [3, 8] len (fun m s i wr => ∃ (k : Nat) (R : BitVec 32), k + m = len ∧ s = .int .u32 (R.toNat : Int) ∧ i = .int .i64 (k : Int) ∧ Hid (crcR (BitVec.allOnes 32) (zs.take k) = R) ∧ wr = w)
  case atStart => exact ⟨0, BitVec.allOnes 32, by omega, rfl, rfl, Lib.hid rfl, rfl⟩
  case round =>
    obtain ⟨k, R, hk, rfl, rfl, HR, rfl⟩ := hrel
    by_cases hlt : k < len
    · obtain ⟨b, off, rfl, hcell⟩ := HC.out (by omega)
      have ck := hcell k hlt
      clear hcell
      obtain ⟨z0, z1⟩ := HB.out k (by omega)
      have hnx := crc_next (BitVec.allOnes 32) (show k < zs.length by omega)
      rw [HR.out] at hnx
      generalize zs.getD k 0 = z at *
      obtain ⟨n, rfl, n1, n2⟩ := ofInt_of z z0 z1
      have x1 : bits .xor .u32 (R.toNat : Int) (n : Int) = ((R ^^^ BitVec.ofInt 32 (n : Int)).toNat : Int) := by rw [← xorI, n2]
      rw [byt_two] at hnx
      generalize R ^^^ BitVec.ofInt 32 (n : Int) = R1 at *
      have HN := Lib.hid hnx; clear hnx n2
      have lr := u32_lt R
      go_wp2_with (go_at_call 80; (with_reducible refine (shift_any _ _ HT.out).mono ?_); rintro e w' ⟨rfl, rfl⟩)
      go_roundg (gk - 1)
      case measure => omega
      case rel => exact ⟨k + 1, _, by omega, rfl, by go_num, HN, rfl⟩
    · have hkl : k = len := by omega
      have n1 := notI R
      generalize hRn : ~~~R = R2 at *
      have h1 := HR.out
      rw [hkl] at h1
      have e1 : crcS (zs.take len) = R2 := by unfold crcS; rw [h1, hRn]
      have HE := Lib.hid e1; clear e1 h1 hkl hRn
      go_wp2
      go_ret
      exact ⟨by rw [HE.out] <;> rfl, rfl⟩

set_option maxRecDepth 100000 in
set_option maxHeartbeats 1000000 in
theorem rcrc_any (a : Option Addr) (len cap : Nat) (zs : List Int) (w : World) (hb : Bytes zs) (hrow : Fr.HasRow .u8 w a len zs) :
    Calls Tryz.prog 46 #[.slice a len cap] w fun e w' => e = .returned (.int .u32 ((crcS (zs.take len)).toNat : Int)) ∧ w = w' := by
  obtain ⟨hl, hm, hc⟩ := hrow
  have HC := Lib.hid hc; have HB := Lib.hid hb; clear hc hb
  go_enter Tryz.func46, Tryz.ntmps46
  go_wp2
  go_loopg [3, 4] len (fun m s i wr => ∃ (k : Nat) (R : BitVec 32), k + m = len ∧ s = .int .u32 (R.toNat : Int) ∧ i = .int .i64 (k : Int) ∧ Hid (crcR (BitVec.allOnes 32) (zs.take k) = R) ∧ wr = w)
  case atStart => exact ⟨0, BitVec.allOnes 32, by omega, rfl, rfl, Lib.hid rfl, rfl⟩
  case round =>
    obtain ⟨k, R, hk, rfl, rfl, HR, rfl⟩ := hrel
    by_cases hlt : k < len
    · obtain ⟨b, off, rfl, hcell⟩ := HC.out (by omega)
      have ck := hcell k hlt
      clear hcell
      obtain ⟨z0, z1⟩ := HB.out k (by omega)
      have hnx := crc_next (BitVec.allOnes 32) (show k < zs.length by omega)
      rw [HR.out] at hnx
      generalize zs.getD k 0 = z at *
      obtain ⟨n, rfl, n1, n2⟩ := ofInt_of z z0 z1
      have x1 : bits .xor .u32 (R.toNat : Int) (n : Int) = ((R ^^^ BitVec.ofInt 32 (n : Int)).toNat : Int) := by rw [← xorI, n2]
      unfold byt at hnx
      generalize R ^^^ BitVec.ofInt 32 (n : Int) = R1 at *
      have HN := Lib.hid hnx; clear hnx n2
      have lr := u32_lt R
      go_wp2
      go_loopg [3, 5] 8 (fun m s i wr2 => ∃ (j : Nat), j + m = 8 ∧ s = .int .u32 ((stN j R1).toNat : Int) ∧ i = .int .i64 (j : Int) ∧ wr2 = wr)
      case atStart => exact ⟨0, by omega, rfl, rfl, rfl⟩
      case round =>
        obtain ⟨j, hj, rfl, rfl, rfl⟩ := hrel
        by_cases hj8 : j < 8
        · have hs : stN (j + 1) R1 = st (stN j R1) := rfl
          generalize stN j R1 = Q at *
          have lq := u32_lt Q
          rcases Nat.mod_two_eq_zero_or_one Q.toNat with h2 | h2
          · have a1 : bits .and .u32 (Q.toNat : Int) 1 = 0 := by
              have := andI Q 1#32
              rw [bit_at, h2] at this
              exact this
            rw [st_nil h2] at hs
            have s1 := shr1 Q
            have HS := Lib.hid (And.intro hs s1); clear hs s1 h2
            go_wp2
            go_roundg (8 - (j + 1))
            case measure => omega
            case rel => exact ⟨j + 1, by omega, by rw [HS.out.1, HS.out.2] <;> rfl, by go_num, rfl⟩
          · have a1 : bits .and .u32 (Q.toNat : Int) 1 = 1 := by
              have := andI Q 1#32
              rw [bit_at, h2] at this
              exact this
            rw [st_one h2] at hs
            have s1 := xorI (Q >>> 1) pol
            rw [pol_nat, ← shr1, ← hs] at s1
            have HS := Lib.hid s1; clear hs s1 h2
            go_wp2
            go_roundg (8 - (j + 1))
            case measure => omega
            case rel => exact ⟨j + 1, by omega, by rw [HS.out] <;> rfl, by go_num, rfl⟩
        · obtain rfl : j = 8 := by omega
          go_wp2
          go_roundg (len - (k + 1))
          case measure => omega
          case rel => exact ⟨k + 1, _, by omega, rfl, by go_num, HN, rfl⟩
    · have hkl : k = len := by omega
      have n1 := notI R
      generalize hRn : ~~~R = R2 at *
      have h1 := HR.out
      rw [hkl] at h1
      have e1 : crcS (zs.take len) = R2 := by unfold crcS; rw [h1, hRn]
      have HE := Lib.hid e1; clear e1 h1 hkl hRn
      go_wp2
      go_ret
      exact ⟨by rw [HE.out] <;> rfl, rfl⟩

end Go.Proofs.YtdonkmkjblofpaaGreatDoor.Sx

/-
  Layer 5: Name, a number in four bytes, Frame.
-/
import Derived.Test.YtdonkmkjblofpaaGreatDoorWa
import Derived.Test.YtdonkmkjblofpaaGreatDoorSb
import Derived.Test.YtdonkmkjblofpaaGreatDoorShelf
import Derived.Test.YtdonkmkjblofpaaGreatDoorSd
import Derived.ProofKit
import Derived.Lib.Hide
import Derived.Deep.QuietTactic
import Derived.BigQuiet
import Derived.Outline
import Derived.Deep.LoopGhost
import Derived.Handy
import Derived.Below
namespace Go.Proofs.YtdonkmkjblofpaaGreatDoor.Wl
open Go.RowKit Go.Sort Dx Sx
set_option linter.unusedVariables false
set_option linter.unusedSimpArgs false

theorem low_mod : ∀ (k m c : Nat), low k (m + 10 ^ k * c) = low k m
  | 0, _, _ => rfl
  | k + 1, m, c => by
    have e1 : (m + 10 ^ (k + 1) * c) / 10 = m / 10 + 10 ^ k * c := by rw [Nat.pow_succ, show 10 ^ k * 10 * c = 10 * (10 ^ k * c) by rw [Nat.mul_comm (10 ^ k) 10, Nat.mul_assoc], Nat.add_mul_div_left _ _ (by omega)]
    have e2 : (m + 10 ^ (k + 1) * c) % 10 = m % 10 := by rw [Nat.pow_succ, show 10 ^ k * 10 * c = 10 * (10 ^ k * c) by rw [Nat.mul_comm (10 ^ k) 10, Nat.mul_assoc], Nat.add_mul_mod_self_left]
    rw [low, low, e1, e2, low_mod k]
theorem seg_text {n : Nat} (h : n ≤ 999999999) : dec (1000000000 + n) = 49 :: low 9 n := by
  have h10 : nd (1000000000 + n) = 10 := by
    have a := nd_le 10 (1000000000 + n) (by omega) (by omega)
    have b := le_nd (m := 1000000000 + n) (n := 9) (by omega)
    omega
  rw [dec_low, h10, low_cons 9]
  have e1 : (1000000000 + n) / 10 ^ 9 % 10 = 1 := by omega
  have e2 := low_mod 9 n 1
  rw [e1, Nat.add_comm, show n + 1000000000 = n + 10 ^ 9 * 1 by omega, e2]
  rfl
theorem below_more (w : World) (k : Nat) (os : Array Obj) : Below w.heap.size w (grow (w.drewN k) os) :=
  ⟨rfl, rfl, rfl, by simp [grow], fun i hi => by
    show ((w.drewN k).heap ++ os)[i]? = _
    rw [Array.getElem?_append_left (by show i < w.heap.size; omega)]
    rfl⟩
/-- The two tables that layer 5 reads, and the error that it hands on. -/
structure Tabs (w : World) : Prop where
  crc : Sx.Tab w
  pow : Lib.TabIs Tryz.prog w "internal/strconv.uint64pow10" .u64 Lib.pow10Tab
  err : ∃ ev, w.cell? ⟨1, 0, none⟩ = some ev ∧ (ev = .nilIface ∨ ∃ te pe, ev = .iface te pe)
theorem itoa_at (n : Nat) (h : n ≤ 999999999) (w : World) (ht : Tabs w) : Calls Tryz.prog 81 #[.int .i64 (1000000000 + (n : Int))] w fun e w' => e = .returned (.string (bs (49 :: low 9 n))) ∧ Below w.heap.size w w' := by
  refine (Tryz.strconv_Itoa (1000000000 + (n : Int)) (by omega) (by omega) w ht.pow).mono ?_
  rintro e w' ⟨rfl, k, os, rfl⟩
  refine ⟨?_, below_more w k os⟩
  have : Lib.itoa (1000000000 + (n : Int)) = 49 :: low 9 n := by
    rw [← seg_text h]
    unfold Lib.itoa dec
    rw [if_neg (by omega), show (1000000000 + (n : Int)).toNat = 1000000000 + n by omega]
  rw [this]; rfl
/-- The name of the file with this letter and this number. -/
def lettN (c : UInt8) (n : Nat) : List UInt8 := c :: low 9 n
theorem lettN_length (c : UInt8) (n : Nat) : (lettN c n).length = 10 := by unfold lettN; rw [List.length_cons, low_length]
theorem sname_no (L : ByteArray) (x : Int) (w : World) (h : x < 0 ∨ 999999999 < x) : Calls Tryz.prog 49 #[.string L, .int .i64 x] w fun e w' => e = .returned (.string ByteArray.empty) ∧ w = w' := by
  by_cases h1 : x < 0
  · go_enter Tryz.func49, Tryz.ntmps49
    go_wp2
    go_ret
    exact ⟨rfl, rfl⟩
  · have h2 : 999999999 < x := by omega
    clear h
    go_enter Tryz.func49, Tryz.ntmps49
    go_wp2
    go_ret
    exact ⟨rfl, rfl⟩
theorem sname_any (c : UInt8) (n : Nat) (h2 : n ≤ 999999999) (w : World) (ht : Tabs w) : Calls Tryz.prog 49 #[.string ⟨#[c]⟩, .int .i64 (n : Int)] w fun e w' => e = .returned (.string (bs (lettN c n))) ∧ Below w.heap.size w w' := by
  have IT := Lib.hid (itoa_at n h2 w ht)
  obtain ⟨T, hT⟩ : ∃ T, bs (49 :: low 9 n) = T := ⟨_, rfl⟩
  have s1 : T.size = 10 := by rw [← hT, bs_size, List.length_cons, low_length]
  obtain ⟨U, hU⟩ : ∃ U, bs (low 9 n) = U := ⟨_, rfl⟩
  have e0 : ((49 :: low 9 n).drop 1).take (10 - 1) = low 9 n := by rw [List.drop_succ_cons, List.drop_zero, List.take_of_length_le (by rw [low_length]; omega)]
  have s2 : T.extract 1 10 = U := by rw [← hT, bs_extract, e0, hU]
  have us : U.size = 9 := by rw [← hU, bs_size, low_length]
  obtain ⟨R, hR⟩ : ∃ R, bs (lettN c n) = R := ⟨_, rfl⟩
  obtain ⟨C, hC⟩ : ∃ C : ByteArray, (⟨#[c]⟩ : ByteArray) = C := ⟨_, rfl⟩
  have cs : C.size = 1 := by rw [← hC]; rfl
  have s3 : C ++ U = R := by rw [← hU, ← hR, ← hC]; show bs [c] ++ bs (low 9 n) = _; rw [bs_app]; rfl
  have HR := Lib.hid hR
  rw [hT] at IT
  rw [hC]
  have t1 : decide ((n : Int) < 0) = false := by rw [decide_eq_false_iff_not]; omega
  have t2 : decide ((999999999 : Int) < (n : Int)) = false := by rw [decide_eq_false_iff_not]; omega
  clear hT hU hR ht e0 hC
  go_enter Tryz.func49, Tryz.ntmps49
  go_wp2_with (go_at_call 81; (with_reducible refine IT.out.mono ?_); rintro e w' ⟨rfl, hb⟩; have HB := Lib.hid hb; clear hb)
  go_ret
  exact ⟨by rw [HR.out] <;> rfl, HB.out⟩
theorem name_no (x : Int) (w : World) (h : x < 1 ∨ 999999999 < x) : Calls Tryz.prog 11 #[.int .i64 x] w fun e w' => e = .returned (.string ByteArray.empty) ∧ w = w' := by
  by_cases h1 : x < 1
  · go_enter Tryz.func11, Tryz.ntmps11
    go_wp2
    go_ret
    exact ⟨rfl, rfl⟩
  · have h2 : 999999999 < x := by omega
    have SN := Lib.hid (sname_no ⟨#[106]⟩ x w (.inr h2))
    clear h
    go_enter Tryz.func11, Tryz.ntmps11
    go_wp2_with (go_at_call 49; (with_reducible refine SN.out.mono ?_); rintro e w' ⟨rfl, rfl⟩)
    go_ret
    exact ⟨rfl, rfl⟩
theorem name_any (n : Nat) (h1 : 1 ≤ n) (h2 : n ≤ 999999999) (w : World) (ht : Tabs w) : Calls Tryz.prog 11 #[.int .i64 (n : Int)] w fun e w' => e = .returned (.string (bs (segN n))) ∧ Below w.heap.size w w' := by
  have SN := Lib.hid (sname_any 106 n h2 w ht)
  obtain ⟨R, hR⟩ : ∃ R, bs (lettN 106 n) = R := ⟨_, rfl⟩
  rw [show bs (segN n) = R from hR]
  rw [hR] at SN
  have t1 : decide ((n : Int) < 1) = false := by rw [decide_eq_false_iff_not]; omega
  clear hR ht
  go_enter Tryz.func11, Tryz.ntmps11
  go_wp2_with (go_at_call 49; (with_reducible refine SN.out.mono ?_); rintro e w' ⟨rfl, hb⟩; have HB := Lib.hid hb; clear hb)
  go_ret
  exact ⟨rfl, HB.out⟩
def le4I (n : Int) : List Int := [n % 256, n / 256 % 256, n / 65536 % 256, n / 16777216 % 256]
theorem le4_int (n : Nat) : le4I (n : Int) = le4 n := by
  simp only [le4I, le4, List.cons.injEq, and_true]
  refine ⟨?_, ?_, ?_, ?_⟩ <;> omega
theorem lit_row (w : World) (l : List Int) (t : TypeId) (h : l.length ≤ 9223372036854775807) : Fr.HasRow .u8 (w.alloc (.cells (l.map (Value.int .u8)).toArray t)) (some ⟨w.heap.size, 0, none⟩) l.length l :=
  ⟨Nat.le_refl _, h, fun _ => ⟨w.heap.size, 0, rfl, fun j hj => by
    rw [Joins.cell_of_block (MapKept.heap_alloc w _).1]
    simp [List.getD, hj]⟩⟩
set_option maxRecDepth 100000 in
set_option maxHeartbeats 400000 in
theorem put_any (base : Nat) (v : Value) (l : List Int) (n : Nat) (w : World) (hown : Ob.OwnB w base v l) (hbase : base ≤ w.heap.size) (hn : n < 4294967296) (hl : l.length + 4 ≤ 140737488355328) :
    Calls Tryz.prog 43 #[v, .int .u32 (n : Int)] w fun e w' => ∃ v', e = .returned v' ∧ Ob.OwnB w' base v' (l ++ le4 n) ∧ Below base w w' := by
  have HN := Lib.hid hn
  have D : Hid (∀ v' w', Ob.OwnB w' base v' (l ++ (le4I (n : Int)).take 4) → Below base (w.alloc (.cells #[.int .u8 ((n : Int) % 256), .int .u8 ((n : Int) / 256 % 256), .int .u8 ((n : Int) / 65536 % 256), .int .u8 ((n : Int) / 16777216 % 256)] 5)) w' → ∃ v'', Ending.returned v' = .returned v'' ∧ Ob.OwnB w' base v'' (l ++ le4 n) ∧ Below base w w') := Lib.hid fun v' w' h1 h2 => by
    rw [le4_int, List.take_of_length_le (by rw [le4_length]; omega)] at h1
    exact ⟨v', rfl, h1, ((Below.refl _ _).alloc hbase _).trans h2⟩
  have RW := Lib.hid (lit_row w (le4I (n : Int)) 5 (by simp [le4I]))
  clear hn
  go_enter Tryz.func43, Tryz.ntmps43
  go_wp2_with (at_builtin; refine Ob.wp_apd rfl (.tmp 5) (.tmp 17) rfl base v l rfl (Ob.own_keep hown ((Below.refl _ _).alloc (Nat.le_refl _) _)) (some ⟨w.heap.size, 0, none⟩) 4 4 (le4I (n : Int)) rfl RW.out (fun h => by cases h) hl (by simp; omega) ?_; intro v' w' ho hb; have HO := Lib.hid ho; have HB := Lib.hid hb; clear ho hb)
  go_ret
  exact D.out _ _ HO.out HB.out
end Go.Proofs.YtdonkmkjblofpaaGreatDoor.Wl

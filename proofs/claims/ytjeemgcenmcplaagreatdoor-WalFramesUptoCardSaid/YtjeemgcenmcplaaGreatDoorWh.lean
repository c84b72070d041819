/-
  Layer 5: the number in a segment's name; the numbers of the segments on a disk.
-/
import Derived.Test.YtjeemgcenmcplaaGreatDoorWf
namespace Go.Proofs.YtjeemgcenmcplaaGreatDoor.Wl
open Go.RowKit Go.Sort Dx Sx Dk
set_option linter.unusedVariables false
set_option linter.unusedSimpArgs false
theorem dig_dgt {d : Nat} (h : d < 10) : Lib.digitVal (dgt d) = some d := by
  match d, h with
  | 0, _ => rfl
  | 1, _ => rfl
  | 2, _ => rfl
  | 3, _ => rfl
  | 4, _ => rfl
  | 5, _ => rfl
  | 6, _ => rfl
  | 7, _ => rfl
  | 8, _ => rfl
  | 9, _ => rfl
theorem dec_low2 : ∀ (k acc m : Nat), Lib.decFrom acc (low k m) = some (acc * 10 ^ k + m % 10 ^ k)
  | 0, acc, m => by simp [low, Lib.decFrom, Nat.mod_one]
  | k + 1, acc, m => by
    rw [low_cons]
    have h1 := dig_dgt (show m / 10 ^ k % 10 < 10 by omega)
    have h2 := dec_low2 k (acc * 10 + m / 10 ^ k % 10) m
    simp only [Lib.decFrom, h1]
    rw [h2, Nat.mod_pow_succ, Nat.pow_succ]
    congr 1
    rw [Nat.add_mul, Nat.mul_assoc, Nat.mul_comm 10 (10 ^ k), Nat.mul_comm (m / 10 ^ k % 10)]
    omega
theorem dgt_sign {d : Nat} (h : d < 10) : (dgt d == 45) = false ∧ (dgt d == 43) = false := by
  match d, h with
  | 0, _ => decide
  | 1, _ => decide
  | 2, _ => decide
  | 3, _ => decide
  | 4, _ => decide
  | 5, _ => decide
  | 6, _ => decide
  | 7, _ => decide
  | 8, _ => decide
  | 9, _ => decide
theorem atoi_low {n : Nat} (h : n ≤ 999999999) : Lib.atoi (low 9 n) = some (n : Int) := by
  have h1 := dec_low2 9 0 n
  rw [low_cons] at h1 ⊢
  obtain ⟨s1, s2⟩ := dgt_sign (show n / 10 ^ 8 % 10 < 10 by omega)
  simp only [Lib.atoi, s1, s2, Bool.false_eq_true, if_false]
  unfold Lib.decNat
  rw [if_neg (by simp), h1]
  have : n % 10 ^ 9 = n := Nat.mod_eq_of_lt (by omega)
  simp [this]
theorem pow_keep {w w' : World} (h : Lib.TabIs Tryz.prog w "internal/strconv.uint64pow10" .u64 Lib.pow10Tab) (hb : Below w.heap.size w w') : Lib.TabIs Tryz.prog w' "internal/strconv.uint64pow10" .u64 Lib.pow10Tab := by
  have hlt : 1 < w.heap.size := Fr.lt_of_cell (h.cell (g := 1) (by kernel_rfl) 0 (by decide))
  unfold Lib.TabIs at *
  exact var?_below hb (g := 1) (by kernel_rfl) hlt h
theorem Tabs.keep {w w' : World} (h : Tabs w) (hb : Below w.heap.size w w') : Tabs w' := ⟨tab_keep h.crc hb, pow_keep h.pow hb⟩
set_option maxRecDepth 100000 in
theorem trim_any (n : Nat) (w : World) : Calls Tryz.prog 52 #[.string (bs (segN n)), .string ⟨#[106]⟩] w fun e w' => e = .returned (.string (bs (low 9 n))) ∧ w = w' := by
  obtain ⟨T, hT⟩ : ∃ T, bs (segN n) = T := ⟨_, rfl⟩
  obtain ⟨U, hU⟩ : ∃ U, bs (low 9 n) = U := ⟨_, rfl⟩
  have s1 : T.size = 10 := by rw [← hT, bs_size]; unfold segN; rw [List.length_cons, low_length]
  have e1 : ((segN n).drop 0).take (1 - 0) = [106] := rfl
  have s2 : T.extract 0 1 = ⟨#[106]⟩ := by rw [← hT, bs_extract, e1]; rfl
  have e2 : ((segN n).drop 1).take (10 - 1) = low 9 n := by unfold segN; rw [List.drop_succ_cons, List.drop_zero, List.take_of_length_le (by rw [low_length]; omega)]
  have s3 : T.extract 1 10 = U := by rw [← hT, bs_extract, e2, hU]
  rw [hT, hU]
  clear hT hU e1 e2
  go_enter Tryz.func52, Tryz.ntmps52
  go_wp2
  go_ret
  exact ⟨rfl, rfl⟩
set_option maxRecDepth 100000 in
theorem firstOf_any (n : Nat) (h1 : 1 ≤ n) (h2 : n ≤ 999999999) (w : World) (ht : Tabs w) : Calls Tryz.prog 38 #[.string (bs (segN n))] w fun e w' => e = .returned (.tuple #[.int .i64 (n : Int), .bool true]) ∧ Below w.heap.size w w' := by
  have TR := Lib.hid (trim_any n w)
  have AT := Lib.hid (Tryz.strconv_Atoi (bs (low 9 n)) (n : Int) (by rw [bs_size, low_length]; omega) (by rw [bs_data]; exact atoi_low h2) w)
  have NM : Hid (∀ wx, Below w.heap.size w wx → Calls Tryz.prog 9 #[.int .i64 (n : Int)] wx fun e w' => e = .returned (.string (bs (segN n))) ∧ Below wx.heap.size wx w') := Lib.hid fun wx hb => name_any n h1 h2 wx (ht.keep hb)
  obtain ⟨T, hT⟩ : ∃ T, bs (segN n) = T := ⟨_, rfl⟩
  obtain ⟨U, hU⟩ : ∃ U, bs (low 9 n) = U := ⟨_, rfl⟩
  rw [hT] at TR NM ⊢
  rw [hU] at TR AT
  have tn : (T.toList == T.toList) = true := by simp
  clear hT hU ht
  go_enter Tryz.func38, Tryz.ntmps38
  go_wp2_with (first
    | (go_at_call 52; (with_reducible refine TR.out.mono ?_); rintro e w' ⟨rfl, rfl⟩)
    | (go_at_call 51; (with_reducible refine AT.out.mono ?_); rintro e w' ⟨rfl, t, rfl⟩; obtain ⟨w1, hw1⟩ : ∃ w1, w1 = Lib.bytesWorld w 5 t := ⟨_, rfl⟩; rw [← hw1]; have HB1 : Hid (Below w.heap.size w w1) := Lib.hid (by rw [hw1]; exact Joins.below_bytesWorld _ _ _ _ (Nat.le_refl _)); clear hw1)
    | (go_at_call 9; (with_reducible refine (NM.out _ HB1.out).mono ?_); rintro e w2 ⟨rfl, hb2⟩; have HB2 := Lib.hid (HB1.out.trans (hb2.mono HB1.out.size)); clear hb2))
  go_ret2
  exact ⟨rfl, HB2.out⟩
end Go.Proofs.YtjeemgcenmcplaaGreatDoor.Wl

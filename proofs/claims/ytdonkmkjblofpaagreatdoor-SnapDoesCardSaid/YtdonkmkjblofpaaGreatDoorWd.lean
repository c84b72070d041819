/-
  Layer 5: the record at the head of bytes; a copy.
-/
import Derived.Test.YtdonkmkjblofpaaGreatDoorWc
namespace Go.Proofs.YtdonkmkjblofpaaGreatDoor.Wl
open Go.RowKit Go.Sort Dx Sx
set_option linter.unusedVariables false
set_option linter.unusedSimpArgs false
theorem row_drop {w : World} {b off M k : Nat} {zs : List Int} (h : Fr.HasRow .u8 w (some ⟨b, off, none⟩) (M + k) zs) : Fr.HasRow .u8 w (some ⟨b, off + k, none⟩) M (zs.drop k) := by
  obtain ⟨h1, h2, h3⟩ := h
  refine ⟨by rw [List.length_drop]; omega, by omega, fun h0 => ?_⟩
  obtain ⟨b', off', e, hc⟩ := h3 (by omega)
  cases e
  refine ⟨b, off + k, rfl, fun j hj => ?_⟩
  rw [Nat.add_assoc, hc (k + j) (by omega)]
  simp [List.getD]
theorem row_take {k : IntKind} {w : World} {p : Option Addr} {x N : Nat} {l : List Int} (h : Fr.HasRow k w p x l) (hN : N ≤ x) : Fr.HasRow k w p N (l.take N) := by
  obtain ⟨h1, h2, h3⟩ := h
  refine ⟨by rw [List.length_take]; omega, by omega, fun h0 => ?_⟩
  obtain ⟨b, off, e, hc⟩ := h3 (by omega)
  refine ⟨b, off, e, fun j hj => ?_⟩
  rw [hc j (by omega), getD_take hj]
theorem row_zero {k : IntKind} {w : World} {p : Option Addr} (l : List Int) : Fr.HasRow k w p 0 l := ⟨Nat.zero_le _, by decide, fun h => absurd h (by decide)⟩
theorem row_same {k : IntKind} {w w' : World} {p : Option Addr} {x : Nat} {l : List Int} (h : Fr.HasRow k w p x l) (hh : ∀ a, w'.cell? a = w.cell? a) : Fr.HasRow k w' p x l :=
  ⟨h.1, h.2.1, fun h0 => (h.2.2 h0).elim fun b ⟨off, e, hc⟩ => ⟨b, off, e, fun j hj => (hh _).trans (hc j hj)⟩⟩
def FirstIt (w : World) (zs : List Int) (e : Ending) (w' : World) : Prop := (∃ n, w' = w.drewN n) ∧
  match one zs with
  | none => ∃ v, e = .returned (.tuple #[v, .bool false])
  | some r => ∃ p c, e = .returned (.tuple #[.slice (some p) r.length c, .bool true]) ∧ r.length ≤ c ∧ Fr.HasRow .u8 w (some p) r.length r
theorem FirstIt.no {w w' : World} {zs : List Int} {v : Value} (h : one zs = none) (hw : ∃ n, w' = w.drewN n) : FirstIt w zs (.returned (.tuple #[v, .bool false])) w' := by
  unfold FirstIt; rw [h]; exact ⟨hw, v, rfl⟩
theorem FirstIt.yes {w w' : World} {zs r : List Int} {p : Addr} {N c : Nat} (h : one zs = some r) (hN : r.length = N) (hc : N ≤ c) (hr : Fr.HasRow .u8 w (some p) N r) (hw : ∃ n, w' = w.drewN n) : FirstIt w zs (.returned (.tuple #[.slice (some p) N c, .bool true])) w' := by
  subst hN
  unfold FirstIt; rw [h]; exact ⟨hw, p, c, rfl, hc, hr⟩
set_option maxRecDepth 100000 in
theorem first_small (a : Option Addr) (len cap : Nat) (zs : List Int) (w : World) (hb : Bytes zs) (hrow : Fr.HasRow .u8 w a len zs) (hl : zs.length = len) (h8 : len < 8) :
    Calls Tryz.prog 47 #[.slice a len cap] w (FirstIt w zs) := by
  have hm := hrow.2.1
  have D : Hid (∀ v, FirstIt w zs (.returned (.tuple #[v, .bool false])) w) := Lib.hid fun v => .no (by unfold one; rw [if_pos (by omega)]) ⟨0, rfl⟩
  have t1 : decide ((len : Int) < 8) = true := by rw [decide_eq_true_eq]; omega
  clear hrow hb
  go_enter Tryz.func47, Tryz.ntmps47
  go_wp2
  go_ret2
  exact D.out _
set_option maxRecDepth 100000 in
set_option maxHeartbeats 800000 in
theorem first_main (a : Option Addr) (M C : Nat) (zs : List Int) (w : World) (ht : Sx.Tab w) (hb : Bytes zs) (hrow : Fr.HasRow .u8 w a (M + 8) zs) (hl : zs.length = M + 8) (hcap : M + 8 ≤ C + 8) (hC : C ≠ 0) (hcm : C + 8 ≤ 9223372036854775807) :
    Calls Tryz.prog 47 #[.slice a (M + 8) (C + 8)] w (FirstIt w zs) := by
  have hm := hrow.2.1
  obtain ⟨b, off, rfl, _⟩ := hrow.2.2 (by omega)
  have N1 : Hid (∀ n, Calls Tryz.prog 51 #[.slice (some ⟨b, off, none⟩) (M + 8) (C + 8)] (w.drewN n) fun e w' => e = .returned (.int .u32 (num4 zs : Int)) ∧ ∃ m, w' = (w.drewN n).drewN m) := Lib.hid fun n => number_row _ _ _ zs (w.drewN n) hb (row_same hrow fun _ => rfl) (by omega)
  have N2 : Hid (∀ n, Calls Tryz.prog 51 #[.slice (some ⟨b, off + 4, none⟩) (M + 4) (C + 4)] (w.drewN n) fun e w' => e = .returned (.int .u32 (num4 (zs.drop 4) : Int)) ∧ ∃ m, w' = (w.drewN n).drewN m) := Lib.hid fun n => number_row _ _ _ (zs.drop 4) (w.drewN n) (bytes_drop hb 4) (row_same (row_drop (M := M + 4) (k := 4) hrow) fun _ => rfl) (by omega)
  obtain ⟨n1, hn1⟩ : ∃ n1, num4 zs = n1 := ⟨_, rfl⟩
  obtain ⟨n2, hn2⟩ : ∃ n2, num4 (zs.drop 4) = n2 := ⟨_, rfl⟩
  have R8 := row_drop (M := M) (k := 8) hrow
  have hlim := num4_lt hb
  rw [hn1] at N1 hlim
  rw [hn2] at N2
  have hO : one zs = (if 65536 < n1 ∨ M < n1 then none else if crcN ((zs.drop 8).take n1) = n2 then some ((zs.drop 8).take n1) else none) := by
    unfold one
    rw [if_neg (by omega), hn1, hn2, hl]
    rfl
  have t1 : decide ((M : Int) + 8 < 8) = false := by rw [decide_eq_false_iff_not]; omega
  have HL := Lib.hid hlim
  have hR8 := R8
  have hMC : M ≤ C := by omega
  have cb := Lib.hid (fun n (hn : n ≤ M) (k : Nat) => crc_any (some ⟨b, off + 8, none⟩) n C ((zs.drop 8).take n) (w.drewN k) ht (bytes_take (bytes_drop hb 8) n) (row_same (row_take hR8 hn) fun _ => rfl))
  have HR8 := Lib.hid hR8
  have hzl : (zs.drop 8).length = M := by rw [List.length_drop]; omega
  have e3 : ∀ n, ((zs.drop 8).take n).take n = (zs.drop 8).take n := fun n => by rw [List.take_take, Nat.min_self]
  clear hrow hcap hl hlim hn1 hn2 R8 hR8 hb ht
  have m0 : (0 : Int) ≤ (n1 : Int) := by omega
  by_cases p1 : 65536 < n1
  · have D : Hid (∀ v n, FirstIt w zs (.returned (.tuple #[v, .bool false])) (w.drewN n)) := Lib.hid fun v n => .no (by rw [hO, if_pos (.inl p1)]) ⟨n, rfl⟩
    have t2 : decide ((n1 : Int) > 65536) = true := by rw [decide_eq_true_eq]; omega
    clear hO e3 cb
    go_enter Tryz.func47, Tryz.ntmps47
    go_wp2
    go_quiet ((first | (go_at_call 51; with_reducible exact Calls.quiet_of (N1.out _)) | (go_at_call 51; with_reducible exact Calls.quiet_of (N2.out _))))
    go_wp2
    go_ret2
    exact D.out _ _
  · by_cases p2 : M < n1
    · have D : Hid (∀ v n, FirstIt w zs (.returned (.tuple #[v, .bool false])) (w.drewN n)) := Lib.hid fun v n => .no (by rw [hO, if_pos (.inr p2)]) ⟨n, rfl⟩
      have t2 : decide ((n1 : Int) > 65536) = false := by rw [decide_eq_false_iff_not]; omega
      have t3 : decide (M < n1) = true := by rw [decide_eq_true_eq]; omega
      have t4 : decide ((n1 : Int) > (M : Int)) = true := by rw [decide_eq_true_eq]; omega
      clear hO e3 cb
      go_enter Tryz.func47, Tryz.ntmps47
      go_wp2
      go_quiet ((first | (go_at_call 51; with_reducible exact Calls.quiet_of (N1.out _)) | (go_at_call 51; with_reducible exact Calls.quiet_of (N2.out _))))
      go_wp2
      go_ret2
      exact D.out _ _
    · have t2 : decide ((n1 : Int) > 65536) = false := by rw [decide_eq_false_iff_not]; omega
      have t3 : decide (M < n1) = false := by rw [decide_eq_false_iff_not]; omega
      have t4 : decide ((n1 : Int) > (M : Int)) = false := by rw [decide_eq_false_iff_not]; omega
      rw [if_neg (by omega)] at hO
      have cr := fun k => cb.out n1 (by omega) k
      obtain ⟨c, hc⟩ : ∃ c, crcN ((zs.drop 8).take n1) = c := ⟨_, rfl⟩
      have CR : Hid (∀ k, Calls Tryz.prog 44 #[.slice (some ⟨b, off + 8, none⟩) n1 C] (w.drewN k) fun e w' => e = .returned (.int .u32 (c : Int)) ∧ w.drewN k = w') := Lib.hid fun k => by
        have := cr k
        rw [e3] at this
        rw [← hc]
        exact this
      have hlen : ((zs.drop 8).take n1).length = n1 := by rw [List.length_take, hzl]; omega
      have hnc : n1 ≤ C := by omega
      have hM9 : n1 ≤ M := by omega
      rw [hc] at hO
      have n9 : (n1 : Int) ≤ (C : Int) := by omega
      by_cases p4 : c = n2
      · have D : Hid (∀ n, FirstIt w zs (.returned (.tuple #[.slice (some ⟨b, off + 8, none⟩) n1 C, .bool true])) (w.drewN n)) := Lib.hid fun n => .yes (by rw [hO, if_pos p4]) hlen hnc (row_take HR8.out hM9) ⟨n, rfl⟩
        have t5 : ((c : Int) == (n2 : Int)) = true := by simp; omega
        have P4 := Lib.hid p4
        clear hO e3 cb cr hc hlen p4
        go_enter Tryz.func47, Tryz.ntmps47
        go_wp2
        go_quiet ((first | (go_at_call 51; with_reducible exact Calls.quiet_of (N1.out _)) | (go_at_call 51; with_reducible exact Calls.quiet_of (N2.out _))))
        go_wp2_with (go_at_call 44; (with_reducible refine (CR.out _).mono ?_); rintro e w' ⟨rfl, rfl⟩)
        go_ret2
        exact D.out _
      · have D : Hid (∀ v n, FirstIt w zs (.returned (.tuple #[v, .bool false])) (w.drewN n)) := Lib.hid fun v n => .no (by rw [hO, if_neg p4]) ⟨n, rfl⟩
        have t5 : ((c : Int) == (n2 : Int)) = false := by simp; omega
        have P4 := Lib.hid p4
        clear hO e3 cb cr hc hlen p4
        go_enter Tryz.func47, Tryz.ntmps47
        go_wp2
        go_quiet ((first | (go_at_call 51; with_reducible exact Calls.quiet_of (N1.out _)) | (go_at_call 51; with_reducible exact Calls.quiet_of (N2.out _))))
        go_wp2_with (go_at_call 44; (with_reducible refine (CR.out _).mono ?_); rintro e w' ⟨rfl, rfl⟩)
        go_ret2
        exact D.out _ _
set_option maxRecDepth 100000 in
set_option maxHeartbeats 800000 in
theorem first_edge (a : Option Addr) (zs : List Int) (w : World) (ht : Sx.Tab w) (hb : Bytes zs) (hrow : Fr.HasRow .u8 w a 8 zs) (hl : zs.length = 8) :
    Calls Tryz.prog 47 #[.slice a 8 8] w (FirstIt w zs) := by
  have hcap : True := trivial
  have hm := hrow.2.1
  obtain ⟨b, off, rfl, _⟩ := hrow.2.2 (by omega)
  have N1 : Hid (∀ n, Calls Tryz.prog 51 #[.slice (some ⟨b, off, none⟩) 8 8] (w.drewN n) fun e w' => e = .returned (.int .u32 (num4 zs : Int)) ∧ ∃ m, w' = (w.drewN n).drewN m) := Lib.hid fun n => number_row _ _ _ zs (w.drewN n) hb (row_same hrow fun _ => rfl) (by omega)
  have N2 : Hid (∀ n, Calls Tryz.prog 51 #[.slice (some ⟨b, off + 4, none⟩) 4 4] (w.drewN n) fun e w' => e = .returned (.int .u32 (num4 (zs.drop 4) : Int)) ∧ ∃ m, w' = (w.drewN n).drewN m) := Lib.hid fun n => number_row _ _ _ (zs.drop 4) (w.drewN n) (bytes_drop hb 4) (row_same (row_drop (M := 4) (k := 4) hrow) fun _ => rfl) (by omega)
  obtain ⟨n1, hn1⟩ : ∃ n1, num4 zs = n1 := ⟨_, rfl⟩
  obtain ⟨n2, hn2⟩ : ∃ n2, num4 (zs.drop 4) = n2 := ⟨_, rfl⟩
  have R8 := row_drop (M := 0) (k := 8) hrow
  have hlim := num4_lt hb
  rw [hn1] at N1 hlim
  rw [hn2] at N2
  have hO : one zs = (if 65536 < n1 ∨ 0 < n1 then none else if crcN ((zs.drop 8).take n1) = n2 then some ((zs.drop 8).take n1) else none) := by
    unfold one
    rw [if_neg (by omega), hn1, hn2, hl]
  have HL := Lib.hid hlim
  have hR8 : Fr.HasRow .u8 w (some ⟨b, off, none⟩) 0 (zs.drop 8) := row_zero _
  have cb := Lib.hid (fun n (hn : n ≤ 0) (k : Nat) => crc_any (some ⟨b, off, none⟩) n 0 ((zs.drop 8).take n) (w.drewN k) ht (bytes_take (bytes_drop hb 8) n) (row_same (row_take hR8 hn) fun _ => rfl))
  have HR8 := Lib.hid hR8
  have hzl : (zs.drop 8).length = 0 := by rw [List.length_drop]; omega
  have e3 : ∀ n, ((zs.drop 8).take n).take n = (zs.drop 8).take n := fun n => by rw [List.take_take, Nat.min_self]
  clear hrow hcap hl hlim hn1 hn2 R8 hR8 hb ht
  have m0 : (0 : Int) ≤ (n1 : Int) := by omega
  by_cases p1 : 65536 < n1
  · have D : Hid (∀ v n, FirstIt w zs (.returned (.tuple #[v, .bool false])) (w.drewN n)) := Lib.hid fun v n => .no (by rw [hO, if_pos (.inl p1)]) ⟨n, rfl⟩
    have t2 : decide ((n1 : Int) > 65536) = true := by rw [decide_eq_true_eq]; omega
    clear hO e3 cb
    go_enter Tryz.func47, Tryz.ntmps47
    go_wp2
    go_quiet ((first | (go_at_call 51; with_reducible exact Calls.quiet_of (N1.out _)) | (go_at_call 51; with_reducible exact Calls.quiet_of (N2.out _))))
    go_wp2
    go_ret2
    exact D.out _ _
  · by_cases p2 : 0 < n1
    · have D : Hid (∀ v n, FirstIt w zs (.returned (.tuple #[v, .bool false])) (w.drewN n)) := Lib.hid fun v n => .no (by rw [hO, if_pos (.inr p2)]) ⟨n, rfl⟩
      have t2 : decide ((n1 : Int) > 65536) = false := by rw [decide_eq_false_iff_not]; omega
      have t3 : decide (0 < n1) = true := by rw [decide_eq_true_eq]; omega
      have t4 : decide ((n1 : Int) > (0 : Int)) = true := by rw [decide_eq_true_eq]; omega
      clear hO e3 cb
      go_enter Tryz.func47, Tryz.ntmps47
      go_wp2
      go_quiet ((first | (go_at_call 51; with_reducible exact Calls.quiet_of (N1.out _)) | (go_at_call 51; with_reducible exact Calls.quiet_of (N2.out _))))
      go_wp2
      go_ret2
      exact D.out _ _
    · have t2 : decide ((n1 : Int) > 65536) = false := by rw [decide_eq_false_iff_not]; omega
      have t3 : decide (0 < n1) = false := by rw [decide_eq_false_iff_not]; omega
      have t4 : decide ((n1 : Int) > (0 : Int)) = false := by rw [decide_eq_false_iff_not]; omega
      rw [if_neg (by omega)] at hO
      obtain rfl : n1 = 0 := by omega
      simp only [Int.natCast_zero] at N1 m0
      clear t2 t3 t4 m0
      have cr := fun k => cb.out 0 (by omega) k
      obtain ⟨c, hc⟩ : ∃ c, crcN ((zs.drop 8).take 0) = c := ⟨_, rfl⟩
      have CR : Hid (∀ k, Calls Tryz.prog 44 #[.slice (some ⟨b, off, none⟩) 0 0] (w.drewN k) fun e w' => e = .returned (.int .u32 (c : Int)) ∧ w.drewN k = w') := Lib.hid fun k => by
        have := cr k
        rw [e3] at this
        rw [← hc]
        exact this
      rw [hc] at hO
      by_cases p4 : c = n2
      · have D : Hid (∀ n, FirstIt w zs (.returned (.tuple #[.slice (some ⟨b, off, none⟩) 0 0, .bool true])) (w.drewN n)) := Lib.hid fun n => .yes (by rw [hO, if_pos p4]) rfl (Nat.le_refl _) (row_zero _) ⟨n, rfl⟩
        have t5 : ((c : Int) == (n2 : Int)) = true := by simp; omega
        have P4 := Lib.hid p4
        clear hO e3 cb cr hc p4
        go_enter Tryz.func47, Tryz.ntmps47
        go_wp2
        go_quiet ((first | (go_at_call 51; with_reducible exact Calls.quiet_of (N1.out _)) | (go_at_call 51; with_reducible exact Calls.quiet_of (N2.out _))))
        go_wp2_with (go_at_call 44; (with_reducible refine (CR.out _).mono ?_); rintro e w' ⟨rfl, rfl⟩)
        go_ret2
        exact D.out _
      · have D : Hid (∀ v n, FirstIt w zs (.returned (.tuple #[v, .bool false])) (w.drewN n)) := Lib.hid fun v n => .no (by rw [hO, if_neg p4]) ⟨n, rfl⟩
        have t5 : ((c : Int) == (n2 : Int)) = false := by simp; omega
        have P4 := Lib.hid p4
        clear hO e3 cb cr hc p4
        go_enter Tryz.func47, Tryz.ntmps47
        go_wp2
        go_quiet ((first | (go_at_call 51; with_reducible exact Calls.quiet_of (N1.out _)) | (go_at_call 51; with_reducible exact Calls.quiet_of (N2.out _))))
        go_wp2_with (go_at_call 44; (with_reducible refine (CR.out _).mono ?_); rintro e w' ⟨rfl, rfl⟩)
        go_ret2
        exact D.out _ _
theorem first_any (a : Option Addr) (len cap : Nat) (zs : List Int) (w : World) (ht : Sx.Tab w) (hb : Bytes zs) (hrow : Fr.HasRow .u8 w a len zs) (hl : zs.length = len) (hcap : len ≤ cap) (hcm : cap ≤ 9223372036854775807) :
    Calls Tryz.prog 47 #[.slice a len cap] w (FirstIt w zs) := by
  by_cases h8 : len < 8
  · exact first_small a len cap zs w hb hrow hl h8
  · obtain ⟨M, rfl⟩ : ∃ M, len = M + 8 := ⟨len - 8, by omega⟩
    obtain ⟨C, rfl⟩ : ∃ C, cap = C + 8 := ⟨cap - 8, by omega⟩
    by_cases hC : C = 0
    · subst hC
      obtain rfl : M = 0 := by omega
      exact first_edge a zs w ht hb hrow hl
    · exact first_main a M C zs w ht hb hrow hl hcap hC hcm
end Go.Proofs.YtdonkmkjblofpaaGreatDoor.Wl

/-
  Layer 9: names, in the program and in its reference.
-/
import Derived.Test.YtklmknbbdhngbaaCb
import Derived.LoopTactic
import Derived.Deep.LoopGhost
import Derived.Laws.RangeAny
namespace Go.Proofs.Ytklmknbbdhngbaa.Rd
open Go.RowKit
open Go.Proofs.Ytklmknbbdhngbaa.Fx
set_option linter.unusedVariables false
set_option linter.unusedSimpArgs false

set_option maxRecDepth 100000 in
theorem rname_any (s : ByteArray) (w : World) (hs : s.size ≤ 9223372036854775807) :
    Calls Try.prog 15 #[.string s] w fun e w' => e = .returned (.bool (nameB s)) ∧ w = w' := by
  go_enter Try.func15, Try.ntmps15
  go_wp2
  go_loopg [3] s.size (fun m i wr => ∃ k : Nat, k + m = s.size ∧ i = .int .i64 (k : Int) ∧ Hid (Lets s k) ∧ w = wr)
  case atStart => exact ⟨0, by omega, rfl, Lib.hid (lets_zero s), rfl⟩
  case round =>
    obtain ⟨k, hkm, rfl, hL, rfl⟩ := hrel
    by_cases hk : k < s.size
    · obtain ⟨m, rfl⟩ : ∃ m, gk = m + 1 := ⟨gk - 1, by omega⟩
      by_cases h1 : (s[k]'hk).toNat < 65
      · have H := Lib.hid (lets_not hk (.inl h1))
        go_wp2
        go_ret
        exact ⟨by rw [H.out] <;> rfl, rfl⟩
      · by_cases h2 : 90 < (s[k]'hk).toNat
        · have H := Lib.hid (lets_not hk (.inr h2))
          go_wp2
          go_ret
          exact ⟨by rw [H.out] <;> rfl, rfl⟩
        · have H := Lib.hid (lets_succ hL.out hk (by omega) (by omega))
          go_wp2
          go_roundg m
          case measure => omega
          case rel => exact ⟨k + 1, by omega, rfl, H, rfl⟩
    · obtain rfl : k = s.size := by omega
      by_cases h1 : 1 ≤ s.size
      · by_cases h2 : s.size ≤ 8
        · have H := Lib.hid (nameB_iff.2 ⟨h1, h2, hL.out⟩)
          have e2 : decide ((s.size : Int) ≤ 8) = true := decide_eq_true (by omega)
          clear hkm h2
          go_wp2
          go_ret
          exact ⟨by rw [H.out] <;> rfl, rfl⟩
        · have H : Hid (nameB s = false) := Lib.hid (nameB_no.2 fun h => h2 h.2.1)
          have e2 : decide ((s.size : Int) ≤ 8) = false := decide_eq_false (by omega)
          clear hkm h2
          go_wp2
          go_ret
          exact ⟨by rw [H.out] <;> rfl, rfl⟩
      · have H : Hid (nameB s = false) := Lib.hid (nameB_no.2 fun h => h1 h.1)
        clear hkm
        go_wp2
        go_ret
        exact ⟨by rw [H.out] <;> rfl, rfl⟩

set_option maxRecDepth 100000 in
theorem name_yes (s : ByteArray) (w : World) (hs : s.size ≤ 9223372036854775807) (h : nameB s = true) :
    Calls Try.prog 14 #[.string s] w fun e w' => e = .returned (.bool true) ∧ ∃ o, w' = w.alloc o := by
  obtain ⟨h1, h2, h3⟩ := nameB_iff.1 h
  have g1 : withB (s.size : Int) 1 8 = true := withB_iff.2 (by omega)
  have H3 := Lib.hid h3
  clear h h3 h1 h2
  go_enter Try.func14, Try.ntmps14
  go_wp2_with (go_at_call 20; refine (within_any _ _ _ _).mono ?_; rintro e w' ⟨rfl, rfl⟩)
  go_loopw [] (fun w' => ∃ pos, w' = w.iter s pos) (fun w' => s.size - w'.iterPos w.heap.size)
  case atStart => exact ⟨0, rfl⟩
  case round =>
    obtain ⟨pos, rfl⟩ := hrel
    by_cases hp : pos < s.size
    · obtain ⟨l1, l2⟩ := H3.out pos hp hp
      have hnx : ∀ ty, (Instr.next (.pointer (some ⟨w.heap.size, 0, none⟩)) true ty).run Try.prog (w.iter s pos) = _ := fun ty => run_next_ascii w s pos ty hp (by omega)
      go_wp2
      go_roundw
      case rel => exact ⟨_, rfl⟩
      case measure =>
        simp
        omega
    · have hnx : ∀ ty, (Instr.next (.pointer (some ⟨w.heap.size, 0, none⟩)) true ty).run Try.prog (w.iter s pos) = _ := fun ty => run_next_end w s pos ty hp
      go_wp2
      go_ret
      exact ⟨rfl, _, rfl⟩

theorem below_iter (w : World) (s : ByteArray) (p : Nat) : Below w.heap.size w (w.iter s p) := (Below.refl _ _).alloc (Nat.le_refl _) _
set_option maxRecDepth 100000 in
theorem name_no (s : ByteArray) (w : World) (hs : s.size ≤ 9223372036854775807) (h : nameB s = false) :
    Calls Try.prog 14 #[.string s] w fun e w' => e = .returned (.bool false) ∧ Below w.heap.size w w' := by
  have HN := Lib.hid (nameB_no.1 h)
  clear h
  cases g1 : withB (s.size : Int) 1 8
  · go_enter Try.func14, Try.ntmps14
    go_wp2_with (go_at_call 20; refine (within_any _ _ _ _).mono ?_; rintro e w' ⟨rfl, rfl⟩)
    go_ret
    exact ⟨rfl, Below.refl _ _⟩
  · have b1 := withB_iff.1 g1
    have B1 := Lib.hid b1; clear b1
    go_enter Try.func14, Try.ntmps14
    go_wp2_with (go_at_call 20; refine (within_any _ _ _ _).mono ?_; rintro e w' ⟨rfl, rfl⟩)
    go_loopw [] (fun w' => ∃ pos, Hid (Lets s pos ∧ pos ≤ s.size) ∧ w' = w.iter s pos) (fun w' => s.size - w'.iterPos w.heap.size)
    case atStart => exact ⟨0, Lib.hid ⟨lets_zero s, Nat.zero_le _⟩, rfl⟩
    case round =>
      obtain ⟨pos, hL, rfl⟩ := hrel
      by_cases hp : pos < s.size
      · by_cases ha : (s[pos]'hp).toNat < 128
        · have hnx : ∀ ty, (Instr.next (.pointer (some ⟨w.heap.size, 0, none⟩)) true ty).run Try.prog (w.iter s pos) = _ := fun ty => run_next_ascii w s pos ty hp ha
          by_cases l1 : (s[pos]'hp).toNat < 65
          · go_wp2
            go_ret
            exact ⟨rfl, below_iter _ _ _⟩
          · by_cases l2 : 90 < (s[pos]'hp).toNat
            · go_wp2
              go_ret
              exact ⟨rfl, below_iter _ _ _⟩
            · have H := Lib.hid (lets_succ hL.out.1 hp (by omega) (by omega))
              go_wp2
              go_roundw
              case rel => exact ⟨_, Lib.hid ⟨H.out, hp⟩, rfl⟩
              case measure =>
                simp
                omega
        · have hnx : ∀ ty, (Instr.next (.pointer (some ⟨w.heap.size, 0, none⟩)) true ty).run Try.prog (w.iter s pos) = _ := fun ty => run_next_any w s pos ty hp
          have hd := (decode_high s pos hp (by omega)).1
          have l1 : ¬ (Utf8.decode s pos).1 < 65 := by omega
          have l2 : 90 < (Utf8.decode s pos).1 := by omega
          clear hd
          go_wp2
          go_ret
          exact ⟨rfl, below_iter _ _ _⟩
      · have e1 : pos = s.size := by have := hL.out.2; omega
        refine absurd ?_ HN.out
        have b1 := B1.out
        refine ⟨by omega, by omega, ?_⟩
        have := hL.out.1
        rwa [e1] at this
end Go.Proofs.Ytklmknbbdhngbaa.Rd

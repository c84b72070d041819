/-
  Layer 2: dec.Parse and what it calls.
-/
import Derived.Test.YtdapcmokibkokaaDoorDb
import Derived.Test.YtdapcmokibkokaaDoorDd
namespace Go.Proofs.YtdapcmokibkokaaDoor.Dx
open Go.RowKit Go.Sort Go.Shelf
set_option linter.unusedVariables false
set_option linter.unusedSimpArgs false

theorem trim_digits (l : List UInt8) (w : World) (hl : l.length ≤ 9223372036854775807) :
    Calls Tryd.prog 28 #[.string (bs l), .string { data := #[48, 49, 50, 51, 52, 53, 54, 55, 56, 57] }] w fun e w' => e = .returned (.string (bs (Lib.trimS l [48, 49, 50, 51, 52, 53, 54, 55, 56, 57]))) ∧ Below w.heap.size w w' :=
  Any.strings_Trim_laid Tryd.lays160 (by kernel_rfl) (bs l) ⟨#[48, 49, 50, 51, 52, 53, 54, 55, 56, 57]⟩ w hl (by decide) (ascii_of_all (by decide))
theorem trim_zeros (l : List UInt8) (w : World) (hl : l.length ≤ 9223372036854775807) :
    Calls Tryd.prog 28 #[.string (bs l), .string { data := #[48] }] w fun e w' => e = .returned (.string (bs (Lib.trimS l [48]))) ∧ Below w.heap.size w w' :=
  Any.strings_Trim_laid Tryd.lays160 (by kernel_rfl) (bs l) ⟨#[48]⟩ w hl (by decide) (ascii_of_all (by decide))

theorem cons_of (cs : ByteArray) (l t : List UInt8) (ht : ∀ w, Calls Tryd.prog 28 #[.string (bs l), .string cs] w fun e w' => e = .returned (.string (bs t)) ∧ Below w.heap.size w w') (w : World) :
    Calls Tryd.prog 21 #[.string (bs l), .string cs] w fun e w' => e = .returned (.bool t.isEmpty) ∧ Below w.heap.size w w' := by
  generalize bs l = L at ht ⊢
  have hT := bs_toList t
  generalize bs t = T at ht hT
  cases t with
  | nil =>
    go_enter Tryd.func21, Tryd.ntmps21
    go_wp2_with (go_at_call 28; refine (ht _).mono ?_; rintro e w' ⟨rfl, hb⟩)
    go_ret
    exact ⟨rfl, ‹_›⟩
  | cons c r =>
    go_enter Tryd.func21, Tryd.ntmps21
    go_wp2_with (go_at_call 28; refine (ht _).mono ?_; rintro e w' ⟨rfl, hb⟩)
    go_ret
    exact ⟨rfl, ‹_›⟩

theorem isEmpty_trim (l cs : List UInt8) : (Lib.trimS l cs).isEmpty = l.all (cs.contains ·) := by
  have h := trimS_nil l cs
  cases h1 : l.all (cs.contains ·)
  · cases h2 : Lib.trimS l cs with
    | nil => rw [h.1 h2] at h1; cases h1
    | cons _ _ => rfl
  · rw [h.2 h1]; rfl
theorem consD_any (l : List UInt8) (w : World) (hl : l.length ≤ 9223372036854775807) :
    Calls Tryd.prog 21 #[.string (bs l), .string { data := #[48, 49, 50, 51, 52, 53, 54, 55, 56, 57] }] w fun e w' => e = .returned (.bool (l.all isD)) ∧ Below w.heap.size w w' := by
  have h := cons_of _ l _ (fun w => trim_digits l w hl) w
  rw [isEmpty_trim, show (fun x => ([48, 49, 50, 51, 52, 53, 54, 55, 56, 57] : List UInt8).contains x) = isD from funext digits_contains] at h
  exact h
theorem cons0_any (l : List UInt8) (w : World) (hl : l.length ≤ 9223372036854775807) :
    Calls Tryd.prog 21 #[.string (bs l), .string { data := #[48] }] w fun e w' => e = .returned (.bool (l.all (· == 48))) ∧ Below w.heap.size w w' := by
  have h := cons_of _ l _ (fun w => trim_zeros l w hl) w
  rw [isEmpty_trim, show (fun x => ([48] : List UInt8).contains x) = (· == 48) from funext zero_contains] at h
  exact h

theorem digits_any (l : List UInt8) (w : World) (hl : l.length ≤ 9223372036854775807) :
    Calls Tryd.prog 27 #[.string (bs l)] w fun e w' => e = .returned (.bool (!l.isEmpty && l.all isD)) ∧ Below w.heap.size w w' := by
  have hc := fun w => consD_any l w hl
  have hT := bs_toList l
  generalize bs l = L at hc hT ⊢
  generalize l.all isD = b at hc ⊢
  cases l with
  | nil =>
    go_enter Tryd.func27, Tryd.ntmps27
    go_wp2
    go_ret
    exact ⟨rfl, Below.refl _ _⟩
  | cons c r =>
    go_enter Tryd.func27, Tryd.ntmps27
    go_wp2_with (go_at_call 21; refine (hc _).mono ?_; rintro e w' ⟨rfl, hb⟩)
    go_ret
    exact ⟨rfl, ‹_›⟩

theorem ne48 (c : UInt8) : ((c.toNat : Int) != 48) = (c != 48) := by
  rw [Bool.eq_iff_iff, bne_iff_ne, bne_iff_ne]
  constructor
  · rintro h rfl; exact h rfl
  · intro h h0
    apply h
    exact UInt8.toNat_inj.1 (by rw [show c.toNat = 48 by omega]; rfl)
theorem whole_any (l : List UInt8) (w : World) (hl : l.length ≤ 9223372036854775807) :
    Calls Tryd.prog 19 #[.string (bs l)] w fun e w' => e = .returned (.bool (wholeB l)) ∧ Below w.heap.size w w' := by
  have hc := fun w => digits_any l w hl
  have hT := bs_toList l
  unfold wholeB
  cases hd : (!l.isEmpty && l.all isD)
  · rw [hd] at hc
    generalize bs l = L at hc hT ⊢
    go_enter Tryd.func19, Tryd.ntmps19
    go_wp2_with (go_at_call 27; refine (hc _).mono ?_; rintro e w' ⟨rfl, hb⟩)
    go_ret
    exact ⟨rfl, ‹_›⟩
  · rw [hd] at hc
    cases l with
    | nil => cases hd
    | cons c r =>
      have e0 : ∀ h, ((((bs (c :: r))[0]'h).toNat : Int) != 48) = (true && (false || (c :: r).headD 0 != 48)) := fun h => by
        rw [show (bs (c :: r))[0]'h = c from rfl, ne48]; rfl
      have hS : (bs (c :: r)).size = r.length + 1 := rfl
      generalize bs (c :: r) = L at hc hT e0 hS ⊢
      cases h1 : ((c :: r) == [48])
      · go_enter Tryd.func19, Tryd.ntmps19
        go_wp2_with (go_at_call 27; refine (hc _).mono ?_; rintro e w' ⟨rfl, hb⟩)
        go_ret
        exact ⟨rfl, ‹_›⟩
      · go_enter Tryd.func19, Tryd.ntmps19
        go_wp2_with (go_at_call 27; refine (hc _).mono ?_; rintro e w' ⟨rfl, hb⟩)
        go_ret
        exact ⟨rfl, ‹_›⟩

theorem frac_any (l : List UInt8) (p : Nat) (w : World) (hl : l.length ≤ 9223372036854775807) (hp : p ≤ 9) :
    Calls Tryd.prog 20 #[.string (bs l), .int .i64 p] w fun e w' => e = .returned (.bool (fracB l p)) ∧ Below w.heap.size w w' := by
  have hc := fun w => digits_any l w hl
  have hS := bs_size l
  unfold fracB
  generalize (!l.isEmpty && l.all isD) = b at hc ⊢
  generalize bs l = L at hc hS ⊢
  generalize l.length = n at hS hl ⊢
  cases b
  · go_enter Tryd.func20, Tryd.ntmps20
    go_wp2_with (go_at_call 27; refine (hc _).mono ?_; rintro e w' ⟨rfl, hb⟩)
    go_ret
    exact ⟨rfl, ‹_›⟩
  · cases hle : decide (n ≤ p)
    · go_enter Tryd.func20, Tryd.ntmps20
      go_wp2_with (go_at_call 27; refine (hc _).mono ?_; rintro e w' ⟨rfl, hb⟩)
      go_ret
      exact ⟨by first | rfl | (rw [hle]; rfl), ‹_›⟩
    · go_enter Tryd.func20, Tryd.ntmps20
      go_wp2_with (go_at_call 27; refine (hc _).mono ?_; rintro e w' ⟨rfl, hb⟩)
      go_ret
      exact ⟨by first | rfl | (rw [hle]; rfl), ‹_›⟩

/-- strings.Cut at the point. -/
theorem scut_any (l : List UInt8) (w : World) (hl : l.length ≤ 4611686018427387904) :
    Calls Tryd.prog 26 #[.string (bs l), .string { data := #[46] }] w fun e w' => e = .returned (.tuple #[.string (bs (cutD l).1), .string (bs (cutD l).2.1), .bool (cutD l).2.2]) ∧ ∃ n, w' = w.drewN n := by
  have hI := fun w => Tryd.stringslite_Index_one (bs l) 46 w
  rw [show (bs l).data.toList = l from rfl] at hI
  have hge := Lib.indexByte_ge l 46
  by_cases hm : Lib.indexByte l 46 = -1
  · rw [cutD_none hm]
    rw [hm] at hI
    go_enter Tryd.func26, Tryd.ntmps26
    go_wp2_with (go_at_call 39; refine (hI _).mono ?_; rintro e w' ⟨rfl, rfl⟩)
    go_ret3
    exact ⟨rfl, 0, rfl⟩
  · obtain ⟨i, hi⟩ : ∃ i : Nat, Lib.indexByte l 46 = i := ⟨(Lib.indexByte l 46).toNat, by omega⟩
    have hlt := indexByte_lt hi
    rw [cutD_some hi]
    rw [hi] at hI
    have hS : (bs l).size = l.length := rfl
    have x1 : (bs l).extract 0 i = bs (l.take i) := by rw [bs_extract]; rfl
    have x2 : (bs l).extract (i + 1) l.length = bs (l.drop (i + 1)) := by
      rw [bs_extract, List.take_of_length_le (by simp)]
    generalize bs (l.take i) = A at x1 ⊢
    generalize bs (l.drop (i + 1)) = B at x2 ⊢
    generalize bs l = L at hI hS x1 x2 ⊢
    generalize l.length = n at hl hlt hS x2
    clear hge hm hi
    go_enter Tryd.func26, Tryd.ntmps26
    go_wp2_with (go_at_call 39; refine (hI _).mono ?_; rintro e w' ⟨rfl, rfl⟩)
    go_quiet (fail)
    go_wp2
    go_ret3
    exact ⟨rfl, _, rfl⟩
theorem cut_any (l : List UInt8) (w : World) (hl : l.length ≤ 4611686018427387904) :
    Calls Tryd.prog 18 #[.string (bs l), .string { data := #[46] }] w fun e w' => e = .returned (.tuple #[.string (bs (cutD l).1), .string (bs (cutD l).2.1), .bool (cutD l).2.2]) ∧ ∃ n, w' = w.drewN n := by
  have hc := fun w => scut_any l w hl
  generalize bs (cutD l).1 = A at hc ⊢
  generalize bs (cutD l).2.1 = B at hc ⊢
  generalize (cutD l).2.2 = b at hc ⊢
  generalize bs l = L at hc ⊢
  go_enter Tryd.func18, Tryd.ntmps18
  go_wp2_with (go_at_call 26; refine (hc _).mono ?_; rintro e w' ⟨rfl, n, rfl⟩)
  go_ret3
  exact ⟨rfl, n, rfl⟩
end Go.Proofs.YtdapcmokibkokaaDoor.Dx

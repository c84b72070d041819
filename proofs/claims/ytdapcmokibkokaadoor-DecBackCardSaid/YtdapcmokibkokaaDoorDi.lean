/-
  Layer 2: Format and Parse at every argument; wakes; the laws DecFormats, DecParses.
-/
import Derived.Test.YtdapcmokibkokaaDoorDc
import Derived.Test.YtdapcmokibkokaaDoorDh
namespace Go.Proofs.YtdapcmokibkokaaDoor.Dx
open Go.RowKit Go.Sort
set_option linter.unusedVariables false
set_option linter.unusedSimpArgs false

def Tab (w : World) : Prop := Lib.TabIs Tryd.prog w "internal/strconv.uint64pow10" .u64 Lib.pow10Tab
theorem Tab.below {w w' : World} (h : Tab w) (hb : Below w.heap.size w w') : Tab w' :=
  TabIs_below (g := 1) (by kernel_rfl) h hb

def fmtR (x p : Int) : List UInt8 × Int := if 0 ≤ p ∧ p ≤ 9 then (if Fx.fitB x then (fmtT x p.toNat, 0) else ([], 4)) else ([], 1)
def parR (l : List UInt8) (p : Int) : Int × Int := if 0 ≤ p ∧ p ≤ 9 then parseS l p.toNat else (0, 1)

theorem format_any (x p : Int) (w : World) (htab : Tab w) :
    Calls Tryd.prog 8 #[.int .i64 x, .int .i64 p] w fun e w' => e = .returned (.tuple #[.string (bs (fmtR x p).1), .int .i64 (fmtR x p).2]) ∧ Below w.heap.size w w' := by
  unfold fmtR
  by_cases h : 0 ≤ p ∧ p ≤ 9
  · rw [if_pos h]
    obtain ⟨q, rfl⟩ : ∃ q : Nat, p = q := ⟨p.toNat, by omega⟩
    cases hf : Fx.fitB x
    · exact format_over x q w (by omega) hf
    · exact format_ok x q w (by omega) hf htab
  · rw [if_neg h]; exact format_arg x p w h
theorem rformat_any (x p : Int) (w : World) :
    Calls Tryd.prog 9 #[.int .i64 x, .int .i64 p] w fun e w' => e = .returned (.tuple #[.string (bs (fmtR x p).1), .int .i64 (fmtR x p).2]) ∧ Below w.heap.size w w' := by
  unfold fmtR
  by_cases h : 0 ≤ p ∧ p ≤ 9
  · rw [if_pos h]
    obtain ⟨q, rfl⟩ : ∃ q : Nat, p = q := ⟨p.toNat, by omega⟩
    cases hf : Fx.fitB x
    · exact rformat_over x q w (by omega) hf
    · exact rformat_ok x q w (by omega) hf
  · rw [if_neg h]; exact rformat_arg x p w h
theorem parse_any (l : List UInt8) (p : Int) (w : World) (hl : l.length ≤ 281474976710656) :
    Calls Tryd.prog 10 #[.string (bs l), .int .i64 p] w fun e w' => e = .returned (.tuple #[.int .i64 (parR l p).1, .int .i64 (parR l p).2]) ∧ Below w.heap.size w w' := by
  unfold parR
  by_cases h : 0 ≤ p ∧ p ≤ 9
  · rw [if_pos h]
    obtain ⟨q, rfl⟩ : ∃ q : Nat, p = q := ⟨p.toNat, by omega⟩
    exact parse_ok l q w (by omega) hl
  · rw [if_neg h]; exact parse_arg _ p w h
theorem rparse_any (l : List UInt8) (p : Int) (w : World) (hl : l.length ≤ 281474976710656) :
    Calls Tryd.prog 11 #[.string (bs l), .int .i64 p] w fun e w' => e = .returned (.tuple #[.int .i64 (parR l p).1, .int .i64 (parR l p).2]) ∧ Below w.heap.size w w' := by
  unfold parR
  by_cases h : 0 ≤ p ∧ p ≤ 9
  · rw [if_pos h]
    obtain ⟨q, rfl⟩ : ∃ q : Nat, p = q := ⟨p.toNat, by omega⟩
    exact rparse_ok l q w (by omega) hl
  · rw [if_neg h]; exact rparse_arg _ p w h

theorem wakes_fmt : fmtR (-5) 2 = ([45, 48, 46, 48, 53], 0) := by
  unfold fmtR
  rw [if_pos (by decide), if_pos (by decide)]
  unfold fmtT
  rw [if_pos (by decide)]
  show (45 :: txtN 5 2, (0 : Int)) = _
  unfold txtN
  rw [show 5 / 10 ^ 2 = 0 from rfl, dec_small (by omega)]
  rfl
theorem wakes_par : parR [49, 46, 53] 3 = (1500, 0) := by decide +kernel

theorem wakes_any (w : World) (htab : Tab w) :
    Calls Tryd.prog 7 #[] w fun e w' => e = .returned (.bool true) ∧ Below w.heap.size w w' := by
  have hF := format_any (-5) 2 w htab
  rw [wakes_fmt] at hF
  have hP := fun w => parse_any [49, 46, 53] 3 w (by decide)
  rw [wakes_par] at hP
  have hT : (bs [45, 48, 46, 48, 53]).toList = [45, 48, 46, 48, 53] := bs_toList _
  simp only at hF hP
  go_enter Tryd.func7, Tryd.ntmps7
  go_wp2_with (first | (go_at_call 8; refine hF.mono ?_; rintro e w1 ⟨rfl, hb1⟩) | (go_at_call 10; refine (hP _).mono ?_; rintro e w2 ⟨rfl, hb2⟩))
  go_ret
  exact ⟨rfl, below_next (by assumption) (by assumption)⟩

theorem formats_walk (x p : Int) (w : World) (htab : Tab w) :
    Calls Tryd.prog 3 #[.int .i64 x, .int .i64 p] w fun e w' => e = .returned (.bool true) ∧ Below w.heap.size w w' := by
  have hw := wakes_any w htab
  have hF := fun w (ht : Tab w) => format_any x p w ht
  have hR := fun w => rformat_any x p w
  generalize bs (fmtR x p).1 = s at hF hR
  generalize (fmtR x p).2 = e at hF hR
  go_enter Tryd.func3, Tryd.ntmps3
  go_wp2_with (first | (go_at_call 7; refine hw.mono ?_; rintro e w1 ⟨rfl, hb1⟩) | (go_at_call 8; refine (hF _ (htab.below (by assumption))).mono ?_; rintro e w2 ⟨rfl, hb2⟩) | (go_at_call 9; refine (hR _).mono ?_; rintro e w3 ⟨rfl, hb3⟩))
  go_ret
  exact ⟨rfl, below_next (below_next hb1 hb2) hb3⟩

theorem parses_walk (s : ByteArray) (p : Int) (w : World) (hs : s.size ≤ 281474976710656) (htab : Tab w) :
    Calls Tryd.prog 4 #[.string s, .int .i64 p] w fun e w' => e = .returned (.bool true) ∧ Below w.heap.size w w' := by
  have hw := wakes_any w htab
  have hF := fun w => parse_any s.data.toList p w hs
  have hR := fun w => rparse_any s.data.toList p w hs
  rw [← bs_eta s] at hF hR
  generalize (parR s.data.toList p).1 = y at hF hR
  generalize (parR s.data.toList p).2 = e at hF hR
  go_enter Tryd.func4, Tryd.ntmps4
  go_wp2_with (first | (go_at_call 7; refine hw.mono ?_; rintro e w1 ⟨rfl, hb1⟩) | (go_at_call 10; refine (hF _).mono ?_; rintro e w2 ⟨rfl, hb2⟩) | (go_at_call 11; refine (hR _).mono ?_; rintro e w3 ⟨rfl, hb3⟩))
  go_ret
  exact ⟨rfl, below_next (below_next hb1 hb2) hb3⟩
end Go.Proofs.YtdapcmokibkokaaDoor.Dx

/-
  Layer 7: the law on Decode.
-/
import Derived.Test.YtjgkjmegpinelaaDoorUc
import Derived.Test.YtjgkjmegpinelaaDoorUg
namespace Go.Proofs.YtjgkjmegpinelaaDoor.Tg
open Go.RowKit Go.Sort Dx Sx
set_option linter.unusedVariables false
set_option linter.unusedSimpArgs false

set_option maxRecDepth 100000 in
set_option maxHeartbeats 4000000 in
theorem reads_walk (a1 : Option Addr) (len1 cap1 : Nat) (z1 : List Int) (w : World) (hB : Fr.IsRow .u8 w a1 len1 cap1 z1) (he : Env w) :
    Calls Tryd.prog 4 #[.slice a1 len1 cap1] w fun e w' => e = .returned (.bool true) ∧ Below w.heap.size w w' := by
  obtain ⟨b, hbl, hbr⟩ := HasL.of_row hB
  have hbc : len1 ≤ cap1 := by
    rcases hB with ⟨rfl, rfl, rfl, rfl⟩ | ⟨x, rfl, h1, h2, h3, h4, h5⟩
    · exact Nat.le_refl _
    · exact h1
  have hm1 := hbr.2.1
  rw [hbl] at hm1
  have HE := Lib.hid he; have BL := Lib.hid hbl; have BR := Lib.hid hbr
  clear he hbl hbr hB
  go_enter Tryd.func4, Tryd.ntmps4
  go_wp2_with fail
  refine (wakes_any _ HE.out.pow).mono ?_
  rintro e w1 ⟨rfl, hb1⟩
  have B1 := Lib.hid hb1; clear hb1
  by_cases hbig : 8192 < len1
  · have d1 : decide ((8192 : Int) < (len1 : Int)) = true := by rw [decide_eq_true_eq]; omega
    go_wp2
    go_ret
    exact ⟨rfl, B1.out⟩
  have d1 : decide ((8192 : Int) < (len1 : Int)) = false := by rw [decide_eq_false_iff_not]; omega
  go_wp2_with fail
  refine (Decode_any a1 len1 cap1 b w1 (BR.out.keep B1.out) BL.out hbc (by omega) (HE.out.keep B1.out)).mono ?_
  rintro e w2 ⟨v2, rfl, ho2, hb2⟩
  have B2 := Lib.hid (B1.out.trans (hb2.mono B1.out.size)); clear hb2
  go_wp2_with fail
  refine (rdecode_any a1 len1 cap1 b w2 (BR.out.keep B2.out) BL.out (by omega) (HE.out.keep B2.out).pow).mono ?_
  rintro e w3 ⟨v3, rfl, ho3, hb3⟩
  have ho2' := own_row_keep2 ho2 hb3
  have B3 := Lib.hid (B2.out.trans (hb3.mono B2.out.size)); clear hb3 ho2
  obtain ⟨a2, cap2, rfl, hf2, _, _, _⟩ := ho2'.has
  obtain ⟨a3, cap3, rfl, hf3, _, _, _⟩ := ho3.has
  have hsame := same_any a2 a3 (decS b).1.length cap2 (decS b).1.length cap3 (decS b).1 (decS b).1 w3 hf2 rfl hf3 rfl
  rw [show decide ((decS b).1 = (decS b).1) = true from decide_eq_true rfl] at hsame
  clear ho2' ho3 hf2 hf3
  generalize (decS b).1.length = L at *
  generalize (decS b).2.1 = n at *
  generalize (decS b).2.2 = E at *
  have q1 : ((n : Int) == (n : Int)) = true := beq_self_eq_true _
  have q2 : (E == E) = true := beq_self_eq_true _
  go_wp2_with (go_at_call 18; (with_reducible refine hsame.mono ?_); rintro e w4 ⟨rfl, hb4⟩; have B4 := Lib.hid (B3.out.trans (hb4.mono B3.out.size)); clear hb4)
  go_ret
  exact ⟨rfl, B4.out⟩
end Go.Proofs.YtjgkjmegpinelaaDoor.Tg

/-
  Layer 8: what an end must do.
-/
import Derived.Test.YtmecaioklmkdlaaAj
import Derived.Test.YtmecaioklmkdlaaAe
namespace Go.Proofs.Ytmecaioklmkdlaa.Ss
open Go.RowKit
set_option linter.unusedVariables false
set_option linter.unusedSimpArgs false

theorem send_a : sendS sd0 { data := #[97] } = (⟨[{ data := #[97] }], 0, 0⟩, ⟨1, 1, 0, { data := #[97] }⟩, 0) := by rfl
theorem take_a : takeS sd0 ⟨1, 1, 0, { data := #[97] }⟩ = (⟨[], 1, 0⟩, { data := #[97] }, [], 0) := by rfl
theorem left_a : leftS ⟨[{ data := #[97] }], 0, 0⟩ = 1 := by rfl
set_option maxRecDepth 100000 in
set_option maxHeartbeats 2000000 in
theorem wakes_any (w : World) : Calls Try.prog 9 #[] w (Tells true w) := by
  unfold Tells
  have hs := fun w => send_any none 0 0 sd0 { data := #[97] } w (HasS.nil _ _) rfl (fun _ => rfl)
  rw [send_a] at hs
  have ht := fun w => take_any none 0 0 sd0 ⟨1, 1, 0, { data := #[97] }⟩ w (HasS.nil _ _) rfl (fun _ => rfl)
  rw [take_a] at ht
  unfold SendIt at hs
  unfold TakeIt at ht
  simp only [sd0] at hs ht
  have hl := fun a c w h => left_any a 1 c ⟨[{ data := #[97] }], 0, 0⟩ w h rfl
  rw [left_a] at hl
  simp only at hl
  go_enter Try.func9, Try.ntmps9
  go_wp2_with (first
    | (go_at_call 10; (with_reducible refine (hs _).mono ?_); rintro e w1 ⟨v1, rfl, ho1, hb1⟩; obtain ⟨a1, cap1, rfl, -⟩ := ho1.has; have HO1 := Lib.hid ho1; have HB1 := Lib.hid hb1; have hz1 := hb1.size; clear ho1 hb1)
    | (go_at_call 17; (with_reducible refine (ht _).mono ?_); rintro e w2 ⟨v2, v3, rfl, ho2, -, -, hb2⟩; obtain ⟨a2, cap2, rfl, -⟩ := ho2.has; obtain ⟨x1, x2, x3⟩ := two_new w1 #[.slice a1 1 cap1, .int .i64 0, .int .i64 0] #[.int .i64 1, .int .i64 1, .int .i64 0, .string { data := #[97] }] 24 27; have HB2 := Lib.hid ((HB1.out.trans (x3.mono hz1)).trans (hb2.mono (Nat.le_trans hz1 x3.size))); have HX2 := Lib.hid (x1.keep hb2); have HO2 := Lib.hid ((HO1.out.keep x3).keep hb2); have hz2 := hb2.size; have hz3 := x3.size; clear ho2 hb2 x1 x2 x3; have k0 := fun o : Obj => (agg_cells (HX2.out.keep ((Below.refl w2.heap.size w2).alloc (Nat.le_refl _) o))).1; have k1 := fun o : Obj => (agg_cells (HX2.out.keep ((Below.refl w2.heap.size w2).alloc (Nat.le_refl _) o))).2.1; have k2 := fun o : Obj => (agg_cells (HX2.out.keep ((Below.refl w2.heap.size w2).alloc (Nat.le_refl _) o))).2.2)
    | (go_at_call 16; (with_reducible refine (hl a1 cap1 _ ?_).mono ?_); (obtain ⟨a', c', e', h', -⟩ := (HO2.out.keep ((Below.refl w2.heap.size w2).alloc (Nat.le_refl _) (.cells #[.slice a2 0 cap2, .int .i64 1, .int .i64 0] 24))).has; have e1 : a1 = a' := (by injection e'); rw [e1]; exact h'); rintro e w4 ⟨rfl, hb4⟩; have HB4 := Lib.hid (HB2.out.trans ((((Below.refl w2.heap.size w2).alloc (Nat.le_refl _) (.cells #[.slice a2 0 cap2, .int .i64 1, .int .i64 0] 24)).trans (hb4.mono (by rw [World.size_alloc]; omega))).mono (Nat.le_trans hz1 (Nat.le_trans hz3 hz2)))); clear hb4))
  go_ret
  exact ⟨rfl, HB4.out⟩
end Go.Proofs.Ytmecaioklmkdlaa.Ss

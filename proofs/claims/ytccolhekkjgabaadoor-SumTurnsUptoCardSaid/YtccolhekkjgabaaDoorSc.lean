/-
  Layer 3: wakes; the law SumExact.
-/
import Derived.Test.YtccolhekkjgabaaDoorSb
import Derived.WalkSmall
import Derived.Lib.SmallJoins
namespace Go.Proofs.YtccolhekkjgabaaDoor.Sx
open Go.RowKit Go.WideShapes Go.ChangeAt Go.ChangeShapes
set_option linter.unusedVariables false

theorem tab_lt {w : World} (h : Tab w) : 0 < w.heap.size := by
  have := tab_cell h 0 (by decide)
  exact Fr.lt_of_cell this
theorem tab_keep {w w' : World} (h : Tab w) (hb : Below w.heap.size w w') : Tab w' := by
  unfold Tab Lib.TabIs at *
  exact var?_below hb (g := 0) (by kernel_rfl) (tab_lt h) h
theorem tab_drewN {w : World} (h : Tab w) (n : Nat) : Tab (w.drewN n) := h
theorem below_next {W w w' : World} (h : Below W.heap.size W w) (h' : Below w.heap.size w w') : Below W.heap.size W w' := h.trans (h'.mono h.size)
theorem bcell {W w1 : World} (hb : Below W.heap.size W w1) : (∀ b o, b < W.heap.size → w1.cell? ⟨b, o, none⟩ = W.cell? ⟨b, o, none⟩) ∧ (∀ b o, b < W.heap.size → w1.frozen? ⟨b, o, none⟩ = W.frozen? ⟨b, o, none⟩) :=
  ⟨fun b o h => hb.cell (p := ⟨b, o, none⟩) h, fun b o h => hb.frozen (p := ⟨b, o, none⟩) h⟩

def wz : List Int := [49, 50, 51, 52, 53, 54, 55, 56, 57]
theorem wz_bytes : Bytes wz := by
  have : ∀ j : Fin 9, 0 ≤ wz.getD j.val 0 ∧ wz.getD j.val 0 ≤ 255 := by decide
  exact fun j hj => this ⟨j, hj⟩
theorem wz_crc : ((crcS (wz.take 9)).toNat : Int) = 3421780262 := by decide +kernel
theorem wz_small : smallS (wz.take 9) = 221 := by decide +kernel
abbrev wC : Array Value := #[.int .u8 49, .int .u8 50, .int .u8 51, .int .u8 52, .int .u8 53, .int .u8 54, .int .u8 55, .int .u8 56, .int .u8 57]
theorem wz_row (w : World) (t : TypeId) (g : Nat) (hg : g = w.heap.size) : Fr.HasRow .u8 (w.alloc (.cells wC t (9, 10))) (some ⟨g, 0, none⟩) 9 wz := by
  subst hg
  refine ⟨by decide, by decide, fun _ => ⟨w.heap.size, 0, rfl, fun j hj => ?_⟩⟩
  rw [World.cell?_alloc_mark]
  match j, hj with
  | 0, _ | 1, _ | 2, _ | 3, _ | 4, _ | 5, _ | 6, _ | 7, _ | 8, _ => simp [wz]

theorem wcrc_call (w : World) (g : Nat) (hg : g = w.heap.size) (ht : Tab w) :
    Calls Tryd.prog 8 #[.slice (some ⟨g, 0, none⟩) 9 9] (w.alloc (.cells wC 5 (9, 10))) fun e w' => e = .returned (.int .u32 3421780262) ∧ w.alloc (.cells wC 5 (9, 10)) = w' := by
  rw [← wz_crc]
  exact crc_any _ _ _ wz _ (tab_keep ht ((Below.refl _ _).alloc (Nat.le_refl _) _)) wz_bytes (wz_row _ _ _ hg)
theorem wsmall_call (w : World) (g : Nat) (hg : g = w.heap.size) :
    Calls Tryd.prog 10 #[.slice (some ⟨g, 0, none⟩) 9 9] (w.alloc (.cells wC 5 (9, 10))) fun e w' => e = .returned (.int .i64 221) ∧ w.alloc (.cells wC 5 (9, 10)) = w' := by
  rw [← wz_small]
  exact small_any _ _ _ wz _ wz_bytes (wz_row _ _ _ hg)

set_option maxRecDepth 100000 in
set_option maxHeartbeats 1000000 in
theorem wakes_any (w : World) (ht : Tab w) :
    Calls Tryd.prog 7 #[] w fun e w' => e = .returned (.bool true) ∧ Below w.heap.size w w' := by
  have HT := Lib.hid ht; clear ht
  have kc1 := Go.Joins.run_convert_bytes_const_at (P := Tryd.prog) w 22 5 wC 9 9 w.heap.size rfl Tryd.underlying22 Tryd.underlying5
  have kc2 := Go.Joins.run_convert_bytes_const_at (P := Tryd.prog) (w.alloc (.cells wC 5 (9, 10))) 22 5 wC 9 9 (w.heap.size + 1) (by simp) Tryd.underlying22 Tryd.underlying5
  go_enter Tryd.func7, Tryd.ntmps7
  go_wp2_with (first | (go_at_call 8; (with_reducible refine (wcrc_call _ _ rfl HT.out).mono ?_); rintro e w' ⟨rfl, rfl⟩) | (go_at_call 10; (with_reducible refine (wsmall_call _ _ (by simp)).mono ?_); rintro e w' ⟨rfl, rfl⟩))
  go_ret
  exact ⟨rfl, ((Below.refl _ _).alloc (Nat.le_refl _) _).alloc (by simp) _⟩

set_option maxRecDepth 100000 in
set_option maxHeartbeats 1000000 in
theorem exact_walk (a : Option Addr) (len cap : Nat) (zs : List Int) (w : World) (ht : Tab w) (hb : Bytes zs) (hrow : Fr.HasRow .u8 w a len zs) :
    Calls Tryd.prog 3 #[.slice a len cap] w fun e w' => e = .returned (.bool true) ∧ Below w.heap.size w w' := by
  have HT := Lib.hid ht; have HB := Lib.hid hb; have HR := Lib.hid hrow; clear ht hb hrow
  obtain ⟨X, hX⟩ : ∃ X : Nat, (crcS (zs.take len)).toNat = X := ⟨_, rfl⟩
  obtain ⟨Y, hY⟩ : ∃ Y : Int, smallS (zs.take len) = Y := ⟨_, rfl⟩
  have c1 : ∀ w, Tab w → Fr.HasRow .u8 w a len zs → Calls Tryd.prog 8 #[.slice a len cap] w fun e w' => e = .returned (.int .u32 (X : Int)) ∧ w = w' := by rw [← hX]; exact fun w h1 h2 => crc_any a len cap zs w h1 HB.out h2
  have c2 : ∀ w, Fr.HasRow .u8 w a len zs → Calls Tryd.prog 9 #[.slice a len cap] w fun e w' => e = .returned (.int .u32 (X : Int)) ∧ w = w' := by rw [← hX]; exact fun w h2 => rcrc_any a len cap zs w HB.out h2
  have c3 : ∀ w, Fr.HasRow .u8 w a len zs → Calls Tryd.prog 10 #[.slice a len cap] w fun e w' => e = .returned (.int .i64 Y) ∧ w = w' := by rw [← hY]; exact fun w h2 => small_any a len cap zs w HB.out h2
  have c4 : ∀ w, Fr.HasRow .u8 w a len zs → Calls Tryd.prog 11 #[.slice a len cap] w fun e w' => e = .returned (.int .i64 Y) ∧ w = w' := by rw [← hY]; exact fun w h2 => rsmall_any a len cap zs w HB.out h2
  have C1 := Lib.hid c1; have C2 := Lib.hid c2; have C3 := Lib.hid c3; have C4 := Lib.hid c4; clear c1 c2 c3 c4 hX hY
  go_enter Tryd.func3, Tryd.ntmps3
  go_wp2_with (first | (go_at_call 7; (with_reducible refine (wakes_any _ HT.out).mono ?_); rintro e w1 ⟨rfl, hb1⟩; have HB1 := Lib.hid hb1; clear hb1) | (go_at_call 8; (with_reducible refine (C1.out _ (tab_keep HT.out HB1.out) (HR.out.keep HB1.out)).mono ?_); rintro e w' ⟨rfl, rfl⟩) | (go_at_call 9; (with_reducible refine (C2.out _ (HR.out.keep HB1.out)).mono ?_); rintro e w' ⟨rfl, rfl⟩) | (go_at_call 10; (with_reducible refine (C3.out _ (HR.out.keep HB1.out)).mono ?_); rintro e w' ⟨rfl, rfl⟩) | (go_at_call 11; (with_reducible refine (C4.out _ (HR.out.keep HB1.out)).mono ?_); rintro e w' ⟨rfl, rfl⟩))
  go_ret
  exact ⟨rfl, HB1.out⟩

theorem bytes_of {w : World} {a : Option Addr} {len cap : Nat} {zs : List Int} (h : Fr.IsRow .u8 w a len cap zs) : Bytes zs := by
  intro j hj
  rcases h with ⟨_, _, _, rfl⟩ | ⟨_, _, _, _, _, _, h⟩
  · exact absurd hj (Nat.not_lt_zero _)
  · exact bounds_u8 (h (zs.getD j 0) (by simp [List.getD, hj]))
end Go.Proofs.YtccolhekkjgabaaDoor.Sx

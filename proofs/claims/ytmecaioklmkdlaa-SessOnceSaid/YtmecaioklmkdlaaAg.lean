/-
  Layer 8: the program's message, renewed, deliver.
-/
import Derived.Test.YtmecaioklmkdlaaAf
import Derived.StillTailTactics
import Derived.ChangeAlike
import Derived.RegionTactic
namespace Go.Proofs.Ytmecaioklmkdlaa.Ss
open Go.RowKit
set_option linter.unusedVariables false
set_option linter.unusedSimpArgs false

set_option maxRecDepth 100000 in
set_option maxHeartbeats 2000000 in
theorem message_any (a : Option Addr) (len cap j : Nat) (s : Sd) (w : World) (hS : HasS w a s.S) (hl : s.S.length = len) (hj : j < len) :
    Calls Try.prog 24 #[.agg #[.slice a len cap, .int .i64 s.t, .int .i64 s.k], .int .i64 ((j : Int) + 1)] w fun e w' => e = .returned (.agg (fmV ⟨1, (j : Int) + 1, s.t, s.S.getD j em⟩)) ∧ Below w.heap.size w w' := by
  have hm := hS.1
  rw [hl] at hm
  obtain ⟨S, t, k⟩ := s
  simp only at hS hl ⊢
  obtain ⟨N, hN⟩ : ∃ N, N = w.heap.size := ⟨_, rfl⟩
  obtain ⟨x0, y0, b0⟩ := two_new w #[.slice a len cap, .int .i64 t, .int .i64 k] #[.int .i64 0, .int .i64 0, .int .i64 0, .string em] 24 27
  obtain ⟨w0, hw0⟩ : ∃ w0, w0 = (w.alloc (.cells #[.slice a len cap, .int .i64 t, .int .i64 k] 24)).alloc (.cells #[.int .i64 0, .int .i64 0, .int .i64 0, .string em] 27) := ⟨_, rfl⟩
  rw [← hw0] at x0 y0 b0
  obtain ⟨b, off, rfl, cm⟩ := (hS.keep b0).at (show j < S.length by omega)
  rw [← hN] at x0 y0 b0
  have HN := Lib.hid hN; have HW0 := Lib.hid hw0; have B0 := Lib.hid b0; have HX := Lib.hid x0; have HY := Lib.hid y0
  have hz0 : N + 2 ≤ w0.heap.size := y0.lt
  clear hN hw0 b0 x0 y0 hS hl
  obtain ⟨c0, c1, c2⟩ := agg_cells HX.out
  obtain ⟨d0, d1, d2, d3⟩ := fm_cells HY.out; have f0 := HY.out.free 0; have f1 := HY.out.free 1; have f2 := HY.out.free 2; have f3 := HY.out.free 3
  generalize S.getD j em = m at *
  have i1 : IntKind.i64.wrap ((j : Int) + 1 - 1) = (j : Int) := by rw [Int.add_sub_cancel]; exact IntWalk.i64_in _ (by omega)
  have i3 : IntKind.i64.wrap (j : Int) = (j : Int) := IntWalk.i64_in _ (by omega)
  have i4 : (0 : Int) ≤ (j : Int) := by omega
  have i5 : (j : Int) < (len : Int) := by omega
  have i2 : (j : Int) + 1 - 1 = (j : Int) := by omega
  go_enter Try.func24, Try.ntmps24
  rw [← HN.out]
  go_wp2_with fail
  rw [← HN.out, ← HW0.out]
  go_still_tail 10, (by kernel_rfl)
  show wpList _ _ _ _ _ w0.drew
  obtain ⟨wd, hwd⟩ : ∃ wd, wd = w0.drew := ⟨_, rfl⟩
  rw [← hwd]
  have hbd : Below w0.heap.size w0 wd := by rw [hwd]; exact ⟨rfl, rfl, rfl, Nat.le_refl _, fun _ _ => rfl⟩
  have HYd := Lib.hid (HY.out.keep hbd); have BD := Lib.hid (B0.out.trans (hbd.mono (by omega)))
  clear hwd hbd d0 d1 d2 d3 f0 f1 f2 f3
  obtain ⟨d0, d1, d2, d3⟩ := fm_cells HYd.out; have f0 := HYd.out.free 0; have f1 := HYd.out.free 1; have f2 := HYd.out.free 2; have f3 := HYd.out.free 3
  go_wp2
  obtain ⟨e0, e1, e2, e3⟩ := fm_cells (HYd.out.set4 (.int .i64 1) (.int .i64 ((j : Int) + 1)) (.int .i64 t) (.string m))
  exact bodyPost_ret (v := .agg (fmV ⟨1, (j : Int) + 1, t, m⟩)) (by simp [results, Try.results24, go_sem, e0, e1, e2, e3]) rfl ⟨rfl, below_set4 BD.out (by omega) _ _ _ _⟩
theorem grown_below {A B : World} (h : A.grownBy B none) : Below A.heap.size A B := ⟨h.os, h.tape, h.output, h.size, fun k hk => h.block k hk (fun e => by cases e)⟩
theorem OwnS.lt {w : World} {base : Nat} {v : Value} {S : List ByteArray} (h : OwnS w base v S) : ∀ k, v.ownBlock = some k → base ≤ k ∧ k < w.heap.size := fun k hk => World.ownsRow.lt h k hk
theorem OwnX.lt {w : World} {base : Nat} {v : Value} {X : List Fm} (h : OwnX w base v X) : ∀ k, v.ownBlock = some k → base ≤ k ∧ k < w.heap.size := fun k hk => World.ownsRow.lt h k hk
/-- Stores into a box that is older leave what is the call's own. -/
theorem set_grown (W : World) (g i : Nat) (v : Value) : W.grownBy (W.setCell ⟨g, i, none⟩ v) (some g) := ⟨rfl, rfl, rfl, by simp [World.setCell], fun k _ hk => Below.heap_setCell _ _ _ _ (fun e => hk (by rw [e]))⟩
theorem OwnS.set {w : World} {base : Nat} {v : Value} {S : List ByteArray} (h : OwnS w base v S) {g i : Nat} {u : Value} (hg : g < base) : OwnS (w.setCell ⟨g, i, none⟩ u) base v S :=
  h.gone (set_grown w g i u) fun k hk e => by have := (h.lt k hk).1; cases e; omega
theorem OwnX.set {w : World} {base : Nat} {v : Value} {X : List Fm} (h : OwnX w base v X) {g i : Nat} {u : Value} (hg : g < base) : OwnX (w.setCell ⟨g, i, none⟩ u) base v X :=
  h.gone (set_grown w g i u) fun k hk e => by have := (h.lt k hk).1; cases e; omega
theorem OwnS.set3 {w : World} {base : Nat} {v : Value} {S : List ByteArray} (h : OwnS w base v S) {g : Nat} {a b c : Value} (hg : g < base) : OwnS (((w.setCell ⟨g, 0, none⟩ a).setCell ⟨g, 1, none⟩ b).setCell ⟨g, 2, none⟩ c) base v S := ((h.set hg).set hg).set hg
theorem OwnX.set3 {w : World} {base : Nat} {v : Value} {S : List Fm} (h : OwnX w base v S) {g : Nat} {a b c : Value} (hg : g < base) : OwnX (((w.setCell ⟨g, 0, none⟩ a).setCell ⟨g, 1, none⟩ b).setCell ⟨g, 2, none⟩ c) base v S := ((h.set hg).set hg).set hg
theorem OwnS.set4 {w : World} {base : Nat} {v : Value} {S : List ByteArray} (h : OwnS w base v S) {g : Nat} {a b c d : Value} (hg : g < base) : OwnS ((((w.setCell ⟨g, 0, none⟩ a).setCell ⟨g, 1, none⟩ b).setCell ⟨g, 2, none⟩ c).setCell ⟨g, 3, none⟩ d) base v S := (h.set3 hg).set hg
theorem blk_set3 {W : World} {g g' : Nat} {cs : Array Value} {T : TypeId} (h : Blk W g cs T) (hne : g' ≠ g) (a b c : Value) : Blk (((W.setCell ⟨g', 0, none⟩ a).setCell ⟨g', 1, none⟩ b).setCell ⟨g', 2, none⟩ c) g cs T := ((h.other 0 a hne).other 1 b hne).other 2 c hne
set_option maxRecDepth 100000 in
set_option maxHeartbeats 2000000 in
theorem renewed_any (a : Option Addr) (len cap : Nat) (s : Sd) (w : World) (hS : HasS w a s.S) (hl : s.S.length = len) (hn : a = none → cap = 0) (hb : len ≤ 256) :
    Calls Try.prog 23 #[.agg #[.slice a len cap, .int .i64 s.t, .int .i64 s.k]] w (SideIt w.heap.size s w) := by
  obtain ⟨S, t, k⟩ := s
  simp only at hS hl
  obtain ⟨N, hN⟩ : ∃ N, N = w.heap.size := ⟨_, rfl⟩
  obtain ⟨x0, y0, b0⟩ := two_new w #[.slice a len cap, .int .i64 t, .int .i64 k] #[.slice none 0 0, .int .i64 0, .int .i64 0] 24 24
  obtain ⟨w0, hw0⟩ : ∃ w0, w0 = (w.alloc (.cells #[.slice a len cap, .int .i64 t, .int .i64 k] 24)).alloc (.cells #[.slice none 0 0, .int .i64 0, .int .i64 0] 24) := ⟨_, rfl⟩
  rw [← hw0] at x0 y0 b0
  have HS0 := Lib.hid (hS.keep b0)
  rw [← hN] at x0 y0 b0
  have HN := Lib.hid hN; have HW0 := Lib.hid hw0; have B0 := Lib.hid b0; have HX := Lib.hid x0; have HY := Lib.hid y0; have HL := Lib.hid hl; have HNC := Lib.hid hn
  have hz0 : N + 2 ≤ w0.heap.size := y0.lt
  clear hN hw0 b0 x0 y0 hS hl hn
  obtain ⟨c0, c1, c2⟩ := agg_cells HX.out
  go_enter Try.func23, Try.ntmps23
  go_wp2_with (at_builtin; rw [← HN.out, ← HW0.out]; refine wp_apS rfl (.const (.slice none 0 0)) (.tmp 4) rfl (N + 2) (.slice none 0 0) [] rfl (ownS_nil _ _) a len cap S rfl HS0.out HL.out HNC.out (by simp; omega) hz0 ?_; intro v1 w1 ho1 hg1 hnb1; rw [List.nil_append] at ho1; obtain ⟨a1, cap1, rfl, -⟩ := ho1.has; have HO1 := Lib.hid ho1; have hb1 := grown_below hg1; have HB1 := Lib.hid (B0.out.trans (hb1.mono (by omega))); have HX1 := Lib.hid (HX.out.keep hb1); have HY1 := Lib.hid (HY.out.keep hb1); clear ho1 hg1 hnb1 hb1 c0 c1 c2; obtain ⟨c0, c1, c2⟩ := agg_cells HX1.out; have f0 := HX1.out.free 0; obtain ⟨d0, d1, d2⟩ := agg_cells HY1.out; have g0 := HY1.out.free 0; have g1 := HY1.out.free 1; have g2 := HY1.out.free 2)
  have hN := HN.out
  obtain ⟨e0, e1, e2⟩ := agg_cells ((HY1.out.other (g' := N) 0 (.slice a1 S.length cap1) (by omega)).set3 (.slice a1 S.length cap1) (.int .i64 t) (.int .i64 k))
  refine bodyPost_ret (v := .agg #[.slice a1 S.length cap1, .int .i64 t, .int .i64 k]) (by simp [results, Try.results23, go_sem, e0, e1, e2]) rfl ⟨_, rfl, ?_, ?_⟩
  · exact ((HO1.out.set (by omega)).set3 (by omega)).low (by omega)
  · rw [← hN]
    exact below_set3 (HB1.out.setCell (p := ⟨N, 0, none⟩) (Nat.le_refl _) _) (by omega) _ _ _
end Go.Proofs.Ytmecaioklmkdlaa.Ss

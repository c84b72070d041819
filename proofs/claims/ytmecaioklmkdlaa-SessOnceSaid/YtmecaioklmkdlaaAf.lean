/-
  Layer 8: the program's Tick, message, renewed, deliver.
-/
import Derived.Test.YtmecaioklmkdlaaAe
namespace Go.Proofs.Ytmecaioklmkdlaa.Ss
open Go.RowKit
set_option linter.unusedVariables false
set_option linter.unusedSimpArgs false

abbrev sdV (v : Value) (t k : Int) : Array Value := #[v, .int .i64 t, .int .i64 k]
abbrev fmV (f : Fm) : Array Value := #[.int .i64 f.kind, .int .i64 f.num, .int .i64 f.taken, .string f.body]
theorem fm_cells {w : World} {g : Nat} {a b c d : Value} {T : TypeId} (h : Blk w g #[a, b, c, d] T) : w.cell? ⟨g, 0, none⟩ = some a ∧ w.cell? ⟨g, 1, none⟩ = some b ∧ w.cell? ⟨g, 2, none⟩ = some c ∧ w.cell? ⟨g, 3, none⟩ = some d := ⟨h.cell 0, h.cell 1, h.cell 2, h.cell 3⟩
/-- Two boxes, one behind the other. -/
theorem two_new (w : World) (cs ds : Array Value) (T U : TypeId) : Blk ((w.alloc (.cells cs T)).alloc (.cells ds U)) w.heap.size cs T ∧ Blk ((w.alloc (.cells cs T)).alloc (.cells ds U)) (w.heap.size + 1) ds U ∧ Below w.heap.size w ((w.alloc (.cells cs T)).alloc (.cells ds U)) := by
  refine ⟨(Blk.new w _ _).keep ((Below.refl _ _).alloc (Nat.le_refl _) _), ?_, ((Below.refl _ _).alloc (Nat.le_refl _) _).alloc (by rw [World.size_alloc]; omega) _⟩
  have := Blk.new (w.alloc (.cells cs T)) ds U
  rwa [World.size_alloc] at this
theorem three_new (w : World) (cs ds es : Array Value) (T U V : TypeId) : Blk (((w.alloc (.cells cs T)).alloc (.cells ds U)).alloc (.cells es V)) w.heap.size cs T ∧ Blk (((w.alloc (.cells cs T)).alloc (.cells ds U)).alloc (.cells es V)) (w.heap.size + 1) ds U ∧ Blk (((w.alloc (.cells cs T)).alloc (.cells ds U)).alloc (.cells es V)) (w.heap.size + 2) es V ∧ Below w.heap.size w (((w.alloc (.cells cs T)).alloc (.cells ds U)).alloc (.cells es V)) := by
  obtain ⟨h1, h2, h3⟩ := two_new w cs ds T U
  refine ⟨h1.keep ((Below.refl _ _).alloc (Nat.le_refl _) _), h2.keep ((Below.refl _ _).alloc (Nat.le_refl _) _), ?_, h3.alloc h3.size _⟩
  have := Blk.new ((w.alloc (.cells cs T)).alloc (.cells ds U)) es V
  rwa [World.size_alloc, World.size_alloc] at this
theorem Blk.set4 {W : World} {g : Nat} {a b c d : Value} {T : TypeId} (h : Blk W g #[a, b, c, d] T) (a' b' c' d' : Value) : Blk ((((W.setCell ⟨g, 0, none⟩ a').setCell ⟨g, 1, none⟩ b').setCell ⟨g, 2, none⟩ c').setCell ⟨g, 3, none⟩ d') g #[a', b', c', d'] T := (((h.set 0 a').set 1 b').set 2 c').set 3 d'
theorem Blk.set3 {W : World} {g : Nat} {a b c : Value} {T : TypeId} (h : Blk W g #[a, b, c] T) (a' b' c' : Value) : Blk (((W.setCell ⟨g, 0, none⟩ a').setCell ⟨g, 1, none⟩ b').setCell ⟨g, 2, none⟩ c') g #[a', b', c'] T := ((h.set 0 a').set 1 b').set 2 c'
theorem below_set4 {N : Nat} {w W : World} {g : Nat} (h : Below N w W) (hg : N ≤ g) (a b c d : Value) : Below N w ((((W.setCell ⟨g, 0, none⟩ a).setCell ⟨g, 1, none⟩ b).setCell ⟨g, 2, none⟩ c).setCell ⟨g, 3, none⟩ d) :=
  (((h.setCell (p := ⟨g, 0, none⟩) hg _).setCell (p := ⟨g, 1, none⟩) hg _).setCell (p := ⟨g, 2, none⟩) hg _).setCell (p := ⟨g, 3, none⟩) hg _
theorem below_set3 {N : Nat} {w W : World} {g : Nat} (h : Below N w W) (hg : N ≤ g) (a b c : Value) : Below N w (((W.setCell ⟨g, 0, none⟩ a).setCell ⟨g, 1, none⟩ b).setCell ⟨g, 2, none⟩ c) :=
  ((h.setCell (p := ⟨g, 0, none⟩) hg _).setCell (p := ⟨g, 1, none⟩) hg _).setCell (p := ⟨g, 2, none⟩) hg _
set_option maxRecDepth 100000 in
set_option maxHeartbeats 2000000 in
theorem tick_any (a : Option Addr) (len cap : Nat) (s : Sd) (w : World) (hS : HasS w a s.S) (hl : s.S.length = len) :
    Calls Try.prog 15 #[.agg #[.slice a len cap, .int .i64 s.t, .int .i64 s.k]] w fun e w' => e = .returned (.tuple #[.agg (fmV (tickS s).1), .int .i64 (tickS s).2]) ∧ Below w.heap.size w w' := by
  have hg := fun w h => good_any a len cap s w h hl
  have hbd : goodB s = true → len ≤ 256 := fun h => by have := goodB_iff.1 h; rw [hl] at this; omega
  unfold Tells at hg
  unfold tickS
  rw [hl]
  have HS := Lib.hid hS; clear hS hl
  obtain ⟨S, t, k⟩ := s
  simp only at HS hg hbd ⊢
  obtain ⟨N, hN⟩ : ∃ N, N = w.heap.size := ⟨_, rfl⟩
  obtain ⟨x0, y0, b0⟩ := two_new w #[.slice a len cap, .int .i64 t, .int .i64 k] #[.int .i64 0, .int .i64 0, .int .i64 0, .string em] 24 27
  obtain ⟨w0, hw0⟩ : ∃ w0, w0 = (w.alloc (.cells #[.slice a len cap, .int .i64 t, .int .i64 k] 24)).alloc (.cells #[.int .i64 0, .int .i64 0, .int .i64 0, .string em] 27) := ⟨_, rfl⟩
  rw [← hw0] at x0 y0 b0
  have HS0 := Lib.hid (HS.out.keep b0)
  rw [← hN] at x0 y0 b0
  have HN := Lib.hid hN; have HW0 := Lib.hid hw0; have B0 := Lib.hid b0; have HX := Lib.hid x0; have HY := Lib.hid y0
  have hz0 : N + 2 ≤ w0.heap.size := y0.lt
  clear hN hw0 b0 x0 y0
  obtain ⟨c0, c1, c2⟩ := agg_cells HX.out
  cases hq : goodB ⟨S, t, k⟩ with
  | false =>
    rw [hq] at hg
    rw [if_pos rfl]
    clear hbd hq
    go_enter Try.func15, Try.ntmps15
    rw [← HN.out]
    go_wp2_with fail
    rw [← HN.out, ← HW0.out]
    go_wp2_with (go_at_call 13; (with_reducible refine (hg _ HS0.out).mono ?_); rintro e w1 ⟨rfl, hb1⟩; have HB1 := Lib.hid (B0.out.trans (hb1.mono (by omega))); clear c0 c1 c2; obtain ⟨c0, c1, c2⟩ := agg_cells (HX.out.keep hb1); have HY1 := Lib.hid (HY.out.keep hb1); obtain ⟨d0, d1, d2, d3⟩ := fm_cells HY1.out; have f0 := HY1.out.free 0; have f1 := HY1.out.free 1; have f2 := HY1.out.free 2; have f3 := HY1.out.free 3; clear hb1)
    obtain ⟨e0, e1, e2, e3⟩ := fm_cells (HY1.out.set4 (.int .i64 0) (.int .i64 0) (.int .i64 0) (.string { data := #[] }))
    exact bodyPost_ret (v := .tuple #[.agg (fmV fm0), .int .i64 1]) (by simp [results, Try.results15, go_sem, e0, e1, e2, e3, fm0]) rfl ⟨rfl, below_set4 HB1.out (by omega) _ _ _ _⟩
  | true =>
    have q3 := hbd hq
    rw [hq] at hg
    rw [if_neg (by simp)]
    clear hbd hq
    go_enter Try.func15, Try.ntmps15
    rw [← HN.out]
    go_wp2_with fail
    rw [← HN.out, ← HW0.out]
    go_wp2_with (go_at_call 13; (with_reducible refine (hg _ HS0.out).mono ?_); rintro e w1 ⟨rfl, hb1⟩; have HB1 := Lib.hid (B0.out.trans (hb1.mono (by omega))); clear c0 c1 c2; obtain ⟨c0, c1, c2⟩ := agg_cells (HX.out.keep hb1); have HY1 := Lib.hid (HY.out.keep hb1); obtain ⟨d0, d1, d2, d3⟩ := fm_cells HY1.out; have f0 := HY1.out.free 0; have f1 := HY1.out.free 1; have f2 := HY1.out.free 2; have f3 := HY1.out.free 3; clear hb1)
    obtain ⟨e0, e1, e2, e3⟩ := fm_cells (HY1.out.set4 (.int .i64 3) (.int .i64 (len : Int)) (.int .i64 t) (.string { data := #[] }))
    exact bodyPost_ret (v := .tuple #[.agg (fmV ⟨3, len, t, em⟩), .int .i64 0]) (by simp [results, Try.results15, go_sem, e0, e1, e2, e3]) rfl ⟨rfl, below_set4 HB1.out (by omega) _ _ _ _⟩
end Go.Proofs.Ytmecaioklmkdlaa.Ss

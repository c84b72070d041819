/-
  Layer 8: the reference's copied.
-/
import Derived.Test.YtmecaioklmkdlaaAi
namespace Go.Proofs.Ytmecaioklmkdlaa.Ss
open Go.RowKit
set_option linter.unusedVariables false
set_option linter.unusedSimpArgs false

theorem step_apS {ops : Array Oper} {o : Oper} {a : Act} {K : Act → World → Prop} {Q : Exit → Act → World → Prop} {E : Prop} {w : World} (hgd : o.guard = none) (sl x : Operand)
    (ho : o.op = .call { callee := .builtin .append, args := #[sl, x], argTypes := #[22, 22] }) (base : Nat) (v : Value) (S : List ByteArray) (hs : a.eval sl = v) (hown : OwnS w base v S)
    (ad : Option Addr) (len c : Nat) (T : List ByteArray) (hx : a.eval x = .slice ad len c) (hT : HasS w ad T) (hl : T.length = len) (hn : ad = none → c = 0) (hb : (S.length + len) * 16 ≤ 140737488355328) (hbase : base ≤ w.heap.size)
    (h : ∀ v' w', OwnS w' base v' (S ++ T) → w.grownBy w' v.ownBlock → NewB w v v' → K (a.put o.dst v') w') : if Region.wanted o (yielded ops a.tmps) = true then Oper.wp Try.prog o a w K Q else E := by
  obtain ⟨v', w', hr, h1, h2, h3⟩ := runS w base v S hown o.type ad len c T hT hl hn hb hbase
  exact step_run hgd sl x _ ho hs hx hr (h v' w' h1 h2 h3)
theorem step_apX {ops : Array Oper} {o : Oper} {a : Act} {K : Act → World → Prop} {Q : Exit → Act → World → Prop} {E : Prop} {w : World} (hgd : o.guard = none) (sl x : Operand)
    (ho : o.op = .call { callee := .builtin .append, args := #[sl, x], argTypes := #[37, 37] }) (base : Nat) (v : Value) (S : List Fm) (hs : a.eval sl = v) (hown : OwnX w base v S)
    (ad : Option Addr) (len c : Nat) (T : List Fm) (hx : a.eval x = .slice ad len c) (hT : HasX w ad T) (hl : T.length = len) (hn : ad = none → c = 0) (hb : (S.length + len) * 40 ≤ 140737488355328) (hbase : base ≤ w.heap.size)
    (h : ∀ v' w', OwnX w' base v' (S ++ T) → w.grownBy w' v.ownBlock → NewB w v v' → K (a.put o.dst v') w') : if Region.wanted o (yielded ops a.tmps) = true then Oper.wp Try.prog o a w K Q else E := by
  obtain ⟨v', w', hr, h1, h2, h3⟩ := runX w base v S hown o.type ad len c T hT hl hn hb hbase
  exact step_run hgd sl x _ ho hs hx hr (h v' w' h1 h2 h3)
theorem ownS_lit (w : World) {base : Nat} (h : base ≤ w.heap.size) : OwnS (w.alloc (.cells #[] 9)) base (.slice (some ⟨w.heap.size, 0, none⟩) 0 0) [] := World.ownsRow_made w #[] 0 h (by decide) rfl
theorem ownS_lit_drew (w : World) {base : Nat} (h : base ≤ w.heap.size) : OwnS (w.alloc (.cells #[] 9)).drew base (.slice (some ⟨w.heap.size, 0, none⟩) 0 0) [] := ownS_lit w h
theorem ownX_lit (w : World) {base : Nat} (h : base ≤ w.heap.size) : OwnX (w.alloc (.cells #[] 27)) base (.slice (some ⟨w.heap.size, 0, none⟩) 0 0) [] := World.ownsRow_made w #[] 0 h (by decide) rfl
theorem ownX_lit_drew (w : World) {base : Nat} (h : base ≤ w.heap.size) : OwnX (w.alloc (.cells #[] 27)).drew base (.slice (some ⟨w.heap.size, 0, none⟩) 0 0) [] := ownX_lit w h
theorem below_alloc1 (w : World) (o : Obj) : Below w.heap.size w (w.alloc o) := (Below.refl _ _).alloc (Nat.le_refl _) _
theorem below_alloc1_drew (w : World) (o : Obj) : Below w.heap.size w (w.alloc o).drew := (below_alloc1 w o).drew
set_option maxRecDepth 100000 in
set_option maxHeartbeats 4000000 in
theorem copied_any (a : Option Addr) (len cap : Nat) (s : Sd) (w : World) (hS : HasS w a s.S) (hl : s.S.length = len) (hn : a = none → cap = 0) (hb : len ≤ 256) :
    Calls Try.prog 25 #[.agg #[.slice a len cap, .int .i64 s.t, .int .i64 s.k]] w (SideIt w.heap.size s w) := by
  obtain ⟨S, t, k⟩ := s
  simp only at hS hl
  obtain ⟨N, hN⟩ : ∃ N, N = w.heap.size := ⟨_, rfl⟩
  obtain ⟨x0, y0, b0⟩ := two_new w #[.slice a len cap, .int .i64 t, .int .i64 k] #[.slice none 0 0, .int .i64 0, .int .i64 0] 24 24
  obtain ⟨w0, hw0⟩ : ∃ w0, w0 = (w.alloc (.cells #[.slice a len cap, .int .i64 t, .int .i64 k] 24)).alloc (.cells #[.slice none 0 0, .int .i64 0, .int .i64 0] 24) := ⟨_, rfl⟩
  rw [← hw0] at x0 y0 b0
  have HS0 := Lib.hid (hS.keep b0)
  rw [← hN] at x0 y0 b0
  have HN := Lib.hid hN; have HW0 := Lib.hid hw0; have B0 := Lib.hid b0; have HX := Lib.hid x0; have HY := Lib.hid y0; have HL := Lib.hid hl; have HNC := Lib.hid hn
  have hz0 : N + 2 ≤ w0.heap.size := y0.lt
  clear hN hw0 b0 x0 y0 hS hl hn
  obtain ⟨c0, c1, c2⟩ := agg_cells HX.out
  have HSW : Hid (∀ wx, Below w0.heap.size w0 wx → HasS wx a S) := Lib.hid fun wx h => HS0.out.keep h
  have HK : Hid (∀ wx, Blk wx N #[.slice a len cap, .int .i64 t, .int .i64 k] 24 → wx.cell? ⟨N, 0, none⟩ = some (.slice a len cap) ∧ wx.cell? ⟨N, 1, none⟩ = some (.int .i64 t) ∧ wx.cell? ⟨N, 2, none⟩ = some (.int .i64 k)) := Lib.hid fun wx h => agg_cells h
  have HKD : Hid (Blk w0.drew N #[.slice a len cap, .int .i64 t, .int .i64 k] 24) := Lib.hid HX.out
  have HKA : Hid (∀ o, Blk (w0.alloc o).drew N #[.slice a len cap, .int .i64 t, .int .i64 k] 24) := Lib.hid fun o => by exact Blk.keep (W' := w0.alloc o) HX.out (below_alloc1 _ _)
  have HKA2 : Hid (∀ o, Blk (w0.alloc o) N #[.slice a len cap, .int .i64 t, .int .i64 k] 24) := Lib.hid fun o => by exact Blk.keep (W' := w0.alloc o) HX.out (below_alloc1 _ _)
  have HNE : Hid (N + 1 ≠ N) := Lib.hid (by omega)
  go_enter Try.func25, Try.ntmps25
  go_wp2_with fail
  rw [← HN.out, ← HW0.out]
  go_region_held3 (fun wx => wx.cell? ⟨N, 0, none⟩ = some (.slice a len cap) ∧ wx.cell? ⟨N, 1, none⟩ = some (.int .i64 t) ∧ wx.cell? ⟨N, 2, none⟩ = some (.int .i64 k))
    (first | (with_reducible exact HK.out _ HKD.out) | (with_reducible exact HK.out _ HX.out) | (with_reducible exact HK.out _ (HKA.out _)) | (with_reducible exact HK.out _ (HKA2.out _)) | (with_reducible exact HK.out _ HX1.out) | (with_reducible exact HK.out _ (blk_set3 HX1.out HNE.out _ _ _)))
    (first | (go_must (go_split_ands; refine step_apS (by rfl) (.tmp 3) (.tmp 5) (by rfl) (N + 2) _ [] (by rfl) (by first | exact ownS_lit _ hz0 | exact ownS_lit_drew _ hz0) a len cap S (by rfl) (HSW.out _ (by first | exact below_alloc1 _ _ | exact below_alloc1_drew _ _)) HL.out HNC.out (by simp; omega) (by first | exact Nat.le_trans hz0 (below_alloc1 _ _).size | exact Nat.le_trans hz0 (below_alloc1_drew _ _).size) ?_; intro v1 w1 ho1 hg1 hnb1; rw [List.nil_append] at ho1; obtain ⟨a1, cap1, rfl, -⟩ := ho1.has; have HO1 := Lib.hid ho1; have hba : Below w0.heap.size w0 (w0.alloc (.cells #[] 9)).drew := below_alloc1_drew _ _; have hg2 : (w0.alloc (.cells #[] 9)).drew.grownBy w1 (some w0.heap.size) := hg1; have hne : ∀ g, g < w0.heap.size → some w0.heap.size ≠ some g := (fun g hg e => by have := Option.some.inj e; omega); have HX1 := Lib.hid (Blk.gone (A := (w0.alloc (.cells #[] 9)).drew) (HX.out.keep hba) hg2 (hne _ (by omega))); have HY1 := Lib.hid (Blk.gone (A := (w0.alloc (.cells #[] 9)).drew) (HY.out.keep hba) hg2 (hne _ (by omega))); have HB1 := Lib.hid (Below.grown (B0.out.trans (hba.mono (by omega))) hg2 (by have := hba.size; omega) (fun r hr => by have := Option.some.inj hr; omega)); clear ho1 hg1 hg2 hnb1 hba hne; obtain ⟨d0, d1, d2⟩ := agg_cells HY1.out; have f0 := HY1.out.free 0; have f1 := HY1.out.free 1; have f2 := HY1.out.free 2)) | fail)
  go_wp2
  have hN := HN.out
  obtain ⟨e0, e1, e2⟩ := agg_cells (HY1.out.set3 (.slice a1 S.length cap1) (.int .i64 t) (.int .i64 k))
  refine bodyPost_ret (v := .agg #[.slice a1 S.length cap1, .int .i64 t, .int .i64 k]) (by simp [results, Try.results25, go_sem, e0, e1, e2]) rfl ⟨_, rfl, ?_, ?_⟩
  · exact (HO1.out.set3 (by omega)).low (by omega)
  · rw [← hN]
    exact below_set3 HB1.out (by omega) _ _ _
end Go.Proofs.Ytmecaioklmkdlaa.Ss

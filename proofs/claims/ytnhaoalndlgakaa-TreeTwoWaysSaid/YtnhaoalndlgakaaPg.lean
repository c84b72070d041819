/-
  Layer 10: the law of a range over Above; Depth.
-/
import Derived.Test.YtnhaoalndlgakaaPf
namespace Go.Proofs.Ytnhaoalndlgakaa.Tr
open Go.RowKit Go.Shelf Rf
set_option linter.unusedVariables false
set_option linter.unusedSimpArgs false
attribute [local go_sem] Oper.semAt_some

theorem wp_above {g : Operand} {ps : Array Tmp} {assign body : Code} {Q : Exit → Act → World → Prop} {a : Act} {w : World} (N : Nat) (o : Option It)
    (hg : a.eval g = .func (.func (gfO o)) #[] (lbO o)) (hps : ps.size = 1)
    (I : List Int → World → Prop) (Ix : Code → List Int → World → Prop) (hI : Stands w.heap.size I) (hIx : ∀ c, Stands w.heap.size (Ix c)) (hE : ∀ pre A, I pre A → IsIt A N o) (h0 : I [] w)
    (hround : ∀ (l : Nat) (pre : List Int) (x : Int) (W : World), I pre W → (pre ++ [x]) <+: xsO o → ∀ (K : Act → World → Prop),
      (∀ a', (∀ W', I pre W' → (pre ++ [x]) <+: xsO o → w.heap.size + 1 < W'.heap.size → body.wpIn (Fence.wide.inRound (w.heap.size + 1)) 4 Try.prog (roundEnd w.heap.size (fun _ _ => True) I Ix (pre ++ [x]) W') a' W') → K a' W) →
      assign.wpIn (Fence.wide.inRound l) 4 Try.prog (Exit.then K (fun _ _ _ => False)) { tmps := (ps.zip #[.int .i64 x]).foldl (fun t (p, v) => t.setIfInBounds p v) a.tmps, defers := [] } W)
    (hdone : ∀ (W : World), I (xsO o) W → W.heap[w.heap.size]? = some (.deferred (some [])) → Q .normal { a with defers := { target := .collected w.heap.size, args := #[] } :: a.defers } W)
    (hstop : ∀ (c : Code) (pre : List Int) (W : World), Ix c pre W → W.heap[w.heap.size]? = some (.deferred (some [])) → c.wp Try.prog Q { a with defers := { target := .collected w.heap.size, args := #[] } :: a.defers } W) :
    (Code.rangeFunc g ps assign body).wp Try.prog Q a w := by
  cases o with
  | none =>
    refine wp_range (gf := 19) (lb := #[]) (encs := fun x : Int => #[.int .i64 x]) hg (enters_of Try.func19 (by kernel_rfl) rfl) (fun _ => hps.symm) (fun xs => xs = []) (fun _ => True) (fun pre x _ => (pre ++ [x]) <+: xsO none)
      (fun _ _ _ _ h _ _ => h) I Ix hI hIx h0 ?_ hround (fun xs W hS h1 h2 => by subst hS; exact hdone W h1 h2) (fun c pre W _ h => hstop c pre W h)
    intro Rd Dn _ _ _ W1 hI1 hR1 _ _
    refine (none_iter 5 (w.heap.size + 1) (by decide) W1).mono ?_
    rintro e W' ⟨hv, rfl⟩
    exact ⟨hv, .inl ⟨[], rfl, hI1, hR1⟩⟩
  | some i =>
    refine wp_range (gf := 21) (lb := #[.pointer (some ⟨i.p, 0, none⟩), .pointer (some ⟨i.q, 0, none⟩)]) (encs := fun x : Int => #[.int .i64 x]) hg (enters_of Try.func21 (by kernel_rfl) rfl) (fun _ => hps.symm) (fun xs => xs = pth i.z i.n) (fun _ => True) (fun pre x _ => (pre ++ [x]) <+: pth i.z i.n)
      (fun _ _ _ _ h _ _ => h) I Ix hI hIx h0 ?_ hround (fun xs W hS h1 h2 => by subst hS; exact hdone W h1 h2) (fun c pre W _ h => hstop c pre W h)
    intro Rd Dn hRd hDn hRs W1 hI1 hR1 hb1 hY
    refine (path_iter 5 (w.heap.size + 1) (by decide) N i (fun pre W => I pre W ∧ Rd W) (fun pre W => ∃ c, Ix c pre W ∧ Dn c W) (fun pre A h => hE pre A h.1) ?_ W1 ⟨hI1, hR1⟩).mono ?_
    · rintro m pre x A ⟨h1, h2⟩ hpre
      refine yield_any (m := 4) ?_
      obtain ⟨fn, tm, asg, bd, hy, hR⟩ := hY pre x A h1 h2 hpre
      refine ⟨fn, tm, asg, bd, hy, hR.mono ?_⟩
      rintro e W' (⟨h, q1, q2⟩ | ⟨h, q⟩)
      · exact .inl ⟨h, q1, q2⟩
      · exact .inr ⟨h, q⟩
    · rintro e W' ⟨hv, (⟨h2, h3⟩ | ⟨pre, c, h1, h2⟩)⟩
      · exact ⟨hv, .inl ⟨_, rfl, h2, h3⟩⟩
      · exact ⟨hv, .inr ⟨pre, c, trivial, h1, h2⟩⟩

/-! ### Leaving with marks -/
theorem marks_nil (W : World) : Marks [] W := ⟨List.Pairwise.nil, fun d hd => by cases hd⟩
theorem grown_up {A B C : World} {b row : Option Nat} (h : A.grownBy B b) (hg : B.grownBy C row) (hr : ∀ r, row = some r → A.heap.size ≤ r) : A.grownBy C b :=
  ⟨hg.os.trans h.os, hg.tape.trans h.tape, hg.output.trans h.output, Nat.le_trans h.size hg.size, fun k hk hb => by
    rw [hg.block k (Nat.lt_of_lt_of_le hk h.size) (fun e => by have := hr k e.symm; omega), h.block k hk hb]⟩
theorem grown_refl (A : World) (b : Option Nat) : A.grownBy A b := ⟨rfl, rfl, rfl, Nat.le_refl _, fun _ _ _ => rfl⟩
theorem grown_box {A B C : World} {g : Nat} (h : A.grownBy B (some g)) (hg : B.grownBy C (some g)) : A.grownBy C (some g) :=
  ⟨hg.os.trans h.os, hg.tape.trans h.tape, hg.output.trans h.output, Nat.le_trans h.size hg.size, fun k hk hb => by
    rw [hg.block k (Nat.lt_of_lt_of_le hk h.size) hb, h.block k hk hb]⟩
theorem grown_below {N : Nat} {w A B : World} {g : Nat} (hb : Below N w A) (hN : N ≤ A.heap.size) (hg : N ≤ g) (h : A.grownBy B (some g)) : Below N w B := hb.trans ((Below.refl _ _).grown h hN fun k hk => by have := Option.some.inj hk; omega)
/-- What a loop over a function with one box of its own keeps. -/
def InBox (A : World) (g : Nat) (T : TypeId) (f : List Int → Value) (pre : List Int) (W : World) : Prop := A.grownBy W (some g) ∧ Bx W g (f pre) T
theorem InBox.stands {A : World} {g : Nat} {T : TypeId} {f : List Int → Value} (hg : g < A.heap.size) : Stands A.heap.size (InBox A g T f) := by
  rintro pre B C row ⟨h1, h2⟩ h3 hr
  refine ⟨grown_up h1 h3 fun r e => ?_, h2.gone h3 fun e => ?_⟩
  · rcases hr with hr | hr | hr <;> rw [hr] at e <;> cases e <;> omega
  · rcases hr with hr | hr | hr <;> rw [hr] at e <;> cases e <;> omega
theorem InBox.it {A W : World} {g N : Nat} {T : TypeId} {f : List Int → Value} {pre : List Int} {o : Option It} (h : InBox A g T f pre W) (hi : IsIt A N o) (hg : g < N) : IsIt W N o := hi.kept h.1 fun r e => .inl (by have := Option.some.inj e; omega)
theorem xsO_of {o : Option It} {z : List Int} {v : Int} (h : xsO o = aboveS z v) : (xsO o).length ≤ 16 := by rw [h]; exact above_len z v
theorem pre_lt {xs pre : List Int} {x : Int} (h : (pre ++ [x]) <+: xs) : pre.length < xs.length := by
  have := h.length_le
  rw [List.length_append, List.length_singleton] at this
  omega
theorem ends_box {D g : Nat} {W : World} {v : Value} (hg : g < D) : (W.setCell ⟨g, 0, none⟩ v).heap[D]? = W.heap[D]? ∧ (W.setCell ⟨g, 0, none⟩ v).heap[D + 1]? = W.heap[D + 1]? :=
  ⟨Below.heap_setCell _ _ _ _ (by simp; omega), Below.heap_setCell _ _ _ _ (by simp; omega)⟩

set_option maxRecDepth 100000 in
set_option maxHeartbeats 4000000 in
theorem depth_any (a : Option Addr) (len cap : Nat) (z : List Int) (v : Int) (w : World) (h : HasZ w a z) (hl : z.length = len) (hn : a = none → cap = 0) :
    Calls Try.prog 14 #[.slice a len cap, .int .i64 v] w fun e w' => e = .returned (.int .i64 ((aboveS z v).length : Int)) ∧ Below w.heap.size w w' := by
  obtain ⟨D, hD⟩ : ∃ D, D = w.heap.size := ⟨_, rfl⟩
  obtain ⟨W0, hW0⟩ : ∃ W0, W0 = w.alloc (.cells #[.int .i64 0] 3) := ⟨_, rfl⟩
  have b0 : Below D w W0 := by rw [hW0, hD]; exact one_alloc _ _
  have x0 : Bx W0 D (.int .i64 0) 3 := by rw [hW0, hD]; exact Bx.new w _ _
  have ha := above_any a len cap z v W0 (h.keep (by rw [← hD]; exact b0)) hl hn
  have hxl := above_len z v
  have HA := Lib.hid ha; have HD := Lib.hid hD; have HW0 := Lib.hid hW0; have HB0 := Lib.hid b0; have HX0 := Lib.hid x0
  have hz0 : D + 1 ≤ W0.heap.size := x0.lt
  clear h hl hn ha hD hW0 b0 x0
  refine calls_marks Try.func14 rfl ?_
  simp only [Try.ntmps14, List.size_toArray, List.length_cons, List.length_nil, Nat.reduceAdd, Nat.reduceSub, Array.replicate_succ, Array.replicate_zero, List.push_toArray, List.append_toArray, List.nil_append, List.cons_append]
  rw [← HD.out]
  go_wp2_with fail
  rw [← HD.out, ← HW0.out]
  refine HA.out.mono ?_
  rintro e w1 ⟨o, rfl, hit, hxs, hb⟩
  have HB1 := Lib.hid (HB0.out.trans (hb.mono (by omega))); have HX1 := Lib.hid (HX0.out.keep hb); have HI1 := Lib.hid hit; have HXS := Lib.hid hxs
  have hz1 : D + 1 ≤ w1.heap.size := HX1.out.lt
  have hz2 := hb.size
  clear hb hit hxs HA HW0 HB0 HX0
  go_wp2_with fail
  refine wp_above W0.heap.size o rfl rfl (InBox w1 D 3 fun pre => .int .i64 (pre.length : Int)) (fun _ _ _ => False) (InBox.stands (by omega)) (fun _ _ _ _ _ h _ _ => h) (fun pre A h => h.it HI1.out (by omega)) ⟨grown_refl _ _, HX1.out⟩ ?_ ?_ ?_
  · rintro l pre x W _ hpre Kr hKr
    gi_wp2
    rintro W' ⟨hi1, hi2⟩ hok hlt
    have i0 := pre_lt hok
    rw [HXS.out] at i0
    have n0 := hi2.cell; have n1 := hi2.free
    have HI2 := Lib.hid hi2; have HG2 := Lib.hid hi1
    clear hi1 hi2 hok hpre
    gi_wp2
    refine ⟨ends_box (by omega), trivial, grown_box HG2.out (set_grown _ _ _ _), ?_⟩
    show Bx _ D (.int .i64 ((pre ++ [x]).length : Int)) 3
    rw [List.length_append, List.length_singleton]
    exact HI2.out.set _
  · rintro W7 ⟨hi1, hi2⟩ hK
    have n0 := hi2.cell
    rw [HXS.out] at n0
    have HG := Lib.hid hi1; have HK := Lib.hid hK
    clear hi1 hi2 hK
    go_wp2
    refine leaves_marks _ _ ⟨by simp, fun d hd => ?_⟩ fun W' hs => ⟨_, results_tmp rfl _ _ _, rfl, ?_⟩
    · simp only [List.mem_cons, List.not_mem_nil, or_false] at hd
      subst hd
      exact ⟨_, rfl, HK.out⟩
    · have hB := grown_below HB1.out (by omega) (Nat.le_refl _) HG.out
      refine ⟨hs.os.trans hB.os, hs.tape.trans hB.tape, hs.output.trans hB.output, by rw [hs.size]; exact hB.size, fun k hk => ?_⟩
      rw [hs.block k fun d hd e => by
        simp only [List.mem_cons, List.not_mem_nil, or_false] at hd
        subst hd
        have : w1.heap.size = k := by injection e
        omega]
      exact hB.block k hk
  · rintro c pre W7 h _
    exact h.elim
end Go.Proofs.Ytnhaoalndlgakaa.Tr

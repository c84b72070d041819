/-
  A range over a function (as in To), where what is handed over lies in memory; what a function that holds several such loops leaves with. No program is imported.
-/
import Derived.Test.YtbnihoimhfcjiaaDoorTo
namespace Go.Proofs.YtbnihoimhfcjiaaDoor.Rf
open Go Go.RowKit
set_option linter.unusedVariables false

theorem wpIn_range2 {F : Fence} {n : Nat} {P : Program} {α : Type} {g : Operand} {ps : Array Tmp} {assign body : Code} {Q : Exit → Act → World → Prop} {a : Act} {w : World}
    (hro : F.round = none) (h1 : 1 ≤ n) {gf : Nat} {lb : Array Value} (hg : a.eval g = .func (.func gf) #[] lb) (hFg : F.fn gf) (eg : ∀ args w, (callFunc gf args).run P w = .ok (.enter gf args) w)
    {encs : α → Array Value} (hps : ∀ x, (encs x).size = ps.size) (Kp : World → World → Prop) (hKt : ∀ {A B C : World}, Kp A B → Kp B C → Kp A C) (hKb : ∀ (W : World) (o : Obj), w.heap.size + 1 < W.heap.size → Kp W (W.putObj (w.heap.size + 1) o))
    (S Sp : List α → Prop) (Ok : List α → α → World → Prop) (hOk : Stands w.heap.size (fun (s : List α × α) W => Ok s.1 s.2 W)) (I : List α → World → Prop) (Ix : Code → List α → World → Prop) (hI : Stands w.heap.size I) (hIx : ∀ c, Stands w.heap.size (Ix c)) (h0 : I [] w)
    (hit : ∀ (Rd : World → Prop) (Dn : Code → World → Prop), Bound w.heap.size Rd → (∀ c, Bound w.heap.size (Dn c)) → (∀ W, Rd W → w.heap.size + 2 ≤ W.heap.size) → ∀ W1, I [] W1 → Rd W1 → Below w.heap.size w W1 →
      (∀ pre x W2, I pre W2 → Rd W2 → Ok pre x W2 → YieldAt F (n - 1 - 1) P (w.heap.size + 1) (encs x) W2 fun e W' =>
        (e = .returned (.bool true) ∧ I (pre ++ [x]) W' ∧ Rd W' ∧ Kp W2 W') ∨ (e = .returned (.bool false) ∧ ∃ c, Ix c (pre ++ [x]) W' ∧ Dn c W')) →
      CallsIn F (n - 1) P gf (#[.func (.yield (w.heap.size + 1)) #[] #[]] ++ lb) W1 fun e W' => (∃ v, e = .returned v) ∧ ((∃ xs, S xs ∧ I xs W' ∧ Rd W') ∨ (∃ pre c, Sp pre ∧ Ix c pre W' ∧ Dn c W')))
    (hround : ∀ (l : Nat) (pre : List α) (x : α) (W : World), I pre W → Ok pre x W → ∀ (K : Act → World → Prop),
      (∀ a', (∀ W', I pre W' → Ok pre x W' → w.heap.size + 1 < W'.heap.size → body.wpIn (F.inRound (w.heap.size + 1)) (n - 1 - 1) P (roundEnd w.heap.size Kp I Ix (pre ++ [x]) W') a' W') → K a' W) →
      assign.wpIn (F.inRound l) (n - 1 - 1) P (Exit.then K (fun _ _ _ => False)) { tmps := (ps.zip (encs x)).foldl (fun t (p, v) => t.setIfInBounds p v) a.tmps, defers := [] } W)
    (hdone : ∀ (xs : List α) (W : World), S xs → I xs W → W.heap[w.heap.size]? = some (.deferred (some [])) → Q .normal { a with defers := { target := .collected w.heap.size, args := #[] } :: a.defers } W)
    (hstop : ∀ (c : Code) (pre : List α) (W : World), Sp pre → Ix c pre W → W.heap[w.heap.size]? = some (.deferred (some [])) → c.wpIn F n P Q { a with defers := { target := .collected w.heap.size, args := #[] } :: a.defers } W) :
    (Code.rangeFunc g ps assign body).wpIn F n P Q a w := by
  refine wpIn_rangeFunc ?_
  intro fn hfn
  rw [hro]
  obtain ⟨rec, hrec⟩ : ∃ rec : LoopState → Option Code → Loop, rec = fun st pe => { state := st, pending := pe, fn, tmps := a.tmps, params := ps, assign, body, defers := w.heap.size } := ⟨_, rfl⟩
  obtain ⟨W1, hW1⟩ : ∃ W1, (w.alloc (.deferred (some []))).alloc (.loop (rec .ready none)) = W1 := ⟨_, rfl⟩
  have hL1 : W1.heap[w.heap.size + 1]? = some (.loop (rec .ready none)) := by
    rw [← hW1]; have := World.alloc_heap_new (w.alloc (.deferred (some []))) (.loop (rec .ready none)); rwa [World.size_alloc] at this
  have hK1 : W1.heap[w.heap.size]? = some (.deferred (some [])) := by
    rw [← hW1]; exact (Below.heap_alloc _ _ _ (by simp)).trans (World.alloc_heap_new w _)
  have hI1 : I [] W1 := by rw [← hW1]; exact hI _ _ _ none (hI _ _ _ none h0 (World.grownBy_alloc w _ none) (.inl rfl)) (World.grownBy_alloc _ _ none) (.inl rfl)
  have hb1 : Below w.heap.size w W1 := by rw [← hW1]; exact ((Below.refl _ w).alloc (Nat.le_refl _) _).alloc (by simp) _
  have put : ∀ {β : Type} {J : β → World → Prop} {s : β} {W : World} (o : Obj), Stands w.heap.size J → J s W → J s (W.putObj (w.heap.size + 1) o) := fun o hJ hs => hJ _ _ _ _ hs (grownBy_putObj' _ _ o) (.inr (.inr rfl))
  refine ⟨w.heap.size + 1, [{ target := .collected w.heap.size, args := #[] }], W1, { target := .fn (.func gf) lb, args := #[.func (.yield (w.heap.size + 1)) #[] #[]] }, W1, gf,
    #[.func (.yield (w.heap.size + 1)) #[] #[]] ++ lb, W1, ?_, ?_, ?_, ?_, fun _ => h1, ?_⟩
  · rw [← hW1, hrec]; exact run_enterLoop_outer _ _ _ _ _
  · simp only [resolve, hg]
    simp [go_sem]
  · intro f' hf'; simp [Target.leads] at hf'; subst hf'; exact hFg
  · simp [invoke, go_sem, eg]
  · refine (hit (fun W => W.heap[w.heap.size + 1]? = some (.loop (rec .ready none)) ∧ W.heap[w.heap.size]? = some (.deferred (some [])))
      (fun c W => W.heap[w.heap.size + 1]? = some (.loop (rec .done (some c))) ∧ W.heap[w.heap.size]? = some (.deferred (some [])))
      (fun A B row h hgr h2 h3 => ⟨(hgr.block _ (Array.getElem?_eq_some_iff.1 h.1).1 (fun e => h3 e.symm)).trans h.1, (hgr.block _ (Array.getElem?_eq_some_iff.1 h.2).1 (fun e => h2 e.symm)).trans h.2⟩)
      (fun c A B row h hgr h2 h3 => ⟨(hgr.block _ (Array.getElem?_eq_some_iff.1 h.1).1 (fun e => h3 e.symm)).trans h.1, (hgr.block _ (Array.getElem?_eq_some_iff.1 h.2).1 (fun e => h2 e.symm)).trans h.2⟩)
      (fun W h => by have := (Array.getElem?_eq_some_iff.1 h.1).1; omega) W1 hI1 ⟨hL1, hK1⟩ hb1 ?_).mono ?_
    · rintro pre x W hi ⟨hl, hk⟩ hok
      have hlt : w.heap.size + 1 < W.heap.size := (Array.getElem?_eq_some_iff.1 hl).1
      have hy := run_yield (P := P) (args := encs x) hl (by rw [hrec]; exact hps x)
      rw [hrec] at hy
      refine ⟨fn, _, assign, body, hy, roundIn_of_wpIn hfn (hround _ pre x W hi hok _ fun a' hbody => ⟨_, run_beginRound hl (by rw [hrec]), ?_⟩)⟩
      have hl2 : (W.putObj (w.heap.size + 1) (.loop { rec .ready none with state := .busy })).heap[w.heap.size + 1]? = some (.loop { rec .ready none with state := .busy }) := World.putObj_heap_same hlt
      have hk2 : (W.putObj (w.heap.size + 1) (.loop { rec .ready none with state := .busy })).heap[w.heap.size]? = some (.deferred (some [])) := (World.putObj_heap_other (by omega)).trans hk
      have hw2 : Kp W (W.putObj (w.heap.size + 1) (.loop { rec .ready none with state := .busy })) := hKb _ _ hlt
      refine wpIn_mono (hbody _ (put _ hI hi) (put (J := fun (s : List α × α) W => Ok s.1 s.2 W) (s := (pre, x)) _ hOk hok) (by rw [World.putObj_size]; exact hlt)) ?_
      have fin : ∀ (jump : Option Code) (W3 : World), W3.heap[w.heap.size]? = (W.putObj (w.heap.size + 1) (.loop { rec .ready none with state := .busy })).heap[w.heap.size]? →
          W3.heap[w.heap.size + 1]? = (W.putObj (w.heap.size + 1) (.loop { rec .ready none with state := .busy })).heap[w.heap.size + 1]? →
          (Instr.endRound (w.heap.size + 1) jump).run P W3 = .ok (.bool jump.isNone) (W3.putObj (w.heap.size + 1) (.loop (rec (if jump.isNone then .ready else .done) jump))) ∧
          w.heap.size + 1 < W3.heap.size ∧
          (W3.putObj (w.heap.size + 1) (.loop (rec (if jump.isNone then .ready else .done) jump))).heap[w.heap.size + 1]? = some (.loop (rec (if jump.isNone then .ready else .done) jump)) ∧
          (W3.putObj (w.heap.size + 1) (.loop (rec (if jump.isNone then .ready else .done) jump))).heap[w.heap.size]? = some (.deferred (some [])) := fun jump W3 e1 e2 => by
        have hl3 := e2.trans hl2
        have := run_endRound (P := P) jump hl3
        rw [hrec] at this ⊢
        have hlt3 := (Array.getElem?_eq_some_iff.1 hl3).1
        exact ⟨this, hlt3, World.putObj_heap_same hlt3, (World.putObj_heap_other (by omega)).trans (e1.trans hk2)⟩
      rintro e a3 W3 hp
      cases e with
      | normal =>
        obtain ⟨⟨e1, e2⟩, hkp3, hi3⟩ := hp
        obtain ⟨hr, hlt3, hl4, hk4⟩ := fin none W3 e1 e2
        exact ⟨_, _, hr, .inl ⟨rfl, put _ hI hi3, ⟨hl4, hk4⟩, hKt (hKt hw2 hkp3) (hKb _ _ hlt3)⟩⟩
      | ret =>
        obtain ⟨⟨e1, e2⟩, hi3⟩ := hp
        obtain ⟨hr, hlt3, hl4, hk4⟩ := fin (some .ret) W3 e1 e2
        exact ⟨_, _, hr, .inr ⟨rfl, .ret, put _ (hIx _) hi3, hl4, hk4⟩⟩
      | exit id =>
        obtain ⟨⟨e1, e2⟩, hi3⟩ := hp
        obtain ⟨hr, hlt3, hl4, hk4⟩ := fin (some (.exit id)) W3 e1 e2
        exact ⟨_, _, hr, .inr ⟨rfl, .exit id, put _ (hIx _) hi3, hl4, hk4⟩⟩
      | goto t =>
        obtain ⟨⟨e1, e2⟩, hi3⟩ := hp
        obtain ⟨hr, hlt3, hl4, hk4⟩ := fin (some (.goto t)) W3 e1 e2
        exact ⟨_, _, hr, .inr ⟨rfl, .goto t, put _ (hIx _) hi3, hl4, hk4⟩⟩
      | panic ch => exact hp.elim
      | outgrown => exact hp.elim
    · rintro e W2 ⟨⟨v, rfl⟩, (⟨xs, hS, hi, hl, hk⟩ | ⟨pre, c, hSp, hi, hl, hk⟩)⟩
      · exact ⟨none, _, by have := run_endLoop (P := P) hl (by rw [hrec]; simp); rw [hrec] at this; exact this, hdone xs _ hS (put _ hI hi) ((World.putObj_heap_other (by omega)).trans hk)⟩
      · exact ⟨some c, _, by have := run_endLoop (P := P) hl (by rw [hrec]; simp); rw [hrec] at this; exact this, hstop c pre _ hSp (put _ (hIx c) hi) ((World.putObj_heap_other (by omega)).trans hk)⟩
/-- The same outside of any fence. -/
theorem wp_range {P : Program} {α : Type} {g : Operand} {ps : Array Tmp} {assign body : Code} {Q : Exit → Act → World → Prop} {a : Act} {w : World}
    {gf : Nat} {lb : Array Value} (hg : a.eval g = .func (.func gf) #[] lb) (eg : ∀ args w, (callFunc gf args).run P w = .ok (.enter gf args) w)
    {encs : α → Array Value} (hps : ∀ x, (encs x).size = ps.size)
    (S Sp : List α → Prop) (Ok : List α → α → World → Prop) (hOk : Stands w.heap.size (fun (s : List α × α) W => Ok s.1 s.2 W)) (I : List α → World → Prop) (Ix : Code → List α → World → Prop) (hI : Stands w.heap.size I) (hIx : ∀ c, Stands w.heap.size (Ix c)) (h0 : I [] w)
    (hit : ∀ (Rd : World → Prop) (Dn : Code → World → Prop), Bound w.heap.size Rd → (∀ c, Bound w.heap.size (Dn c)) → (∀ W, Rd W → w.heap.size + 2 ≤ W.heap.size) → ∀ W1, I [] W1 → Rd W1 → Below w.heap.size w W1 →
      (∀ pre x W2, I pre W2 → Rd W2 → Ok pre x W2 → YieldAt Fence.wide 4 P (w.heap.size + 1) (encs x) W2 fun e W' =>
        (e = .returned (.bool true) ∧ I (pre ++ [x]) W' ∧ Rd W') ∨ (e = .returned (.bool false) ∧ ∃ c, Ix c (pre ++ [x]) W' ∧ Dn c W')) →
      CallsIn Fence.wide 5 P gf (#[.func (.yield (w.heap.size + 1)) #[] #[]] ++ lb) W1 fun e W' => (∃ v, e = .returned v) ∧ ((∃ xs, S xs ∧ I xs W' ∧ Rd W') ∨ (∃ pre c, Sp pre ∧ Ix c pre W' ∧ Dn c W')))
    (hround : ∀ (l : Nat) (pre : List α) (x : α) (W : World), I pre W → Ok pre x W → ∀ (K : Act → World → Prop),
      (∀ a', (∀ W', I pre W' → Ok pre x W' → w.heap.size + 1 < W'.heap.size → body.wpIn (Fence.wide.inRound (w.heap.size + 1)) 4 P (roundEnd w.heap.size (fun _ _ => True) I Ix (pre ++ [x]) W') a' W') → K a' W) →
      assign.wpIn (Fence.wide.inRound l) 4 P (Exit.then K (fun _ _ _ => False)) { tmps := (ps.zip (encs x)).foldl (fun t (p, v) => t.setIfInBounds p v) a.tmps, defers := [] } W)
    (hdone : ∀ (xs : List α) (W : World), S xs → I xs W → W.heap[w.heap.size]? = some (.deferred (some [])) → Q .normal { a with defers := { target := .collected w.heap.size, args := #[] } :: a.defers } W)
    (hstop : ∀ (c : Code) (pre : List α) (W : World), Sp pre → Ix c pre W → W.heap[w.heap.size]? = some (.deferred (some [])) → c.wp P Q { a with defers := { target := .collected w.heap.size, args := #[] } :: a.defers } W) :
    (Code.rangeFunc g ps assign body).wp P Q a w :=
  wpIn_wide.1 (wpIn_range2 (F := Fence.wide) (n := 6) rfl (by decide) hg trivial eg hps (fun _ _ => True) (fun _ _ => trivial) (fun _ _ _ => trivial) S Sp Ok hOk I Ix hI hIx h0
    (fun Rd Dn h1 h2 h3 W1 h4 h5 h6 hY => hit Rd Dn h1 h2 h3 W1 h4 h5 h6 fun pre x W2 g1 g2 g3 =>
      let ⟨fn, tm, as, bd, hy, hR⟩ := hY pre x W2 g1 g2 g3
      ⟨fn, tm, as, bd, hy, hR.mono fun e W' h => h.imp (fun ⟨q1, q2, q3, _⟩ => ⟨q1, q2, q3⟩) id⟩)
    hround hdone (fun c pre W h1 h2 h3 => wpIn_wide.2 (hstop c pre W h1 h2 h3)))
/-- What a body must achieve that holds such loops and does not panic. -/
def retM (P : Program) (fn : Func) (R : Ending → World → Prop) : Exit → Act → World → Prop
  | .normal, a, w => LeavesInM Fence.wide 6 P fn a.tmps R a.defers .returning w
  | .ret, a, w => LeavesInM Fence.wide 6 P fn a.tmps R a.defers .returning w
  | _, _, _ => False
theorem calls_marks {P : Program} {f : FuncId} {fn : Func} {c : Code} {args : Array Value} {w : World} {R : Ending → World → Prop} (hf : P.funcs[f]? = some fn) (hb : fn.body = some c)
    (h : c.wp P (retM P fn R) { tmps := args ++ Array.replicate (fn.ntmps - args.size) undef, defers := [] } w) : Calls P f args w R := by
  refine (callsIn_wide (n := 6)).1 (callsIn_of_wp_marks hf hb trivial (wpIn_wide.2 (Code.wp_mono ?_ h)))
  intro e a w hq
  cases e with
  | normal => exact hq
  | ret => exact hq
  | _ => exact hq.elim
/-- Marks of loops that are over: their blocks, none twice. -/
def Marks (ds : List Deferred) (W : World) : Prop := ds.Pairwise (fun d e => d.target ≠ e.target) ∧ ∀ d ∈ ds, ∃ r, d.target = .collected r ∧ W.heap[r]? = some (.deferred (some []))
/-- What differs at the marks' blocks at most. -/
structure Shut (ds : List Deferred) (A B : World) : Prop where
  os : B.os = A.os
  tape : B.tape = A.tape
  output : B.output = A.output
  size : B.heap.size = A.heap.size
  block : ∀ k, (∀ d ∈ ds, d.target ≠ .collected k) → B.heap[k]? = A.heap[k]?
theorem leaves_marks {F : Fence} {n : Nat} {P : Program} {fn : Func} {tmps : Array Value} {R : Ending → World → Prop} : ∀ (ds : List Deferred) (W : World), Marks ds W →
    (∀ W', Shut ds W W' → ∃ v, (results fn tmps).run P W' = .ok v W' ∧ R (.returned v) W') → LeavesInM F n P fn tmps R ds .returning W
  | [], W, _, h => h W ⟨rfl, rfl, rfl, rfl, fun _ _ => rfl⟩
  | d :: ds, W, hm, h => by
    obtain ⟨hp, hb⟩ := hm
    rw [List.pairwise_cons] at hp
    obtain ⟨r, ht, hr⟩ := hb d (by simp)
    refine ⟨by simp, .inl ⟨r, _, ht, run_takeDeferred hr, ?_⟩⟩
    have hlt : r < W.heap.size := (Array.getElem?_eq_some_iff.1 hr).1
    refine leaves_marks ds _ ⟨hp.2, fun e he => ?_⟩ fun W' hs => h W' ?_
    · obtain ⟨q, hq, hqr⟩ := hb e (List.mem_cons_of_mem _ he)
      refine ⟨q, hq, ?_⟩
      rw [World.putObj_heap_other (fun e2 => ?_)]
      · exact hqr
      · subst e2; exact hp.1 e he (by rw [ht, hq])
    · refine ⟨hs.os, hs.tape, hs.output, by rw [hs.size, World.putObj_size], fun k hk => ?_⟩
      rw [hs.block k (fun e he => hk e (List.mem_cons_of_mem _ he))]
      exact World.putObj_heap_other (fun e2 => by subst e2; exact hk d (by simp) ht)
end Go.Proofs.YtbnihoimhfcjiaaDoor.Rf

/-
  Layer 7: the law of a range over the program's Frames; the reference's Frames.
-/
import Derived.Test.YtjgkjmegpinelaaDoorUk
import Derived.Test.YtjgkjmegpinelaaDoorUh
namespace Go.Proofs.YtjgkjmegpinelaaDoor.Tg
open Go.RowKit Go.Shelf Dx Sx Rf
set_option linter.unusedVariables false
set_option linter.unusedSimpArgs false

theorem grown_of_below {A B : World} (h : Below A.heap.size A B) (row : Option Nat) : A.grownBy B row := ⟨h.os, h.tape, h.output, h.size, fun k hk _ => h.block k hk⟩
/-- What lies in memory for one that is handed over. -/
def ItmOk (D : Nat) (b : List UInt8) (pre : List Itm) (x : Itm) (W : World) : Prop := (pre ++ [x]).map Prod.snd <+: (framesS b).1 ∧ ∃ base, D + 2 ≤ base ∧ OwnF W base x.1 x.2.1
theorem wp_frames {g : Operand} {ps : Array Tmp} {assign body : Code} {Q : Exit → Act → World → Prop} {a : Act} {w : World} (p : Nat) (a0 : Option Addr) (len cap : Nat) (b : List UInt8)
    (hg : a.eval g = .func (.func 34) #[] #[.pointer (some ⟨p, 0, none⟩)]) (hps : ps.size = 2) (hl : b.length = len) (hcap : len ≤ cap) (hm : len ≤ 1048576)
    (hp : w.heap[p]? = some (.cells #[.slice a0 len cap] 25 (0, 0)))
    (I : List Itm → World → Prop) (Ix : Code → List Itm → World → Prop) (hI : Stands w.heap.size I) (hIx : ∀ c, Stands w.heap.size (Ix c)) (hE : ∀ pre A, I pre A → Env A ∧ HasL A a0 b) (h0 : I [] w)
    (hround : ∀ (l : Nat) (pre : List Itm) (x : Itm) (W : World), I pre W → ItmOk w.heap.size b pre x W → ∀ (K : Act → World → Prop),
      (∀ a', (∀ W', I pre W' → ItmOk w.heap.size b pre x W' → w.heap.size + 1 < W'.heap.size → body.wpIn (Fence.wide.inRound (w.heap.size + 1)) 4 Tryd.prog (roundEnd w.heap.size (fun _ _ => True) I Ix (pre ++ [x]) W') a' W') → K a' W) →
      assign.wpIn (Fence.wide.inRound l) 4 Tryd.prog (Exit.then K (fun _ _ _ => False)) { tmps := (ps.zip #[x.1, .int .i64 x.2.2]).foldl (fun t (p, v) => t.setIfInBounds p v) a.tmps, defers := [] } W)
    (hdone : ∀ (xs : List Itm) (W : World), xs.map Prod.snd = (framesS b).1 → I xs W → W.heap[w.heap.size]? = some (.deferred (some [])) → Q .normal { a with defers := { target := .collected w.heap.size, args := #[] } :: a.defers } W)
    (hstop : ∀ (c : Code) (pre : List Itm) (W : World), Ix c pre W → W.heap[w.heap.size]? = some (.deferred (some [])) → c.wp Tryd.prog Q { a with defers := { target := .collected w.heap.size, args := #[] } :: a.defers } W) :
    (Code.rangeFunc g ps assign body).wp Tryd.prog Q a w := by
  refine wp_range (encs := fun x : Itm => #[x.1, .int .i64 x.2.2]) hg (enters_of Tryd.func34 (by kernel_rfl) rfl) (fun _ => hps.symm) (fun xs => xs.map Prod.snd = (framesS b).1) (fun _ => True) (ItmOk w.heap.size b) ?_ I Ix hI hIx h0 ?_ hround hdone (fun c pre W _ h => hstop c pre W h)
  · rintro ⟨pre, x⟩ A B row ⟨h1, base, h2, h3⟩ hgr hr
    exact ⟨h1, base, h2, h3.kept hgr (fun r e => by rcases hr with hr | hr | hr <;> rw [hr] at e <;> cases e <;> omega)⟩
  · intro Rd Dn hRd hDn hRs W1 hI1 hR1 hb1 hY
    refine (frames_iter 5 (w.heap.size + 1) p (by decide) a0 len cap b hl hcap hm (fun pre W => I pre W ∧ Rd W) (fun pre W => ∃ c, Ix c pre W ∧ Dn c W) ?_ ?_ ?_ W1 ((hb1.block p (Array.getElem?_eq_some_iff.1 hp).1).trans hp) ⟨hI1, hR1⟩).mono ?_
    · rintro pre A B ⟨h1, h2⟩ h
      exact ⟨hI _ _ _ none h1 (grown_of_below h _) (.inl rfl), hRd _ _ none h2 (grown_of_below h _) (by simp) (by simp)⟩
    · rintro pre A ⟨h1, _⟩
      exact hE pre A h1
    · rintro m pre x A W2 ⟨h1, h2⟩ hb ho hpre
      refine yield_any (m := 4) ?_
      obtain ⟨fn, tm, asg, bd, hy, hR⟩ := hY pre x W2 (hI _ _ _ none h1 (grown_of_below hb _) (.inl rfl)) (hRd _ _ none h2 (grown_of_below hb _) (by simp) (by simp)) ⟨hpre, A.heap.size, hRs A h2, ho⟩
      refine ⟨fn, tm, asg, bd, hy, hR.mono ?_⟩
      rintro e W' (⟨h, q1, q2⟩ | ⟨h, q⟩)
      · exact .inl ⟨h, q1, q2⟩
      · exact .inr ⟨h, q⟩
    · rintro e W' ⟨hv, (⟨xs, h1, h2, h3⟩ | ⟨pre, c, h1, h2⟩)⟩
      · exact ⟨hv, .inl ⟨xs, h1, h2, h3⟩⟩
      · exact ⟨hv, .inr ⟨pre, c, trivial, h1, h2⟩⟩

/-! ### The reference's Frames -/
def cellsI (x : Itm) : List Value := [x.1, .int .i64 x.2.2]
/-- Items of the call's own: the row, and each one's fields. -/
def OwnI (w : World) (base : Nat) (v : Value) (xs : List Itm) : Prop := w.ownsRow base 42 2 v xs.length (xs.flatMap cellsI) ∧ ∀ x ∈ xs, OwnF w base x.1 x.2.1
theorem infoI : (Tryd.prog.info? 42).map (fun i => (i.zero, i.size, i.bytes)) = some (some (.agg #[.slice none 0 0, .int .i64 0]), 2, 32) := by kernel_rfl
theorem own_apart {w : World} {base base' : Nat} {v v' : Value} {n n' s s' : Nat} {T T' : TypeId} {vs vs' : List Value} (h : w.ownsRow base T s v n vs) (h' : w.ownsRow base' T' s' v' n' vs') (hT : T ≠ T') : v.ownBlock = none ∨ v.ownBlock ≠ v'.ownBlock := by
  rcases h.2 with ⟨rfl, _⟩ | ⟨g, cap, cur, rfl, _, hh, _⟩
  · exact .inl rfl
  · refine .inr fun e => ?_
    rcases h'.2 with ⟨rfl, _⟩ | ⟨g', cap', cur', rfl, _, hh', _⟩
    · cases e
    · have e2 : g = g' := Option.some.inj e
      subst e2
      rw [hh] at hh'
      have h3 := Option.some.inj hh'
      injection h3 with _ h4 _
      exact hT h4
theorem OwnI.keep {w w' : World} {base : Nat} {v : Value} {xs : List Itm} (h : OwnI w base v xs) (hb : Below w.heap.size w w') : OwnI w' base v xs :=
  ⟨World.ownsRow.kept h.1 (grown_of_below hb none) (by cases v.ownBlock with | none => exact .inl rfl | some k => exact .inr (by simp)), fun x hx => own_row_keep2 (h.2 x hx) hb⟩
theorem flatI : ∀ (F : List Itm) (j i : Nat) (f : Itm), i < 2 → F[j]? = some f → (F.flatMap cellsI)[j * 2 + i]? = (cellsI f)[i]?
  | [], j, i, f, _, h => by simp at h
  | g :: F, 0, i, f, hi, h => by
    simp at h; subst h
    rw [List.flatMap_cons, List.getElem?_append_left (by simp [cellsI]; omega), Nat.zero_mul, Nat.zero_add]
  | g :: F, j + 1, i, f, hi, h => by
    rw [List.flatMap_cons, List.getElem?_append_right (by simp [cellsI]; omega), ← flatI F j i f hi (by simpa using h)]
    congr 1
    simp [cellsI]; omega
theorem OwnI.slice {w : World} {base : Nat} {v : Value} {xs : List Itm} (h : OwnI w base v xs) : ∃ a cap, v = .slice a xs.length cap ∧ ∀ j (hj : j < xs.length), ∃ g, a = some ⟨g, 0, none⟩ ∧ base ≤ g ∧ w.cell? ⟨g, j * 2, none⟩ = some (xs[j].1) ∧ w.cell? ⟨g, j * 2 + 1, none⟩ = some (.int .i64 xs[j].2.2) := by
  have h1 := h.1
  rcases h1.2 with ⟨hv, h0⟩ | ⟨g, cap, cur, hv, hb, hh, h2, h3, h4, h5⟩
  · exact ⟨none, 0, by rw [hv, h0], fun j hj => by omega⟩
  · refine ⟨some ⟨g, 0, none⟩, cap, hv, fun j hj => ⟨g, rfl, hb, ?_, ?_⟩⟩
    · have e0 := flatI xs j 0 xs[j] (by decide) (List.getElem?_eq_getElem hj)
      subst hv
      rw [World.ownsRow.cellAt h1 (j * 2) (by omega)]
      rw [Nat.add_zero] at e0
      rw [e0]; rfl
    · have e1 := flatI xs j 1 xs[j] (by decide) (List.getElem?_eq_getElem hj)
      subst hv
      rw [World.ownsRow.cellAt h1 (j * 2 + 1) (by omega), e1]; rfl
theorem OwnI.snoc {w4 w5 : World} {base : Nat} {v v' : Value} {pre : List Itm} {x : Itm} {o : Obj} (h : OwnI w4 base v pre) (hx : OwnF w4 base x.1 x.2.1)
    (hrow : w5.ownsRow base 42 2 v' (pre.length + 1) (pre.flatMap cellsI ++ cellsI x)) (hg : (w4.alloc o).grownBy w5 v.ownBlock) : OwnI w5 base v' (pre ++ [x]) := by
  have hal : Below w4.heap.size w4 (w4.alloc o) := (Below.refl _ _).alloc (Nat.le_refl _) _
  refine ⟨?_, fun y hy => ?_⟩
  · rw [List.length_append, List.flatMap_append]
    simpa using hrow
  · have h4 : OwnF w4 base y.1 y.2.1 := by
      rcases List.mem_append.1 hy with hy | hy
      · exact h.2 y hy
      · rw [List.mem_singleton.1 hy]; exact hx
    have h5 := own_row_keep2 h4 hal
    exact World.ownsRow.kept h5 hg (own_apart h5 (h.keep hal).1 (by decide))
theorem cellsI_at (w : World) (v : Value) (F : List Fld) (E : Int) (T : TypeId) (g : Nat) (hg : g = w.heap.size) : ∀ j u, (cellsI (v, (F, E)))[j]? = some u → (w.alloc (.cells #[v, .int .i64 E] T)).cell? ((⟨g, 0, none⟩ : Addr).add j) = some u := by
  subst hg
  intro j u hu
  match j, hu with
  | 0, hu => simp [cellsI] at hu; subst hu; simp [Addr.add]
  | 1, hu => simp [cellsI] at hu; subst hu; simp [Addr.add]
  | j + 2, hu => simp [cellsI] at hu
def AllIt (b : List UInt8) (w : World) (e : Ending) (w' : World) : Prop := ∃ v xs, e = .returned (.tuple #[v, .int .i64 ((framesS b).2 : Int)]) ∧ xs.map Prod.snd = (framesS b).1 ∧ OwnI w' w.heap.size v xs ∧ Below w.heap.size w w'
set_option maxRecDepth 100000 in
set_option maxHeartbeats 4000000 in
theorem rframes_any (a : Option Addr) (len cap : Nat) (b : List UInt8) (w : World) (h : HasL w a b) (hl : b.length = len) (hcap : len ≤ cap) (hm : len ≤ 1048576) (ht : Pow w) :
    Calls Tryd.prog 19 #[.slice a len cap] w (AllIt b w) := by
  have H := Lib.hid h; have HL := Lib.hid hl; have HT := Lib.hid ht
  clear h hl ht
  unfold AllIt
  go_enter Tryd.func19, Tryd.ntmps19
  go_wp2
  go_loopg [0, 4] len (fun m x y wr => ∃ (k L C : Nat) (a' : Option Addr) (pre : List Itm), m = L ∧ k + L = len ∧ k + C = cap ∧ pre.length ≤ k ∧ x = .slice a' L C ∧ Hid (∀ A, HasL A a b → HasL A a' (b.drop k)) ∧ Hid (framesS b = (pre.map Prod.snd ++ (framesS (b.drop k)).1, (framesS (b.drop k)).2)) ∧ Hid (OwnI wr w.heap.size y pre) ∧ Hid (Below w.heap.size w wr))
  case atStart => exact ⟨0, len, cap, a, [], rfl, by omega, by omega, by simp, rfl, Lib.hid fun A h => h, Lib.hid rfl, Lib.hid ⟨World.ownsRow_nil _ _ _ _, fun x hx => by cases hx⟩, Lib.hid (Below.refl _ _)⟩
  case round =>
    obtain ⟨k, L, C, a', pre, rfl, hkL, hkC, hpk, rfl, HA, HF, HO, HB⟩ := hrel
    have hra := HA.out wr (H.out.keep HB.out)
    have hrl : (b.drop k).length = gk := by rw [List.length_drop, HL.out]; omega
    have hdec := rdecode_any a' gk C (b.drop k) wr hra hrl (by omega) (pow_keep HT.out HB.out)
    unfold DecIt at hdec
    by_cases h10 : (decS (b.drop k)).2.2 = 10
    · have HR : Hid ((framesS b).2 = gk) := Lib.hid (by rw [HF.out, framesS_short h10]; exact hrl)
      have HP : Hid (pre.map Prod.snd = (framesS b).1) := Lib.hid (by rw [HF.out, framesS_short h10, List.append_nil])
      rw [h10] at hdec
      clear hra hrl h10 HF
      go_wp2_with fail
      refine hdec.mono ?_
      rintro e w3 ⟨v, rfl, ho, hb3⟩
      have HB3 := Lib.hid (HB.out.trans (hb3.mono HB.out.size))
      have HO3 := Lib.hid (HO.out.keep hb3)
      clear ho hb3 hdec
      go_wp2
      go_ret2
      exact ⟨_, pre, by rw [HR.out] <;> rfl, HP.out, HO3.out, HB3.out⟩
    · obtain ⟨p1, p2⟩ := decS_pos h10
      have hst := framesS_step h10
      rw [List.drop_drop] at hst
      have HF2 : Hid (framesS b = ((pre.map Prod.snd ++ [((decS (b.drop k)).1, (decS (b.drop k)).2.2)]) ++ (framesS (b.drop (k + (decS (b.drop k)).2.1))).1, (framesS (b.drop (k + (decS (b.drop k)).2.1))).2)) := Lib.hid (by rw [HF.out, hst]; simp)
      have hne : ((decS (b.drop k)).2.2 == 10) = false := beq_eq_false_iff_ne.2 h10
      rw [hrl] at p2
      obtain ⟨bb, off, rfl, _⟩ := hra.at (by omega)
      clear hst hra hrl h10 HF
      generalize (decS (b.drop k)).1 = F at *
      generalize (decS (b.drop k)).2.1 = n at *
      generalize (decS (b.drop k)).2.2 = E at *
      go_wp2_with fail
      refine hdec.mono ?_
      rintro e w3 ⟨v, rfl, ho, hb3⟩
      have HB3 := Lib.hid (HB.out.trans (hb3.mono HB.out.size))
      have HO3 := Lib.hid (HO.out.keep hb3)
      have HF3 : Hid (framesS b = ((pre ++ [(v, (F, E))]).map Prod.snd ++ (framesS (b.drop (k + n))).1, (framesS (b.drop (k + n))).2)) := Lib.hid (by rw [HF2.out, List.map_append]; rfl)
      have HX := Lib.hid (ho.low2 HB.out.size)
      obtain ⟨ax, cx, hv, _⟩ := ho.has
      have HV := Lib.hid hv
      subst hv
      clear ho hb3 hdec HF2
      obtain ⟨i0, fi, hz0, hz1, hz2⟩ := info_parts infoI
      go_wp2_with (at_builtin; refine wpList_append_own _ rfl (.tmp 19) (.tmp 23) 34 rfl w.heap.size 42 i0 (.agg #[.slice none 0 0, .int .i64 0]) 2 32 Tryd.underlying34 fi hz0 hz1 hz2 ?c0 (by decide) _ pre.length (pre.flatMap cellsI) rfl ?c1 ⟨w3.heap.size, 0, none⟩ 1 1 (cellsI (.slice ax F.length cx, (F, E))) rfl rfl ?c2 ?c3 ?c4 ?c5 ?c6 ?_)
      case c0 => kernel_rfl
      case c1 => exact World.ownsRow.alloc HO3.out.1 _
      case c2 => exact cellsI_at w3 _ F E _ _ rfl
      case c3 => intro u hu; simp [cellsI] at hu; rcases hu with rfl | rfl <;> rfl
      case c4 => unfold maxLen; omega
      case c5 => omega
      case c6 => have := HB3.out.size; rw [World.size_alloc]; omega
      intro v' w5 ho5 hg5 _
      have HO5 : Hid (OwnI w5 w.heap.size v' (pre ++ [(.slice ax F.length cx, (F, E))])) := Lib.hid (HO3.out.snoc HX.out ho5 hg5)
      have HB5 : Hid (Below w.heap.size w w5) := Lib.hid ((HB3.out.alloc HB3.out.size _).grown hg5 (by have := HB3.out.size; rw [World.size_alloc]; omega) (fun r hr => (World.ownsRow.lt HO3.out.1 r hr).1))
      clear ho5 hg5
      have i0' : (0 : Int) ≤ (n : Int) := by omega
      have i1 : (n : Int) ≤ (gk : Int) := by omega
      by_cases hnC : n < C
      · have i2 : (n : Int) < (C : Int) := by omega
        go_wp2
        go_roundg (gk - n)
        case measure => omega
        case rel => exact ⟨k + n, gk - n, C - n, some ⟨bb, off + n, none⟩, _, rfl, by omega, by omega, by simp; omega, rfl, Lib.hid (has_tail HA.out (by rw [HL.out]; omega)), HF3, HO5, HB5⟩
      · obtain rfl : n = C := by omega
        go_wp2
        go_roundg (gk - n)
        case measure => omega
        case rel => exact ⟨k + n, gk - n, 0, _, _, rfl, by omega, by omega, by simp; omega, rfl, Lib.hid (has_end (by rw [HL.out]; omega)), HF3, HO5, HB5⟩
end Go.Proofs.YtjgkjmegpinelaaDoor.Tg

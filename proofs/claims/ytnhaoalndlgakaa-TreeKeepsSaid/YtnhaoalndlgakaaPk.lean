/-
  Layer 10: the law TreeKeeps.
-/
import Derived.Test.YtnhaoalndlgakaaPj
namespace Go.Proofs.Ytnhaoalndlgakaa.Tr
open Go.RowKit Go.Shelf Rf
set_option linter.unusedVariables false
set_option linter.unusedSimpArgs false
attribute [local go_sem] Oper.semAt_some

theorem hasZ_front {w : World} {a : Option Addr} {x y : List Int} (h : HasZ w a (x ++ y)) : HasZ w a x := by
  obtain ⟨_, h2, h3⟩ := h
  rw [List.length_append] at h2 h3
  refine ⟨Nat.le_refl _, by omega, fun h0 => ?_⟩
  obtain ⟨b, off, e, hc⟩ := h3 (by omega)
  refine ⟨b, off, e, fun j hj => ?_⟩
  rw [hc j (by omega)]
  simp [List.getD, List.getElem?_append_left hj]
/-- The blocks of an iterator lie below U. -/
def ItLt (U : Nat) : Option It → Prop
  | none => True
  | some i => i.p < U ∧ i.q < U ∧ ∀ k, (Value.slice i.a i.z.length i.cap).ownBlock = some k → k < U
theorem IsIt.up {W : World} {N : Nat} {o : Option It} (h : IsIt W N o) : ItLt W.heap.size o := by
  cases o with
  | none => trivial
  | some i =>
    have h' : ItOk W N i := h
    exact ⟨h'.bp.lt, h'.bq.lt, fun k hk => (h'.own.lt hk).2⟩
theorem IsIt.gone {A B : World} {N U : Nat} {o : Option It} {row : Option Nat} (h : IsIt A N o) (hu : ItLt U o) (hg : A.grownBy B row) (hr : ∀ r, row = some r → r < N ∨ U ≤ r) : IsIt B N o := by
  cases o with
  | none => trivial
  | some i =>
    have h' : ItOk A N i := h
    obtain ⟨u1, u2, u3⟩ : i.p < U ∧ i.q < U ∧ ∀ k, (Value.slice i.a i.z.length i.cap).ownBlock = some k → k < U := hu
    refine (show ItOk B N i from ⟨h'.hp, h'.hq, h'.bp.gone hg fun e => ?_, h'.bq.gone hg fun e => ?_, h'.own.gone hg fun k hk e => ?_, h'.lt, h'.dn⟩)
    · have := hr _ e; have := h'.hp; omega
    · have := hr _ e; have := h'.hq; omega
    · have := hr _ e; have := (h'.own.lt hk).1; have := u3 k hk; omega
/-- What stands in TreeKeeps behind its iterator: the arguments' box, the result's, the iterator. -/
structure Sk (N I0 U : Nat) (w W : World) (vp : Value) (o : Option It) : Prop where
  b : Below N w W
  p : Bx W N vp 22
  r : Bx W (N + 1) (.bool false) 4
  it : IsIt W I0 o
  up : ItLt U o
  NI : N + 2 ≤ I0
  IU : I0 ≤ U
  sz : U ≤ W.heap.size
theorem Sk.keep {N I0 U : Nat} {w W W' : World} {vp : Value} {o : Option It} (h : Sk N I0 U w W vp o) (hb : Below W.heap.size W W') : Sk N I0 U w W' vp o :=
  ⟨h.b.trans (hb.mono (by have := h.NI; have := h.IU; have := h.sz; omega)), h.p.keep hb, h.r.keep hb, h.it.keep hb, h.up, h.NI, h.IU, by have := hb.size; have := h.sz; omega⟩
theorem Sk.gone {N I0 U : Nat} {w W W' : World} {vp : Value} {o : Option It} {row : Option Nat} (h : Sk N I0 U w W vp o) (hg : W.grownBy W' row) (hr : ∀ r, row = some r → N + 2 ≤ r ∧ (r < I0 ∨ U ≤ r)) : Sk N I0 U w W' vp o := by
  have hNI := h.NI; have hIU := h.IU; have hsz := h.sz
  exact ⟨h.b.trans ((Below.refl _ _).grown hg (by omega) fun r e => by have := hr r e; omega), h.p.gone hg (fun e => by have := hr _ e; omega), h.r.gone hg (fun e => by have := hr _ e; omega), h.it.gone h.up hg (fun r e => (hr r e).2), h.up, hNI, hIU, by have := hg.size; omega⟩

theorem below_drewT {M : Nat} {A B : World} (h : Below M A B) (n : Nat) : Below M A (B.drewN n) := h.trans ⟨rfl, rfl, rfl, Nat.le_refl _, fun _ _ => rfl⟩
theorem below_drew1 (w : World) : Below w.heap.size w w.drew := ⟨rfl, rfl, rfl, Nat.le_refl _, fun _ _ => rfl⟩
theorem below_drew1T {M : Nat} {A B : World} (h : Below M A B) : Below M A B.drew := h.trans ⟨rfl, rfl, rfl, Nat.le_refl _, fun _ _ => rfl⟩
/-- What a loop that collects keeps: all that was there ahead of its box, the box, the collected row (behind the loop's own two blocks). -/
def InGot (A : World) (pre : List Int) (W : World) : Prop := Below A.heap.size A W ∧ ∃ v, Bx W A.heap.size v 22 ∧ OwnN W (A.heap.size + 3) v pre
theorem InGot.stands {A : World} {D : Nat} (hg : D = A.heap.size + 1) : Stands D (InGot A) := by
  rintro pre B C row ⟨h1, v, h2, h4⟩ h3 hr
  refine ⟨h1.grown h3 h1.size fun r e => ?_, v, h2.gone h3 fun e => ?_, h4.kept h3 fun r e => ?_⟩
  · rcases hr with hr | hr | hr <;> rw [hr] at e
    · cases e
    · have := Option.some.inj e; omega
    · have := Option.some.inj e; omega
  · rcases hr with hr | hr | hr <;> rw [hr] at e
    · cases e
    · have := Option.some.inj e; omega
    · have := Option.some.inj e; omega
  · rcases hr with hr | hr | hr <;> rw [hr] at e
    · cases e
    · have := Option.some.inj e; omega
    · have := Option.some.inj e; omega
/-- One more collected. -/
theorem InGot.app {A W W1 w1 : World} {pre pre' : List Int} {v' : Value} {o : Obj} (h : InGot A pre W) (hW1 : W1 = W.alloc o) (hb : Below (A.heap.size + 3) W1 w1) (ho : OwnN w1 (A.heap.size + 3) v' pre') (hlt : A.heap.size + 2 < W.heap.size) :
    ((∃ v, Bx w1 A.heap.size v 22) ∧ Below A.heap.size A w1) ∧ ((w1.setCell ⟨A.heap.size, 0, none⟩ v').heap[A.heap.size + 1]? = W.heap[A.heap.size + 1]? ∧ (w1.setCell ⟨A.heap.size, 0, none⟩ v').heap[A.heap.size + 1 + 1]? = W.heap[A.heap.size + 1 + 1]?) ∧ InGot A pre' (w1.setCell ⟨A.heap.size, 0, none⟩ v') := by
  obtain ⟨h1, v, h2, _⟩ := h
  subst hW1
  have hal := one_alloc W o
  have b1 : Bx w1 A.heap.size v 22 := (hb.block _ (by omega)).trans (h2.keep hal)
  have bA : Below A.heap.size A w1 := (h1.trans (hal.mono h1.size)).trans (hb.mono (by omega))
  have hk : ∀ k, k < A.heap.size + 3 → k ≠ A.heap.size → (w1.setCell ⟨A.heap.size, 0, none⟩ v').heap[k]? = W.heap[k]? := fun k h3 h4 => by
    rw [Below.heap_setCell _ _ _ _ (fun e => h4 (by simpa using e)), hb.block k h3, hal.block k (by omega)]
  refine ⟨⟨⟨v, b1⟩, bA⟩, ⟨hk _ (by omega) (by omega), hk _ (by omega) (by omega)⟩, bA.setCell (p := ⟨A.heap.size, 0, none⟩) (Nat.le_refl _) v', v', b1.set v', ho.gone (set_grown w1 A.heap.size 0 v') fun k hk e => ?_⟩
  have := (ho.lt hk).1
  have := Option.some.inj e
  omega
set_option maxRecDepth 100000 in
set_option maxHeartbeats 8000000 in
theorem keeps_walk (a0 : Option Addr) (len0 cap0 : Nat) (z0 : List Int) (v : Int) (w : World) (hrow : Fr.IsRow .i64 w a0 len0 cap0 z0) (hreach : cap0 * 8 ≤ 140737488351232) :
    Calls Try.prog 6 #[.slice a0 len0 cap0, .int .i64 v] w fun e w' => e = .returned (.bool true) ∧ Below w.heap.size w w' := by
  obtain ⟨z, hl, hz, hlc, hn⟩ := hasZ_of_row hrow
  obtain ⟨N, hN⟩ : ∃ N, N = w.heap.size := ⟨_, rfl⟩
  obtain ⟨W0, hW0⟩ : ∃ W0, W0 = (w.alloc (.cells #[.slice a0 len0 cap0] 22)).alloc (.cells #[.bool false] 4) := ⟨_, rfl⟩
  have b0 : Below N w W0 := by rw [hW0, hN]; exact ((Below.refl _ _).alloc (Nat.le_refl _) _).alloc (by rw [World.size_alloc]; omega) _
  have p0 : Bx W0 N (.slice a0 len0 cap0) 22 := by
    rw [hW0, hN]
    exact (Bx.new w _ _).keep ((Below.refl _ _).alloc (Nat.le_refl _) _)
  have r0 : Bx W0 (N + 1) (.bool false) 4 := by
    rw [hW0, hN]
    have := Bx.new (w.alloc (.cells #[.slice a0 len0 cap0] 22)) (.bool false) 4
    rwa [World.size_alloc] at this
  have HZ : Hid (∀ W, Below N w W → HasZ W a0 z) := Lib.hid fun W hb => hz.keep (by rw [← hN]; exact hb)
  have HL := Lib.hid hl; have HN := Lib.hid hn; have HD := Lib.hid hN; have HW0 := Lib.hid hW0; have HB0 := Lib.hid b0; have P0 := Lib.hid p0; have R0 := Lib.hid r0
  have hz0 : N + 2 ≤ W0.heap.size := r0.lt
  have hlen : (len0 + 1) * 8 ≤ 140737488355328 := by omega
  clear hrow hl hz hn hN hW0 b0 p0 r0 hreach
  refine calls_marks Try.func6 rfl ?_
  simp only [Try.ntmps6, List.size_toArray, List.length_cons, List.length_nil, Nat.reduceAdd, Nat.reduceSub, Array.replicate_succ, Array.replicate_zero, List.push_toArray, List.append_toArray, List.nil_append, List.cons_append]
  rw [← HD.out]
  go_wp2_with fail
  rw [← HD.out, ← HW0.out]
  clear HW0
  refine (wakes_any W0).mono ?_
  rintro e w1 ⟨rfl, hb⟩
  have B1 := Lib.hid (HB0.out.trans (hb.mono (by omega))); have P1 := Lib.hid (P0.out.keep hb); have R1 := Lib.hid (R0.out.keep hb)
  have hz1 : N + 2 ≤ w1.heap.size := R1.out.lt
  clear hb P0 R0 HB0 hz0 W0
  have hal := one_alloc w1 (.cells #[] 3)
  have pc : (w1.alloc (.cells #[] 3)).cell? ⟨N, 0, none⟩ = some (.slice a0 len0 cap0) := (P1.out.keep hal).cell
  have HB1 : Hid (Below N w (w1.alloc (.cells #[] 3))) := Lib.hid (B1.out.trans (hal.mono (by omega)))
  have HAL := Lib.hid hal
  have HM0 := Lib.hid (own_made w1 (N + 2) hz1)
  clear hal
  go_upto_region 4 with (first
    | (at_builtin; refine wp_apn rfl (.tmp 16) (.tmp 17) rfl (N + 2) _ [] rfl HM0.out _ _ _ z rfl (HZ.out _ HB1.out) HL.out HN.out (by simp; omega) (by rw [World.size_alloc]; omega) ?_; intro v2 w2 ho2 hb2 hg2; have O2 : Hid (OwnN w2 (N + 2) v2 z) := Lib.hid ho2; have G2 : Hid (Below (N + 2) w1 w2) := Lib.hid ((HAL.out.mono hz1).trans hb2); clear ho2 hb2 hg2)
    | (at_builtin; refine wp_apn rfl (.tmp 18) (.tmp 19) rfl (N + 2) _ z rfl (O2.out.keep (one_alloc _ _)) _ _ _ [71] rfl (lit_one w2 71 _ _ rfl) rfl (fun h => by cases h) (by rw [HL.out]; exact hlen) (by rw [World.size_alloc]; have := G2.out.size; omega) ?_; intro v3 w3 ho3 hb3 hg3; have O3 : Hid (OwnN w3 (N + 2) v3 (z ++ [71])) := Lib.hid ho3; have G3 : Hid (Below (N + 2) w1 w3) := Lib.hid ((G2.out.alloc (by have := G2.out.size; omega) _).trans hb3); obtain ⟨g, c3, cur3, hv3, hgN, hgh, hgc, hgm, _, _⟩ := ho3.block (by simp); rw [List.length_append, List.length_singleton, HL.out] at hv3 hgc; subst hv3; clear ho3 hb3 hg3 hgm)
    | fail)
  have P3 : Hid (Bx w3 N (.slice a0 len0 cap0) 22) := Lib.hid ((G3.out.block N (by omega)).trans P1.out)
  have R3 : Hid (Bx w3 (N + 1) (.bool false) 4) := Lib.hid ((G3.out.block (N + 1) (by omega)).trans R1.out)
  have B3 := Lib.hid (B1.out.trans (G3.out.mono (by omega)))
  have hz3 : N + 2 ≤ w3.heap.size := by have := G3.out.size; omega
  have hg3 : g < w3.heap.size := (Array.getElem?_eq_some_iff.1 hgh).1
  have MN3 : Hid (g < w3.heap.size) := Lib.hid hg3
  clear pc HB1 HAL HM0 O2 G2 G3 P1 R1 B1 hz1 hgh
  have HZM : Hid (∀ W, Below w3.heap.size w3 W → OwnN W (N + 2) (.slice (some ⟨g, 0, none⟩) (len0 + 1) c3) (z ++ [71]) ∧ HasZ W (some ⟨g, 0, none⟩) z) := Lib.hid fun W hb => by
    have h1 := O3.out.keep hb
    refine ⟨h1, ?_⟩
    obtain ⟨a2, c2, e, h2, _⟩ := h1.has
    injection e with e1 _ _
    subst e1
    exact hasZ_front h2
  have pc := P3.out.cell
  go_wp2_with fail
  clear pc
  refine (above_any (some ⟨g, 0, none⟩) len0 c3 z v w3 (HZM.out _ (Below.refl _ _)).2 HL.out (fun h => by cases h)).mono ?_
  rintro e w4 ⟨o, rfl, hit, hxs, hb⟩
  obtain ⟨I0, hI0⟩ : ∃ I0, I0 = w3.heap.size := ⟨_, rfl⟩
  rw [← hI0] at hit hz3 hg3
  have SK4 : Hid (Sk N I0 w4.heap.size w w4 (.slice a0 len0 cap0) o) := Lib.hid ⟨B3.out.trans (hb.mono (by omega)), P3.out.keep hb, R3.out.keep hb, hit, hit.up, hz3, by rw [hI0]; exact hb.size, Nat.le_refl _⟩
  have HZM4 : Hid (∀ W, Below w4.heap.size w4 W → OwnN W (N + 2) (.slice (some ⟨g, 0, none⟩) (len0 + 1) c3) (z ++ [71]) ∧ HasZ W (some ⟨g, 0, none⟩) z) := Lib.hid fun W hb2 => HZM.out W (hb.trans (hb2.mono hb.size))
  have XS := Lib.hid hxs
  obtain ⟨U, hU⟩ : ∃ U, U = w4.heap.size := ⟨_, rfl⟩
  rw [← hU] at SK4
  have HU := Lib.hid hU
  clear hb hit hxs HZM P3 R3 B3 O3 MN3 hU
  clear hI0
  have pc := SK4.out.p.cell
  go_wp2_with fail
  clear pc
  have hb1 := below_any (some ⟨g, 0, none⟩) len0 c3 z v w4 (HZM4.out _ (Below.refl _ _)).2 HL.out
  unfold BelowIt at hb1
  refine hb1.mono ?_
  rintro e w5 ⟨va, rfl, hoa, hb⟩
  rw [← HU.out] at hoa
  have SK5 := Lib.hid (SK4.out.keep hb)
  have HZM5 : Hid (∀ W, Below w5.heap.size w5 W → OwnN W (N + 2) (.slice (some ⟨g, 0, none⟩) (len0 + 1) c3) (z ++ [71]) ∧ HasZ W (some ⟨g, 0, none⟩) z) := Lib.hid fun W hb2 => HZM4.out W (hb.trans (hb2.mono hb.size))
  have hUV : U ≤ w5.heap.size := SK5.out.sz
  obtain ⟨V, hV⟩ : ∃ V, V = w5.heap.size := ⟨_, rfl⟩
  have HV := Lib.hid hV
  have OA5 := Lib.hid hoa
  rw [← hV] at hUV
  clear hb hoa hb1 SK4 HZM4 HU hV
  have pc := SK5.out.p.cell
  go_wp2_with fail
  clear pc
  have hb1 := below_any (some ⟨g, 0, none⟩) len0 c3 z v w5 (HZM5.out _ (Below.refl _ _)).2 HL.out
  unfold BelowIt at hb1
  refine hb1.mono ?_
  rintro e w6 ⟨vb, rfl, hob, hb⟩
  rw [← HV.out] at hob
  have hbl : (belowS z v).length ≤ 16 := by
    cases hf : foundB z v
    · rw [below_no hf]; simp
    · obtain ⟨n, rfl, _, h16, _⟩ := found_nat hf
      rw [below_yes hf]
      have := bel_len z n z.length
      omega
  have SK6 := Lib.hid (SK5.out.keep hb)
  have HZM6 : Hid (∀ W, Below w6.heap.size w6 W → OwnN W (N + 2) (.slice (some ⟨g, 0, none⟩) (len0 + 1) c3) (z ++ [71]) ∧ HasZ W (some ⟨g, 0, none⟩) z) := Lib.hid fun W hb2 => HZM5.out W (hb.trans (hb2.mono hb.size))
  have OA6 := Lib.hid (OA5.out.keep hb); have OB6 := Lib.hid hob
  have hV6 : V ≤ w6.heap.size := by rw [HV.out]; exact hb.size
  have HAV : Hid (∀ k, va.ownBlock = some k → U ≤ k ∧ k < V) := Lib.hid fun k hk => by have := OA5.out.lt hk; have := HV.out; omega
  clear hb hob hb1 SK5 HZM5 HV OA5
  generalize belowS z v = Q at *
  have pc := SK6.out.p.cell
  go_wp2_with fail
  clear pc
  refine (check_any (some ⟨g, 0, none⟩) len0 c3 z w6 (HZM6.out _ (Below.refl _ _)).2 HL.out).mono ?_
  rintro e w7 ⟨rfl, hb⟩
  have SK7 := Lib.hid (SK6.out.keep hb)
  have HZM7 : Hid (∀ W, Below w7.heap.size w7 W → OwnN W (N + 2) (.slice (some ⟨g, 0, none⟩) (len0 + 1) c3) (z ++ [71]) ∧ HasZ W (some ⟨g, 0, none⟩) z) := Lib.hid fun W hb2 => HZM6.out W (hb.trans (hb2.mono hb.size))
  have OA7 := Lib.hid (OA6.out.keep hb); have OB7 := Lib.hid (OB6.out.keep hb)
  have hV7 : V ≤ w7.heap.size := Nat.le_trans hV6 hb.size
  clear hb SK6 HZM6 OA6 OB6 hV6
  have qnf := fun w => run_eql_func_nil (P := Try.prog) w 35 Try.underlying35 (.func (gfO o)) #[] (lbO o)
  go_upto_region 8 with (fail)
  have KS : Hid (∀ wx, Below w7.heap.size w7 wx → Below w7.heap.size w7 wx ∧ wx.cell? ⟨N, 0, none⟩ = some (.slice a0 len0 cap0) ∧ wx.cell? ⟨g, len0, none⟩ = some (.int .i64 71)) := Lib.hid fun wx hb => ⟨hb, (SK7.out.p.keep hb).cell, by
    obtain ⟨g', c', cur', e, _, _, _, _, _, hc⟩ := (HZM7.out wx hb).1.block (by simp)
    injection e with e1 _ _
    cases e1
    have := hc len0 (by rw [List.length_append, List.length_singleton, HL.out]; omega)
    rw [this]
    have hz : z.length = len0 := HL.out
    simp [par, List.getD, ← hz]⟩
  have HSM : Hid (∀ wx, Below w7.heap.size w7 wx → Calls Try.prog 10 #[.slice (some ⟨g, 0, none⟩) len0 c3, .slice a0 len0 cap0] wx fun e w' => e = .returned (.bool true) ∧ Below w7.heap.size w7 w') := Lib.hid fun wx hb => by
    have := same_any (some ⟨g, 0, none⟩) a0 len0 c3 len0 cap0 z z wx (HZM7.out _ hb).2 HL.out (HZ.out _ (SK7.out.keep hb).b) HL.out
    rw [decide_eq_true rfl] at this
    exact this.mono fun e w' ⟨h1, n, h2⟩ => ⟨h1, by rw [h2]; exact hb.trans ⟨rfl, rfl, rfl, Nat.le_refl _, fun _ _ => rfl⟩⟩
  have j0 : (0 : Int) ≤ (len0 : Int) := by omega
  have j1 : (len0 : Int) ≤ (c3 : Int) := by omega
  have j2 : (len0 : Int) < (len0 : Int) + 1 := by omega
  have j3 : len0 < len0 + 1 := by omega
  have j4 : len0 ≤ c3 := by omega
  go_region_held3 (fun wx => Below w7.heap.size w7 wx ∧ wx.cell? ⟨N, 0, none⟩ = some (.slice a0 len0 cap0) ∧ wx.cell? ⟨g, len0, none⟩ = some (.int .i64 71))
    (first | exact KS.out _ (below_drew _ _) | exact KS.out _ (Below.refl _ _) | exact KS.out _ (by assumption))
    (first | (go_split_ands; go_at_call 10; (with_reducible refine (HSM.out _ (by first | assumption | exact below_drew _ _)).mono ?_); rintro e w8 ⟨rfl, hb8⟩) | fail)
  clear KS HSM qnf j0 j1 j2 j3 j4
  have SK8 := Lib.hid (SK7.out.keep hb8); have OA8 := Lib.hid (OA7.out.keep hb8); have OB8 := Lib.hid (OB7.out.keep hb8)
  have M8 := Lib.hid (HZM7.out _ hb8).1
  have hV8 : V ≤ w8.heap.size := Nat.le_trans hV7 hb8.size
  clear hb8 SK7 OA7 OB7 HZM7 hV7
  obtain ⟨aa, ca, rfl, -⟩ := OA8.out.has
  obtain ⟨ab, cb, rfl, -⟩ := OB8.out.has
  have hgI : g < I0 := hg3
  have hIU : I0 ≤ U := SK8.out.IU
  have HLZ : Hid ((z ++ [71]).length = len0 + 1) := Lib.hid (by rw [List.length_append, List.length_singleton, HL.out])
  go_wp2_with fail
  go_loopg [65] (len0 + 1) (fun m i wr => ∃ (k : Nat) (l : List Int), k + m = len0 + 1 ∧ i = .int .i64 (k : Int) ∧ Hid (OwnN wr (N + 2) (.slice (some ⟨g, 0, none⟩) (len0 + 1) c3) l) ∧ Hid (l.length = len0 + 1) ∧ Hid (w8.grownBy wr (some g)))
  case atStart => exact ⟨0, _, by omega, rfl, M8, HLZ, Lib.hid (grown_refl _ _)⟩
  case round =>
    obtain ⟨k, l, hk, rfl, HO, HLL, HG⟩ := hrel
    by_cases hlt : k < len0 + 1
    · obtain ⟨g', c', e, _, _, k0, k1, k2⟩ := HO.out.store (j := k) (by rw [HLL.out]; exact hlt)
      injection e with e1 e2 e3
      cases e1
      have K2 := Lib.hid k2
      have i0 : (k : Int) < (len0 : Int) + 1 := by omega
      have HG2 : Hid (w8.grownBy (wr.setCell ⟨g, k, none⟩ (.int .i64 (-1))) (some g)) := Lib.hid (grown_box HG.out (set_grown _ _ _ _))
      clear e2 e3 k2
      go_wp2
      go_roundg (len0 + 1 - (k + 1))
      case measure => omega
      case rel => exact ⟨k + 1, _, by omega, by go_num, Lib.hid (K2.out (-1)), Lib.hid (by rw [List.length_set]; exact HLL.out), HG2⟩
    · obtain rfl : k = len0 + 1 := by omega
      have i0 : ¬ (((len0 + 1 : Nat) : Int) < (len0 : Int) + 1) := by omega
      have SK9 := Lib.hid (SK8.out.gone HG.out (fun r e => by have := Option.some.inj e; omega))
      have OA9 := Lib.hid (OA8.out.gone HG.out (fun k hk e => by have := (HAV.out k hk).1; have := Option.some.inj e; omega))
      have OB9 := Lib.hid (OB8.out.gone HG.out (fun k hk e => by have := (OB8.out.lt hk).1; have := Option.some.inj e; omega))
      have hV9 : V ≤ wr.heap.size := Nat.le_trans hV8 HG.out.size
      clear HO HLL HG SK8 OA8 OB8 M8 hV8
      obtain ⟨w9, hw9⟩ : ∃ w9, w9 = wr := ⟨_, rfl⟩
      rw [← hw9] at SK9 OA9 OB9 hV9 ⊢
      clear hw9
      obtain ⟨hrb, hnb⟩ : HasZ w9 ab Q ∧ (ab = none → cb = 0) := by
        obtain ⟨a', c', e, h1, h2, _⟩ := OB9.out.has
        injection e with e1 e2 e3
        subst e1 e3
        exact ⟨h1, h2⟩
      have HRB := Lib.hid hrb; have HNB := Lib.hid hnb
      clear hrb hnb
      have HM0 := Lib.hid (own_made w9 w9.heap.size (Nat.le_refl _))
      have HAL := Lib.hid (one_alloc w9 (.cells #[] 3))
      go_upto_region 16 with (first
        | (at_builtin; refine wp_apn rfl (.tmp 72) (.tmp 73) rfl w9.heap.size _ [] rfl HM0.out _ _ _ Q rfl (HRB.out.keep HAL.out) rfl HNB.out (by simp; omega) HAL.out.size ?_; intro v10 w10 ho10 hb10 hg10; have OW10 : Hid (OwnN w10 w9.heap.size v10 Q) := Lib.hid ho10; have B10 : Hid (Below w9.heap.size w9 w10) := Lib.hid (HAL.out.trans hb10); clear ho10 hb10 hg10)
        | fail)
      have SK10 := Lib.hid (SK9.out.keep B10.out); have OA10 := Lib.hid (OA9.out.keep B10.out); have OB10 := Lib.hid (OB9.out.keep B10.out)
      have hV10 : w9.heap.size ≤ w10.heap.size := B10.out.size
      obtain ⟨aw, cw, rfl, -⟩ := OW10.out.has
      clear HRB HNB HM0 HAL B10 SK9 OA9 OB9
      go_wp2_with fail
      go_loopg [77] Q.length (fun m i wr => ∃ (k : Nat) (l : List Int), k + m = Q.length ∧ i = .int .i64 (k : Int) ∧ Hid (OwnN wr U (.slice aa Q.length ca) l) ∧ Hid (l.length = Q.length) ∧ Hid (w10.grownBy wr (Value.slice aa Q.length ca).ownBlock))
      case atStart => exact ⟨0, _, by omega, rfl, OA10, Lib.hid rfl, Lib.hid (grown_refl _ _)⟩
      case round =>
        obtain ⟨k, l, hk, rfl, HO, HLL, HG⟩ := hrel
        by_cases hlt : k < Q.length
        · obtain ⟨g', c', e, _, _, k0, k1, k2⟩ := HO.out.store (j := k) (by rw [HLL.out]; exact hlt)
          injection e with e1 e2 e3
          subst e1
          have K2 := Lib.hid k2
          have HG2 : Hid (w10.grownBy (wr.setCell ⟨g', k, none⟩ (.int .i64 9)) (Value.slice (some ⟨g', 0, none⟩) Q.length ca).ownBlock) := Lib.hid (grown_box (g := g') HG.out (set_grown _ _ _ _))
          clear e2 e3 k2
          go_wp2
          go_roundg (Q.length - (k + 1))
          case measure => omega
          case rel => exact ⟨k + 1, _, by omega, by go_num, Lib.hid (K2.out 9), Lib.hid (by rw [List.length_set]; exact HLL.out), HG2⟩
        · obtain rfl : k = Q.length := by omega
          have SK12 := Lib.hid (SK10.out.gone HG.out (fun r e => by have := (HAV.out r e).1; have := SK10.out.NI; omega))
          have OB12 := Lib.hid (OB10.out.gone HG.out (fun k hk e => by have := (OB10.out.lt hk).1; have := (HAV.out k e).2; omega))
          have OW12 := Lib.hid (OW10.out.gone HG.out (fun k hk e => by have := (OW10.out.lt hk).1; have := (HAV.out k e).2; omega))
          have OA12 := HO
          have hV12 : w10.heap.size ≤ wr.heap.size := HG.out.size
          clear HO HG SK10 OB10 OW10 OA10
          obtain ⟨w12, hw12⟩ : ∃ w12, w12 = wr := ⟨_, rfl⟩
          rw [← hw12] at SK12 OA12 OB12 OW12 hV12 ⊢
          clear hw12
          have HAL := Lib.hid (one_alloc w12 (.cells #[.int .i64 1, .int .i64 2, .int .i64 3] 3))
          have hU12 : U ≤ w12.heap.size := SK12.out.sz
          have hll : l.length ≤ 16 := by rw [HLL.out]; exact hbl
          go_upto_region 22 with (first
            | (at_builtin; refine wp_apn rfl (.tmp 84) (.tmp 85) rfl U _ l rfl (OA12.out.keep HAL.out) _ _ _ [1, 2, 3] rfl (lit_row w12 [1, 2, 3] _ _ rfl (by decide)) rfl (fun h => by cases h) (by omega) (by rw [World.size_alloc]; omega) ?_; intro v13 w13 ho13 hb13 hg13; have OA13 := Lib.hid ho13; have G13 := Lib.hid hg13; clear ho13 hb13 hg13)
            | fail)
          have SK13 := Lib.hid ((SK12.out.keep HAL.out).gone G13.out (fun r e => by have := (HAV.out r e).1; have := SK12.out.NI; omega))
          have OB13 := Lib.hid ((OB12.out.keep HAL.out).gone G13.out (fun k hk e => by have := (OB12.out.lt hk).1; have := (HAV.out k e).2; omega))
          have OW13 := Lib.hid ((OW12.out.keep HAL.out).gone G13.out (fun k hk e => by have := (OW12.out.lt hk).1; have := (HAV.out k e).2; omega))
          have HN13 : Hid ((l ++ [1, 2, 3]).length = Q.length + 3) := Lib.hid (by rw [List.length_append, HLL.out]; rfl)
          obtain ⟨a13, c13, rfl, -⟩ := OA13.out.has
          rw [HN13.out]
          clear HAL G13 SK12 OB12 OW12 OA12 OA13 HLL hV12
          obtain ⟨A, hA⟩ : ∃ A, A = w13 := ⟨_, rfl⟩
          rw [← hA] at SK13 OB13 OW13 ⊢
          clear hA
          obtain ⟨X, hX⟩ : ∃ X, X = A.alloc (.cells #[.slice none 0 0] 22) := ⟨_, rfl⟩
          have hbX : Below A.heap.size A X := by rw [hX]; exact one_alloc _ _
          have hxX : Bx X A.heap.size (.slice none 0 0) 22 := by rw [hX]; exact Bx.new A _ _
          have HZX : Hid (X.heap.size = A.heap.size + 1) := Lib.hid (by rw [hX, World.size_alloc])
          have HX := Lib.hid hX
          clear hX
          obtain ⟨n13, hn13⟩ : ∃ n13, Q.length + 3 = n13 := ⟨_, rfl⟩
          rw [hn13]
          have i3 : (3 : Int) ≤ (n13 : Int) := by omega
          have d13 : decide ((3 : Int) ≤ (n13 : Int)) = true := by rw [decide_eq_true_eq]; exact i3
          clear hn13
          go_wp2_with fail
          rw [← HX.out]
          clear HX
          refine wp_above I0 o rfl rfl (InGot A) (fun _ _ _ => False) (InGot.stands HZX.out) (fun _ _ _ _ _ h _ _ => h) (fun pre B h => (SK13.out.keep h.1).it) ⟨hbX, _, hxX, own_none _ _⟩ ?_ ?_ ?_
          · rintro lb pre x W _ hpre Kr hKr
            gi_wp2
            rintro W' hi hok hlt
            have hok2 := hok
            rw [XS.out] at hok2
            have hpl : (pre ++ [x]).length ≤ len0 := by have := hok2.length_le; have := above_lenz z v; have := HL.out; omega
            obtain ⟨hi1, vg, hi2, hi3⟩ := id hi
            have hlt2 : A.heap.size + 2 < W'.heap.size := by have := HZX.out; omega
            have hal := one_alloc W' (.cells #[.int .i64 x] 3)
            have n0 := hi2.cell
            have HO := Lib.hid (hi3.keep hal)
            have HI := Lib.hid hi
            obtain ⟨P2, hP2⟩ : ∃ P2, P2 = pre ++ [x] := ⟨_, rfl⟩
            have HP2 := Lib.hid hP2
            rw [← hP2] at hpl
            have hpb : (pre.length + 1) * 8 ≤ 140737488355328 := by
              have h1 : P2.length = pre.length + 1 := by rw [hP2, List.length_append, List.length_singleton]
              omega
            clear hi1 hi2 hi3 hok hok2 hpre hP2 hi hal
            gi_wp2_with (gi_at_builtin; refine wpIn_apn rfl (.tmp 89) (.tmp 91) rfl (A.heap.size + 3) vg pre rfl HO.out _ 1 1 [x] rfl (lit_one W' x _ _ rfl) rfl hpb (by rw [World.size_alloc]; omega) ?_; intro v15 w15 ho15 hb15 _; rw [← HP2.out] at ho15; obtain ⟨⟨⟨vq, hq⟩, hA15⟩, hE15, hI15⟩ := HI.out.app rfl hb15 ho15 hlt2; obtain ⟨a15, c15, rfl, -⟩ := ho15.has; have q0 := Bx.cell hq; have q1 := Bx.free hq; have q2 := (Bx.set hq (.slice a15 P2.length c15)).cell; have p0 := (SK13.out.keep hI15.1).p.cell; have HE15 := Lib.hid hE15; have HI15 := Lib.hid hI15; clear ho15 hb15 hE15 hI15 hq hA15)
            refine ⟨by rw [HZX.out]; exact HE15.out, trivial, by rw [← HP2.out]; exact HI15.out⟩
          · rintro W16 ⟨hi1, vg, hi2, hi3⟩ hK
            rw [XS.out] at hi3
            obtain ⟨G, hG⟩ : ∃ G, G = aboveS z v := ⟨_, rfl⟩
            rw [← hG] at hi3
            have HGG := Lib.hid hG
            obtain ⟨ag, cg, rfl, hrg, -⟩ := hi3.has
            have SK16 := Lib.hid (SK13.out.keep hi1)
            have hrb : HasZ W16 ab Q := by
              obtain ⟨a', c', e, h1, _⟩ := (OB13.out.keep hi1).has
              injection e with e1 _ _
              subst e1
              exact h1
            have hrw : HasZ W16 aw Q := by
              obtain ⟨a', c', e, h1, _⟩ := (OW13.out.keep hi1).has
              injection e with e1 _ _
              subst e1
              exact h1
            have HRG := Lib.hid hrg; have HRB := Lib.hid hrb; have HRW := Lib.hid hrw
            have HMK : Hid (Mk N [{ target := .collected X.heap.size, args := #[] }] W16) := Lib.hid (Mk.cons (Mk.nil N X) (Nat.le_refl _) (Mk.nil N W16) hK (by have := HZX.out; have := SK13.out.sz; have := SK13.out.NI; omega))
            have BX16 := Lib.hid hi2
            have hN16 : N + 2 ≤ W16.heap.size := by have := SK16.out.sz; have := SK16.out.NI; omega
            have hA16 : N + 2 ≤ A.heap.size := by have := SK13.out.sz; have := SK13.out.NI; omega
            clear hi1 hi2 hi3 hK hG hrg hrb hrw
            go_upto_region 28 with (fail)
            have KS : Hid (∀ wx, Below W16.heap.size W16 wx → (wx.cell? ⟨A.heap.size, 0, none⟩ = some (.slice ag G.length cg) ∧ wx.cell? ⟨N, 0, none⟩ = some (.slice a0 len0 cap0))) := Lib.hid fun wx hb => ⟨(BX16.out.keep hb).cell, (SK16.out.p.keep hb).cell⟩
            have KT : Hid (∀ wx (r : Bool), Below W16.heap.size W16 wx → ((wx.setCell ⟨N + 1, 0, none⟩ (.bool r)).cell? ⟨A.heap.size, 0, none⟩ = some (.slice ag G.length cg) ∧ (wx.setCell ⟨N + 1, 0, none⟩ (.bool r)).cell? ⟨N, 0, none⟩ = some (.slice a0 len0 cap0))) := Lib.hid fun wx r hb =>
              ⟨(show Bx _ _ _ _ from (BX16.out.keep hb).gone (set_grown wx (N + 1) 0 (.bool r)) (by simp; omega)).cell, (show Bx _ _ _ _ from (SK16.out.p.keep hb).gone (set_grown wx (N + 1) 0 (.bool r)) (by simp)).cell⟩
            have KR : Hid (∀ wx, Below W16.heap.size W16 wx → wx.frozen? ⟨N + 1, 0, none⟩ = false ∧ wx.cell? ⟨N + 1, 0, none⟩ = some (.bool false)) := Lib.hid fun wx hb => ⟨(SK16.out.r.keep hb).free, (SK16.out.r.keep hb).cell⟩
            have HSB : Hid (∀ wx, Below W16.heap.size W16 wx → Calls Try.prog 10 #[.slice ab Q.length cb, .slice aw Q.length cw] wx fun e w' => e = .returned (.bool true) ∧ ∃ n, w' = wx.drewN n) := Lib.hid fun wx hb => by
              have := same_any ab aw Q.length cb Q.length cw Q Q wx (HRB.out.keep hb) rfl (HRW.out.keep hb) rfl
              rwa [decide_eq_true rfl] at this
            have HSG : Hid (∀ a17 c17 wx, Below W16.heap.size W16 wx → HasZ wx a17 G → Calls Try.prog 10 #[.slice ag G.length cg, .slice a17 G.length c17] wx fun e w' => e = .returned (.bool true) ∧ ∃ n, w' = wx.drewN n) := Lib.hid fun a17 c17 wx hb h17 => by
              have := same_any ag a17 G.length cg G.length c17 G G wx (HRG.out.keep hb) rfl h17 rfl
              rwa [decide_eq_true rfl] at this
            have HRA : Hid (∀ wx, Below W16.heap.size W16 wx → Calls Try.prog 12 #[.slice a0 len0 cap0, .int .i64 v] wx fun e w' => ∃ a17 c17, e = .returned (.slice a17 G.length c17) ∧ HasZ w' a17 G ∧ Below W16.heap.size W16 w') := Lib.hid fun wx hb => by
              have := rabove_any a0 len0 cap0 z v wx (HZ.out _ (SK16.out.keep hb).b) HL.out
              unfold OwnIt at this
              rw [← HGG.out] at this
              refine this.mono fun e w' ⟨u, h1, h2, h3⟩ => ?_
              obtain ⟨a17, c17, rfl, h4, -⟩ := h2.has
              exact ⟨a17, c17, h1, h4, hb.trans (h3.mono hb.size)⟩
            go_region_held3 (fun wx => wx.cell? ⟨A.heap.size, 0, none⟩ = some (.slice ag G.length cg) ∧ wx.cell? ⟨N, 0, none⟩ = some (.slice a0 len0 cap0))
              (first | exact KS.out _ (Below.refl _ _) | exact KS.out _ (below_drew1 _) | exact KS.out _ (below_drew _ _) | exact KS.out _ (by assumption) | exact KS.out _ (below_drew1T (by assumption)) | exact KS.out _ (below_drewT (by assumption) _) | exact KT.out _ _ (by assumption) | exact KT.out _ _ (below_drewT (by assumption) _))
              (first
                | (go_split_ands; go_at_call 12; (with_reducible refine (HRA.out _ (by first | assumption | exact below_drew1 _ | exact below_drew _ _ | exact Below.refl _ _ | exact below_drewT (below_drew1 _) _)).mono ?_); rintro e w17 ⟨a17, c17, rfl, hr17, hb17⟩; have HR17 := Lib.hid hr17; obtain ⟨rf17, rc17⟩ := KR.out _ hb17; clear hr17)
                | (go_split_ands; go_at_call 10; (with_reducible refine (HSB.out _ (by first | assumption | exact below_drew1 _ | exact below_drew _ _ | exact Below.refl _ _ | exact below_drewT (by assumption) _)).mono ?_); rintro e w18 ⟨rfl, n18, rfl⟩)
                | (go_split_ands; go_at_call 10; (with_reducible refine (HSG.out _ _ _ (by first | assumption | exact below_drew1T (by assumption) | exact below_drewT (by assumption) _) (by first | exact HR17.out | exact HR17.out.drew _)).mono ?_); rintro e w19 ⟨rfl, n19, rfl⟩)
                | fail)
            have SKf := Lib.hid (SK16.out.keep (below_drewT hb17 n19)); have MKf := Lib.hid (HMK.out.keep (below_drewT hb17 n19))
            clear hb17 HR17 rf17 rc17 KS KT KR HSB HSG HRA
            go_wp2
            exact ret_box rfl rfl MKf.out SKf.out.r (by omega) SKf.out.b
          · rintro c pre W h _
            exact h.elim
end Go.Proofs.Ytnhaoalndlgakaa.Tr

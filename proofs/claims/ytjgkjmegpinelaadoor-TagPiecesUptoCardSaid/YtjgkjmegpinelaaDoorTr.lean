/-
  Layer 7: the program's fieldsOf.
-/
import Derived.Test.YtjgkjmegpinelaaDoorTq
import Derived.Test.YtjgkjmegpinelaaDoorTf
namespace Go.Proofs.YtjgkjmegpinelaaDoor.Tg
open Go.RowKit Go.Shelf Dx Sx Rf
set_option linter.unusedVariables false
set_option linter.unusedSimpArgs false
attribute [local go_sem] Oper.semAt_some

def FieldsIt (l : List UInt8) (w : World) (e : Ending) (w' : World) : Prop := ∃ v, e = .returned (.tuple #[v, .int .i64 (fieldsS l).2]) ∧ OwnF w' w.heap.size v (fieldsS l).1 ∧ Below w.heap.size w w'
theorem field_ok {x : List UInt8} {n : Nat} (h : x.length ≤ n) : -9223372036854775808 ≤ (fieldOf x).1 ∧ (fieldOf x).1 ≤ 9223372036854775807 ∧ (fieldOf x).2.length ≤ n := by
  have hb : -9223372036854775808 ≤ atoiV (cutE x).1 ∧ atoiV (cutE x).1 ≤ 9223372036854775807 := by
    unfold atoiV
    cases hc : Lib.atoiAll (cutE x).1 with
    | ok v => have := Lib.atoiAll_bounds hc; exact ⟨by simp only; omega, by simp only; omega⟩
    | range => simp only [Lib.atoiSat]; split <;> omega
    | _ => simp
  exact ⟨hb.1, hb.2, by have := (cutE_len x).2; show (cutE x).2.length ≤ n; omega⟩
theorem split_len : ∀ (s x : List UInt8), x ∈ splitS s → x.length ≤ s.length
  | [], x, h => by simp [splitS] at h; subst h; simp
  | c :: r, x, h => by
    rw [splitS] at h
    by_cases h1 : c = 1
    · rw [if_pos h1] at h
      rcases List.mem_cons.1 h with rfl | h
      · simp
      · have := split_len r x h; simp; omega
    · rw [if_neg h1] at h
      cases hs : splitS r with
      | nil => exact absurd hs (splitS_ne r)
      | cons p ps =>
        rw [hs] at h
        simp only at h
        rcases List.mem_cons.1 h with rfl | h
        · have := split_len r p (by rw [hs]; simp); simp; omega
        · have := split_len r x (by rw [hs]; simp [h]); simp; omega
theorem trim1_len (l : List UInt8) : (trim1 l).length ≤ l.length := by
  unfold trim1; split <;> simp
theorem parse_ok {l : List UInt8} (h : l.length ≤ 1048576) : OkF (parseG l) := by
  intro f hf
  obtain ⟨x, hx, rfl⟩ := List.mem_map.1 hf
  have h1 := split_len _ x hx
  have h2 := trim1_len l
  exact field_ok (by omega)
/-- Between two rounds: the box of the fields, and what it holds. -/
structure Got (w0 : World) (B D : Nat) (n : Nat) (pre : List (List UInt8)) (W : World) : Prop where
  box : ∃ v, W.heap[B]? = some (.cells #[v] 22 (0, 0)) ∧ OwnF W (D + 2) v (pre.map fieldOf)
  frame : Below w0.heap.size w0 W
theorem OwnF.kept {A B : World} {base : Nat} {v : Value} {F : List Fld} {row : Option Nat} (h : OwnF A base v F) (hg : A.grownBy B row) (hr : ∀ r, row = some r → r < base) : OwnF B base v F := by
  refine World.ownsRow.kept h hg ?_
  cases hv : v.ownBlock with
  | none => exact .inl rfl
  | some k =>
    refine .inr fun e => ?_
    have h1 := h.lt k hv
    have := hr k e.symm
    omega
theorem Got.kept {w0 A C : World} {B D n : Nat} {pre : List (List UInt8)} {row : Option Nat} (h : Got w0 B D n pre A) (hg : A.grownBy C row) (hr : ∀ r, row = some r → r ≠ B ∧ r < D + 2 ∧ w0.heap.size ≤ r) : Got w0 B D n pre C := by
  obtain ⟨v, h1, h2⟩ := h.box
  refine ⟨⟨v, ?_, h2.kept hg (fun r e => (hr r e).2.1)⟩, h.frame.grown hg h.frame.size (fun k hk => (hr k hk).2.2)⟩
  rw [hg.block B (Array.getElem?_eq_some_iff.1 h1).1 (fun e => (hr B e.symm).1 rfl)]
  exact h1
theorem own_row_keep2 {w w' : World} {base : Nat} {v : Value} {F : List Fld} (h : OwnF w base v F) (hb : Below w.heap.size w w') : OwnF w' base v F :=
  h.kept (row := none) ⟨hb.os, hb.tape, hb.output, hb.size, fun k hk _ => hb.block k hk⟩ (fun r e => by cases e)
/-- A round that has appended one field. -/
theorem got_next {w0 W w4 w5 : World} {B D : Nat} {pre : List (List UInt8)} {x : List UInt8} {v v' : Value} {o : Obj} (hf : Below w0.heap.size w0 W) (hv1 : W.heap[B]? = some (.cells #[v] 22 (0, 0))) (hv2 : OwnF W (D + 2) v (pre.map fieldOf)) (hb4 : Below W.heap.size W w4)
    (ho5 : w5.ownsRow (D + 2) 50 2 v' (pre.length + 1) ((pre.map fieldOf).flatMap cells2 ++ cells2 (fieldOf x))) (hg5 : (w4.alloc o).grownBy w5 v.ownBlock) (hD : D + 2 ≤ W.heap.size) (hB : B < D) (hB0 : w0.heap.size ≤ B) :
    (∀ k, k < D + 2 → k ≠ B → (w5.setCell ⟨B, 0, none⟩ v').heap[k]? = W.heap[k]?) ∧ Got w0 B D 0 (pre ++ [x]) (w5.setCell ⟨B, 0, none⟩ v') ∧ w5.cell? ⟨B, 0, none⟩ = some v ∧ w5.frozen? ⟨B, 0, none⟩ = false := by
  have hown : ∀ k, v.ownBlock = some k → D + 2 ≤ k := fun k hk => (hv2.lt k hk).1
  have h5 : ∀ k, k < D + 2 → w5.heap[k]? = W.heap[k]? := fun k hk => by
    have hs := hb4.size
    rw [hg5.block k (by rw [World.size_alloc]; omega) (fun e => by have := hown k e.symm; omega), Below.heap_alloc _ _ _ (by omega), hb4.block k (by omega)]
  have h5B : w5.heap[B]? = some (.cells #[v] 22 (0, 0)) := (h5 B (by omega)).trans hv1
  refine ⟨fun k hk hne => by rw [Below.heap_setCell _ _ _ _ hne]; exact h5 k hk, ⟨⟨v', ?_, ?_⟩, ?_⟩, by rw [Lib.cell_of_heap h5B]; rfl, Lib.frozen_of_heap h5B 0⟩
  · rw [setCell_eq_setRow w5 B 0 _ _ _ _ h5B]
    exact setRow_heap w5 B _ _ _ _ h5B
  · have e : (pre ++ [x]).map fieldOf = pre.map fieldOf ++ [fieldOf x] := by simp
    rw [e]
    have h6 : OwnF w5 (D + 2) v' (pre.map fieldOf ++ [fieldOf x]) := by
      unfold OwnF
      rw [List.length_append, List.flatMap_append]
      simpa using ho5
    exact h6.kept (row := some B) ⟨rfl, rfl, rfl, by simp [World.setCell], fun k _ hk => Below.heap_setCell _ _ _ _ (fun e => hk (by rw [e]))⟩ (fun r e => by cases e; omega)
  · have h4 : Below w0.heap.size w0 (w4.alloc o) := (hf.trans (hb4.mono hf.size)).alloc (by have := hf.size; have := hb4.size; omega) _
    exact (h4.grown hg5 h4.size (fun k hk => by have := hown k hk; omega)).setCell (p := ⟨B, 0, none⟩) hB0 _
theorem cells2_at (w : World) (f : Fld) (T : TypeId) (g : Nat) (hg : g = w.heap.size) : ∀ j u, (cells2 f)[j]? = some u → (w.alloc (.cells #[.int .i64 f.1, .string (bs f.2)] T)).cell? ((⟨g, 0, none⟩ : Addr).add j) = some u := by
  subst hg
  intro j u hu
  match j, hu with
  | 0, hu => simp [cells2] at hu; subst hu; simp [Addr.add]
  | 1, hu => simp [cells2] at hu; subst hu; simp [Addr.add]
  | j + 2, hu => simp [cells2] at hu
set_option maxRecDepth 100000 in
set_option maxHeartbeats 4000000 in
theorem fieldsOf_any (l : List UInt8) (w : World) (hl : l.length ≤ 1048576) (he : Env w) :
    Calls Tryd.prog 47 #[.string (bs l)] w (FieldsIt l w) := by
  have htl := trim1_len l
  have ht := fun wx => trim_any l wx (by omega)
  have HE := Lib.hid he; have HL := Lib.hid hl; clear he
  refine (callsIn_wide (n := 6)).1 ?_
  refine callsIn_of_wp_marks Tryd.func47 rfl trivial ?_ rfl
  simp only [Tryd.ntmps47, List.size_toArray, List.length_cons, List.length_nil, Nat.reduceAdd, Nat.reduceSub, Array.replicate_succ, Array.replicate_zero, List.push_toArray, List.append_toArray, List.nil_append, List.cons_append]
  gi_wp2_with (first
    | (refine ⟨trivial, ?_⟩; gi_at_call 57; refine (callsIn_wide.2 (ht _)).mono ?_; rintro e w1 ⟨rfl, rfl⟩)
    | (refine ⟨trivial, ?_⟩; gi_at_call 56; refine (callsIn_wide.2 (splitSeq_any (trim1 l) _)).mono ?_; rintro e w2 ⟨rfl, hc2, hb2, hz2⟩))
  have hz : w2.heap.size = w.heap.size + 4 := by rw [hz2, World.size_alloc]
  have hB1 : Below w.heap.size w (w.alloc (.cells #[.slice none 0 0] 22)) := (Below.refl _ _).alloc (Nat.le_refl _) _
  have hB2 : Below w.heap.size w w2 := hB1.trans (hb2.mono hB1.size)
  have hg0 : Got w w.heap.size w2.heap.size 0 [] w2 := by
    refine ⟨⟨.slice none 0 0, ?_, World.ownsRow_nil _ _ _ _⟩, hB2⟩
    rw [hb2.block _ (by rw [World.size_alloc]; omega)]
    exact (MapKept.heap_alloc w _).1
  rw [World.size_alloc] at hc2
  have HC2 := Lib.hid hc2; have HG0 := Lib.hid hg0; have HZ := Lib.hid hz; have HTL := Lib.hid htl
  clear hc2 hg0 hb2 hz2 hB1 hB2 hz htl
  refine wpIn_range (α := List UInt8) rfl (by decide) (gf := 85) (lb := #[.pointer (some ⟨w.heap.size + 1 + 1, 0, none⟩), .pointer (some ⟨w.heap.size + 1, 0, none⟩), .pointer (some ⟨w.heap.size + 1 + 2, 0, none⟩)]) rfl trivial (enters_of Tryd.func85 (by kernel_rfl) rfl)
    (encs := fun x => #[.string (bs x)]) (fun _ => rfl) (Keep3 (w.heap.size + 1)) (fun h1 h2 k hk1 hk2 => (h2 k hk1 hk2).trans (h1 k hk1 hk2)) (fun W o hlt k hk1 hk2 => World.putObj_heap_other (by have := HZ.out; omega))
    (fun xs => xs = splitS (trim1 l)) (fun _ => False) (fun pre x => x.length ≤ (trim1 l).length ∧ pre.length ≤ (trim1 l).length)
    (Got w w.heap.size w2.heap.size 0) (fun _ _ _ => False)
    (fun pre A B row h hg hr => h.kept hg (fun r e => by have := HZ.out; rcases hr with hr | hr | hr <;> rw [hr] at e <;> cases e <;> omega))
    (fun _ _ _ _ _ h _ _ => h) HG0.out ?hit
    (fun x => { tmps := #[.string (bs l), undef, .slice none 0 0, .int .i64 0, .pointer (some ⟨w.heap.size, 0, none⟩), .string (bs x), undef, undef, undef, undef, undef, undef, undef, .string (bs l), .string (bs (trim1 l)),
      .func (.func 85) #[] #[.pointer (some ⟨w.heap.size + 1 + 1, 0, none⟩), .pointer (some ⟨w.heap.size + 1, 0, none⟩), .pointer (some ⟨w.heap.size + 1 + 2, 0, none⟩)], .string (bs x),
      undef, undef, undef, undef, undef, undef, undef, undef, undef, undef, undef, undef, undef, undef, undef, undef, undef, undef, undef, undef, undef, undef, undef, undef, undef, undef, undef, undef, undef, undef], defers := [] }) ?assign ?body ?done ?stop
  case hit =>
    intro Rd Dn hRd hDn W1 hI1 hR1 hb1 hY
    have hc1 : Caps W1 (w.heap.size + 1) (trim1 l) := HC2.out.keep (fun k h1 h2 => hb1.block k (by have := HZ.out; omega))
    refine (split_iter (6 - 1) (w2.heap.size + 1) (w.heap.size + 1) (by decide) (trim1 l) (by have := HTL.out; omega) (fun pre W => Got w w.heap.size w2.heap.size 0 pre W ∧ Rd W) (fun _ => False) ?_ ?_ W1 hc1 ⟨hI1, hR1⟩).mono ?_
    · intro pre A B row h hg hr
      refine ⟨h.1.kept hg (fun r e => by have := HZ.out; rcases hr with hr | hr <;> rw [hr] at e <;> cases e <;> omega), hRd A B row h.2 hg ?_ ?_⟩
      · rcases hr with rfl | rfl
        · simp
        · have := HZ.out; intro e; have e2 := Option.some.inj e; omega
      · rcases hr with rfl | rfl
        · simp
        · have := HZ.out; intro e; have e2 := Option.some.inj e; omega
    · intro pre x W2 h hok
      obtain ⟨fn, tmps, assign, body, hy, hR⟩ := hY pre x W2 h.1 h.2 hok
      refine ⟨fn, tmps, assign, body, hy, hR.mono ?_⟩
      rintro e W' (⟨he, h1, h2, h3⟩ | ⟨he, c, hf, _⟩)
      · exact .inl ⟨he, ⟨h1, h2⟩, h3⟩
      · exact hf.elim
    · rintro e W' ⟨hv, h1, h2⟩
      exact ⟨hv, .inl ⟨_, rfl, h1, h2⟩⟩
  case assign =>
    intro l' x W K hK
    gi_wp2
    exact hK
  case body =>
    rintro pre x W hi ⟨hx, hp⟩ hlt
    have hzz := HZ.out; have hl1 := HL.out; have htl1 := HTL.out
    obtain ⟨v, hv1, hv2⟩ := hi.box
    have HI := Lib.hid hi; have HV1 := Lib.hid hv1; have HV2 := Lib.hid hv2
    have henv := HE.out.keep hi.frame
    have hcl := cutE_len x
    have hcut := cut_any x W (by omega)
    have hat : ∀ n, Calls Tryd.prog 59 #[.string (bs (cutE x).1)] (W.drewN n) fun e w' => (∃ y, e = .returned (.tuple #[.int .i64 (fieldOf x).1, y])) ∧ Below W.heap.size W w' := fun n => by
      refine (atoi_any (cutE x).1 (W.drewN n) (by omega) (henv.keep ⟨rfl, rfl, rfl, Nat.le_refl _, fun _ _ => rfl⟩)).mono ?_
      rintro e w' ⟨h1, h2⟩
      exact ⟨h1, ⟨h2.os, h2.tape, h2.output, h2.size, h2.block⟩⟩
    have hf2 : (fieldOf x).2 = (cutE x).2 := rfl
    rw [← hf2] at hcut
    have HAT := Lib.hid hat
    have hpl : (pre.map fieldOf).length ≤ 1048576 := by rw [List.length_map]; omega
    have HPL := Lib.hid hpl; have HLT := Lib.hid hlt
    obtain ⟨i0, fi, hz0, hz1, hz2⟩ := info_parts infoF
    clear hi hv1 hv2 henv hcl hat hf2 hpl hlt hzz hl1 htl1 hx hp
    gi_wp2_with (first
      | (refine ⟨trivial, ?_⟩; gi_at_call 58; refine (CallsIn.inRound _ (callsIn_wide.2 hcut)).mono ?_; rintro e w3 ⟨⟨b, rfl⟩, nn, rfl⟩)
      | (refine ⟨trivial, ?_⟩; gi_at_call 59; refine (CallsIn.inRound _ (callsIn_wide.2 (HAT.out _))).mono ?_; rintro e w4 ⟨⟨y, rfl⟩, hb4⟩
         have q1 : w4.cell? ⟨w.heap.size, 0, none⟩ = some v := by rw [Lib.cell_of_heap ((hb4.block _ (by have := HLT.out; have := HZ.out; omega)).trans HV1.out)]; rfl
         have HB4 := Lib.hid hb4; clear hb4)
      | (gi_at_builtin; refine wpListIn_append_own _ rfl (.tmp 28) (.tmp 32) 22 rfl (w2.heap.size + 2) 50 i0 (.agg #[.int .i64 0, .string ByteArray.empty]) 2 24 Tryd.underlying22 fi hz0 hz1 hz2 ?c0 (by decide) v (pre.map fieldOf).length ((pre.map fieldOf).flatMap cells2) rfl ?c1 ⟨w4.heap.size, 0, none⟩ 1 1 (cells2 (fieldOf x)) rfl rfl ?c2 ?c3 ?c4 ?c5 ?c6 ?_))
    case c0 => kernel_rfl
    case c1 => exact World.ownsRow.alloc (own_row_keep2 HV2.out HB4.out) _
    case c2 => exact cells2_at w4 (fieldOf x) _ _ rfl
    case c3 => intro u hu; simp [cells2] at hu; rcases hu with rfl | rfl <;> rfl
    case c4 => have := HPL.out; unfold maxLen; omega
    case c5 => have := HPL.out; omega
    case c6 => have := HLT.out; have := HB4.out.size; rw [World.size_alloc]; omega
    intro v' w5 ho5 hg5 _
    obtain ⟨r1, r2, r3, r4⟩ := got_next (x := x) HI.out.frame HV1.out HV2.out HB4.out ho5 hg5 (by have := HLT.out; omega) (by have := HZ.out; omega) (Nat.le_refl _)
    have R1 := Lib.hid r1; have R2 := Lib.hid r2
    obtain ⟨g', cap', rfl⟩ := ownsRow_succ ho5
    clear r1 r2 ho5 hg5
    gi_wp2
    exact ⟨⟨R1.out _ (by omega) (by have := HZ.out; omega), R1.out _ (by omega) (by have := HZ.out; omega)⟩, fun k h1 h2 => R1.out k (by have := HZ.out; omega) (by omega), R2.out⟩
  case done =>
    rintro xs W rfl hi hK
    obtain ⟨v, hv1, hv2⟩ := hi.box
    rw [show (splitS (trim1 l)).map fieldOf = parseG l from rfl] at hv2
    obtain ⟨a, cap, rfl, hF, hn, _, _⟩ := hv2.has
    have hok := parse_ok HL.out
    have hbo := bodyOf_any a _ cap (parseG l) W hF rfl hok (HE.out.keep hi.frame).pow
    have hcB : W.cell? ⟨w.heap.size, 0, none⟩ = some (.slice a (parseG l).length cap) := by rw [Lib.cell_of_heap hv1]; rfl
    have HF := Lib.hid hi.frame; have HV2 := Lib.hid hv2; have HK := Lib.hid hK
    have hlb : (bs l).toList = l := bs_toList l
    have HLB := Lib.hid hlb
    clear hi hv1 hv2 hF hn hok hK hlb
    unfold BodyIt at hbo
    have hend : ∀ w7, Below W.heap.size W w7 → w7.heap[w2.heap.size]? = some (.deferred (some [])) ∧ OwnF (w7.putObj w2.heap.size (.deferred none)) w.heap.size (.slice a (parseG l).length cap) (parseG l) ∧ Below w.heap.size w (w7.putObj w2.heap.size (.deferred none)) := fun w7 h => by
      have hlt := (Array.getElem?_eq_some_iff.1 HK.out).1
      have hF7 : Below w.heap.size w w7 := HF.out.trans (h.mono HF.out.size)
      refine ⟨(h.block _ hlt).trans HK.out, ?_, hF7.grown (grownBy_putObj' _ _ _) hF7.size (fun k hk => by cases hk; have := HZ.out; omega)⟩
      have h1 : OwnF (w7.putObj w2.heap.size (.deferred none)) (w2.heap.size + 2) (.slice a (parseG l).length cap) (parseG l) := (own_row_keep2 HV2.out h).kept (grownBy_putObj' _ _ _) (fun r e => by cases e; omega)
      refine ⟨h1.1, ?_⟩
      rcases h1.2 with h0 | ⟨g, cap', cur, hv, hb, rest⟩
      · exact .inl h0
      · exact .inr ⟨g, cap', cur, hv, by have := HZ.out; omega, rest⟩
    have HEND := Lib.hid hend; clear hend
    by_cases hv : validE (parseG l) = 0
    · have hR : bodyR (parseG l) = (bodyL (parseG l), 0) := by unfold bodyR; rw [if_pos hv]
      rw [hR] at hbo
      by_cases heq : bodyL (parseG l) = l
      · have hS : fieldsS l = (parseG l, 0) := by unfold fieldsS; rw [if_pos ⟨hv, heq⟩]
        have HS := Lib.hid hS
        rw [heq] at hbo
        have hq : ((bs l).toList == (bs l).toList) = true := beq_self_eq_true _
        clear hR hv heq hS
        generalize bs l = L at *
        gi_wp2_with (refine ⟨trivial, ?_⟩; gi_at_call 22; refine (callsIn_wide.2 hbo).mono ?_; rintro e w7 ⟨rfl, hb7⟩; have q7 : w7.cell? ⟨w.heap.size, 0, none⟩ = some (.slice a (parseG l).length cap) := (hb7.cell (p := ⟨w.heap.size, 0, none⟩) (Fr.lt_of_cell hcB)).trans hcB)
        obtain ⟨k1, k2, k3⟩ := HEND.out _ hb7
        refine ⟨by simp, .inl ⟨_, _, rfl, run_takeDeferred k1, ?_⟩⟩
        refine ⟨_, results_tmp2 rfl _ _ _, ?_⟩
        exact ⟨.slice a (parseG l).length cap, by rw [HS.out] <;> rfl, by rw [HS.out]; exact k2, k3⟩
      · have hS : fieldsS l = ([], 11) := by unfold fieldsS; rw [if_neg (fun h => heq h.2)]
        have HS := Lib.hid hS
        have hq : ((bs (bodyL (parseG l))).toList == (bs l).toList) = false := by rw [bs_toList, bs_toList]; simpa using heq
        clear hR hv heq hS
        generalize bs (bodyL (parseG l)) = T at *
        generalize bs l = L at *
        gi_wp2_with (refine ⟨trivial, ?_⟩; gi_at_call 22; refine (callsIn_wide.2 hbo).mono ?_; rintro e w7 ⟨rfl, hb7⟩)
        obtain ⟨k1, k2, k3⟩ := HEND.out _ hb7
        refine ⟨by simp, .inl ⟨_, _, rfl, run_takeDeferred k1, ?_⟩⟩
        refine ⟨_, results_tmp2 rfl _ _ _, ?_⟩
        exact ⟨.slice none 0 0, by rw [HS.out] <;> rfl, by rw [HS.out]; exact World.ownsRow_nil _ _ _ _, k3⟩
    · have hS : fieldsS l = ([], 11) := by unfold fieldsS; rw [if_neg (fun h => hv h.1)]
      have hR : bodyR (parseG l) = ([], validE (parseG l)) := by unfold bodyR; rw [if_neg hv]
      rw [hR] at hbo
      have HS := Lib.hid hS
      have hq : (validE (parseG l) == 0) = false := by simpa using hv
      have hq2 : (validE (parseG l) != 0) = true := by simpa using hv
      clear hR hv hS
      generalize validE (parseG l) = E at *
      generalize bs [] = T at *
      generalize bs l = L at *
      gi_wp2_with (refine ⟨trivial, ?_⟩; gi_at_call 22; refine (callsIn_wide.2 hbo).mono ?_; rintro e w7 ⟨rfl, hb7⟩)
      obtain ⟨k1, k2, k3⟩ := HEND.out _ hb7
      refine ⟨by simp, .inl ⟨_, _, rfl, run_takeDeferred k1, ?_⟩⟩
      refine ⟨_, results_tmp2 rfl _ _ _, ?_⟩
      exact ⟨.slice none 0 0, by rw [HS.out] <;> rfl, by rw [HS.out]; exact World.ownsRow_nil _ _ _ _, k3⟩
  case stop =>
    rintro c pre W h
    exact h.elim
end Go.Proofs.YtjgkjmegpinelaaDoor.Tg

/-
  Layer 13: lists of api.Pos: with one more, without one. (Written by gen_ic.py out of p_if.txt.)
-/
import Derived.Test.YtpagkeklilgknaaIep
namespace Go.Proofs.Ytpagkeklilgknaa.Bo
open Go.RowKit Rw
set_option linter.unusedVariables false
set_option linter.unusedSimpArgs false

theorem plain_p {w : World} {ad : Addr} {X : List Ps} (h : Has encp w (some ad) X) (h0 : 0 < X.length) : ∃ b off, ad = ⟨b, off, none⟩ := by
  obtain ⟨b, off, e, _⟩ := h.2 h0
  exact ⟨b, off, by simpa using e⟩
/-- What is behind an index: the old address if nothing of the capacity is left, else the moved one. -/
theorem tail_p {w : World} {b off cap k len : Nat} {L R : List Ps} {AR : Addr} (h : Has encp w (some ⟨b, off, none⟩) (L ++ R)) (hk : L.length = k) (hl : (L ++ R).length = len) (hc : len ≤ cap) (hAR : (if cap = k then some (⟨b, off, none⟩ : Addr) else some ⟨b, off + k * 3, none⟩) = some AR) : Has encp w (some AR) R := by
  by_cases e : cap = k
  · have : R = [] := List.eq_nil_of_length_eq_zero (by rw [List.length_append] at hl; omega)
    rw [this]; exact Has.nil _ _
  · rw [if_neg e] at hAR
    have h2 := h.right okp
    rw [hk] at h2
    rw [← hAR]
    exact h2
/-- Three slices, laid. -/
theorem three_p (w : World) (p q r : Ptp) (g : Nat) (hg : g = w.heap.size) (hp : p.Ok w) (hq : q.Ok w) (hr : r.Ok w) (hm : p.X.length + q.X.length + r.X.length ≤ 1000) :
    Calls Try.prog 53 #[.slice (some ⟨g, 0, none⟩) 3 3] ((w.alloc (.cells #[.slice p.a p.len p.cap, .slice q.a q.len q.cap, .slice r.a r.len r.cap] 22)).drew) fun e w' => ∃ v, e = .returned v ∧ Own encp w' w.heap.size v (p.X ++ (q.X ++ r.X)) ∧ Below w.heap.size w w' := by
  have hn := Blk.new w #[.slice p.a p.len p.cap, .slice q.a q.len q.cap, .slice r.a r.len r.cap] 22
  rw [← hg] at hn
  have hb : Below w.heap.size w ((w.alloc (.cells #[.slice p.a p.len p.cap, .slice q.a q.len q.cap, .slice r.a r.len r.cap] 22)).drew) := (one_alloc _ _).drew
  have he : allp [p, q, r] = p.X ++ (q.X ++ r.X) := by simp [allp]
  refine (concat_p g 3 [p, q, r] _ rfl ?_ ?_ (by rw [he]; simp only [List.length_append]; omega) (by omega)).mono ?_
  · intro j x hx
    match j, hx with
    | 0, hx => cases hx; exact hn.cell 0
    | 1, hx => cases hx; exact hn.cell 1
    | 2, hx => cases hx; exact hn.cell 2
  · intro j x hx
    match j, hx with
    | 0, hx => cases hx; exact ⟨hp.has.keep hb, hp.len, hp.none_⟩
    | 1, hx => cases hx; exact ⟨hq.has.keep hb, hq.len, hq.none_⟩
    | 2, hx => cases hx; exact ⟨hr.has.keep hb, hr.len, hr.none_⟩
  · rintro e w' ⟨v, rfl, ho, hb2⟩
    rw [he] at ho
    exact ⟨v, rfl, ho.low hb.size, below_next hb hb2⟩
/-- Two slices, laid. -/
theorem two_p (w : World) (p q : Ptp) (g : Nat) (hg : g = w.heap.size) (hp : p.Ok w) (hq : q.Ok w) (hm : p.X.length + q.X.length ≤ 1000) :
    Calls Try.prog 53 #[.slice (some ⟨g, 0, none⟩) 2 2] ((w.alloc (.cells #[.slice p.a p.len p.cap, .slice q.a q.len q.cap] 22)).drew) fun e w' => ∃ v, e = .returned v ∧ Own encp w' w.heap.size v (p.X ++ q.X) ∧ Below w.heap.size w w' := by
  have hn := Blk.new w #[.slice p.a p.len p.cap, .slice q.a q.len q.cap] 22
  rw [← hg] at hn
  have hb : Below w.heap.size w ((w.alloc (.cells #[.slice p.a p.len p.cap, .slice q.a q.len q.cap] 22)).drew) := (one_alloc _ _).drew
  have he : allp [p, q] = p.X ++ q.X := by simp [allp]
  refine (concat_p g 2 [p, q] _ rfl ?_ ?_ (by rw [he]; simp only [List.length_append]; omega) (by omega)).mono ?_
  · intro j x hx
    match j, hx with
    | 0, hx => cases hx; exact hn.cell 0
    | 1, hx => cases hx; exact hn.cell 1
  · intro j x hx
    match j, hx with
    | 0, hx => cases hx; exact ⟨hp.has.keep hb, hp.len, hp.none_⟩
    | 1, hx => cases hx; exact ⟨hq.has.keep hb, hq.len, hq.none_⟩
  · rintro e w' ⟨v, rfl, ho, hb2⟩
    rw [he] at ho
    exact ⟨v, rfl, ho.low hb.size, below_next hb hb2⟩
set_option maxRecDepth 100000 in
set_option maxHeartbeats 2000000 in
theorem with_p (a : Option Addr) (len cap k : Nat) (x : Ps) (L R : List Ps) (w : World) (h : Has encp w a (L ++ R)) (hk : L.length = k) (hl : (L ++ R).length = len) (hlc : len ≤ cap) (hn : a = none → cap = 0) (hm : len ≤ 900) (hcm : cap ≤ 9223372036854775807) :
    Calls Try.prog 42 #[.slice a len cap, .int .i64 (k : Int), .agg #[.int .i64 x.acct, .int .i64 x.instr, .int .i64 x.qty]] w fun e w' => ∃ v, e = .returned v ∧ Own encp w' w.heap.size v (L ++ ([x] ++ R)) ∧ Below w.heap.size w w' := by
  obtain ⟨N, hN⟩ : ∃ N, N = w.heap.size := ⟨_, rfl⟩
  obtain ⟨W0, hW0⟩ : ∃ W0, W0 = w.alloc (.cells #[.int .i64 x.acct, .int .i64 x.instr, .int .i64 x.qty] 48) := ⟨_, rfl⟩
  have x0 : Blk W0 N #[.int .i64 x.acct, .int .i64 x.instr, .int .i64 x.qty] 48 := by rw [hW0, hN]; exact Blk.new w _ _
  have hb : Below w.heap.size w W0 := by rw [hW0]; exact one_alloc _ _
  have KS : Hid (∀ wx, Below W0.heap.size W0 wx → wx.cell? ⟨N, 0, none⟩ = some (.int .i64 x.acct) ∧ wx.cell? ⟨N, 1, none⟩ = some (.int .i64 x.instr) ∧ wx.cell? ⟨N, 2, none⟩ = some (.int .i64 x.qty)) := Lib.hid fun wx hb => ⟨(x0.keep hb).cell 0, (x0.keep hb).cell 1, (x0.keep hb).cell 2⟩
  have HX : Hid (∀ wx, Below W0.heap.size W0 wx → Has encp wx a (L ++ R)) := Lib.hid fun wx hb2 => (h.keep hb).keep hb2
  have HB := Lib.hid hb; have HN := Lib.hid hN; have HW := Lib.hid hW0; have HK := Lib.hid hk
  have HL := Lib.hid hl
  have hkl : k ≤ len := by rw [← hl, List.length_append]; omega
  have hlr : R.length = len - k := by rw [List.length_append] at hl; omega
  have HLR := Lib.hid hlr
  obtain ⟨c0, c1, c2⟩ := KS.out W0 (Below.refl _ _)
  have ol := Has.lit (E := encp) W0 [x] #[.int .i64 x.acct, .int .i64 x.instr, .int .i64 x.qty] 48 W0.heap.size rfl rfl (by simp)
  have bl := one_alloc W0 (.cells #[.int .i64 x.acct, .int .i64 x.instr, .int .i64 x.qty] 48)
  obtain ⟨W1, hW1⟩ : ∃ W1, W1 = W0.alloc (.cells #[.int .i64 x.acct, .int .i64 x.instr, .int .i64 x.qty] 48) := ⟨_, rfl⟩
  have hM1 : W1.heap.size = W0.heap.size + 1 := by rw [hW1]; simp
  rw [← hW1] at ol bl
  have H3 : ∀ a1 a3, Has encp W1 a1 L → Has encp W1 a3 R → (a1 = none → cap = 0) → (a3 = none → cap - k = 0) → Hid (Calls Try.prog 53 #[.slice (some ⟨W0.heap.size + 1, 0, none⟩) 3 3] (((W0.alloc (.cells #[.int .i64 x.acct, .int .i64 x.instr, .int .i64 x.qty] 48)).alloc (.cells #[.slice a1 k cap, .slice (some ⟨W0.heap.size, 0, none⟩) 1 1, .slice a3 (len - k) (cap - k)] 22)).drew) fun e w' => ∃ v, e = .returned v ∧ Own encp w' W1.heap.size v (L ++ ([x] ++ R)) ∧ Below W1.heap.size W1 w') := by
    intro a1 a3 h1 h3 n1 n3
    rw [← hW1]
    exact Lib.hid (three_p W1 ⟨a1, k, cap, L⟩ ⟨some ⟨W0.heap.size, 0, none⟩, 1, 1, [x]⟩ ⟨a3, len - k, cap - k, R⟩ _ hM1.symm ⟨h1, hk, n1⟩ ⟨ol, rfl, fun h => by cases h⟩ ⟨h3, hlr, n3⟩ (by simp only [List.length_cons, List.length_nil]; omega))
  have HBL := Lib.hid bl
  have hE : Hid (∀ v (w' : World), Own encp w' W1.heap.size v (L ++ ([x] ++ R)) → Below W1.heap.size W1 w' → Own encp w' w.heap.size v (L ++ ([x] ++ R)) ∧ Below w.heap.size w w') := Lib.hid fun v w' ho hb2 => ⟨ho.low (by have := hb.size; have := bl.size; omega), below_next hb (below_next bl hb2)⟩
  have i0 : (0 : Int) ≤ (k : Int) := by omega
  have i1 : (k : Int) ≤ (len : Int) := by omega
  have i2 : (k : Int) ≤ (cap : Int) := by omega
  have i3 : (len : Int) ≤ (cap : Int) := by omega
  cases a with
  | none =>
    have h0 := hn rfl
    have hX0 : L ++ R = [] := by
      rcases Nat.eq_zero_or_pos (L ++ R).length with h2 | h2
      · exact List.eq_nil_of_length_eq_zero h2
      · obtain ⟨g, o, e, _⟩ := h.2 h2; cases e
    rw [hX0] at hl
    simp at hl
    subst hl h0
    obtain rfl : k = 0 := by omega
    have H := H3 none none (((HX.out W0 (Below.refl _ _)).keep bl).left) (by rw [(List.append_eq_nil_iff.1 hX0).2]; exact Has.nil _ _) (fun _ => rfl) (fun _ => rfl)
    clear h hk hX0 hn hm hN hW0 x0 hb H3 HX HL ol bl hW1 hM1 HK HLR hlr
    go_enter Try.func42, Try.ntmps42
    go_upto_region 1 with (fail)
    rw [← HN.out, ← HW.out]
    clear HW
    go_region_held3 (fun wx => wx.cell? ⟨N, 0, none⟩ = some (.int .i64 x.acct) ∧ wx.cell? ⟨N, 1, none⟩ = some (.int .i64 x.instr) ∧ wx.cell? ⟨N, 2, none⟩ = some (.int .i64 x.qty))
      (first | exact KS.out _ (by assumption) | (refine KS.out _ ?_; (repeat' (first | exact Below.refl _ _ | refine Below.drew ?_ | refine Below.alloc ?_ (by simp) _))))
      (first | (go_at_call 53; (with_reducible refine H.out.mono ?_); rintro e w5 ⟨v5, rfl, ho5, hb5⟩; have hb6 := below_next HBL.out hb5) | fail)
    go_wp2
    go_ret
    obtain ⟨q1, q2⟩ := hE.out _ _ ho5 hb5
    exact ⟨_, rfl, q1, q2⟩
  | some ad =>
    rcases Nat.eq_zero_or_pos (L ++ R).length with h2 | h2
    · have hX0 : L ++ R = [] := List.eq_nil_of_length_eq_zero h2
      rw [hX0] at hl
      simp at hl
      subst hl
      obtain rfl : k = 0 := by omega
      obtain ⟨b, off, sp⟩ := ad
      have H := H3 (some ⟨b, off, sp⟩) (some ⟨b, off, sp⟩) (((HX.out W0 (Below.refl _ _)).keep bl).left) (by rw [(List.append_eq_nil_iff.1 hX0).2]; exact Has.nil _ _) (fun h => by cases h) (fun h => by cases h)
      simp only [Nat.sub_zero] at H
      clear h hk hX0 hn hm hN hW0 x0 hb H3 HX HL ol bl hW1 hM1 HK HLR hlr h2
      go_enter Try.func42, Try.ntmps42
      go_upto_region 1 with (fail)
      rw [← HN.out, ← HW.out]
      clear HW
      go_region_held3 (fun wx => wx.cell? ⟨N, 0, none⟩ = some (.int .i64 x.acct) ∧ wx.cell? ⟨N, 1, none⟩ = some (.int .i64 x.instr) ∧ wx.cell? ⟨N, 2, none⟩ = some (.int .i64 x.qty))
        (first | exact KS.out _ (by assumption) | (refine KS.out _ ?_; (repeat' (first | exact Below.refl _ _ | refine Below.drew ?_ | refine Below.alloc ?_ (by simp) _))))
        (first | (go_at_call 53; (with_reducible refine H.out.mono ?_); rintro e w5 ⟨v5, rfl, ho5, hb5⟩; have hb6 := below_next HBL.out hb5) | fail)
      go_wp2
      go_ret
      obtain ⟨q1, q2⟩ := hE.out _ _ ho5 hb5
      exact ⟨_, rfl, q1, q2⟩
    · obtain ⟨b, off, rfl⟩ := plain_p h h2
      obtain ⟨AR, hAR⟩ : ∃ AR : Addr, (if cap = k then some (⟨b, off, none⟩ : Addr) else some ⟨b, off + k * 3, none⟩) = some AR := by split <;> exact ⟨_, rfl⟩
      have hX1 := (HX.out W0 (Below.refl _ _)).keep bl
      have H := H3 (some ⟨b, off, none⟩) (some AR) hX1.left (tail_p hX1 hk hl hlc hAR) (fun h => by cases h) (fun h => by cases h)
      clear h hk hn hm hN hW0 x0 hb H3 HX HL ol bl hW1 hM1 HK HLR hlr h2 hl hX1
      go_enter Try.func42, Try.ntmps42
      go_upto_region 1 with (fail)
      rw [← HN.out, ← HW.out]
      clear HW
      go_region_held3 (fun wx => wx.cell? ⟨N, 0, none⟩ = some (.int .i64 x.acct) ∧ wx.cell? ⟨N, 1, none⟩ = some (.int .i64 x.instr) ∧ wx.cell? ⟨N, 2, none⟩ = some (.int .i64 x.qty))
        (first | exact KS.out _ (by assumption) | (refine KS.out _ ?_; (repeat' (first | exact Below.refl _ _ | refine Below.drew ?_ | refine Below.alloc ?_ (by simp) _))))
        (first | (go_at_call 53; (with_reducible refine H.out.mono ?_); rintro e w5 ⟨v5, rfl, ho5, hb5⟩; have hb6 := below_next HBL.out hb5) | fail)
      go_wp2
      go_ret
      obtain ⟨q1, q2⟩ := hE.out _ _ ho5 hb5
      exact ⟨_, rfl, q1, q2⟩
set_option maxRecDepth 100000 in
set_option maxHeartbeats 2000000 in
theorem without_p (a : Option Addr) (len cap k : Nat) (y : Ps) (L R : List Ps) (w : World) (h : Has encp w a (L ++ (y :: R))) (hk : L.length = k) (hl : (L ++ (y :: R)).length = len) (hlc : len ≤ cap) (hm : len ≤ 900) (hcm : cap ≤ 9223372036854775807) :
    Calls Try.prog 43 #[.slice a len cap, .int .i64 (k : Int)] w fun e w' => ∃ v, e = .returned v ∧ Own encp w' w.heap.size v (L ++ R) ∧ Below w.heap.size w w' := by
  have h2 : 0 < (L ++ (y :: R)).length := by rw [List.length_append, List.length_cons]; omega
  cases a with
  | none => obtain ⟨g, o, e, _⟩ := h.2 h2; cases e
  | some ad =>
    obtain ⟨b, off, rfl⟩ := plain_p h h2
    obtain ⟨AR, hAR⟩ : ∃ AR : Addr, (if cap = k + 1 then some (⟨b, off, none⟩ : Addr) else some ⟨b, off + (k + 1) * 3, none⟩) = some AR := by split <;> exact ⟨_, rfl⟩
    have e2 : L ++ (y :: R) = (L ++ [y]) ++ R := by simp
    have hkl : k + 1 ≤ len := by rw [← hl, e2, List.length_append, List.length_append]; simp; omega
    have hlr : R.length = len - (k + 1) := by rw [e2, List.length_append, List.length_append] at hl; simp at hl; omega
    have H := Lib.hid (two_p w ⟨some ⟨b, off, none⟩, k, cap, L⟩ ⟨some AR, len - (k + 1), cap - (k + 1), R⟩ w.heap.size rfl ⟨h.left, hk, fun h => by cases h⟩ ⟨tail_p (by rw [← e2]; exact h) (by simp; omega) (by rw [← e2]; exact hl) hlc hAR, hlr, fun h => by cases h⟩ (by simp only; omega))
    have i0 : (0 : Int) ≤ (k : Int) := by omega
    have i1 : (k : Int) ≤ (len : Int) := by omega
    have i2 : (k : Int) ≤ (cap : Int) := by omega
    have i3 : (len : Int) ≤ (cap : Int) := by omega
    have i4 : (0 : Int) ≤ (k : Int) + 1 := by omega
    have i5 : (k : Int) + 1 ≤ (len : Int) := by omega
    have i6 : IntKind.i64.wrap ((k : Int) + 1) = (k : Int) + 1 := IntWalk.i64_in _ (by omega)
    have i7 : ((k : Int) + 1).toNat = k + 1 := by omega
    clear h hk e2 hlr h2 hl hm
    go_enter Try.func43, Try.ntmps43
    go_upto_region 1 with (fail)
    go_region_held3 (fun wx => True)
      (exact trivial)
      (first | (go_at_call 53; (with_reducible refine H.out.mono ?_); rintro e w5 ⟨v5, rfl, ho5, hb5⟩) | fail)
    go_wp2
    go_ret
    exact ⟨_, rfl, ho5, hb5⟩
end Go.Proofs.Ytpagkeklilgknaa.Bo

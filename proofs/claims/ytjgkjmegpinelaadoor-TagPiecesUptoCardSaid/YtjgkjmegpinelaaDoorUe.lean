/-
  The mathematics of layer 7: how the reference reads a body, piece by piece; it comes to what the program reads.
-/
import Derived.Test.YtjgkjmegpinelaaDoorTb
namespace Go.Proofs.YtjgkjmegpinelaaDoor.Tg
open Dx Sx
set_option linter.unusedVariables false
set_option linter.unusedSimpArgs false

/-- A piece (without its 01) as a field: its digits, its first byte, what is behind the digits. -/
def pieceQ (l : List UInt8) (c : UInt8) : List UInt8 → Option Fld
  | 61 :: v => if l = [] ∨ c = 48 then none else if fitB ((val l : Int), v) = true then some ((val l : Int), v) else none
  | _ => none
def pieceP (p : List UInt8) : Option Fld := pieceQ (p.takeWhile isD) (p.headD 0) (p.dropWhile isD)
theorem pieceQ_at (l : List UInt8) (c : UInt8) (v : List UInt8) : pieceQ l c (61 :: v) = if l = [] ∨ c = 48 then none else if fitB ((val l : Int), v) = true then some ((val l : Int), v) else none := rfl
theorem pieceQ_some {l r : List UInt8} {c : UInt8} {f : Fld} (h : pieceQ l c r = some f) : ∃ v, r = 61 :: v ∧ l ≠ [] ∧ c ≠ 48 ∧ fitB f = true ∧ f = ((val l : Int), v) := by
  unfold pieceQ at h
  split at h
  · next v =>
    by_cases h1 : l = [] ∨ c = 48
    · rw [if_pos h1] at h; cases h
    · rw [if_neg h1] at h
      by_cases h2 : fitB ((val l : Int), v) = true
      · rw [if_pos h2] at h
        cases h
        exact ⟨v, rfl, fun e => h1 (.inl e), fun e => h1 (.inr e), h2, rfl⟩
      · rw [if_neg h2] at h; cases h
  · cases h
theorem pieceQ_none {l r : List UInt8} {c : UInt8} (h : ∀ v, r = 61 :: v → l ≠ [] → c ≠ 48 → fitB ((val l : Int), v) = true → False) : pieceQ l c r = none := by
  cases e : pieceQ l c r with
  | none => rfl
  | some f =>
    obtain ⟨v, h1, h2, h3, h4, h5⟩ := pieceQ_some e
    subst h5
    exact (h v h1 h2 h3 h4).elim
theorem while_at : ∀ (l r : List UInt8), l.all isD = true → (∀ c ∈ r.head?, isD c = false) → (l ++ r).takeWhile isD = l ∧ (l ++ r).dropWhile isD = r
  | [], r, _, h => by
    cases r with
    | nil => exact ⟨rfl, rfl⟩
    | cons c r =>
      have h1 := h c rfl
      simp [List.takeWhile, List.dropWhile, h1]
  | c :: l, r, h, h2 => by
    simp only [List.all_cons, Bool.and_eq_true] at h
    obtain ⟨e1, e2⟩ := while_at l r h.2 h2
    simp [List.takeWhile, List.dropWhile, h.1, e1, e2]
theorem take_while (p : List UInt8) : p = p.takeWhile isD ++ p.dropWhile isD ∧ (p.takeWhile isD).all isD = true := by
  induction p with
  | nil => exact ⟨rfl, rfl⟩
  | cons c r ih =>
    cases h : isD c with
    | true =>
      simp only [List.takeWhile, List.dropWhile, h, List.all_cons, Bool.true_and, List.cons_append]
      exact ⟨by rw [← ih.1], ih.2⟩
    | false =>
      simp [List.takeWhile, List.dropWhile, h]
theorem headD_take {p l r : List UInt8} (h : p = l ++ r) (hl : l ≠ []) : p.headD 0 = l.headD 0 := by
  subst h
  cases l with
  | nil => exact absurd rfl hl
  | cons c l => rfl
theorem pieceP_eq {l r : List UInt8} (hl : l.all isD = true) (hr : ∀ c ∈ r.head?, isD c = false) : pieceP (l ++ r) = pieceQ l ((l ++ r).headD 0) r := by
  obtain ⟨e1, e2⟩ := while_at l r hl hr
  unfold pieceP
  rw [e1, e2]
theorem pieceP_some {p : List UInt8} {f : Fld} (h : pieceP p = some f) : fitB f = true ∧ p = pieceF f := by
  obtain ⟨e, hd⟩ := take_while p
  obtain ⟨v, hv, hne, hc, h2, rfl⟩ := pieceQ_some h
  refine ⟨h2, ?_⟩
  obtain ⟨f1, _⟩ := fitB_iff.1 h2
  have h48 : (p.takeWhile isD).headD 0 ≠ 48 := fun e2 => hc (by rw [headD_take e hne]; exact e2)
  have hw : wholeB (p.takeWhile isD) = true := by
    unfold wholeB
    simp only [Bool.and_eq_true, Bool.or_eq_true, beq_iff_eq, bne_iff_ne]
    refine ⟨⟨?_, hd⟩, .inr h48⟩
    cases hh : p.takeWhile isD with
    | nil => exact absurd hh hne
    | cons => rfl
  unfold pieceF
  simp only at f1 ⊢
  rw [itoaT_pos (by omega), Int.toNat_natCast, dec_val hw, ← hv]
  exact e
theorem pieceP_piece {f : Fld} (h : fitB f = true) : pieceP (pieceF f) = some f := by
  obtain ⟨t, v⟩ := f
  obtain ⟨f1, f2, _⟩ := fitB_iff.1 h
  simp only at f1 f2
  unfold pieceF
  simp only
  rw [itoaT_pos (by omega), pieceP_eq (dec_all _) (by intro c hc; cases hc; decide)]
  have hne : dec t.toNat ≠ [] := fun e => by have := dec_length t.toNat; rw [e] at this; have := nd_pos t.toNat; simp at *; omega
  have h48 : ¬ (dec t.toNat = [] ∨ (dec t.toNat ++ 61 :: v).headD 0 = 48) := by
    rintro (e | e)
    · exact hne e
    · rw [headD_take rfl hne] at e
      have hw := dec_whole t.toNat
      unfold wholeB at hw
      simp only [Bool.and_eq_true, Bool.or_eq_true, beq_iff_eq, bne_iff_ne] at hw
      rcases hw.2 with h3 | h3
      · have := congrArg val h3
        rw [val_dec, show val [48] = 0 by decide] at this
        omega
      · exact h3 e
  rw [pieceQ_at, if_neg h48, val_dec]
  have et : ((t.toNat : Nat) : Int) = t := by omega
  rw [et, if_pos h]
/-- The pieces so far, the fields so far, what is left. -/
def goS : List UInt8 → List Fld → List UInt8 → Option (List Fld × List UInt8)
  | cur, out, [] => some (out, cur)
  | cur, out, c :: r => if c = 1 then match pieceP cur with
      | none => none
      | some f => goS [] (out ++ [f]) r
    else goS (cur ++ [c]) out r
theorem goS_some : ∀ (l cur : List UInt8) (out G : List Fld) (x : List UInt8), goS cur out l = some (G, x) → ∃ F, G = out ++ F ∧ (∀ f ∈ F, fitB f = true) ∧ cur ++ l = bodyL F ++ x
  | [], cur, out, G, x, h => by
    simp [goS] at h
    exact ⟨[], by simp [h.1], (fun f hf => by cases hf), by simp [bodyL, h.2]⟩
  | c :: r, cur, out, G, x, h => by
    rw [goS] at h
    by_cases hc : c = 1
    · rw [if_pos hc] at h
      cases hp : pieceP cur with
      | none => rw [hp] at h; cases h
      | some f =>
        rw [hp] at h
        simp only at h
        obtain ⟨F, h1, h2, h3⟩ := goS_some r [] (out ++ [f]) G x h
        obtain ⟨h4, h5⟩ := pieceP_some hp
        refine ⟨f :: F, by rw [h1]; simp, fun g hg => ?_, ?_⟩
        · rcases List.mem_cons.1 hg with rfl | hg
          · exact h4
          · exact h2 g hg
        · rw [List.nil_append] at h3
          rw [bodyL_cons, List.append_assoc, ← h3, encF_piece, ← h5, hc]
          simp
    · rw [if_neg hc] at h
      obtain ⟨F, h1, h2, h3⟩ := goS_some r (cur ++ [c]) out G x h
      exact ⟨F, h1, h2, by rw [← h3]; simp⟩
theorem goS_piece : ∀ (p r cur : List UInt8) (out : List Fld), (1 : UInt8) ∉ p → goS cur out (p ++ 1 :: r) = match pieceP (cur ++ p) with
      | none => none
      | some f => goS [] (out ++ [f]) r
  | [], r, cur, out, _ => by rw [List.nil_append, goS, if_pos rfl, List.append_nil]
  | c :: p, r, cur, out, h => by
    simp only [List.mem_cons, not_or] at h
    rw [List.cons_append, goS, if_neg (fun e => h.1 e.symm), goS_piece p r (cur ++ [c]) out h.2, List.append_assoc]
    rfl
theorem goS_body : ∀ (F out : List Fld), (∀ f ∈ F, fitB f = true) → goS [] out (bodyL F) = some (out ++ F, [])
  | [], out, _ => by simp [bodyL, goS]
  | f :: F, out, h => by
    have hf := h f (by simp)
    rw [bodyL_cons, encF_piece, List.append_assoc]
    show goS [] out (pieceF f ++ 1 :: bodyL F) = _
    rw [goS_piece _ _ _ _ (piece_no1 hf), List.nil_append, pieceP_piece hf]
    simp only
    rw [goS_body F (out ++ [f]) (fun g hg => h g (List.mem_cons_of_mem _ hg))]
    simp
theorem split_yes {body : List UInt8} {G : List Fld} (h : goS [] [] body = some (G, [])) (h35 : G.head?.map Prod.fst = some 35) (hl : body.length ≤ 4096) : fieldsS body = (G, 0) := by
  obtain ⟨F, h1, h2, h3⟩ := goS_some body [] [] G [] h
  rw [List.nil_append] at h1 h3
  rw [List.append_nil] at h3
  subst h1 h3
  refine fields_body (validE_zero.2 ⟨?_, hl⟩)
  unfold formB
  rw [h35, Bool.and_eq_true, List.all_eq_true]
  exact ⟨by decide, h2⟩
theorem split_no {body : List UInt8} (h : ∀ G, goS [] [] body = some (G, []) → G.head?.map Prod.fst ≠ some 35) : (fieldsS body).2 ≠ 0 := by
  intro e
  obtain ⟨v1, v2⟩ := fields_ok (F := (fieldsS body).1) (by rw [← e])
  generalize (fieldsS body).1 = G at *
  obtain ⟨⟨⟨v, r, hG⟩, h4⟩, _⟩ := (validE_zero.1 v1).imp formB_iff.1 id
  refine h G (by rw [← v2, goS_body G [] h4]; rfl) ?_
  rw [hG]; rfl
/-! ### What the reference's walk of a piece comes to -/
theorem piece_empty {p : List UInt8} (h : p = [] ∨ isD (p.headD 0) = false) : pieceP p = none := by
  rcases h with rfl | h
  · rfl
  · cases p with
    | nil => rfl
    | cons c r =>
      have hc : isD c = false := h
      have e := pieceP_eq (l := []) (r := c :: r) rfl (by intro x hx; cases hx; exact hc)
      rw [List.nil_append] at e
      rw [e]
      exact pieceQ_none fun v _ h2 => absurd rfl h2
theorem piece_all {p : List UInt8} (h : p.all isD = true) : pieceP p = none := by
  have e := pieceP_eq (l := p) (r := []) h (by intro x hx; cases hx)
  rw [List.append_nil] at e
  rw [e]
  exact pieceQ_none fun v h1 => by cases h1
theorem piece_zero {p : List UInt8} (h : p.headD 0 = 48) : pieceP p = none := pieceQ_none fun v _ _ h3 => absurd h h3
theorem split_at {p : List UInt8} {k : Nat} (h : k < p.length) : p = p.take k ++ p.getD k 0 :: p.drop (k + 1) := by
  have e : p.getD k 0 = p[k] := by simp [List.getD, h]
  rw [e, ← List.drop_eq_getElem_cons h, List.take_append_drop]
theorem piece_other {p : List UInt8} {k : Nat} (h : k < p.length) (hd : (p.take k).all isD = true) (hc : isD (p.getD k 0) = false) (h61 : p.getD k 0 ≠ 61) : pieceP p = none := by
  have e := pieceP_eq (l := p.take k) (r := p.getD k 0 :: p.drop (k + 1)) hd (by intro x hx; cases hx; exact hc)
  rw [← split_at h] at e
  rw [e]
  exact pieceQ_none fun v hv => absurd (List.cons.inj hv).1 h61
/-- Many digits: no field's number. -/
theorem piece_big {p : List UInt8} {k : Nat} (hd : (p.take k).all isD = true) (hb : 100000 ≤ val (p.take k)) : pieceP p = none := by
  obtain ⟨e, hd2⟩ := take_while p
  refine pieceQ_none fun v hv h1 h2 hf => ?_
  obtain ⟨_, f2, _⟩ := fitB_iff.1 hf
  simp only at f2
  have hkl : (p.take k) = (p.takeWhile isD).take k := by
    rcases Nat.lt_or_ge (p.takeWhile isD).length k with h | h
    · exfalso
      have h3 : p.take k = p.takeWhile isD ++ 61 :: v.take (k - (p.takeWhile isD).length - 1) := by
        conv => lhs; rw [e, hv]
        rw [List.take_append, List.take_of_length_le (by omega)]
        congr 1
        rw [show k - (p.takeWhile isD).length = (k - (p.takeWhile isD).length - 1) + 1 by omega, List.take_succ_cons]
        rfl
      rw [h3, List.all_append, Bool.and_eq_true, List.all_cons, Bool.and_eq_true] at hd
      have := hd.2.1
      revert this
      decide
    · conv => lhs; rw [e]
      rw [List.take_append_of_le_length h]
  have := val_take_le (p.takeWhile isD) k
  rw [hkl] at hb
  omega
theorem piece_field {p : List UInt8} {k : Nat} (h : k < p.length) (hd : (p.take k).all isD = true) (h61 : p.getD k 0 = 61) (h0 : 0 < k) (h48 : p.headD 0 ≠ 48) :
    pieceP p = if fitB ((val (p.take k) : Int), p.drop (k + 1)) = true then some ((val (p.take k) : Int), p.drop (k + 1)) else none := by
  have e0 := split_at h
  rw [h61] at e0
  have e := pieceP_eq (l := p.take k) (r := 61 :: p.drop (k + 1)) hd (by intro x hx; cases hx; decide)
  rw [← e0, pieceQ_at, if_neg] at e
  · exact e
  · rintro (h1 | h1)
    · have := congrArg List.length h1
      rw [List.length_take, List.length_nil] at this
      omega
    · exact h48 h1
/-! ### The pieces of a body, round by round -/
theorem goS_more {body : List UInt8} {fr k : Nat} {out : List Fld} (h : k < body.length) (hf : fr ≤ k) (hc : body.getD k 0 ≠ 1) : goS ((body.take k).drop fr) out (body.drop k) = goS ((body.take (k + 1)).drop fr) out (body.drop (k + 1)) := by
  have e : body.getD k 0 = body[k] := by simp [List.getD, h]
  rw [List.drop_eq_getElem_cons h, goS, if_neg (by rw [← e]; exact hc), List.take_succ_eq_append_getElem h, List.drop_append_of_le_length (by rw [List.length_take]; omega)]
theorem goS_end {body : List UInt8} {fr k : Nat} {out : List Fld} (h : k < body.length) (hc : body.getD k 0 = 1) : goS ((body.take k).drop fr) out (body.drop k) = match pieceP ((body.take k).drop fr) with
      | none => none
      | some f => goS ((body.take (k + 1)).drop (k + 1)) (out ++ [f]) (body.drop (k + 1)) := by
  have e : body.getD k 0 = body[k] := by simp [List.getD, h]
  rw [List.drop_eq_getElem_cons h, goS, if_pos (by rw [← e]; exact hc)]
  have e2 : (body.take (k + 1)).drop (k + 1) = [] := List.drop_eq_nil_of_le (by rw [List.length_take]; omega)
  rw [e2]
end Go.Proofs.YtjgkjmegpinelaaDoor.Tg

/-
  Layer 13: lists of api.Pos that can be, when one element is put, turned or left out. (Written by gen_ic.py out of p_iq.txt.)
-/
import Derived.Test.YtpagkeklilgknaaIhp
namespace Go.Proofs.Ytpagkeklilgknaa.Bo
open Go.RowKit Rw
set_option linter.unusedVariables false
set_option linter.unusedSimpArgs false

theorem goodS_partsp {X : List Ps} {A B : Int} (h : goodSp X A B = true) : X.length ≤ 64 ∧ X.Pairwise (fun a b => ltK (keyp a) (keyp b) = true) ∧ ∀ x ∈ X, goodBp x A B = true := by
  unfold goodSp at h
  rw [Bool.and_eq_true, Bool.and_eq_true, decide_eq_true_eq, List.all_eq_true] at h
  exact ⟨h.1, rise_pair h.2.1, h.2.2⟩
theorem goodS_mkp {X : List Ps} {A B : Int} (h1 : X.length ≤ 64) (h2 : X.Pairwise (fun a b => ltK (keyp a) (keyp b) = true)) (h3 : ∀ x ∈ X, goodBp x A B = true) : goodSp X A B = true := by
  unfold goodSp
  rw [Bool.and_eq_true, Bool.and_eq_true, decide_eq_true_eq, List.all_eq_true]
  exact ⟨h1, rise_of h2, h3⟩
theorem good_putp {X L R : List Ps} {o o' : Option Ps} {p : K2} {A B : Int} (h : goodSp X A B = true) (hd : Dec keyp X p L o R) (ho : ∀ y, o' = some y → keyp y = p ∧ goodBp y A B = true) (hl : (L ++ (o'.toList ++ R)).length ≤ 64) : goodSp (L ++ (o'.toList ++ R)) A B = true := by
  obtain ⟨_, h2, h3⟩ := goodS_partsp h
  refine goodS_mkp hl (hd.rise h2 o' fun y e => (ho y e).1) fun x hx => ?_
  rcases List.mem_append.1 hx with hx | hx
  · exact h3 x (by rw [hd.eq]; exact List.mem_append_left _ hx)
  · rcases List.mem_append.1 hx with hx | hx
    · cases o' with
      | none => simp at hx
      | some y =>
        obtain rfl : x = y := by simpa using hx
        exact (ho x rfl).2
    · exact h3 x (by rw [hd.eq]; exact List.mem_append_right _ (List.mem_append_right _ hx))
theorem goodB_qtyp {x : Ps} {A B : Int} (h : goodBp x A B = true) : qtyB x.qty = true ∧ x.qty ≠ 0 := by
  have h2 := h
  rw [good_okp, Bool.and_eq_true] at h2
  refine ⟨h2.1, fun e => ?_⟩
  have h3 := h2.2
  unfold okBp at h3
  rw [e] at h3
  simp at h3
/-- Another quantity in its place. -/
theorem goodB_withp {x : Ps} {A B q : Int} (h : goodBp x A B = true) (h1 : qtyB q = true) (h2 : q ≠ 0) : goodBp { x with qty := q } A B = true := by
  rw [good_okp, Bool.and_eq_true] at h ⊢
  refine ⟨h1, ?_⟩
  have h3 := h.2
  unfold okBp at h3 ⊢
  simp only [Bool.and_eq_true, decide_eq_true_eq, Bool.not_eq_true', beq_eq_false_iff_ne, ne_eq] at h3 ⊢
  simp_all
end Go.Proofs.Ytpagkeklilgknaa.Bo

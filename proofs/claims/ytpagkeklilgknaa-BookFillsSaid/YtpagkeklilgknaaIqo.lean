/-
  Layer 13: lists of api.Order that can be, when one element is put, turned or left out. (Written by gen_ic.py out of p_iq.txt.)
-/
import Derived.Test.YtpagkeklilgknaaIho
namespace Go.Proofs.Ytpagkeklilgknaa.Bo
open Go.RowKit Rw
set_option linter.unusedVariables false
set_option linter.unusedSimpArgs false

theorem goodS_partso {X : List Od} {A B : Int} (h : goodSo X A B = true) : X.length ≤ 32 ∧ X.Pairwise (fun a b => ltK (keyo a) (keyo b) = true) ∧ ∀ x ∈ X, goodBo x A B = true := by
  unfold goodSo at h
  rw [Bool.and_eq_true, Bool.and_eq_true, decide_eq_true_eq, List.all_eq_true] at h
  exact ⟨h.1, rise_pair h.2.1, h.2.2⟩
theorem goodS_mko {X : List Od} {A B : Int} (h1 : X.length ≤ 32) (h2 : X.Pairwise (fun a b => ltK (keyo a) (keyo b) = true)) (h3 : ∀ x ∈ X, goodBo x A B = true) : goodSo X A B = true := by
  unfold goodSo
  rw [Bool.and_eq_true, Bool.and_eq_true, decide_eq_true_eq, List.all_eq_true]
  exact ⟨h1, rise_of h2, h3⟩
theorem good_puto {X L R : List Od} {o o' : Option Od} {p : K2} {A B : Int} (h : goodSo X A B = true) (hd : Dec keyo X p L o R) (ho : ∀ y, o' = some y → keyo y = p ∧ goodBo y A B = true) (hl : (L ++ (o'.toList ++ R)).length ≤ 32) : goodSo (L ++ (o'.toList ++ R)) A B = true := by
  obtain ⟨_, h2, h3⟩ := goodS_partso h
  refine goodS_mko hl (hd.rise h2 o' fun y e => (ho y e).1) fun x hx => ?_
  rcases List.mem_append.1 hx with hx | hx
  · exact h3 x (by rw [hd.eq]; exact List.mem_append_left _ hx)
  · rcases List.mem_append.1 hx with hx | hx
    · cases o' with
      | none => simp at hx
      | some y =>
        obtain rfl : x = y := by simpa using hx
        exact (ho x rfl).2
    · exact h3 x (by rw [hd.eq]; exact List.mem_append_right _ (List.mem_append_right _ hx))
theorem goodB_qtyo {x : Od} {A B : Int} (h : goodBo x A B = true) : qtyB x.qty = true ∧ x.qty ≠ 0 := by
  have h2 := h
  rw [good_oko, Bool.and_eq_true] at h2
  refine ⟨h2.1, fun e => ?_⟩
  have h3 := h2.2
  unfold okBo at h3
  rw [e] at h3
  simp at h3
/-- Another quantity in its place. -/
theorem goodB_witho {x : Od} {A B q : Int} (h : goodBo x A B = true) (h1 : qtyB q = true) (h2 : q ≠ 0) : goodBo { x with qty := q } A B = true := by
  rw [good_oko, Bool.and_eq_true] at h ⊢
  refine ⟨h1, ?_⟩
  have h3 := h.2
  unfold okBo at h3 ⊢
  simp only [Bool.and_eq_true, decide_eq_true_eq, Bool.not_eq_true', beq_eq_false_iff_ne, ne_eq] at h3 ⊢
  simp_all
end Go.Proofs.Ytpagkeklilgknaa.Bo

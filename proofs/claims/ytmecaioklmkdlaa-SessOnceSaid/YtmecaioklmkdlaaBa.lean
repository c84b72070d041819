/-
  Layer 8: a line between two ends as mathematics. No program is imported.
-/
import Derived.Test.YtmecaioklmkdlaaAa
namespace Go.Proofs.Ytmecaioklmkdlaa.Ss
set_option linter.unusedVariables false
set_option linter.unusedSimpArgs false

/-- What holds at 'me' of what 'it' sent: U: the frames on their way to 'me'; C: what has counted there. -/
structure Half (me it : Sd) (U : List Fm) (C : List ByteArray) : Prop where
  good : goodB me = true
  pre : C = it.S.take C.length
  le : C.length ≤ it.S.length
  tk : me.t = (C.length : Int)
  kn : it.k ≤ (C.length : Int)
  fr : ∀ f ∈ U, validB f = true ∧ f.taken ≤ it.t ∧ (f.kind = 1 → f.num ≤ (it.S.length : Int) ∧ f.body = it.S.getD (f.num - 1).toNat em)
theorem half_start : Half sd0 sd0 [] [] := ⟨rfl, rfl, Nat.le_refl _, rfl, Int.le_refl _, fun f hf => by cases hf⟩
theorem getD_app {S : List ByteArray} {m : ByteArray} {i : Nat} (h : i < S.length) : (S ++ [m]).getD i em = S.getD i em := by
  simp [List.getD, List.getElem?_append_left h]
theorem half_send_me {me it : Sd} {U : List Fm} {C : List ByteArray} {m : ByteArray} (h : Half me it U C) (hg : goodB ⟨me.S ++ [m], me.t, me.k⟩ = true) : Half ⟨me.S ++ [m], me.t, me.k⟩ it U C :=
  ⟨hg, h.pre, h.le, h.tk, h.kn, h.fr⟩
theorem half_send_it {me it : Sd} {U : List Fm} {C : List ByteArray} {m : ByteArray} (h : Half it me U C) (hv : validB ⟨1, (me.S.length : Int) + 1, me.t, m⟩ = true) :
    Half it ⟨me.S ++ [m], me.t, me.k⟩ (U ++ [⟨1, (me.S.length : Int) + 1, me.t, m⟩]) C := by
  refine ⟨h.good, ?_, by have := h.le; simp; omega, h.tk, h.kn, fun f hf => ?_⟩
  · simp only
    rw [List.take_append_of_le_length h.le]
    exact h.pre
  · rcases List.mem_append.1 hf with hf | hf
    · obtain ⟨h1, h2, h3⟩ := h.fr f hf
      refine ⟨h1, h2, fun hk => ?_⟩
      obtain ⟨h4, h5⟩ := h3 hk
      have hn : 1 ≤ f.num := by
        rcases (validB_iff.1 h1).2.2 with h | h | h <;> omega
      refine ⟨by simp only [List.length_append, List.length_singleton]; omega, ?_⟩
      simp only
      rw [getD_app (by omega)]
      exact h5
    · rw [List.mem_singleton.1 hf]
      refine ⟨hv, Int.le_refl _, fun _ => ⟨by simp only [List.length_append, List.length_singleton]; omega, ?_⟩⟩
      simp only
      rw [show ((me.S.length : Int) + 1 - 1).toNat = me.S.length by omega]
      simp [List.getD]
theorem half_tick {me it : Sd} {U : List Fm} {C : List ByteArray} (h : Half it me U C) (hg : goodB me = true) : Half it me (U ++ [⟨3, me.S.length, me.t, em⟩]) C := by
  refine ⟨h.good, h.pre, h.le, h.tk, h.kn, fun f hf => ?_⟩
  rcases List.mem_append.1 hf with hf | hf
  · exact h.fr f hf
  · rw [List.mem_singleton.1 hf]
    exact ⟨tick_valid hg, Int.le_refl _, fun hk => absurd hk (by simp)⟩
theorem half_lose {me it : Sd} {U V : List Fm} {C : List ByteArray} (h : Half me it U C) (hs : ∀ f ∈ V, f ∈ U) : Half me it V C :=
  ⟨h.good, h.pre, h.le, h.tk, h.kn, fun f hf => h.fr f (hs f hf)⟩
/-- A frame comes. -/
theorem half_take {me it : Sd} {U U' : List Fm} {C C' : List ByteArray} {f : Fm} (h : Half me it U C) (h' : Half it me U' C') (hf : f ∈ U) :
    (takeS me f).2.2.2 = 0 ∧ (takeS me f).2.2.1.length ≤ 64 ∧ Half (takeS me f).1 it U (if (takeS me f).2.1 = em then C else C ++ [(takeS me f).2.1]) ∧ Half it (takeS me f).1 (U' ++ (takeS me f).2.2.1) C' := by
  obtain ⟨hv, htk, hbody⟩ := h.fr f hf
  have hg := h.good
  obtain ⟨e0, e1, e2, e3, e4, e5, e6, e7, e8⟩ := take_good hg hv
  have hit := h'.tk
  have hkn : knownS me f ≤ (C'.length : Int) := by
    unfold knownS
    have := h'.kn
    split <;> omega
  refine ⟨e0, e8, ?_, ?_⟩
  · by_cases hm : (takeS me f).2.1 = em
    · rw [if_pos hm]
      have ht : (takeS me f).1.t = me.t := by
        have : ¬ me.t < (takeS me f).1.t := fun hlt => by
          have := e7.2 hlt
          rw [hm] at this
          exact absurd this (by decide)
        omega
      exact ⟨e1, h.pre, h.le, by rw [ht]; exact h.tk, h.kn, h.fr⟩
    · rw [if_neg hm]
      -- the data that comes next
      have hd : f.kind = 1 ∧ f.num = me.t + 1 ∧ (takeS me f).1.t = me.t + 1 ∧ (takeS me f).2.1 = f.body := by
        unfold takeS at hm ⊢
        rw [if_neg (by simp [hg]), if_neg (by simp [hv])] at hm ⊢
        by_cases h2 : f.kind = 2
        · rw [if_pos h2] at hm; exact absurd rfl hm
        rw [if_neg h2] at hm ⊢
        by_cases h1 : f.kind = 1 ∧ f.num = me.t + 1
        · rw [if_pos h1]; exact ⟨h1.1, h1.2, rfl, rfl⟩
        rw [if_neg h1] at hm
        split at hm <;> exact absurd rfl hm
      obtain ⟨k1, k2, k3, k4⟩ := hd
      obtain ⟨b1, b2⟩ := hbody k1
      have htc := h.tk
      have hC : C.length < it.S.length := by omega
      have hbe : f.body = it.S.getD C.length em := by rw [b2]; congr 1; omega
      refine ⟨e1, ?_, by simp; omega, by rw [k3, htc]; simp, by have := h.kn; simp; omega, h.fr⟩
      rw [k4, hbe, List.length_append, List.length_singleton, List.take_succ_eq_append_getElem hC, ← h.pre]
      simp [List.getD, hC]
  · refine ⟨h'.good, by rw [e3]; exact h'.pre, by rw [e3]; exact h'.le, h'.tk, ?_, fun y hy => ?_⟩
    · have hk : (takeS me f).1.k = knownS me f := by
        unfold takeS
        rw [if_neg (by simp [hg]), if_neg (by simp [hv])]
        split
        · rfl
        split
        · rfl
        split <;> rfl
      rw [hk]; exact hkn
    · rcases List.mem_append.1 hy with hy | hy
      · obtain ⟨h1, h2, h3⟩ := h'.fr y hy
        exact ⟨h1, by omega, by rw [e3]; exact h3⟩
      · refine ⟨e2 y hy, ?_⟩
        rw [e3]
        unfold takeS at hy
        rw [if_neg (by simp [hg]), if_neg (by simp [hv])] at hy
        by_cases h2 : f.kind = 2
        · rw [if_pos h2] at hy
          obtain ⟨i, hi, rfl⟩ := mem_resent hy
          refine ⟨e5, fun _ => ⟨by simp only; omega, ?_⟩⟩
          simp only
          rw [show ((i : Int) + 1 - 1).toNat = i by omega]
        rw [if_neg h2] at hy
        by_cases h1 : f.kind = 1 ∧ f.num = me.t + 1
        · rw [if_pos h1] at hy; cases hy
        rw [if_neg h1] at hy
        by_cases h3 : me.t < f.num
        · rw [if_pos h3] at hy
          rw [List.mem_singleton.1 hy]
          exact ⟨e5, fun hk => absurd hk (by simp)⟩
        · rw [if_neg h3] at hy; cases hy
/-- What the law asks behind each move. -/
theorem half_check {me it : Sd} {U : List Fm} {C : List ByteArray} (h : Half me it U C) {i : Nat} (hi : i < C.length) : it.S.getD i em = C.getD i em := by
  have hp := h.pre
  have : C.getD i em = (it.S.take C.length).getD i em := by rw [← hp]
  rw [this]
  simp [List.getD, List.getElem?_take, hi]
end Go.Proofs.Ytmecaioklmkdlaa.Ss

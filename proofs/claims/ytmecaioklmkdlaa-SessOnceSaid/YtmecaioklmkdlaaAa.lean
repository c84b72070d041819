/-
  Layer 8: ends and frames as mathematics. No program is imported.
-/
import Derived.WalkKit
import Derived.ProofKit
import Derived.Lib.Hide
namespace Go.Proofs.Ytmecaioklmkdlaa.Ss
set_option linter.unusedVariables false
set_option linter.unusedSimpArgs false

abbrev em : ByteArray := { data := #[] }
structure Sd where
  S : List ByteArray
  t : Int
  k : Int
  deriving DecidableEq
structure Fm where
  kind : Int
  num : Int
  taken : Int
  body : ByteArray
  deriving DecidableEq
def msgB (m : ByteArray) : Bool := decide (1 ≤ m.size) && decide (m.size ≤ 4096)
def cntB (n m : Int) : Bool := decide (0 ≤ n) && decide (n ≤ m)
def goodB (s : Sd) : Bool := decide (s.S.length ≤ 256) && s.S.all msgB && cntB s.k s.S.length && cntB s.t 1099511627776
def validB (f : Fm) : Bool := cntB f.num 1099511627776 && cntB f.taken 1099511627776 &&
  (if f.kind = 1 then decide (1 ≤ f.num) && msgB f.body else if f.kind = 2 then decide (1 ≤ f.num) && decide (f.body = em) else if f.kind = 3 then decide (f.body = em) else false)
def sd0 : Sd := ⟨[], 0, 0⟩
def fm0 : Fm := ⟨0, 0, 0, em⟩
def sendS (s : Sd) (m : ByteArray) : Sd × Fm × Int :=
  if goodB s = false then (sd0, fm0, 1) else if msgB m = false then (sd0, fm0, 11) else if s.S.length = 256 then (sd0, fm0, 40)
  else (⟨s.S ++ [m], s.t, s.k⟩, ⟨1, (s.S.length : Int) + 1, s.t, m⟩, 0)
/-- The frames of the messages from the j-th on (counted from nought), as many as 'n'. -/
def resL : List ByteArray → Int → Nat → Nat → List Fm
  | [], _, _, _ => []
  | _ :: _, _, _, 0 => []
  | m :: S, t, j, n + 1 => ⟨1, (j : Int) + 1, t, m⟩ :: resL S t (j + 1) n
def resent (S : List ByteArray) (t : Int) (j : Nat) : List Fm := resL (S.drop j) t j 64
def knownS (s : Sd) (f : Fm) : Int := if s.k < f.taken ∧ f.taken ≤ s.S.length then f.taken else s.k
def takeS (s : Sd) (f : Fm) : Sd × ByteArray × List Fm × Int :=
  if goodB s = false then (sd0, em, [], 1) else if validB f = false then (sd0, em, [], 11)
  else if f.kind = 2 then (⟨s.S, s.t, knownS s f⟩, em, resent s.S s.t (f.num - 1).toNat, 0)
  else if f.kind = 1 ∧ f.num = s.t + 1 then (⟨s.S, s.t + 1, knownS s f⟩, f.body, [], 0)
  else if s.t < f.num then (⟨s.S, s.t, knownS s f⟩, em, [⟨2, s.t + 1, s.t, em⟩], 0)
  else (⟨s.S, s.t, knownS s f⟩, em, [], 0)
def tickS (s : Sd) : Fm × Int := if goodB s = false then (fm0, 1) else (⟨3, s.S.length, s.t, em⟩, 0)
def leftS (s : Sd) : Int := if goodB s = false then 0 else s.S.length - s.k

theorem cntB_iff {n m : Int} : cntB n m = true ↔ 0 ≤ n ∧ n ≤ m := by unfold cntB; simp
theorem msgB_iff {m : ByteArray} : msgB m = true ↔ 1 ≤ m.size ∧ m.size ≤ 4096 := by unfold msgB; simp
theorem goodB_iff {s : Sd} : goodB s = true ↔ s.S.length ≤ 256 ∧ (∀ m ∈ s.S, msgB m = true) ∧ (0 ≤ s.k ∧ s.k ≤ s.S.length) ∧ (0 ≤ s.t ∧ s.t ≤ 1099511627776) := by
  unfold goodB
  simp only [Bool.and_eq_true, decide_eq_true_eq, List.all_eq_true, cntB_iff, and_assoc]
theorem validB_iff {f : Fm} : validB f = true ↔ (0 ≤ f.num ∧ f.num ≤ 1099511627776) ∧ (0 ≤ f.taken ∧ f.taken ≤ 1099511627776) ∧ ((f.kind = 1 ∧ 1 ≤ f.num ∧ msgB f.body = true) ∨ (f.kind = 2 ∧ 1 ≤ f.num ∧ f.body = em) ∨ (f.kind = 3 ∧ f.body = em)) := by
  unfold validB
  simp only [Bool.and_eq_true, cntB_iff, and_assoc]
  by_cases h1 : f.kind = 1
  · simp [h1]
  by_cases h2 : f.kind = 2
  · simp [h2]
  by_cases h3 : f.kind = 3
  · simp [h3]
  · simp [h1, h2, h3]
theorem resL_len : ∀ (S : List ByteArray) (t : Int) (j n : Nat), (resL S t j n).length = min S.length n
  | [], t, j, n => by simp [resL]
  | m :: S, t, j, 0 => by simp [resL]
  | m :: S, t, j, n + 1 => by rw [resL, List.length_cons, resL_len S, List.length_cons]; omega
theorem resL_at : ∀ (S : List ByteArray) (t : Int) (j n i : Nat), i < min S.length n → (resL S t j n)[i]? = some ⟨1, (j : Int) + i + 1, t, S.getD i em⟩
  | [], t, j, n, i, h => by simp at h
  | m :: S, t, j, 0, i, h => by simp at h
  | m :: S, t, j, n + 1, 0, h => by simp [resL]
  | m :: S, t, j, n + 1, i + 1, h => by
    have h' := resL_at S t (j + 1) n i (by simp at h; omega)
    rw [resL, List.getElem?_cons_succ, h']
    simp; omega
theorem resL_zero (S : List ByteArray) (t : Int) (j : Nat) : resL S t j 0 = [] := by cases S <;> rfl
theorem resL_snoc (S : List ByteArray) (t : Int) (j n : Nat) (h : n < S.length) : resL S t j (n + 1) = resL S t j n ++ [⟨1, (j : Int) + n + 1, t, S.getD n em⟩] := by
  induction S generalizing j n with
  | nil => simp at h
  | cons m S ih =>
    cases n with
    | zero => simp [resL, resL_zero]
    | succ n =>
      rw [resL, ih (j + 1) n (by simp at h; omega), resL]
      simp; omega
theorem mem_resL {S : List ByteArray} {t : Int} {j n : Nat} {f : Fm} (h : f ∈ resL S t j n) : ∃ i, i < S.length ∧ f = ⟨1, (j : Int) + i + 1, t, S.getD i em⟩ := by
  obtain ⟨i, hi, rfl⟩ := List.getElem_of_mem h
  rw [resL_len] at hi
  have := resL_at S t j n i hi
  rw [List.getElem?_eq_getElem (by rw [resL_len]; exact hi)] at this
  exact ⟨i, by omega, by simpa using this⟩
theorem resent_len (S : List ByteArray) (t : Int) (j : Nat) : (resent S t j).length = min (S.length - j) 64 := by unfold resent; rw [resL_len, List.length_drop]
theorem getD_drop (S : List ByteArray) (j i : Nat) : (S.drop j).getD i em = S.getD (j + i) em := by simp [List.getD, List.getElem?_drop]
theorem resent_at (S : List ByteArray) (t : Int) (j i : Nat) (h : i < min (S.length - j) 64) : (resent S t j)[i]? = some ⟨1, (j : Int) + i + 1, t, S.getD (j + i) em⟩ := by
  unfold resent
  rw [resL_at _ _ _ _ _ (by rw [List.length_drop]; exact h), getD_drop]
theorem mem_resent {S : List ByteArray} {t : Int} {j : Nat} {f : Fm} (h : f ∈ resent S t j) : ∃ i, i < S.length ∧ f = ⟨1, (i : Int) + 1, t, S.getD i em⟩ := by
  obtain ⟨i, hi, rfl⟩ := mem_resL h
  rw [List.length_drop] at hi
  exact ⟨j + i, by omega, by rw [getD_drop]; simp⟩
theorem msg_at {S : List ByteArray} (h : ∀ m ∈ S, msgB m = true) {i : Nat} (hi : i < S.length) : msgB (S.getD i em) = true := by
  have := h (S[i]) (List.getElem_mem hi)
  simpa [List.getD, hi] using this
theorem knownS_bd {s : Sd} {f : Fm} (h : goodB s = true) : s.k ≤ knownS s f ∧ knownS s f ≤ s.S.length := by
  obtain ⟨_, _, h3, _⟩ := goodB_iff.1 h
  unfold knownS
  split <;> omega

/-! ### What a call leads to -/
theorem send_ok {s : Sd} {m : ByteArray} (h : goodB s = true) (hm : msgB m = true) (hl : s.S.length ≠ 256) : sendS s m = (⟨s.S ++ [m], s.t, s.k⟩, ⟨1, (s.S.length : Int) + 1, s.t, m⟩, 0) := by
  unfold sendS; rw [if_neg (by simp [h]), if_neg (by simp [hm]), if_neg hl]
theorem send_good {s : Sd} {m : ByteArray} (h : goodB s = true) (hm : msgB m = true) (hl : s.S.length ≠ 256) : goodB ⟨s.S ++ [m], s.t, s.k⟩ = true ∧ validB ⟨1, (s.S.length : Int) + 1, s.t, m⟩ = true := by
  obtain ⟨h1, h2, h3, h4⟩ := goodB_iff.1 h
  refine ⟨goodB_iff.2 ⟨by simp; omega, fun x hx => ?_, ⟨h3.1, by simp; omega⟩, h4⟩, validB_iff.2 ⟨⟨by simp only; omega, by simp only; omega⟩, h4, .inl ⟨rfl, by simp only; omega, hm⟩⟩⟩
  rcases List.mem_append.1 hx with hx | hx
  · exact h2 x hx
  · rw [List.mem_singleton.1 hx]; exact hm
theorem tick_valid {s : Sd} (h : goodB s = true) : validB ⟨3, s.S.length, s.t, em⟩ = true := by
  obtain ⟨h1, h2, h3, h4⟩ := goodB_iff.1 h
  exact validB_iff.2 ⟨⟨by simp only; omega, by simp only; omega⟩, h4, .inr (.inr ⟨rfl, rfl⟩)⟩
theorem take_err {s : Sd} {f : Fm} (h : (takeS s f).2.2.2 ≠ 0) : (takeS s f).2.1 = em ∧ (takeS s f).2.2.1 = [] := by
  unfold takeS at h ⊢
  split
  · exact ⟨rfl, rfl⟩
  split
  · exact ⟨rfl, rfl⟩
  rename_i h1 h2
  rw [if_neg h1, if_neg h2] at h
  split at h
  · exact absurd rfl h
  split at h
  · exact absurd rfl h
  split at h <;> exact absurd rfl h
theorem take_good {s : Sd} {f : Fm} (h : goodB s = true) (hf : validB f = true) : (takeS s f).2.2.2 = 0 ∧ goodB (takeS s f).1 = true ∧ (∀ y ∈ (takeS s f).2.2.1, validB y = true) ∧ (takeS s f).1.S = s.S ∧ (takeS s f).1.t - s.t ≤ 1 ∧ s.t ≤ (takeS s f).1.t ∧ s.k ≤ (takeS s f).1.k ∧
    (0 < (takeS s f).2.1.size ↔ s.t < (takeS s f).1.t) ∧ (takeS s f).2.2.1.length ≤ 64 := by
  have hg := goodB_iff.1 h
  obtain ⟨g1, g2, g3, g4⟩ := hg
  have hv := validB_iff.1 hf
  obtain ⟨v1, v2, v3⟩ := hv
  have hk := knownS_bd (f := f) h
  have e0 : em.size = 0 := rfl
  unfold takeS
  rw [if_neg (by simp [h]), if_neg (by simp [hf])]
  by_cases h2 : f.kind = 2
  · rw [if_pos h2]
    refine ⟨rfl, goodB_iff.2 ⟨g1, g2, ⟨by simp only; omega, hk.2⟩, g4⟩, fun y hy => ?_, rfl, by simp only; omega, Int.le_refl _, hk.1, by simp only; rw [e0]; omega, by simp only; rw [resent_len]; omega⟩
    obtain ⟨i, hi, rfl⟩ := mem_resent hy
    exact validB_iff.2 ⟨⟨by simp only; omega, by simp only; omega⟩, g4, .inl ⟨rfl, by simp only; omega, msg_at g2 hi⟩⟩
  rw [if_neg h2]
  by_cases h1 : f.kind = 1 ∧ f.num = s.t + 1
  · rw [if_pos h1]
    have hm : msgB f.body = true := by
      rcases v3 with h | h | h
      · exact h.2.2
      · omega
      · omega
    have := msgB_iff.1 hm
    exact ⟨rfl, goodB_iff.2 ⟨g1, g2, ⟨by simp only; omega, hk.2⟩, ⟨by simp only; omega, by simp only; omega⟩⟩, (fun y hy => by cases hy), rfl, by simp only; omega, by simp only; omega, hk.1, by simp only; omega, Nat.zero_le _⟩
  rw [if_neg h1]
  by_cases h3 : s.t < f.num
  · rw [if_pos h3]
    refine ⟨rfl, goodB_iff.2 ⟨g1, g2, ⟨by simp only; omega, hk.2⟩, g4⟩, fun y hy => ?_, rfl, by simp only; omega, Int.le_refl _, hk.1, by simp only; rw [e0]; omega, by simp⟩
    rw [List.mem_singleton.1 hy]
    exact validB_iff.2 ⟨⟨by simp only; omega, by simp only; omega⟩, g4, .inr (.inl ⟨rfl, by simp only; omega, rfl⟩)⟩
  · rw [if_neg h3]
    exact ⟨rfl, goodB_iff.2 ⟨g1, g2, ⟨by simp only; omega, hk.2⟩, g4⟩, (fun y hy => by cases hy), rfl, by simp only; omega, Int.le_refl _, hk.1, by simp only; rw [e0]; omega, Nat.zero_le _⟩
end Go.Proofs.Ytmecaioklmkdlaa.Ss

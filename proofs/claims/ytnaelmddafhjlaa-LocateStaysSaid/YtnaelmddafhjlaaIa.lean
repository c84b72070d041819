/-
  Layer 13: mathematics: pairs in their order, lists that are split at a pair.
-/
namespace Go.Proofs.Ytnaelmddafhjlaa.Bo
set_option linter.unusedVariables false
set_option linter.unusedSimpArgs false

abbrev K2 := Int × Int
def ltK (a b : K2) : Bool := decide (a.1 < b.1) || (decide (a.1 = b.1) && decide (a.2 < b.2))
def cmp1 (x y : Int) : Int := if x < y then -1 else if y < x then 1 else 0
def cmpK (a b : K2) : Int := if cmp1 a.1 b.1 ≠ 0 then cmp1 a.1 b.1 else cmp1 a.2 b.2
theorem ltK_iff {a b : K2} : ltK a b = true ↔ a.1 < b.1 ∨ (a.1 = b.1 ∧ a.2 < b.2) := by simp [ltK]
theorem cmp1_lt {x y : Int} : cmp1 x y < 0 ↔ x < y := by unfold cmp1; split <;> (try split) <;> omega
theorem cmp1_eq {x y : Int} : cmp1 x y = 0 ↔ x = y := by unfold cmp1; split <;> (try split) <;> omega
theorem cmp1_bd (x y : Int) : -1 ≤ cmp1 x y ∧ cmp1 x y ≤ 1 := by unfold cmp1; split <;> (try split) <;> omega
theorem cmpK_lt {a b : K2} : cmpK a b < 0 ↔ ltK a b = true := by
  rw [ltK_iff]; unfold cmpK
  by_cases h : cmp1 a.1 b.1 = 0
  · rw [if_neg (by simp [h]), cmp1_lt]; have := cmp1_eq.1 h; omega
  · rw [if_pos h, cmp1_lt]; have : a.1 ≠ b.1 := fun e => h (cmp1_eq.2 e); omega
theorem cmpK_eq {a b : K2} : cmpK a b = 0 ↔ a = b := by
  unfold cmpK
  by_cases h : cmp1 a.1 b.1 = 0
  · rw [if_neg (by simp [h]), cmp1_eq, Prod.ext_iff]; have := cmp1_eq.1 h; exact ⟨fun e => ⟨this, e⟩, fun e => e.2⟩
  · rw [if_pos h, Prod.ext_iff]
    exact ⟨fun e => absurd e h, fun e => absurd (cmp1_eq.2 e.1) h⟩
theorem cmpK_bd (a b : K2) : -1 ≤ cmpK a b ∧ cmpK a b ≤ 1 := by unfold cmpK; split <;> exact cmp1_bd _ _
theorem ltK_trans {a b c : K2} (h1 : ltK a b = true) (h2 : ltK b c = true) : ltK a c = true := by
  rw [ltK_iff] at *; omega
theorem ltK_irrefl (a : K2) : ltK a a = false := by
  cases h : ltK a a with
  | false => rfl
  | true => rw [ltK_iff] at h; omega
theorem ltK_asymm {a b : K2} (h : ltK a b = true) : ltK b a = false := by
  cases h2 : ltK b a with
  | false => rfl
  | true => rw [ltK_iff] at h h2; omega
theorem ltK_ne {a b : K2} (h : ltK a b = true) : a ≠ b := fun e => by rw [e, ltK_irrefl] at h; cases h
theorem ltK_total {a b : K2} (h1 : ltK a b = false) (h2 : a ≠ b) : ltK b a = true := by
  rw [ltK_iff]
  have h3 : ¬ (a.1 < b.1 ∨ (a.1 = b.1 ∧ a.2 < b.2)) := fun h => by rw [ltK_iff.2 h] at h1; cases h1
  have h4 : ¬ (a.1 = b.1 ∧ a.2 = b.2) := fun h => h2 (Prod.ext h.1 h.2)
  omega

section
variable {α : Type} (key : α → K2)
/-- In order, each neighbour. -/
def riseB : List α → Bool
  | [] => true
  | [_] => true
  | a :: b :: r => ltK (key a) (key b) && riseB (b :: r)
theorem rise_cons {a b : α} {r : List α} : riseB key (a :: b :: r) = (ltK (key a) (key b) && riseB key (b :: r)) := rfl
/-- The loop's view: as far as k no fault was found. -/
def upto (d : α) (X : List α) (k : Nat) : Prop := ∀ j, j + 1 < k → ltK (key (X.getD j d)) (key (X.getD (j + 1) d)) = true
variable {key}
theorem rise_upto {d : α} : ∀ {X : List α}, riseB key X = true ↔ upto key d X X.length
  | [] => by simp [riseB, upto]
  | [a] => by simp [riseB, upto]
  | a :: b :: r => by
    rw [rise_cons, Bool.and_eq_true, rise_upto (X := b :: r) (d := d)]
    constructor
    · rintro ⟨h1, h2⟩ j hj
      cases j with
      | zero => simpa using h1
      | succ j => exact h2 j (by simp at hj ⊢; omega)
    · intro h
      refine ⟨by simpa using h 0 (by simp), fun j hj => ?_⟩
      exact h (j + 1) (by simp at hj ⊢; omega)
theorem upto_one (d : α) (X : List α) : upto key d X 1 := fun j hj => by omega
theorem upto_zero (d : α) (X : List α) : upto key d X 0 := fun j hj => by omega
theorem upto_succ {d : α} {X : List α} {k : Nat} (h : upto key d X k) (h1 : 1 ≤ k → ltK (key (X.getD (k - 1) d)) (key (X.getD k d)) = true) : upto key d X (k + 1) := by
  intro j hj
  rcases Nat.lt_or_ge (j + 1) k with h2 | h2
  · exact h j h2
  · obtain rfl : k = j + 1 := by omega
    exact h1 (by omega)
theorem rise_no {d : α} {X : List α} {k : Nat} (hk : k + 1 < X.length) (h1 : ltK (key (X.getD k d)) (key (X.getD (k + 1) d)) = false) : riseB key X = false := by
  cases h : riseB key X with
  | false => rfl
  | true => rw [rise_upto (d := d)] at h; rw [h k hk] at h1; cases h1
theorem rise_pair : ∀ {X : List α}, riseB key X = true → X.Pairwise (fun a b => ltK (key a) (key b) = true)
  | [], _ => .nil
  | [a], _ => by simp
  | a :: b :: r, h => by
    rw [rise_cons, Bool.and_eq_true] at h
    have ih := rise_pair h.2
    refine List.Pairwise.cons (fun x hx => ?_) ih
    rcases List.mem_cons.1 hx with rfl | hx
    · exact h.1
    · exact ltK_trans h.1 ((List.pairwise_cons.1 ih).1 x hx)
theorem rise_of : ∀ {X : List α}, X.Pairwise (fun a b => ltK (key a) (key b) = true) → riseB key X = true
  | [], _ => rfl
  | [a], _ => rfl
  | a :: b :: r, h => by
    rw [List.pairwise_cons] at h
    rw [rise_cons, Bool.and_eq_true]
    exact ⟨h.1 b (by simp), rise_of h.2⟩
/-- A list, split at a pair: those ahead of it, the one that has it, those behind it. -/
structure Dec (key : α → K2) (X : List α) (p : K2) (L : List α) (o : Option α) (R : List α) : Prop where
  eq : X = L ++ (o.toList ++ R)
  lo : ∀ y ∈ L, ltK (key y) p = true
  mid : ∀ y, o = some y → key y = p
  hi : ∀ y ∈ R, ltK p (key y) = true
theorem dec_of (p : K2) : ∀ {X : List α}, X.Pairwise (fun a b => ltK (key a) (key b) = true) → ∃ L o R, Dec key X p L o R
  | [], _ => ⟨[], none, [], rfl, by simp, by simp, by simp⟩
  | x :: X, h => by
    rw [List.pairwise_cons] at h
    by_cases h1 : ltK (key x) p = true
    · obtain ⟨L, o, R, hd⟩ := dec_of p h.2
      exact ⟨x :: L, o, R, by rw [hd.eq]; rfl, fun y hy => by
        rcases List.mem_cons.1 hy with rfl | hy
        · exact h1
        · exact hd.lo y hy, hd.mid, hd.hi⟩
    · by_cases h2 : key x = p
      · exact ⟨[], some x, X, rfl, by simp, fun y hy => by cases hy; exact h2, fun y hy => by rw [← h2]; exact h.1 y hy⟩
      · have h3 := ltK_total (by simpa using h1) h2
        exact ⟨[], none, x :: X, rfl, by simp, by simp, fun y hy => by
          rcases List.mem_cons.1 hy with rfl | hy
          · exact h3
          · exact ltK_trans h3 (h.1 y hy)⟩
/-- What the search needs of each element. -/
theorem Dec.at_lo {X : List α} {p : K2} {L : List α} {o : Option α} {R : List α} (h : Dec key X p L o R) {d : α} {j : Nat} (hj : j < L.length) : ltK (key (X.getD j d)) p = true := by
  refine h.lo _ ?_
  rw [h.eq]
  simp [List.getD, List.getElem?_append_left hj, hj]
theorem Dec.at_hi {X : List α} {p : K2} {L : List α} {o : Option α} {R : List α} (h : Dec key X p L o R) {d : α} {j : Nat} (hj : L.length ≤ j) (hx : j < X.length) : ltK (key (X.getD j d)) p = false := by
  have e : X.getD j d ∈ o.toList ++ R := by
    have hl : X.length = L.length + (o.toList ++ R).length := by rw [h.eq, List.length_append]
    have h1 : j - L.length < (o.toList ++ R).length := by omega
    rw [h.eq]
    rw [List.getD_eq_getElem?_getD, List.getElem?_append_right hj, List.getElem?_eq_getElem h1]
    exact List.getElem_mem h1
  rcases List.mem_append.1 e with h1 | h1
  · cases o with
    | none => simp at h1
    | some y =>
      have : X.getD j d = y := by simpa using h1
      rw [this, h.mid y rfl, ltK_irrefl]
  · exact ltK_asymm (h.hi _ h1)
theorem Dec.at_eq {X : List α} {p : K2} {L : List α} {o : Option α} {R : List α} (h : Dec key X p L o R) {d : α} (hx : L.length < X.length) : decide (cmpK (key (X.getD L.length d)) p = 0) = o.isSome := by
  cases o with
  | none =>
    have hm : X.getD L.length d ∈ R := by
      have e := h.eq
      rw [show (none : Option α).toList ++ R = R from rfl] at e
      have h1 : 0 < R.length := by rw [e, List.length_append] at hx; omega
      rw [e, List.getD_eq_getElem?_getD, List.getElem?_append_right (Nat.le_refl _), Nat.sub_self, List.getElem?_eq_getElem h1]
      exact List.getElem_mem h1
    have := h.hi _ hm
    refine decide_eq_false fun e => ?_
    rw [cmpK_eq] at e
    rw [e, ltK_irrefl] at this; cases this
  | some y =>
    refine decide_eq_true ?_
    rw [cmpK_eq]
    have : X.getD L.length d = y := by rw [h.eq]; simp [List.getD]
    rw [this]
    exact h.mid y rfl
theorem Dec.len {X : List α} {p : K2} {L : List α} {o : Option α} {R : List α} (h : Dec key X p L o R) : X.length = L.length + (o.toList.length + R.length) := by rw [h.eq, List.length_append, List.length_append]
theorem Dec.olen {o : Option α} : o.toList.length = if o.isSome then 1 else 0 := by cases o <;> rfl
/-- Another element (or none) in the pair's place. -/
theorem Dec.put {X : List α} {p : K2} {L : List α} {o : Option α} {R : List α} (h : Dec key X p L o R) (o' : Option α) (ho : ∀ y, o' = some y → key y = p) : Dec key (L ++ (o'.toList ++ R)) p L o' R := ⟨rfl, h.lo, ho, h.hi⟩
theorem Dec.rise {X : List α} {p : K2} {L : List α} {o : Option α} {R : List α} (h : Dec key X p L o R) (hX : X.Pairwise (fun a b => ltK (key a) (key b) = true)) (o' : Option α) (ho : ∀ y, o' = some y → key y = p) : (L ++ (o'.toList ++ R)).Pairwise (fun a b => ltK (key a) (key b) = true) := by
  rw [h.eq, List.pairwise_append] at hX
  obtain ⟨h1, h2, _⟩ := hX
  rw [List.pairwise_append] at h2
  obtain ⟨_, h3, _⟩ := h2
  rw [List.pairwise_append]
  refine ⟨h1, ?_, fun a ha b hb => ?_⟩
  · rw [List.pairwise_append]
    refine ⟨?_, h3, fun a ha b hb => ?_⟩
    · cases o' <;> simp
    · cases o' with
      | none => simp at ha
      | some y =>
        obtain rfl : a = y := by simpa using ha
        rw [ho a rfl]
        exact h.hi b hb
  · rcases List.mem_append.1 hb with hb | hb
    · cases o' with
      | none => simp at hb
      | some y =>
        obtain rfl : b = y := by simpa using hb
        rw [ho b rfl]
        exact h.lo a ha
    · exact ltK_trans (h.lo a ha) (h.hi b hb)
/-- All elements, as a loop sees it. -/
theorem all_yes {f : α → Bool} {X : List α} {d : α} (h : ∀ j, j < X.length → f (X.getD j d) = true) : X.all f = true := by
  rw [List.all_eq_true]
  intro x hx
  obtain ⟨j, hj, rfl⟩ := List.getElem_of_mem hx
  have := h j hj
  rwa [List.getD_eq_getElem?_getD, List.getElem?_eq_getElem hj] at this
theorem all_no {f : α → Bool} {X : List α} {d : α} {j : Nat} (hj : j < X.length) (h : f (X.getD j d) = false) : X.all f = false := by
  rw [Bool.eq_false_iff]
  intro h2
  rw [List.all_eq_true] at h2
  have := h2 (X.getD j d) (by rw [List.getD_eq_getElem?_getD, List.getElem?_eq_getElem hj]; exact List.getElem_mem hj)
  rw [h] at this; cases this
theorem take_getD {X : List α} {k : Nat} (d : α) (h : k < X.length) : X.take (k + 1) = X.take k ++ [X.getD k d] := by
  rw [List.take_succ_eq_append_getElem h, List.getD_eq_getElem?_getD, List.getElem?_eq_getElem h]
  rfl
end
end Go.Proofs.Ytnaelmddafhjlaa.Bo

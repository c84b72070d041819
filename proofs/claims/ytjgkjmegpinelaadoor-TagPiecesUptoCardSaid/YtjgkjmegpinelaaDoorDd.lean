/-
  Layer 2's mathematics: what a text is read as; the reference's one pass over it; text and amount belong together.
-/
import Derived.Test.YtjgkjmegpinelaaDoorDa
import Derived.Lib.SlTrimSet
import Derived.Lib.IndexLaws
namespace Go.Proofs.YtjgkjmegpinelaaDoor.Dx
open Go.Lib
set_option linter.unusedVariables false
set_option linter.unusedSimpArgs false

def maxA : Nat := 4611686018427387904
def isD (c : UInt8) : Bool := decide (48 ≤ c.toNat) && decide (c.toNat ≤ 57)
def dv (c : UInt8) : Nat := c.toNat - 48
def val (l : List UInt8) : Nat := l.foldl (fun v c => v * 10 + dv c) 0
def wholeB (l : List UInt8) : Bool := !l.isEmpty && l.all isD && (l == [48] || l.headD 0 != 48)
def fracB (l : List UInt8) (p : Nat) : Bool := !l.isEmpty && l.all isD && decide (l.length ≤ p)
def cutD : List UInt8 → List UInt8 × List UInt8 × Bool
  | [] => ([], [], false)
  | c :: l => if c = 46 then ([], l, true) else (c :: (cutD l).1, (cutD l).2.1, (cutD l).2.2)
def signB (l : List UInt8) : Bool := l.head? == some 45
def unsig (l : List UInt8) : List UInt8 := if signB l then l.tail else l

def parseS (l : List UInt8) (p : Nat) : Int × Int :=
  if !wholeB (cutD (unsig l)).1 || ((cutD (unsig l)).2.2 && !fracB (cutD (unsig l)).2.1 p) then (0, 11)
  else if signB l && ((cutD (unsig l)).1 ++ (cutD (unsig l)).2.1).all (· == 48) then (0, 11)
  else if val ((cutD (unsig l)).1 ++ (cutD (unsig l)).2.1 ++ List.replicate (p - (cutD (unsig l)).2.1.length) 48) ≤ maxA then
    (if signB l then -(val ((cutD (unsig l)).1 ++ (cutD (unsig l)).2.1 ++ List.replicate (p - (cutD (unsig l)).2.1.length) 48) : Int) else (val ((cutD (unsig l)).1 ++ (cutD (unsig l)).2.1 ++ List.replicate (p - (cutD (unsig l)).2.1.length) 48) : Int), 0)
  else (0, 4)

/-! ## values -/
theorem val_snoc (l : List UInt8) (c : UInt8) : val (l ++ [c]) = val l * 10 + dv c := by simp [val]
theorem foldl_from (l : List UInt8) : ∀ a, l.foldl (fun v c => v * 10 + dv c) a = a * 10 ^ l.length + val l := by
  induction l with
  | nil => intro a; simp [val]
  | cons c l ih =>
    intro a
    simp only [List.foldl_cons, List.length_cons, val]
    rw [ih, ih (0 * 10 + dv c), Nat.pow_succ]
    rw [Nat.add_mul, Nat.zero_mul, Nat.zero_add, Nat.mul_assoc, Nat.mul_comm 10, Nat.add_assoc]
theorem val_app (a b : List UInt8) : val (a ++ b) = val a * 10 ^ b.length + val b := by
  unfold val; rw [List.foldl_append, foldl_from]; rfl
theorem val_zeros : ∀ n, val (List.replicate n (48 : UInt8)) = 0
  | 0 => rfl
  | n + 1 => by rw [List.replicate_succ', val_snoc, val_zeros n]; rfl
theorem val_take_le (l : List UInt8) (k : Nat) : val (l.take k) ≤ val l := by
  have h := val_app (l.take k) (l.drop k)
  rw [List.take_append_drop] at h
  have := Nat.le_mul_of_pos_right (val (l.take k)) (Nat.pow_pos (n := (l.drop k).length) (by omega : 0 < 10))
  omega
theorem dv_lt {c : UInt8} (h : isD c = true) : dv c < 10 := by
  unfold isD at h; unfold dv; simp at h; omega
theorem val_lt : ∀ (l : List UInt8), l.all isD = true → val l < 10 ^ l.length := by
  intro l
  induction l with
  | nil => intro _; simp [val]
  | cons c l ih =>
    intro h
    simp only [List.all_cons, Bool.and_eq_true] at h
    have e : c :: l = [c] ++ l := rfl
    rw [e, val_app]
    have h1 := ih h.2
    have h2 : val [c] = dv c := by simp [val]
    rw [h2]
    have h3 := dv_lt h.1
    simp only [List.length_append, List.length_singleton, Nat.pow_add, Nat.pow_one]
    have : dv c * 10 ^ l.length ≤ 9 * 10 ^ l.length := Nat.mul_le_mul_right _ (by omega)
    omega
theorem val_low : ∀ n m, val (low n m) = m % 10 ^ n
  | 0, m => by simp [low, val, Nat.mod_one]
  | n + 1, m => by
    rw [low, val_snoc, val_low n]
    have hd : dv (dgt (m % 10)) = m % 10 := by
      have : ∀ i : Fin 10, dv (dgt i.val) = i.val := by decide
      exact this ⟨m % 10, Nat.mod_lt _ (by omega)⟩
    rw [hd, Nat.pow_succ', Nat.mod_mul]
    omega
theorem low_all : ∀ n m, (low n m).all isD = true
  | 0, _ => rfl
  | n + 1, m => by
    rw [low, List.all_append, low_all n]
    have : ∀ i : Fin 10, isD (dgt i.val) = true := by decide
    simpa using this ⟨m % 10, Nat.mod_lt _ (by omega)⟩
theorem dec_all (m : Nat) : (dec m).all isD = true := by rw [dec_low]; exact low_all _ _
theorem val_dec (m : Nat) : val (dec m) = m := by rw [dec_low, val_low]; exact Nat.mod_eq_of_lt (lt_nd m)

/-- The digits of n places that are worth v are v's lowest n. -/
theorem low_val : ∀ (l : List UInt8), l.all isD = true → low l.length (val l) = l := by
  intro l
  induction hn : l.length generalizing l with
  | zero => intro _; have : l = [] := List.length_eq_zero_iff.1 hn; subst this; rfl
  | succ n ih =>
    intro h
    obtain ⟨r, c, rfl⟩ : ∃ r c, l = r ++ [c] := by
      rcases List.eq_nil_or_concat l with h0 | ⟨r, c, h0⟩
      · subst h0; simp at hn
      · exact ⟨r, c, by simpa using h0⟩
    simp only [List.all_append, List.all_cons, List.all_nil, Bool.and_true, Bool.and_eq_true] at h
    have hl : r.length = n := by simpa using hn
    have hc := dv_lt h.2
    rw [val_snoc, low, show (val r * 10 + dv c) / 10 = val r by omega, show (val r * 10 + dv c) % 10 = dv c by omega, ih r hl h.1]
    have : dgt (dv c) = c := by
      have h2 := h.2
      unfold isD at h2
      unfold dgt dv
      simp at h2
      rw [show 48 + (c.toNat - 48) = c.toNat by omega]
      exact UInt8.ofNat_toNat
    rw [this]

theorem headD_low (n m : Nat) : (low (n + 1) m).headD 0 = dgt (m / 10 ^ n % 10) := by rw [low_cons]; rfl
/-- A whole part is its value's numeral. -/
theorem dec_val {l : List UInt8} (h : wholeB l = true) : dec (val l) = l := by
  unfold wholeB at h
  simp only [Bool.and_eq_true, Bool.or_eq_true, Bool.not_eq_true', beq_iff_eq, bne_iff_ne] at h
  obtain ⟨⟨h1, h2⟩, h3⟩ := h
  rcases h3 with rfl | h3
  · rw [show val [48] = 0 from rfl, dec_small (by omega)]; rfl
  · have hne : l.length ≠ 0 := by intro h0; rw [List.length_eq_zero_iff.1 h0] at h1; simp at h1
    obtain ⟨n, hn⟩ : ∃ n, l.length = n + 1 := ⟨l.length - 1, by omega⟩
    have hlow := low_val l h2
    rw [hn] at hlow
    have hlt := val_lt l h2
    rw [hn] at hlt
    have hge : 10 ^ n ≤ val l := by
      rcases Nat.lt_or_ge (val l) (10 ^ n) with h4 | h4
      · exfalso
        apply h3
        rw [← hlow, headD_low, Nat.div_eq_of_lt h4]; rfl
      · exact h4
    have e1 := nd_le (n + 1) (val l) hlt (by omega)
    have e2 := le_nd hge
    rw [dec_low, show nd (val l) = n + 1 by omega, hlow]

theorem dec_whole (m : Nat) : wholeB (dec m) = true := by
  unfold wholeB
  simp only [Bool.and_eq_true, Bool.or_eq_true, Bool.not_eq_true', beq_iff_eq, bne_iff_ne]
  have h1 : (dec m).isEmpty = false := by
    have h0 := dec_length m
    have hp := nd_pos m
    cases h : dec m with
    | nil => rw [h, List.length_nil] at h0; omega
    | cons _ _ => rfl
  refine ⟨⟨h1, dec_all m⟩, ?_⟩
  by_cases h : m < 10
  · rw [dec_small h]
    have : ∀ i : Fin 10, [dgt i.val] = [48] ∨ [dgt i.val].headD 0 ≠ 48 := by decide
    exact this ⟨m, h⟩
  · right
    have hge : 10 ^ (nd m - 1) ≤ m := by
      rcases Nat.lt_or_ge m (10 ^ (nd m - 1)) with h4 | h4
      · exfalso
        have h5 : 1 ≤ nd m - 1 := by rw [nd_big h]; have := nd_pos (m / 10); omega
        have := nd_le (nd m - 1) m h4 h5
        omega
      · exact h4
    obtain ⟨n, hn⟩ : ∃ n, nd m = n + 1 := ⟨nd m - 1, by have := nd_pos m; omega⟩
    rw [hn, Nat.add_sub_cancel] at hge
    have hlt := lt_nd m
    rw [hn, Nat.pow_succ] at hlt
    rw [dec_low, hn, headD_low]
    have q1 : 0 < m / 10 ^ n := Nat.div_pos hge (Nat.pow_pos (by omega))
    have q2 : m / 10 ^ n < 10 := by rw [Nat.div_lt_iff_lt_mul (Nat.pow_pos (by omega))]; omega
    rw [Nat.mod_eq_of_lt q2]
    have : ∀ i : Fin 10, 0 < i.val → dgt i.val ≠ 48 := by decide
    exact this ⟨_, q2⟩ q1

/-! ## the cut at the point -/
theorem cutD_none : ∀ {l : List UInt8}, Lib.indexByte l 46 = -1 → cutD l = (l, [], false)
  | [], _ => rfl
  | c :: l, h => by
    unfold Lib.indexByte at h
    by_cases hc : c = 46
    · subst hc; simp at h
    · have hc' : (c == 46) = false := by simpa using hc
      rw [hc'] at h
      by_cases h1 : Lib.indexByte l 46 = -1
      · rw [cutD, if_neg hc, cutD_none h1]
      · have h2 := Lib.indexByte_ge l 46
        rw [if_neg (by decide)] at h
        rw [if_neg (by simpa using h1)] at h
        omega
theorem cutD_some : ∀ {l : List UInt8} {i : Nat}, Lib.indexByte l 46 = i → cutD l = (l.take i, l.drop (i + 1), true)
  | [], i, h => by simp [Lib.indexByte] at h
  | c :: l, i, h => by
    unfold Lib.indexByte at h
    by_cases hc : c = 46
    · subst hc
      simp at h
      have : i = 0 := by omega
      subst this
      simp [cutD]
    · have hc' : (c == 46) = false := by simpa using hc
      rw [hc', if_neg (by decide)] at h
      by_cases h1 : Lib.indexByte l 46 = -1
      · rw [if_pos (by simpa using h1)] at h; omega
      · rw [if_neg (by simpa using h1)] at h
        have h2 := Lib.indexByte_ge l 46
        obtain ⟨j, hj⟩ : ∃ j : Nat, Lib.indexByte l 46 = j := ⟨(Lib.indexByte l 46).toNat, by omega⟩
        have : i = j + 1 := by omega
        subst this
        rw [cutD, if_neg hc, cutD_some hj]
        simp
theorem indexByte_lt {l : List UInt8} {c : UInt8} {i : Nat} (h : Lib.indexByte l c = i) : i < l.length := by
  have := (Lib.indexByte_some h).1
  exact (List.getElem?_eq_some_iff.1 this).1
theorem cutD_digits : ∀ {l : List UInt8}, l.all isD = true → cutD l = (l, [], false)
  | [], _ => rfl
  | c :: l, h => by
    simp only [List.all_cons, Bool.and_eq_true] at h
    have hc : c ≠ 46 := by rintro rfl; simp [isD] at h
    rw [cutD, if_neg hc, cutD_digits h.2]
theorem cutD_point : ∀ {w : List UInt8} (f : List UInt8), w.all isD = true → cutD (w ++ 46 :: f) = (w, f, true)
  | [], f, _ => by simp [cutD]
  | c :: w, f, h => by
    simp only [List.all_cons, Bool.and_eq_true] at h
    have hc : c ≠ 46 := by rintro rfl; simp [isD] at h
    rw [List.cons_append, cutD, if_neg hc, cutD_point f h.2]
theorem cutD_back (l : List UInt8) : l = (cutD l).1 ++ (if (cutD l).2.2 then 46 :: (cutD l).2.1 else []) ∧ ((cutD l).2.2 = false → (cutD l).2.1 = []) := by
  induction l with
  | nil => exact ⟨rfl, fun _ => rfl⟩
  | cons c l ih =>
    by_cases hc : c = 46
    · subst hc; simp [cutD]
    · rw [cutD, if_neg hc]
      refine ⟨?_, ih.2⟩
      simp only [List.cons_append]
      rw [← ih.1]

/-! ## trimming away all -/
theorem dropWhile_nil {p : UInt8 → Bool} : ∀ (l : List UInt8), (l.dropWhile p = []) ↔ l.all p = true
  | [] => by simp
  | c :: l => by
    rw [List.dropWhile_cons]
    cases h : p c
    · simp [h]
    · simp [h, dropWhile_nil l]
theorem dropWhile_head {p : UInt8 → Bool} : ∀ (l : List UInt8) (c : UInt8) (r : List UInt8), l.dropWhile p = c :: r → p c = false
  | [], c, r, h => by simp at h
  | x :: l, c, r, h => by
    rw [List.dropWhile_cons] at h
    cases hx : p x
    · rw [hx] at h; simp at h; rw [← h.1]; exact hx
    · rw [hx] at h; exact dropWhile_head l c r (by simpa using h)
theorem trimS_nil (l cs : List UInt8) : (Lib.trimS l cs = []) ↔ l.all (cs.contains ·) = true := by
  unfold Lib.trimS Lib.trimLeftS
  rw [dropWhile_nil]
  constructor
  · intro h
    unfold Lib.trimRightS at h
    rw [List.all_reverse] at h
    cases hd : l.reverse.dropWhile (cs.contains ·) with
    | nil =>
      have := (dropWhile_nil l.reverse).1 hd
      rwa [List.all_reverse] at this
    | cons c r =>
      have h1 := dropWhile_head _ _ _ hd
      rw [hd] at h
      simp only [List.all_cons, Bool.and_eq_true] at h
      rw [h1] at h
      cases h.1
  · intro h
    unfold Lib.trimRightS
    have : l.reverse.dropWhile (cs.contains ·) = [] := (dropWhile_nil l.reverse).2 (by rwa [List.all_reverse])
    rw [this]; rfl
theorem digits_contains (c : UInt8) : ([48, 49, 50, 51, 52, 53, 54, 55, 56, 57] : List UInt8).contains c = isD c := by
  have h : ∀ i : Fin 256, ([48, 49, 50, 51, 52, 53, 54, 55, 56, 57] : List UInt8).contains (UInt8.ofNat i.val) = isD (UInt8.ofNat i.val) := by decide +kernel
  have := h ⟨c.toNat, c.toNat_lt⟩
  simpa using this
theorem zero_contains (c : UInt8) : ([48] : List UInt8).contains c = (c == 48) := by
  have h : ∀ i : Fin 256, ([48] : List UInt8).contains (UInt8.ofNat i.val) = (UInt8.ofNat i.val == 48) := by decide +kernel
  have := h ⟨c.toNat, c.toNat_lt⟩
  simpa using this

/-! ## the reference's one pass -/
/-- value and overflow behind one more digit worth d. -/
def stepV (a : Nat × Bool) (d : Nat) : Nat × Bool := if a.2 || decide (461168601842738790 < a.1) then (a.1, true) else (a.1 * 10 + d, false)
def accV (l : List UInt8) : Nat × Bool := l.foldl (fun a c => stepV a (dv c)) (0, false)
theorem accV_snoc (l : List UInt8) (c : UInt8) : accV (l ++ [c]) = stepV (accV l) (dv c) := by simp [accV]
theorem accV_spec (l : List UInt8) (hd : l.all isD = true) : (accV l).1 ≤ 4611686018427387909 ∧ ((accV l).2 = false → (accV l).1 = val l) ∧ ((accV l).2 = true → maxA < val l) := by
  induction hn : l.length generalizing l with
  | zero => have : l = [] := List.length_eq_zero_iff.1 hn; subst this; exact ⟨by decide, (fun _ => rfl), (fun h => by cases h)⟩
  | succ n ih =>
    obtain ⟨r, c, rfl⟩ : ∃ r c, l = r ++ [c] := by
      rcases List.eq_nil_or_concat l with h0 | ⟨r, c, h0⟩
      · subst h0; simp at hn
      · exact ⟨r, c, by simpa using h0⟩
    simp only [List.all_append, List.all_cons, List.all_nil, Bool.and_true, Bool.and_eq_true] at hd
    obtain ⟨i1, i2, i3⟩ := ih r hd.1 (by simpa using hn)
    have hc := dv_lt hd.2
    rw [accV_snoc, val_snoc]
    unfold stepV
    unfold maxA at *
    cases h2 : (accV r).2
    · have e := i2 h2
      by_cases h3 : 461168601842738790 < (accV r).1
      · rw [decide_eq_true h3, if_pos (by rfl)]
        refine ⟨i1, (fun h => by cases h), fun _ => ?_⟩
        rw [← e]; omega
      · rw [decide_eq_false h3, if_neg (by decide)]
        refine ⟨by simp only; omega, (fun _ => by simp only; omega), (fun h => by cases h)⟩
    · have e := i3 h2
      rw [Bool.true_or, if_pos (by rfl)]
      refine ⟨i1, (fun h => by cases h), fun _ => by omega⟩

structure St where
  whole : Nat
  part : Int
  acc : Nat × Bool
def stepR (s : St) (c : UInt8) : Option St :=
  if c = 46 ∧ s.part < 0 ∧ 0 < s.whole then some { s with part := 0 }
  else if !isD c then none
  else if 0 ≤ s.part then some { s with part := s.part + 1, acc := stepV s.acc (dv c) }
  else some { s with whole := s.whole + 1, acc := stepV s.acc (dv c) }
def runR (l : List UInt8) : Option St := l.foldlM stepR { whole := 0, part := -1, acc := (0, false) }
theorem runR_snoc (l : List UInt8) (c : UInt8) : runR (l ++ [c]) = (runR l).bind fun s => stepR s c := by simp [runR]
theorem runR_app (l r : List UInt8) : runR (l ++ r) = (runR l).bind fun s => r.foldlM stepR s := by simp [runR]

/-- What the pass has seen where it has not stopped. -/
theorem runR_some : ∀ (l : List UInt8) (s : St), runR l = some s →
    (l.all isD = true ∧ s = { whole := l.length, part := -1, acc := accV l }) ∨
    (∃ w f, l = w ++ 46 :: f ∧ w ≠ [] ∧ w.all isD = true ∧ f.all isD = true ∧ s = { whole := w.length, part := f.length, acc := accV (w ++ f) }) := by
  suffices H : ∀ (n : Nat) (l : List UInt8), l.length = n → ∀ (s : St), runR l = some s →
      (l.all isD = true ∧ s = { whole := l.length, part := -1, acc := accV l }) ∨
      (∃ w f, l = w ++ 46 :: f ∧ w ≠ [] ∧ w.all isD = true ∧ f.all isD = true ∧ s = { whole := w.length, part := f.length, acc := accV (w ++ f) }) from fun l s h => H _ l rfl s h
  intro n
  induction n with
  | zero =>
    intro l hn s h
    have : l = [] := List.length_eq_zero_iff.1 hn
    subst this
    left
    simp [runR] at h
    exact ⟨rfl, h.symm⟩
  | succ n ih =>
    intro l hn s h
    obtain ⟨r, c, rfl⟩ : ∃ r c, l = r ++ [c] := by
      rcases List.eq_nil_or_concat l with h0 | ⟨r, c, h0⟩
      · subst h0; simp at hn
      · exact ⟨r, c, by simpa using h0⟩
    rw [runR_snoc] at h
    cases h0 : runR r with
    | none => rw [h0] at h; cases h
    | some t =>
      rw [h0] at h
      simp only [Option.bind_some] at h
      rcases ih r (by simpa using hn) t h0 with ⟨a1, rfl⟩ | ⟨w, f, rfl, a1, a2, a3, rfl⟩
      · unfold stepR at h
        dsimp only at h
        by_cases hp : c = 46 ∧ (-1 : Int) < 0 ∧ 0 < r.length
        · rw [if_pos hp] at h
          right
          refine ⟨r, [], by rw [hp.1], ?_, a1, rfl, ?_⟩
          · intro h4; rw [h4] at hp; simp at hp
          · simpa using (Option.some.inj h).symm
        · rw [if_neg hp] at h
          cases hc : isD c
          · rw [hc] at h; simp at h
          · rw [hc] at h
            rw [if_neg (by decide), if_neg (by decide)] at h
            left
            refine ⟨by rw [List.all_append, a1]; simp [hc], ?_⟩
            rw [accV_snoc, List.length_append]
            exact (Option.some.inj h).symm
      · unfold stepR at h
        dsimp only at h
        rw [if_neg (by simp; omega)] at h
        cases hc : isD c
        · rw [hc] at h; simp at h
        · rw [hc] at h
          rw [if_neg (by decide), if_pos (by simp)] at h
          right
          refine ⟨w, f ++ [c], by simp, a1, a2, by rw [List.all_append, a3]; simp [hc], ?_⟩
          rw [← List.append_assoc, accV_snoc, List.length_append]
          simpa using (Option.some.inj h).symm

theorem run_digits : ∀ (f : List UInt8) (s : St), f.all isD = true → ∃ t, f.foldlM stepR s = some t
  | [], s, _ => ⟨s, rfl⟩
  | c :: f, s, h => by
    simp only [List.all_cons, Bool.and_eq_true] at h
    have hc : c ≠ 46 := by rintro rfl; simp [isD] at h
    obtain ⟨t, ht⟩ : ∃ t, stepR s c = some t := by
      unfold stepR
      rw [if_neg (fun h => hc h.1), h.1]
      by_cases h0 : 0 ≤ s.part
      · exact ⟨_, by rw [if_neg (by decide), if_pos h0]⟩
      · exact ⟨_, by rw [if_neg (by decide), if_neg h0]⟩
    obtain ⟨u, hu⟩ := run_digits f t h.2
    exact ⟨u, by rw [List.foldlM_cons, ht]; exact hu⟩

/-- Where it stops, the text has no form. -/
theorem runR_none {l : List UInt8} (p : Nat) (h : runR l = none) : (!wholeB (cutD l).1 || ((cutD l).2.2 && !fracB (cutD l).2.1 p)) = true := by
  cases hw : wholeB (cutD l).1
  · rfl
  · cases hp : (cutD l).2.2
    · exfalso
      obtain ⟨b1, b2⟩ := cutD_back l
      rw [hp] at b1
      simp at b1
      have hd : l.all isD = true := by
        rw [b1]; unfold wholeB at hw; simp only [Bool.and_eq_true] at hw; exact hw.1.2
      obtain ⟨t, ht⟩ := run_digits l { whole := 0, part := -1, acc := (0, false) } hd
      unfold runR at h
      rw [ht] at h; cases h
    · cases hf : fracB (cutD l).2.1 p
      · rfl
      · exfalso
        obtain ⟨b1, b2⟩ := cutD_back l
        rw [hp] at b1
        simp at b1
        have hd : (cutD l).1.all isD = true := by
          unfold wholeB at hw; simp only [Bool.and_eq_true] at hw; exact hw.1.2
        have hne : (cutD l).1 ≠ [] := by
          intro h0; rw [h0] at hw; simp [wholeB] at hw
        have hfd : (cutD l).2.1.all isD = true := by
          unfold fracB at hf; simp only [Bool.and_eq_true] at hf; exact hf.1.2
        obtain ⟨t, ht⟩ := run_digits (cutD l).1 { whole := 0, part := -1, acc := (0, false) } hd
        have ht' : runR (cutD l).1 = some t := ht
        have hs : t = { whole := (cutD l).1.length, part := -1, acc := accV (cutD l).1 } := by
          rcases runR_some _ _ ht' with ⟨_, e⟩ | ⟨w, f, e, _⟩
          · exact e
          · exfalso
            rw [e] at hd
            simp [isD] at hd
        have hl : 0 < (cutD l).1.length := by
          rcases Nat.eq_zero_or_pos (cutD l).1.length with h0 | h0
          · exact absurd (List.length_eq_zero_iff.1 h0) hne
          · exact h0
        have hstep : stepR t 46 = some { t with part := 0 } := by
          unfold stepR
          rw [if_pos ⟨rfl, by rw [hs]; exact (by decide : (-1 : Int) < 0), by rw [hs]; exact hl⟩]
        obtain ⟨u, hu⟩ := run_digits (cutD l).2.1 { t with part := 0 } hfd
        rw [b1, runR_app, ht'] at h
        simp only [Option.bind_some, List.foldlM_cons, hstep] at h
        rw [show (some { t with part := 0 } >>= fun s => List.foldlM stepR s (cutD l).2.1) = List.foldlM stepR { t with part := 0 } (cutD l).2.1 from rfl, hu] at h
        cases h

/-- What the reference says of the state in which its pass ends: a fault of form. -/
def badR (s : St) (l : List UInt8) (neg : Bool) (p : Nat) : Bool :=
  decide (s.whole = 0) || decide (s.part = 0) || decide ((p : Int) < s.part) || (decide (1 < s.whole) && l.headD 0 == 48) || (neg && decide (s.acc.1 = 0) && !s.acc.2)
/-- .. and the amount, with the noughts that lack. -/
def scaled (s : St) (p : Nat) : Nat × Bool := (List.replicate (p - s.part.toNat) (48 : UInt8)).foldl (fun a c => stepV a (dv c)) s.acc

theorem scaled_eq (d : List UInt8) (k : Nat) : (List.replicate k (48 : UInt8)).foldl (fun a c => stepV a (dv c)) (accV d) = accV (d ++ List.replicate k 48) := by
  unfold accV; rw [List.foldl_append]
theorem all_rep (k : Nat) : (List.replicate k (48 : UInt8)).all isD = true := by
  rw [List.all_replicate]
  cases k
  · rfl
  · simp [isD]
theorem all48_val : ∀ (l : List UInt8), l.all isD = true → (l.all (· == 48) = true ↔ val l = 0) := by
  intro l
  induction l with
  | nil => intro _; simp [val]
  | cons c l ih =>
    intro h
    simp only [List.all_cons, Bool.and_eq_true] at h ⊢
    have e : c :: l = [c] ++ l := rfl
    rw [e, val_app, show val [c] = dv c by simp [val]]
    have hp : 0 < 10 ^ l.length := Nat.pow_pos (by omega)
    constructor
    · rintro ⟨h1, h2⟩
      have : dv c = 0 := by rw [beq_iff_eq.1 h1]; rfl
      rw [this, (ih h.2).1 h2]; simp
    · intro h0
      have h1 : dv c * 10 ^ l.length = 0 := by omega
      have h2 : val l = 0 := by omega
      have h3 : dv c = 0 := by
        rcases Nat.mul_eq_zero.1 h1 with h | h
        · exact h
        · omega
      refine ⟨?_, (ih h.2).2 h2⟩
      rw [beq_iff_eq]
      have := h.1
      unfold isD at this
      unfold dv at h3
      simp at this
      have : c.toNat = 48 := by omega
      exact UInt8.toNat_inj.1 (by rw [this]; rfl)

theorem headD_app {w : List UInt8} (f : List UInt8) (h : w ≠ []) : (w ++ f).headD 0 = w.headD 0 := by
  cases w with
  | nil => exact absurd rfl h
  | cons c w => rfl
/-- 'whole > 1 && text[first] == 0' says that a whole part begins with a nought that it need not have. -/
theorem whole_form {w : List UInt8} (hd : w.all isD = true) : wholeB w = (!decide (w.length = 0) && !(decide (1 < w.length) && w.headD 0 == 48)) := by
  unfold wholeB
  rw [hd]
  cases w with
  | nil => rfl
  | cons c r =>
    cases r with
    | nil =>
      simp only [List.isEmpty_cons, List.length_singleton, List.headD_cons]
      by_cases h : c = 48
      · subst h; rfl
      · have h1 : ([c] == [48]) = false := by simp [h]
        have h2 : (c != 48) = true := by simp [h]
        rw [h1, h2]; rfl
    | cons d r =>
      have h1 : ((c :: d :: r) == [48]) = false := by simp
      rw [h1]
      simp only [List.isEmpty_cons, List.length_cons, List.headD_cons]
      by_cases h : c = 48
      · subst h; simp
      · simp [h, bne]

/-- THE REFERENCE's END IS THE DOCUMENT's READING. -/
theorem ref_end {l : List UInt8} {p : Nat} {s : St} (h : runR (unsig l) = some s) :
    parseS l p = if badR s (unsig l) (signB l) p then (0, 11)
      else if (scaled s p).2 || decide (maxA < (scaled s p).1) then (0, 4)
      else (if signB l then -((scaled s p).1 : Int) else ((scaled s p).1 : Int), 0) := by
  unfold parseS
  generalize unsig l = u at h ⊢
  generalize signB l = neg
  have key : ∀ (w f : List UInt8), w.all isD = true → f.all isD = true → cutD u = (w, f, (cutD u).2.2) → u.headD 0 = w.headD 0 ∨ w = [] → s.whole = w.length → s.acc = accV (w ++ f) → s.part.toNat = f.length →
      ((cutD u).2.2 = true → s.part = f.length) → ((cutD u).2.2 = false → s.part = -1 ∧ f = []) →
      (if !wholeB (cutD u).1 || ((cutD u).2.2 && !fracB (cutD u).2.1 p) then ((0, 11) : Int × Int)
        else if neg && ((cutD u).1 ++ (cutD u).2.1).all (· == 48) then (0, 11)
        else if val ((cutD u).1 ++ (cutD u).2.1 ++ List.replicate (p - (cutD u).2.1.length) 48) ≤ maxA then
          (if neg then -(val ((cutD u).1 ++ (cutD u).2.1 ++ List.replicate (p - (cutD u).2.1.length) 48) : Int) else (val ((cutD u).1 ++ (cutD u).2.1 ++ List.replicate (p - (cutD u).2.1.length) 48) : Int), 0)
        else (0, 4)) = if badR s u neg p then (0, 11)
        else if (scaled s p).2 || decide (maxA < (scaled s p).1) then (0, 4)
        else (if neg then -((scaled s p).1 : Int) else ((scaled s p).1 : Int), 0) := by
    intro w f hw hf hcut hhead hwl hacc hpn hpt hpf
    have hwf : (w ++ f).all isD = true := by rw [List.all_append, hw, hf]; rfl
    have e1 : (cutD u).1 = w := by rw [hcut]
    have e2 : (cutD u).2.1 = f := by rw [hcut]
    rw [e1, e2]
    generalize (cutD u).2.2 = pt at hpt hpf
    have hsc : scaled s p = accV (w ++ f ++ List.replicate (p - f.length) 48) := by
      unfold scaled; rw [hacc, hpn, scaled_eq]
    have hall : (w ++ f ++ List.replicate (p - f.length) 48).all isD = true := by rw [List.all_append, hwf, all_rep]; rfl
    obtain ⟨a1, a2, a3⟩ := accV_spec _ hall
    obtain ⟨b1, b2, b3⟩ := accV_spec _ hwf
    rw [hsc]
    have hz := all48_val _ hwf
    have hbad : badR s u neg p = ((!wholeB w || (pt && !fracB f p)) || (neg && (w ++ f).all (· == 48))) := by
      unfold badR
      rw [hwl, hacc]
      have g1 : (neg && decide ((accV (w ++ f)).1 = 0) && !(accV (w ++ f)).2) = (neg && (w ++ f).all (· == 48)) := by
        rw [Bool.and_assoc]
        congr 1
        rw [Bool.eq_iff_iff, hz]
        cases h2 : (accV (w ++ f)).2
        · rw [← b2 h2]; simp
        · have := b3 h2; unfold maxA at this; simp; omega
      rw [g1]
      congr 1
      rw [whole_form hw]
      have g2 : (u.headD 0 == 48 && decide (1 < w.length)) = (w.headD 0 == 48 && decide (1 < w.length)) := by
        rcases hhead with h | h
        · rw [h]
        · rw [h]; simp
      have g3 : (decide (1 < w.length) && u.headD 0 == 48) = (decide (1 < w.length) && w.headD 0 == 48) := by
        rw [Bool.and_comm, g2, Bool.and_comm]
      rw [g3]
      cases pt with
      | true =>
        have hp := hpt rfl
        rw [hp]
        unfold fracB
        rw [hf]
        have g4 : f.isEmpty = decide (((f.length : Nat) : Int) = 0) := by
          cases f with
          | nil => rfl
          | cons _ _ => simp; omega
        have g5 : decide (f.length ≤ p) = !decide ((p : Int) < (f.length : Nat)) := by
          rw [Bool.eq_iff_iff]; simp
        rw [g4, g5]
        generalize decide (w.length = 0) = x1
        generalize decide (((f.length : Nat) : Int) = 0) = x2
        generalize decide ((p : Int) < (f.length : Nat)) = x3
        generalize (decide (1 < w.length) && w.headD 0 == 48) = x4
        cases x1 <;> cases x2 <;> cases x3 <;> cases x4 <;> rfl
      | false =>
        obtain ⟨hp, hf0⟩ := hpf rfl
        rw [hp]
        have g6 : decide ((p : Int) < -1) = false := decide_eq_false (by omega)
        rw [g6]
        generalize decide (w.length = 0) = x1
        generalize (decide (1 < w.length) && w.headD 0 == 48) = x4
        cases x1 <;> cases x4 <;> rfl
    rw [hbad]
    cases hA : (!wholeB w || (pt && !fracB f p))
    · cases hB : (neg && (w ++ f).all (· == 48))
      · simp only [Bool.false_or, if_false, Bool.false_eq_true]
        cases h2 : (accV (w ++ f ++ List.replicate (p - f.length) 48)).2
        · have e := a2 h2
          rw [e]
          by_cases hm : val (w ++ f ++ List.replicate (p - f.length) 48) ≤ maxA
          · rw [if_pos hm, decide_eq_false (by omega)]; rfl
          · rw [if_neg hm, decide_eq_true (by omega)]; rfl
        · have e := a3 h2
          rw [if_neg (by omega)]; rfl
      · simp
    · simp
  rcases runR_some u s h with ⟨hd, rfl⟩ | ⟨w, f, rfl, hne, hw, hf, rfl⟩
  · have hc := cutD_digits hd
    refine key u [] hd rfl (by rw [hc]) (Or.inl rfl) rfl (by simp) rfl ?_ ?_
    · intro h; rw [hc] at h; cases h
    · intro _; exact ⟨rfl, rfl⟩
  · have hc := cutD_point f hw
    refine key w f hw hf (by rw [hc]) (Or.inl (headD_app _ hne)) rfl rfl (by simp) ?_ ?_
    · intro _; rfl
    · intro h; rw [hc] at h; cases h
end Go.Proofs.YtjgkjmegpinelaaDoor.Dx

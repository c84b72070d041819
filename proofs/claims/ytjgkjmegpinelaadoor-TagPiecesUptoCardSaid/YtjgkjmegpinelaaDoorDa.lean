/-
  Layer 2's mathematics: decimal digits, the text of an amount, bytes as lists.
-/
import Derived.Lib.ItoaNum
import Derived.Lib.Repeat
import Derived.WalkKit
namespace Go.Proofs.YtjgkjmegpinelaaDoor.Dx
open Go.Lib
set_option linter.unusedVariables false
set_option linter.unusedSimpArgs false

/-- A string of these bytes. -/
def bs (l : List UInt8) : ByteArray := ⟨l.toArray⟩
theorem bs_size (l : List UInt8) : (bs l).size = l.length := rfl
theorem bs_data (l : List UInt8) : (bs l).data.toList = l := rfl
theorem bs_toList (l : List UInt8) : (bs l).toList = l := ByteArray.toList_mk l
theorem bs_app (a b : List UInt8) : bs a ++ bs b = bs (a ++ b) := by unfold bs; rw [ByteArray.mk_append_mk]
theorem bs_extract (l : List UInt8) (i j : Nat) : (bs l).extract i j = bs ((l.drop i).take (j - i)) := ByteArray.extract_mk l i j
theorem bs_eta (s : ByteArray) : s = bs s.data.toList := rfl

def dgt (n : Nat) : UInt8 := UInt8.ofNat (48 + n)
def low : Nat → Nat → List UInt8
  | 0, _ => []
  | n + 1, m => low n (m / 10) ++ [dgt (m % 10)]

theorem low_length : ∀ n m, (low n m).length = n
  | 0, _ => rfl
  | n + 1, m => by simp [low, low_length n]

theorem low_cons : ∀ n m, low (n + 1) m = dgt (m / 10 ^ n % 10) :: low n m
  | 0, m => by simp [low]
  | n + 1, m => by
    rw [low, low_cons n (m / 10)]
    simp only [low, List.cons_append]
    rw [Nat.div_div_eq_div_mul, ← Nat.pow_succ']

theorem low_split : ∀ b a m, low (a + b) m = low a (m / 10 ^ b) ++ low b m
  | 0, a, m => by simp [low]
  | b + 1, a, m => by
    rw [← Nat.add_assoc, low, low_split b a (m / 10), low, List.append_assoc, Nat.div_div_eq_div_mul, ← Nat.pow_succ']

def nd (m : Nat) : Nat := nDigits m
def dec (m : Nat) : List UInt8 := decDigits m
theorem dec_small {m : Nat} (h : m < 10) : dec m = [dgt m] := decDigits_one h
theorem dec_big {m : Nat} (h : ¬ m < 10) : dec m = dec (m / 10) ++ [dgt (m % 10)] := by
  unfold dec; rw [decDigits, dif_neg h]; rfl
theorem nd_small {m : Nat} (h : m < 10) : nd m = 1 := nDigits_small h
theorem nd_big {m : Nat} (h : ¬ m < 10) : nd m = nd (m / 10) + 1 := nDigits_big h
theorem nd_pos (m : Nat) : 1 ≤ nd m := nDigits_pos m
theorem lt_nd (m : Nat) : m < 10 ^ nd m := lt_pow_nDigits m
theorem dec_length (m : Nat) : (dec m).length = nd m := decDigits_length m

theorem dec_low (m : Nat) : dec m = low (nd m) m := by
  induction m using Nat.strongRecOn with
  | _ m ih =>
    by_cases h : m < 10
    · rw [dec_small h, nd_small h]; simp [low, Nat.mod_eq_of_lt h]
    · rw [dec_big h, nd_big h, low, ih (m / 10) (by omega)]

/-- m has at most n digits. -/
theorem nd_le : ∀ (n m : Nat), m < 10 ^ n → 1 ≤ n → nd m ≤ n
  | 0, m, _, h => by omega
  | n + 1, m, h, _ => by
    by_cases h10 : m < 10
    · rw [nd_small h10]; omega
    · rw [nd_big h10]
      have : m / 10 < 10 ^ n := by rw [Nat.div_lt_iff_lt_mul (by omega)]; rw [Nat.pow_succ] at h; exact h
      have h1 : 1 ≤ n := by
        cases n with
        | zero => simp at this; omega
        | succ n => omega
      have := nd_le n (m / 10) this h1
      omega
theorem le_nd {m n : Nat} (h : 10 ^ n ≤ m) : n < nd m := by
  have := lt_nd m
  exact (Nat.pow_lt_pow_iff_right (by omega : 1 < 10)).1 (Nat.lt_of_le_of_lt h this)

/-- The text of m units of the p-th place. -/
def txtN (m p : Nat) : List UInt8 := dec (m / 10 ^ p) ++ (if p = 0 then [] else 46 :: low p m)
def fmtT (x : Int) (p : Nat) : List UInt8 := if x < 0 then 45 :: txtN x.natAbs p else txtN x.natAbs p

/-- As the program pads. -/
theorem pad_eq : ∀ (p m : Nat), List.replicate (p + 1 - nd m) (48 : UInt8) ++ dec m = dec (m / 10 ^ p) ++ low p m
  | 0, m => by
    have := nd_pos m
    rw [show 0 + 1 - nd m = 0 by omega]; simp [low]
  | p + 1, m => by
    have ih := pad_eq p (m / 10)
    rw [low, ← List.append_assoc, Nat.pow_succ', ← Nat.div_div_eq_div_mul, ← ih]
    by_cases h : m < 10
    · have e0 : m / 10 = 0 := by omega
      rw [e0, nd_small h, dec_small h, nd_small (by omega : 0 < 10), dec_small (by omega : 0 < 10), Nat.mod_eq_of_lt h]
      have : dgt 0 = 48 := rfl
      rw [this, show p + 1 + 1 - 1 = p + 1 by omega, show p + 1 - 1 = p by omega, List.replicate_succ']
    · rw [nd_big h, dec_big h, show p + 1 + 1 - (nd (m / 10) + 1) = p + 1 - nd (m / 10) by omega, List.append_assoc]

/-- As the reference builds: the lowest n digits, the point among them. -/
def outN (n m p : Nat) : List UInt8 := if p = 0 ∨ n ≤ p then low n m else low (n - p) (m / 10 ^ p) ++ 46 :: low p m

theorem outN_zero (m p : Nat) : outN 0 m p = [] := by unfold outN; simp [low]
theorem outN_plain {n m p : Nat} (h : ¬ (n = p ∧ 0 < p)) : outN (n + 1) m p = dgt (m / 10 ^ n % 10) :: outN n m p := by
  unfold outN
  by_cases h0 : p = 0
  · rw [if_pos (Or.inl h0), if_pos (Or.inl h0), low_cons]
  · by_cases h1 : n + 1 ≤ p
    · rw [if_pos (Or.inr h1), if_pos (Or.inr (by omega)), low_cons]
    · have hn : p < n := by omega
      rw [if_neg (by omega), if_neg (by omega), show n + 1 - p = (n - p) + 1 by omega, low_cons, Nat.div_div_eq_div_mul, ← Nat.pow_add, show p + (n - p) = n by omega]
      rfl
theorem outN_point {n m p : Nat} (h : n = p) (h0 : 0 < p) : outN (n + 1) m p = dgt (m / 10 ^ n % 10) :: 46 :: outN n m p := by
  subst h
  unfold outN
  rw [if_neg (by omega), if_pos (Or.inr (Nat.le_refl _)), show n + 1 - n = 1 by omega]
  simp [low]
theorem outN_length (n m p : Nat) : (outN n m p).length ≤ n + 1 := by
  unfold outN
  split
  · rw [low_length]; omega
  · simp [low_length]; omega
/-- Where the loop ends. -/
theorem outN_end {n m p : Nat} (h1 : p < n) (h2 : m / 10 ^ n = 0) (h3 : n ≤ p + nd (m / 10 ^ p)) : outN n m p = txtN m p := by
  have hlt : m / 10 ^ p < 10 ^ (n - p) := by
    rw [Nat.div_lt_iff_lt_mul (Nat.pow_pos (by omega)), ← Nat.pow_add, show n - p + p = n by omega]
    exact (Nat.div_eq_zero_iff_lt (Nat.pow_pos (by omega))).1 h2
  have := nd_le (n - p) (m / 10 ^ p) hlt (by omega)
  have e : n - p = nd (m / 10 ^ p) := by omega
  unfold outN txtN
  by_cases h0 : p = 0
  · subst h0
    rw [if_pos (Or.inl rfl), if_pos rfl, List.append_nil, dec_low]
    simp only [Nat.pow_zero, Nat.div_one] at e ⊢
    rw [← e, Nat.sub_zero]
  · rw [if_neg (by omega), if_neg h0, e, ← dec_low]
theorem more_digits {n m p : Nat} (h : n ≤ p ∨ 0 < m / 10 ^ n) : n + 1 ≤ p + nd (m / 10 ^ p) := by
  have hp := nd_pos (m / 10 ^ p)
  rcases Nat.lt_or_ge p n with h1 | h1
  · have h2 : 0 < m / 10 ^ n := by rcases h with h | h; omega; exact h
    have h3 : 10 ^ n ≤ m := by
      rcases Nat.lt_or_ge m (10 ^ n) with h4 | h4
      · rw [Nat.div_eq_of_lt h4] at h2; omega
      · exact h4
    have : n - p < nd (m / 10 ^ p) := le_nd (by
      rw [Nat.le_div_iff_mul_le (Nat.pow_pos (by omega)), ← Nat.pow_add, show n - p + p = n by omega]; exact h3)
    omega
  · omega

theorem txtN_length (m p : Nat) : (txtN m p).length = nd (m / 10 ^ p) + (if p = 0 then 0 else p + 1) := by
  unfold txtN
  split
  · simp [dec_length]
  · simp [dec_length, low_length]
theorem nd_lt20 {m : Nat} (h : m < 100000000000000000000) : nd m ≤ 20 := nd_le 20 m (by simpa using h) (by omega)
end Go.Proofs.YtjgkjmegpinelaaDoor.Dx

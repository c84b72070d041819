/-
  Layer 5's mathematics: a segment's name, a record's frame, the records of bytes. No program is imported.
-/
import Derived.Test.YtdonkmkjblofpaaGreatDoorDa
import Derived.Test.YtdonkmkjblofpaaGreatDoorSa
import Derived.Test.YtdonkmkjblofpaaGreatDoorKa
namespace Go.Proofs.YtdonkmkjblofpaaGreatDoor.Wl
open Dx Sx
set_option linter.unusedVariables false
set_option linter.unusedSimpArgs false

/-- The name of the segment that begins with record n. -/
def segN (n : Nat) : List UInt8 := 106 :: low 9 n
def le4 (n : Nat) : List Int := [((n % 256 : Nat) : Int), ((n / 256 % 256 : Nat) : Int), ((n / 65536 % 256 : Nat) : Int), ((n / 16777216 % 256 : Nat) : Int)]
def num4 (b : List Int) : Nat := (b.getD 0 0).toNat + (b.getD 1 0).toNat * 256 + (b.getD 2 0).toNat * 65536 + (b.getD 3 0).toNat * 16777216
def crcN (r : List Int) : Nat := (crcS r).toNat
theorem crcN_lt (r : List Int) : crcN r < 4294967296 := (crcS r).isLt
def frm (r : List Int) : List Int := le4 r.length ++ (le4 (crcN r) ++ r)
theorem le4_length (n : Nat) : (le4 n).length = 4 := rfl
theorem frm_length (r : List Int) : (frm r).length = 8 + r.length := by simp [frm, le4]; omega
theorem num4_le4 {n : Nat} (h : n < 4294967296) (x : List Int) : num4 (le4 n ++ x) = n := by
  simp only [num4, le4, List.cons_append, List.nil_append, List.getD_cons_zero, List.getD_cons_succ, Int.toNat_natCast]
  omega
/-- The record of the frame at the head of b. -/
def one (b : List Int) : Option (List Int) :=
  if b.length < 8 then none
  else if 65536 < num4 b ∨ b.length - 8 < num4 b then none
  else if crcN ((b.drop 8).take (num4 b)) = num4 (b.drop 4) then some ((b.drop 8).take (num4 b)) else none
theorem one_some {b r : List Int} (h : one b = some r) : r = (b.drop 8).take (num4 b) ∧ r.length = num4 b ∧ num4 b ≤ 65536 ∧ 8 + r.length ≤ b.length ∧ crcN r = num4 (b.drop 4) := by
  unfold one at h
  split at h
  · cases h
  split at h
  · cases h
  split at h
  · rename_i h1 h2 h3
    simp only [not_or, Nat.not_lt] at h1 h2
    cases h
    have e : ((b.drop 8).take (num4 b)).length = num4 b := by rw [List.length_take, List.length_drop]; omega
    exact ⟨rfl, e, h2.1, by rw [e]; omega, h3⟩
  · cases h
/-- The records of these bytes. -/
def recs : Nat → List Int → List (List Int)
  | 0, _ => []
  | k + 1, b => match one b with
    | none => []
    | some r => r :: recs k (b.drop (8 + r.length))
def recsB (b : List Int) : List (List Int) := recs b.length b
def sizeR : List (List Int) → Nat
  | [] => 0
  | r :: s => 8 + r.length + sizeR s
theorem recs_fuel : ∀ (j k : Nat) (b : List Int), b.length ≤ j → b.length ≤ k → recs j b = recs k b
  | 0, 0, _, _, _ => rfl
  | 0, k + 1, b, h, _ => by
    have : b = [] := List.eq_nil_of_length_eq_zero (by omega)
    subst this; rfl
  | j + 1, 0, b, _, h => by
    have : b = [] := List.eq_nil_of_length_eq_zero (by omega)
    subst this; rfl
  | j + 1, k + 1, b, h1, h2 => by
    unfold recs
    cases h : one b with
    | none => rfl
    | some r =>
      have h3 := (one_some h).2.2.2.1
      simp only
      rw [recs_fuel j k (b.drop (8 + r.length)) (by simp; omega) (by simp; omega)]
theorem recsB_none {b : List Int} (h : one b = none) : recsB b = [] := by
  unfold recsB
  cases b with
  | nil => rfl
  | cons x s => rw [List.length_cons]; unfold recs; rw [h]
theorem recsB_some {b r : List Int} (h : one b = some r) : recsB b = r :: recsB (b.drop (8 + r.length)) := by
  have h3 := (one_some h).2.2.2.1
  unfold recsB
  obtain ⟨k, hk⟩ : ∃ k, b.length = k + 1 := ⟨b.length - 1, by omega⟩
  rw [hk]
  conv => lhs; unfold recs
  rw [h]
  simp only
  rw [recs_fuel k (b.drop (8 + r.length)).length _ (by simp; omega) (Nat.le_refl _)]
theorem sizeR_append : ∀ a b, sizeR (a ++ b) = sizeR a + sizeR b
  | [], b => by simp [sizeR]
  | x :: a, b => by simp only [List.cons_append, sizeR, sizeR_append a b]; omega
theorem sizeR_frm : ∀ R : List (List Int), (R.flatMap frm).length = sizeR R
  | [] => rfl
  | r :: s => by rw [List.flatMap_cons, List.length_append, frm_length, sizeR_frm s]; rfl
theorem recsB_size : ∀ (k : Nat) (b : List Int), b.length ≤ k → sizeR (recsB b) ≤ b.length
  | 0, b, h => by
    have : b = [] := List.eq_nil_of_length_eq_zero (by omega)
    subst this; exact Nat.le_refl _
  | k + 1, b, h => by
    cases ho : one b with
    | none => rw [recsB_none ho]; exact Nat.zero_le _
    | some r =>
      have h3 := (one_some ho).2.2.2.1
      rw [recsB_some ho]
      have := recsB_size k (b.drop (8 + r.length)) (by simp; omega)
      simp only [sizeR, List.length_drop] at this ⊢
      omega

theorem getD_take {b : List Int} {i k : Nat} (h : i < k) : (b.take k).getD i 0 = b.getD i 0 := by
  simp [List.getD, h]
theorem num4_take {b : List Int} {k : Nat} (h : 4 ≤ k) : num4 (b.take k) = num4 b := by
  unfold num4
  rw [getD_take (by omega), getD_take (by omega), getD_take (by omega), getD_take (by omega)]
theorem frm_drop8 (r x : List Int) : (frm r ++ x).drop 8 = r ++ x := by simp [frm, le4]
theorem frm_drop4 (r x : List Int) : (frm r ++ x).drop 4 = le4 (crcN r) ++ (r ++ x) := by simp [frm, le4]
theorem frm_num {r : List Int} (h : r.length ≤ 65536) (x : List Int) : num4 (frm r ++ x) = r.length := by
  unfold frm; rw [List.append_assoc]; exact num4_le4 (by omega) _
theorem one_frm {r : List Int} (h : r.length ≤ 65536) (x : List Int) : one (frm r ++ x) = some r := by
  unfold one
  have hl : (frm r ++ x).length = 8 + r.length + x.length := by rw [List.length_append, frm_length]
  rw [if_neg (by omega), frm_num h, if_neg (by omega), frm_drop8, frm_drop4, List.take_left, num4_le4 (crcN_lt r), if_pos rfl]
theorem one_short {r : List Int} (h : r.length ≤ 65536) {k : Nat} (hk : k < 8 + r.length) : one ((frm r).take k) = none := by
  unfold one
  have hl : ((frm r).take k).length = k := by rw [List.length_take, frm_length]; omega
  by_cases h8 : k < 8
  · rw [if_pos (by omega)]
  · have hn := frm_num h []
    rw [List.append_nil] at hn
    rw [if_neg (by omega), num4_take (by omega), hn, if_pos (by omega)]
theorem recsB_app : ∀ (R : List (List Int)) (x : List Int), (∀ r ∈ R, r.length ≤ 65536) → one x = none → recsB (R.flatMap frm ++ x) = R
  | [], x, _, hx => by simpa using recsB_none hx
  | r :: s, x, h, hx => by
    rw [List.flatMap_cons, List.append_assoc, recsB_some (one_frm (h r (by simp)) _)]
    congr 1
    have e : (frm r ++ (s.flatMap frm ++ x)).drop (8 + r.length) = s.flatMap frm ++ x := by rw [← frm_length r, List.drop_left]
    rw [e]
    exact recsB_app s x (fun r hr => h r (by simp [hr])) hx
/-- The frame that a reader lays anew is what it read just if the CRC fits. -/
theorem le4_num4 {b : List Int} (hb : Bytes b) (h : 4 ≤ b.length) : le4 (num4 b) = b.take 4 := by
  match b, h with
  | a0 :: a1 :: a2 :: a3 :: r, _ =>
    have h0 := hb 0 (by simp); have h1 := hb 1 (by simp); have h2 := hb 2 (by simp); have h3 := hb 3 (by simp)
    simp only [List.getD_cons_zero, List.getD_cons_succ] at h0 h1 h2 h3
    simp only [num4, le4, List.getD_cons_zero, List.getD_cons_succ, List.take_succ_cons, List.take_zero]
    obtain ⟨n0, rfl⟩ := Int.eq_ofNat_of_zero_le h0.1
    obtain ⟨n1, rfl⟩ := Int.eq_ofNat_of_zero_le h1.1
    obtain ⟨n2, rfl⟩ := Int.eq_ofNat_of_zero_le h2.1
    obtain ⟨n3, rfl⟩ := Int.eq_ofNat_of_zero_le h3.1
    simp only [Int.toNat_natCast, List.cons.injEq, and_true]
    refine ⟨?_, ?_, ?_, ?_⟩ <;> omega
theorem bytes_drop {b : List Int} (hb : Bytes b) (k : Nat) : Bytes (b.drop k) := by
  intro j hj
  rw [List.length_drop] at hj
  have := hb (k + j) (by omega)
  simpa [List.getD, List.getElem?_drop] using this
theorem bytes_take {b : List Int} (hb : Bytes b) (k : Nat) : Bytes (b.take k) := by
  intro j hj
  rw [List.length_take] at hj
  have := hb j (by omega)
  rw [getD_take (by omega)]; exact this
theorem bytes_append {a b : List Int} (ha : Bytes a) (hb : Bytes b) : Bytes (a ++ b) := by
  intro j hj
  rw [List.length_append] at hj
  by_cases h : j < a.length
  · have := ha j h
    simpa [List.getD, List.getElem?_append_left h] using this
  · have := hb (j - a.length) (by omega)
    simpa [List.getD, List.getElem?_append_right (Nat.le_of_not_lt h)] using this
theorem bytes_le4 (n : Nat) : Bytes (le4 n) := by
  intro j hj
  match j, hj with
  | 0, _ => simp [le4]; omega
  | 1, _ => simp [le4]; omega
  | 2, _ => simp [le4]; omega
  | 3, _ => simp [le4]; omega
theorem bytes_frm {r : List Int} (h : Bytes r) : Bytes (frm r) := bytes_append (bytes_le4 _) (bytes_append (bytes_le4 _) h)
theorem bytes_flat {R : List (List Int)} (h : ∀ r ∈ R, Bytes r) : Bytes (R.flatMap frm) := by
  induction R with
  | nil => intro j hj; simp at hj
  | cons r s ih => rw [List.flatMap_cons]; exact bytes_append (bytes_frm (h r (by simp))) (ih fun r hr => h r (by simp [hr]))
theorem frm_iff {b : List Int} (hb : Bytes b) (h : 8 + num4 b ≤ b.length) : frm ((b.drop 8).take (num4 b)) = b.take (8 + num4 b) ↔ crcN ((b.drop 8).take (num4 b)) = num4 (b.drop 4) := by
  have e1 : ((b.drop 8).take (num4 b)).length = num4 b := by rw [List.length_take, List.length_drop]; omega
  have e2 : b.take (8 + num4 b) = b.take 4 ++ ((b.drop 4).take 4 ++ (b.drop 8).take (num4 b)) := by
    rw [show 8 + num4 b = 4 + (4 + num4 b) by omega, List.take_add, List.take_add, List.drop_drop]
  have e3 := le4_num4 (bytes_drop hb 4) (by rw [List.length_drop]; omega)
  unfold frm
  rw [e1, e2, le4_num4 hb (by omega)]
  constructor
  · intro h1
    have h2 := List.append_cancel_left h1
    have h3 := List.append_inj_left h2 (by simp [le4]; omega)
    have h4 := num4_le4 (crcN_lt ((b.drop 8).take (num4 b))) []
    rw [← h4, List.append_nil, h3]
    exact num4_take (by omega)
  · intro h1
    rw [h1, e3]
end Go.Proofs.YtdonkmkjblofpaaGreatDoor.Wl

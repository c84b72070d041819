/-
  Layer 10: a tree as mathematics: the path from an account up, which lists can be, what stands below. No program is imported.
-/
import Derived.WalkKit
namespace Go.Proofs.Ytnhaoalndlgakaa.Tr
set_option linter.unusedVariables false

def par (z : List Int) (v : Nat) : Int := z.getD v 0
def pthF (z : List Int) : Nat → Nat → List Int
  | 0, _ => []
  | k + 1, v => (v : Int) :: if par z v = -1 then [] else pthF z k (par z v).toNat
/-- The account and those above it. -/
def pth (z : List Int) (v : Nat) : List Int := pthF z (v + 1) v
/-- Parents have smaller numbers, as far as the first n accounts. -/
def Dn (z : List Int) (n : Nat) : Prop := ∀ v, v < n → par z v = -1 ∨ (0 ≤ par z v ∧ par z v < (v : Int))
def okB (z : List Int) (v : Nat) : Bool := decide (par z v = -1) || (decide (2 ≤ par z v) && decide (par z v < (v : Int)) && decide ((pth z (par z v).toNat).length < 4))
def Good (z : List Int) (n : Nat) : Prop := ∀ v, v < n → okB z v = true
theorem ok_iff {z : List Int} {v : Nat} : okB z v = true ↔ par z v = -1 ∨ (2 ≤ par z v ∧ par z v < (v : Int) ∧ (pth z (par z v).toNat).length < 4) := by
  unfold okB
  rw [Bool.or_eq_true, Bool.and_eq_true, Bool.and_eq_true, decide_eq_true_eq, decide_eq_true_eq, decide_eq_true_eq, decide_eq_true_eq, and_assoc]
theorem Good.dn {z : List Int} {n : Nat} (h : Good z n) : Dn z n := fun v hv => by
  rcases ok_iff.1 (h v hv) with h1 | ⟨h1, h2, _⟩
  · exact .inl h1
  · exact .inr ⟨by omega, h2⟩
theorem Dn.less {z : List Int} {m n : Nat} (h : Dn z n) (hm : m ≤ n) : Dn z m := fun v hv => h v (by omega)
theorem Good.less {z : List Int} {m n : Nat} (h : Good z n) (hm : m ≤ n) : Good z m := fun v hv => h v (by omega)
theorem pth_fuel {z : List Int} : ∀ (n v k : Nat), v < n → Dn z (v + 1) → v + 1 ≤ k → pthF z k v = pth z v
  | 0, v, k, h, _, _ => absurd h (Nat.not_lt_zero _)
  | n + 1, v, 0, _, _, h => absurd h (Nat.not_succ_le_zero _)
  | n + 1, v, k + 1, hv, hd, hk => by
    show (v : Int) :: (if par z v = -1 then [] else pthF z k (par z v).toNat) = (v : Int) :: (if par z v = -1 then [] else pthF z v (par z v).toNat)
    by_cases h1 : par z v = -1
    · rw [if_pos h1, if_pos h1]
    · rw [if_neg h1, if_neg h1]
      rcases hd v (by omega) with h2 | ⟨h2, h3⟩
      · exact absurd h2 h1
      · rw [pth_fuel n (par z v).toNat k (by omega) (hd.less (by omega)) (by omega), pth_fuel n (par z v).toNat v (by omega) (hd.less (by omega)) (by omega)]
theorem pth_root {z : List Int} {v : Nat} (h : par z v = -1) : pth z v = [(v : Int)] := by
  show (v : Int) :: (if par z v = -1 then [] else pthF z v (par z v).toNat) = [(v : Int)]
  rw [if_pos h]
theorem pth_step {z : List Int} {v : Nat} (hd : Dn z (v + 1)) (h : par z v ≠ -1) : pth z v = (v : Int) :: pth z (par z v).toNat := by
  show (v : Int) :: (if par z v = -1 then [] else pthF z v (par z v).toNat) = (v : Int) :: pth z (par z v).toNat
  rcases hd v (by omega) with h2 | ⟨h2, h3⟩
  · exact absurd h2 h
  · rw [if_neg h, pth_fuel (v + 1) (par z v).toNat v (by omega) (hd.less (by omega)) (by omega)]
theorem pthF_len (z : List Int) : ∀ (k v : Nat), (pthF z k v).length ≤ k
  | 0, _ => Nat.le_refl _
  | k + 1, v => by
    show ((v : Int) :: (if par z v = -1 then [] else pthF z k (par z v).toNat)).length ≤ k + 1
    have := pthF_len z k (par z v).toNat
    split <;> simp <;> omega
theorem pth_len (z : List Int) (v : Nat) : (pth z v).length ≤ v + 1 := pthF_len z _ _
theorem pth_cons (z : List Int) (v : Nat) : ∃ l, pth z v = (v : Int) :: l := ⟨_, rfl⟩
theorem pth_pos (z : List Int) (v : Nat) : 0 < (pth z v).length := by
  obtain ⟨l, h⟩ := pth_cons z v
  rw [h]; simp
theorem pth_self (z : List Int) (v : Nat) : (v : Int) ∈ pth z v := by
  obtain ⟨l, h⟩ := pth_cons z v
  rw [h]; simp
/-- All on the path have numbers up to the account's own. -/
theorem pth_le {z : List Int} : ∀ (n v : Nat), v < n → Dn z (v + 1) → ∀ x, x ∈ pth z v → 0 ≤ x ∧ x ≤ (v : Int)
  | 0, v, h, _ => absurd h (Nat.not_lt_zero _)
  | n + 1, v, hv, hd => fun x hx => by
    by_cases h1 : par z v = -1
    · rw [pth_root h1] at hx
      simp at hx
      omega
    · rw [pth_step hd h1] at hx
      rcases hd v (by omega) with h2 | ⟨h2, h3⟩
      · exact absurd h2 h1
      · rcases List.mem_cons.1 hx with h4 | h4
        · omega
        · have := pth_le n (par z v).toNat (by omega) (hd.less (by omega)) x h4
          omega

/-! ### Check -/
def scan (z : List Int) : Nat → Int × Int
  | 0 => (0, 0)
  | m + 1 => if okB z (z.length - (m + 1)) = true then scan z m else (((z.length - (m + 1) : Nat) : Int), 33)
def checkS (z : List Int) : Int × Int := if z.length < 2 then (0, 33) else if 16 < z.length then (16, 40) else scan z z.length
theorem check_few {z : List Int} (h : z.length < 2) : checkS z = (0, 33) := by unfold checkS; rw [if_pos h]
theorem check_room {z : List Int} (h : 16 < z.length) : checkS z = (16, 40) := by unfold checkS; rw [if_neg (by omega), if_pos h]
theorem check_scan {z : List Int} (h1 : ¬ z.length < 2) (h2 : ¬ 16 < z.length) : checkS z = scan z (z.length - 0) := by unfold checkS; rw [if_neg h1, if_neg h2]; rfl
theorem scan_ok {z : List Int} {k : Nat} (hk : k < z.length) (h : okB z k = true) : scan z (z.length - k) = scan z (z.length - (k + 1)) := by
  have e : z.length - k = (z.length - (k + 1)) + 1 := by omega
  rw [e, scan, show z.length - (z.length - (k + 1) + 1) = k by omega, if_pos h]
theorem scan_no {z : List Int} {k : Nat} (hk : k < z.length) (h : okB z k ≠ true) : scan z (z.length - k) = ((k : Int), 33) := by
  have e : z.length - k = (z.length - (k + 1)) + 1 := by omega
  rw [e, scan, show z.length - (z.length - (k + 1) + 1) = k by omega, if_neg h]
theorem scan_end {z : List Int} {k : Nat} (hk : z.length ≤ k) : scan z (z.length - k) = (0, 0) := by
  rw [show z.length - k = 0 by omega]; rfl
theorem scan_good {z : List Int} : ∀ m, m ≤ z.length → ((scan z m).2 = 0 ↔ ∀ v, z.length - m ≤ v → v < z.length → okB z v = true)
  | 0, _ => ⟨fun _ v h1 h2 => by omega, fun _ => rfl⟩
  | m + 1, hm => by
    have ih := scan_good (z := z) m (by omega)
    rw [scan]
    by_cases h : okB z (z.length - (m + 1)) = true
    · rw [if_pos h, ih]
      refine ⟨fun h1 v h2 h3 => ?_, fun h1 v h2 h3 => h1 v (by omega) h3⟩
      by_cases h4 : v = z.length - (m + 1)
      · rw [h4]; exact h
      · exact h1 v (by omega) h3
    · rw [if_neg h]
      refine ⟨fun h1 => absurd (show (33 : Int) = 0 from h1) (by decide), fun h1 => absurd (h1 _ (Nat.le_refl _) (by omega)) h⟩
theorem check_good {z : List Int} : (checkS z).2 = 0 ↔ 2 ≤ z.length ∧ z.length ≤ 16 ∧ Good z z.length := by
  by_cases h1 : z.length < 2
  · rw [check_few h1]
    exact ⟨fun h => absurd h (by decide), fun h => by omega⟩
  · by_cases h2 : 16 < z.length
    · rw [check_room h2]
      exact ⟨fun h => absurd h (by decide), fun h => by omega⟩
    · rw [check_scan h1 h2, scan_good _ (by omega)]
      refine ⟨fun h => ⟨by omega, by omega, fun v hv => h v (by omega) hv⟩, fun h v _ hv => h.2.2 v hv⟩
/-- The accounts can be, and v is one of them. -/
def foundB (z : List Int) (v : Int) : Bool := decide ((checkS z).2 = 0) && decide (0 ≤ v) && decide (v < (z.length : Int))
theorem found_iff {z : List Int} {v : Int} : foundB z v = true ↔ (checkS z).2 = 0 ∧ 0 ≤ v ∧ v < (z.length : Int) := by
  unfold foundB
  rw [Bool.and_eq_true, Bool.and_eq_true, decide_eq_true_eq, decide_eq_true_eq, decide_eq_true_eq, and_assoc]
theorem found_nat {z : List Int} {v : Int} (h : foundB z v = true) : ∃ n : Nat, v = (n : Int) ∧ n < z.length ∧ z.length ≤ 16 ∧ 2 ≤ z.length ∧ Good z z.length := by
  obtain ⟨h1, h2, h3⟩ := found_iff.1 h
  obtain ⟨g1, g2, g3⟩ := check_good.1 h1
  exact ⟨v.toNat, by omega, by omega, g2, g1, g3⟩

/-! ### Above, Below -/
def aboveS (z : List Int) (v : Int) : List Int := if foundB z v = true then pth z v.toNat else []
theorem above_no {z : List Int} {v : Int} (h : foundB z v = false) : aboveS z v = [] := by unfold aboveS; rw [h]; rfl
theorem above_yes {z : List Int} {n : Nat} (h : foundB z (n : Int) = true) : aboveS z (n : Int) = pth z n := by unfold aboveS; rw [if_pos h]; rfl
theorem above_len (z : List Int) (v : Int) : (aboveS z v).length ≤ 16 := by
  cases h : foundB z v
  · rw [above_no h]; simp
  · obtain ⟨n, rfl, h1, h2, _⟩ := found_nat h
    rw [above_yes h]
    have := pth_len z n
    omega
theorem above_lenz (z : List Int) (v : Int) : (aboveS z v).length ≤ z.length := by
  cases h : foundB z v
  · rw [above_no h]; simp
  · obtain ⟨n, rfl, h1, h2, _⟩ := found_nat h
    rw [above_yes h]
    have := pth_len z n
    omega
/-- Those below v among the first k. -/
def belN (z : List Int) (v k : Nat) : List Int := ((List.range k).filter fun u => decide ((v : Int) ∈ pth z u)).map Int.ofNat
theorem bel_succ (z : List Int) (v k : Nat) : belN z v (k + 1) = if (v : Int) ∈ pth z k then belN z v k ++ [(k : Int)] else belN z v k := by
  unfold belN
  rw [List.range_succ, List.filter_append, List.map_append]
  by_cases h : (v : Int) ∈ pth z k
  · rw [if_pos h]; simp [h]
  · rw [if_neg h]; simp [h]
theorem bel_mem {z : List Int} {v k : Nat} {x : Int} : x ∈ belN z v k ↔ ∃ u : Nat, x = (u : Int) ∧ u < k ∧ (v : Int) ∈ pth z u := by
  unfold belN
  rw [List.mem_map]
  constructor
  · rintro ⟨u, hu, rfl⟩
    rw [List.mem_filter, List.mem_range, decide_eq_true_eq] at hu
    exact ⟨u, rfl, hu.1, hu.2⟩
  · rintro ⟨u, rfl, h1, h2⟩
    exact ⟨u, by rw [List.mem_filter, List.mem_range, decide_eq_true_eq]; exact ⟨h1, h2⟩, rfl⟩
theorem bel_len (z : List Int) (v k : Nat) : (belN z v k).length ≤ k := by
  unfold belN
  rw [List.length_map]
  have := List.length_filter_le (fun u => decide ((v : Int) ∈ pth z u)) (List.range k)
  rwa [List.length_range] at this
theorem bel_low {z : List Int} {v : Nat} : ∀ k, k ≤ v → Dn z v → belN z v k = []
  | 0, _, _ => rfl
  | k + 1, hk, hd => by
    rw [bel_succ, if_neg, bel_low k (by omega) hd]
    intro h
    have := pth_le (k + 1) k (by omega) (hd.less (by omega)) _ h
    omega
theorem bel_first {z : List Int} {v : Nat} (hd : Dn z v) : belN z v (v + 1) = [(v : Int)] := by
  rw [bel_succ, if_pos (pth_self z v), bel_low v (Nat.le_refl _) hd]; rfl
/-- The next one stands below v just if its parent does. -/
theorem bel_next {z : List Int} {v k : Nat} (hv : v < k) (hd : Dn z (k + 1)) : (v : Int) ∈ pth z k ↔ par z k ∈ belN z v k := by
  rw [bel_mem]
  by_cases h1 : par z k = -1
  · rw [pth_root h1, h1]
    constructor
    · intro h
      simp at h
      omega
    · rintro ⟨u, h, _⟩
      omega
  · rcases hd k (by omega) with h2 | ⟨h2, h3⟩
    · exact absurd h2 h1
    · rw [pth_step hd h1, List.mem_cons]
      constructor
      · rintro (h | h)
        · omega
        · exact ⟨(par z k).toNat, by omega, by omega, h⟩
      · rintro ⟨u, e, _, h⟩
        rw [e]
        exact .inr h
def belowS (z : List Int) (v : Int) : List Int := if foundB z v = true then belN z v.toNat z.length else []
theorem below_no {z : List Int} {v : Int} (h : foundB z v = false) : belowS z v = [] := by unfold belowS; rw [h]; rfl
theorem below_yes {z : List Int} {n : Nat} (h : foundB z (n : Int) = true) : belowS z (n : Int) = belN z n z.length := by unfold belowS; rw [if_pos h]; rfl
/-- What the reference collects: those whose Above holds v, among the first k. -/
def refN (z : List Int) (v : Int) (k : Nat) : List Int := ((List.range k).filter fun (u : Nat) => decide (v ∈ aboveS z (u : Int))).map Int.ofNat
theorem ref_succ (z : List Int) (v : Int) (k : Nat) : refN z v (k + 1) = if v ∈ aboveS z (k : Int) then refN z v k ++ [(k : Int)] else refN z v k := by
  unfold refN
  rw [List.range_succ, List.filter_append, List.map_append]
  by_cases h : v ∈ aboveS z (k : Int)
  · rw [if_pos h]; simp [h]
  · rw [if_neg h]; simp [h]
theorem ref_len (z : List Int) (v : Int) (k : Nat) : (refN z v k).length ≤ k := by
  unfold refN
  rw [List.length_map]
  have := List.length_filter_le (fun (u : Nat) => decide (v ∈ aboveS z (u : Int))) (List.range k)
  rwa [List.length_range] at this
theorem found_of {z : List Int} {v : Int} (h : foundB z v = true) {u : Nat} (hu : u < z.length) : foundB z (u : Int) = true :=
  found_iff.2 ⟨(found_iff.1 h).1, by omega, by omega⟩
theorem ref_below {z : List Int} {v : Int} (h : foundB z v = true) : refN z v z.length = belowS z v := by
  obtain ⟨n, rfl, h1, _⟩ := found_nat h
  rw [below_yes h]
  have key : ∀ k, k ≤ z.length → refN z (n : Int) k = belN z n k := by
    intro k
    induction k with
    | zero => intro _; rfl
    | succ k ih =>
      intro hk
      rw [ref_succ, bel_succ, ih (by omega), above_yes (found_of h (by omega))]
  exact key _ (Nat.le_refl _)
theorem ref_small {z : List Int} {v : Int} {k : Nat} (hk : k ≤ z.length) : (refN z v k).length ≤ 16 := by
  by_cases h : z.length ≤ 16
  · have := ref_len z v k; omega
  · have e : refN z v k = [] := by
      unfold refN
      rw [List.filter_eq_nil_iff.2, List.map_nil]
      intro u _
      have : foundB z (u : Int) = false := by
        cases hf : foundB z (u : Int)
        · rfl
        · obtain ⟨_, _, _, h16, _⟩ := found_nat hf
          omega
      rw [above_no this]; simp
    rw [e]; simp

/-! ### Two ways -/
theorem two_ways {z : List Int} {u v : Nat} (hu : u < z.length) : (v : Int) ∈ pth z u ↔ (u : Int) ∈ belN z v z.length := by
  rw [bel_mem]
  constructor
  · intro h
    exact ⟨u, rfl, hu, h⟩
  · rintro ⟨w, e, _, h⟩
    obtain rfl : u = w := by omega
    exact h
/-- A path has one root. -/
theorem one_root {z : List Int} {v1 v2 : Nat} (h1 : par z v1 = -1) (h2 : par z v2 = -1) : ∀ (n u : Nat), u < n → Dn z (u + 1) → (v1 : Int) ∈ pth z u → (v2 : Int) ∈ pth z u → v1 = v2
  | 0, u, h, _ => absurd h (Nat.not_lt_zero _)
  | n + 1, u, hu, hd => fun m1 m2 => by
    by_cases h : par z u = -1
    · rw [pth_root h] at m1 m2
      simp at m1 m2
      omega
    · rw [pth_step hd h] at m1 m2
      rcases hd u (by omega) with h3 | ⟨h3, h4⟩
      · exact absurd h3 h
      · rcases List.mem_cons.1 m1 with e1 | e1
        · obtain rfl : v1 = u := by omega
          exact absurd h1 h
        · rcases List.mem_cons.1 m2 with e2 | e2
          · obtain rfl : v2 = u := by omega
            exact absurd h2 h
          · exact one_root h1 h2 n (par z u).toNat (by omega) (hd.less (by omega)) e1 e2
theorem apart {z : List Int} {u v : Nat} (hd : Dn z z.length) (h1 : par z u = -1) (h2 : par z v = -1) (hne : u ≠ v) : ∀ x, x ∈ belN z v z.length → x ∉ belN z u z.length := by
  intro x hx hy
  obtain ⟨a, rfl, ha, m1⟩ := bel_mem.1 hx
  obtain ⟨b, e, _, m2⟩ := bel_mem.1 hy
  obtain rfl : a = b := by omega
  exact hne (one_root h1 h2 (a + 1) a (by omega) (hd.less (by omega)) m2 m1)
end Go.Proofs.Ytnhaoalndlgakaa.Tr

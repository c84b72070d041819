/-
  Layer 5: the number in a file's name.
-/
import Derived.Test.YtdonkmkjblofpaaGreatDoorWf
namespace Go.Proofs.YtdonkmkjblofpaaGreatDoor.Wl
open Go.RowKit Go.Sort Dx Sx Dk
set_option linter.unusedVariables false
set_option linter.unusedSimpArgs false
theorem dig_dgt {d : Nat} (h : d < 10) : Lib.digitVal (dgt d) = some d := by
  match d, h with
  | 0, _ => rfl
  | 1, _ => rfl
  | 2, _ => rfl
  | 3, _ => rfl
  | 4, _ => rfl
  | 5, _ => rfl
  | 6, _ => rfl
  | 7, _ => rfl
  | 8, _ => rfl
  | 9, _ => rfl
theorem dec_low2 : ∀ (k acc m : Nat), Lib.decFrom acc (low k m) = some (acc * 10 ^ k + m % 10 ^ k)
  | 0, acc, m => by simp [low, Lib.decFrom, Nat.mod_one]
  | k + 1, acc, m => by
    rw [low_cons]
    have h1 := dig_dgt (show m / 10 ^ k % 10 < 10 by omega)
    have h2 := dec_low2 k (acc * 10 + m / 10 ^ k % 10) m
    simp only [Lib.decFrom, h1]
    rw [h2, Nat.mod_pow_succ, Nat.pow_succ]
    congr 1
    rw [Nat.add_mul, Nat.mul_assoc, Nat.mul_comm 10 (10 ^ k), Nat.mul_comm (m / 10 ^ k % 10)]
    omega
theorem dgt_sign {d : Nat} (h : d < 10) : (dgt d == 45) = false ∧ (dgt d == 43) = false := by
  match d, h with
  | 0, _ => decide
  | 1, _ => decide
  | 2, _ => decide
  | 3, _ => decide
  | 4, _ => decide
  | 5, _ => decide
  | 6, _ => decide
  | 7, _ => decide
  | 8, _ => decide
  | 9, _ => decide
theorem atoi_low {n : Nat} (h : n ≤ 999999999) : Lib.atoi (low 9 n) = some (n : Int) := by
  have h1 := dec_low2 9 0 n
  rw [low_cons] at h1 ⊢
  obtain ⟨s1, s2⟩ := dgt_sign (show n / 10 ^ 8 % 10 < 10 by omega)
  simp only [Lib.atoi, s1, s2, Bool.false_eq_true, if_false]
  unfold Lib.decNat
  rw [if_neg (by simp), h1]
  have : n % 10 ^ 9 = n := Nat.mod_eq_of_lt (by omega)
  simp [this]
theorem pow_keep {w w' : World} (h : Lib.TabIs Tryz.prog w "internal/strconv.uint64pow10" .u64 Lib.pow10Tab) (hb : Below w.heap.size w w') : Lib.TabIs Tryz.prog w' "internal/strconv.uint64pow10" .u64 Lib.pow10Tab := by
  have hlt : 3 < w.heap.size := Fr.lt_of_cell (h.cell (g := 3) (by kernel_rfl) 0 (by decide))
  unfold Lib.TabIs at *
  exact var?_below hb (g := 3) (by kernel_rfl) hlt h
theorem Tabs.keep {w w' : World} (h : Tabs w) (hb : Below w.heap.size w w') : Tabs w' := by
  refine ⟨tab_keep h.crc hb, pow_keep h.pow hb, ?_⟩
  obtain ⟨ev, h1, h2⟩ := h.err
  exact ⟨ev, (hb.cell (Fr.lt_of_cell h1)).trans h1, h2⟩
/-! ### the number in a name -/
def hitN (NM : Int → List UInt8) (s : List UInt8) : Option Int := match Lib.atoi (s.drop 1) with
  | some v => if s = NM v then some v else none
  | none => none
def numsL (NM : Int → List UInt8) (L : List (List UInt8)) : List Int := L.filterMap (hitN NM)
/-- The names of the files with this letter and a number from m on. -/
def nameL (c : UInt8) (m : Int) (v : Int) : List UInt8 := if m ≤ v ∧ 0 ≤ v ∧ v ≤ 999999999 then lettN c v.toNat else []
theorem hit_iff {c : UInt8} {m : Int} {s : List UInt8} (h0 : s ≠ []) {v : Int} : hitN (nameL c m) s = some v ↔ (m ≤ v ∧ 0 ≤ v ∧ v ≤ 999999999) ∧ s = lettN c v.toNat := by
  unfold hitN
  constructor
  · intro h
    split at h
    · split at h
      · rename_i x e1 e2
        cases h
        unfold nameL at e2
        split at e2
        · exact ⟨by assumption, e2⟩
        · exact absurd e2 h0
      · cases h
    · cases h
  · rintro ⟨h1, rfl⟩
    have e : Lib.atoi ((lettN c v.toNat).drop 1) = some v := by
      show Lib.atoi (low 9 v.toNat) = _
      rw [atoi_low (by omega), Int.toNat_of_nonneg h1.2.1]
    rw [e]
    simp only
    rw [if_pos]
    unfold nameL; rw [if_pos h1]
theorem nums_names {c : UInt8} {m : Int} {ns : List Nat} (h : ∀ n ∈ ns, m ≤ (n : Int) ∧ n ≤ 999999999) : numsL (nameL c m) (ns.map (lettN c)) = ns.map fun n : Nat => (n : Int) := by
  unfold numsL
  induction ns with
  | nil => rfl
  | cons n r ih =>
    have h1 := h n (by simp)
    have e : hitN (nameL c m) (lettN c n) = some (n : Int) := (hit_iff (by simp [lettN])).2 ⟨⟨h1.1, by omega, by omega⟩, by first | rfl | simp⟩
    rw [List.map_cons, List.filterMap_cons_some e, ih fun x hx => h x (by simp [hx]), List.map_cons]
def AtoiIt (w : World) (s : List UInt8) (e : Ending) (w' : World) : Prop := Below w.heap.size w w' ∧ match Lib.atoi s with
  | some v => e = .returned (.tuple #[.int .i64 v, .nilIface])
  | none => ∃ v t p, e = .returned (.tuple #[v, .iface t p])
theorem atoi_any (l : List UInt8) (hl : l.length ≤ 18) (w : World) (ht : Tabs w) : Calls Tryz.prog 90 #[.string (bs l)] w (AtoiIt w l) := by
  unfold AtoiIt
  cases h : Lib.atoi l with
  | some v =>
    refine (Tryz.strconv_Atoi (bs l) v (by rw [bs_size]; omega) (by rw [bs_data]; exact h) w).mono ?_
    rintro e w' ⟨rfl, t, rfl⟩
    exact ⟨Joins.below_bytesWorld _ _ _ _ (Nat.le_refl _), rfl⟩
  | none =>
    obtain ⟨ev, h1, h2⟩ := ht.err
    have ha : Lib.atoiAll (bs l).data.toList = Lib.NumEnd.ofOption none := by rw [bs_data, Lib.atoiAll_short l hl, h]
    refine (Any.strconv_Atoi_syntax Tryz.laysC172 (bs l) (by rw [bs_size]; omega) ha ev w h1 h2).mono ?_
    rintro e w' ⟨N, rfl, _, _, hb⟩
    exact ⟨hb, _, _, _, rfl⟩
end Go.Proofs.YtdonkmkjblofpaaGreatDoor.Wl

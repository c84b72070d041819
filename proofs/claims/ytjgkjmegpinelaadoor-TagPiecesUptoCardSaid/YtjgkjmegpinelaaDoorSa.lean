/-
  The plain mathematics of layer 3 (two checksums): the register of 32 bits, its steps, and that they are linear. No program is imported.
-/
import Derived.Laws.BitsAllLaws
namespace Go.Proofs.YtjgkjmegpinelaaDoor.Sx
set_option linter.unusedVariables false

def pol : BitVec 32 := 0xEDB88320#32
/-- One shift of the register. -/
def st (r : BitVec 32) : BitVec 32 := if r.getLsbD 0 = true then (r >>> 1) ^^^ pol else r >>> 1
def stN : Nat → BitVec 32 → BitVec 32
  | 0, r => r
  | k + 1, r => st (stN k r)
theorem stN_add (a b : Nat) (r : BitVec 32) : stN (a + b) r = stN a (stN b r) := by
  induction a with
  | zero => rw [Nat.zero_add]; rfl
  | succ a ih => rw [Nat.succ_add]; show st (stN (a + b) r) = st (stN a (stN b r)); rw [ih]
theorem st_xor (a b : BitVec 32) : st (a ^^^ b) = st a ^^^ st b := by
  unfold st
  rw [BitVec.getLsbD_xor, BitVec.ushiftRight_xor_distrib]
  cases a.getLsbD 0 <;> cases b.getLsbD 0 <;> simp
  · rw [BitVec.xor_assoc]
  · rw [BitVec.xor_assoc, BitVec.xor_assoc, BitVec.xor_comm pol]
  · have : ∀ x y p : BitVec 32, x ^^^ y = x ^^^ p ^^^ (y ^^^ p) := by
      intro x y p
      rw [BitVec.xor_comm y p, BitVec.xor_assoc, ← BitVec.xor_assoc p p y, BitVec.xor_self, BitVec.zero_xor]
    exact this _ _ _
theorem st_zero : st 0 = 0 := by decide
theorem stN_xor (k : Nat) (a b : BitVec 32) : stN k (a ^^^ b) = stN k a ^^^ stN k b := by
  induction k with
  | zero => rfl
  | succ k ih => show st (stN k (a ^^^ b)) = st (stN k a) ^^^ st (stN k b); rw [ih, st_xor]
theorem stN_zero (k : Nat) : stN k 0 = 0 := by
  induction k with
  | zero => rfl
  | succ k ih => show st (stN k 0) = 0; rw [ih, st_zero]
theorem st_inj0 {r : BitVec 32} (h : st r = 0) : r = 0 := by
  unfold st at h
  split at h
  · rename_i h0
    have h1 : (r >>> 1) = pol := by
      have := congrArg (· ^^^ pol) h
      simpa [BitVec.xor_assoc] using this
    have h2 : (r >>> 1).getLsbD 31 = pol.getLsbD 31 := by rw [h1]
    rw [BitVec.getLsbD_ushiftRight, BitVec.getLsbD_of_ge _ _ (by decide)] at h2
    exact absurd h2 (by decide)
  · rename_i h0
    apply BitVec.eq_of_getLsbD_eq
    intro i hi
    rw [show (0 : BitVec 32).getLsbD i = false from BitVec.getLsbD_zero]
    cases i with
    | zero => simpa using h0
    | succ i =>
      have h2 : (r >>> 1).getLsbD i = (0 : BitVec 32).getLsbD i := by rw [h]
      rw [BitVec.getLsbD_ushiftRight, show (0 : BitVec 32).getLsbD i = false from BitVec.getLsbD_zero, Nat.add_comm] at h2
      exact h2
theorem stN_inj0 {k : Nat} {r : BitVec 32} (h : stN k r = 0) : r = 0 := by
  induction k with
  | zero => exact h
  | succ k ih => exact ih (st_inj0 h)
theorem xor_zero_iff {a b : BitVec 32} : a ^^^ b = 0 ↔ a = b := by
  constructor
  · intro h
    have := congrArg (· ^^^ b) h
    simpa [BitVec.xor_assoc] using this
  · rintro rfl; exact BitVec.xor_self
theorem stN_inj {k : Nat} {a b : BitVec 32} (h : stN k a = stN k b) : a = b :=
  xor_zero_iff.1 (stN_inj0 (k := k) (by rw [stN_xor]; exact xor_zero_iff.2 h))

/-- Shifts that meet no 1 move the register down. -/
theorem stN_low {k : Nat} {r : BitVec 32} (h : ∀ i, i < k → r.getLsbD i = false) : stN k r = r >>> k := by
  induction k with
  | zero => exact (BitVec.ushiftRight_zero (x := r)).symm
  | succ k ih =>
    show st (stN k r) = _
    rw [ih fun i hi => h i (by omega)]
    unfold st
    rw [BitVec.getLsbD_ushiftRight, if_neg (by rw [Nat.add_zero, h k (by omega)]; decide), ← BitVec.shiftRight_add]

/-- What the table of nibbles holds. -/
def nibTab : List Int := [0, 498536548, 997073096, 651767980, 1994146192, 1802195444, 1303535960, 1342533948, 3988292384, 4027552580, 3604390888, 3412177804, 2607071920, 2262029012, 2685067896, 3183342108]
theorem nibTab_at : ∀ i : Fin 16, nibTab.getD i.val 0 = ((stN 4 (BitVec.ofNat 32 i.val)).toNat : Int) := by decide
theorem st4_eq (r : BitVec 32) : stN 4 r = (r >>> 4) ^^^ stN 4 (r &&& 15#32) := by
  have e : r = (r &&& ~~~15#32) ^^^ (r &&& 15#32) := by
    apply BitVec.eq_of_getLsbD_eq
    intro i hi
    simp only [BitVec.getLsbD_xor, BitVec.getLsbD_and, BitVec.getLsbD_not]
    cases r.getLsbD i <;> cases (15#32).getLsbD i <;> simp [hi]
  have h : stN 4 (r &&& ~~~15#32) = r >>> 4 := by
    rw [stN_low]
    · apply BitVec.eq_of_getLsbD_eq
      intro i hi
      simp only [BitVec.getLsbD_ushiftRight, BitVec.getLsbD_and, BitVec.getLsbD_not]
      by_cases h4 : 4 + i < 32
      · have : (15#32).getLsbD (4 + i) = false := by
          have : ∀ j : Fin 28, (15#32).getLsbD (4 + j.val) = false := by decide
          exact this ⟨i, by omega⟩
        rw [this, decide_eq_true h4]; simp only [Bool.not_false, Bool.and_self, Bool.and_true]
      · rw [BitVec.getLsbD_of_ge _ _ (by omega)]; rfl
    · intro i hi
      simp only [BitVec.getLsbD_and, BitVec.getLsbD_not]
      have : ∀ j : Fin 4, (15#32).getLsbD j.val = true := by decide
      rw [this ⟨i, hi⟩]; simp
  conv => lhs; rw [e]
  rw [stN_xor, h]

/-- Bytes, as numbers. -/
def Bytes (zs : List Int) : Prop := ∀ j, j < zs.length → 0 ≤ zs.getD j 0 ∧ zs.getD j 0 ≤ 255
/-- The register behind one byte more. -/
def byt (r : BitVec 32) (z : Int) : BitVec 32 := stN 8 (r ^^^ BitVec.ofInt 32 z)
def crcR (r : BitVec 32) (zs : List Int) : BitVec 32 := zs.foldl byt r
def crcS (zs : List Int) : BitVec 32 := ~~~ crcR (BitVec.allOnes 32) zs
def smallS (zs : List Int) : Int := zs.foldl (fun s z => (s + z) % 256) 0
theorem byt_two (r : BitVec 32) (z : Int) : byt r z = stN 4 (stN 4 (r ^^^ BitVec.ofInt 32 z)) := stN_add 4 4 _
theorem take_next {zs : List Int} {k : Nat} (h : k < zs.length) : zs.take (k + 1) = zs.take k ++ [zs.getD k 0] := by
  rw [List.take_succ_eq_append_getElem h]; simp [List.getD, h]
theorem crc_next (r : BitVec 32) {zs : List Int} {k : Nat} (h : k < zs.length) : crcR r (zs.take (k + 1)) = byt (crcR r (zs.take k)) (zs.getD k 0) := by
  unfold crcR; rw [take_next h, List.foldl_append]; rfl
theorem small_next {zs : List Int} {k : Nat} (h : k < zs.length) : smallS (zs.take (k + 1)) = (smallS (zs.take k) + zs.getD k 0) % 256 := by
  unfold smallS; rw [take_next h, List.foldl_append]; rfl
theorem fold_bd (zs : List Int) : ∀ s : Int, 0 ≤ s → s ≤ 255 → 0 ≤ zs.foldl (fun s z => (s + z) % 256) s ∧ zs.foldl (fun s z => (s + z) % 256) s ≤ 255 := by
  induction zs with
  | nil => intro s h1 h2; exact ⟨h1, h2⟩
  | cons z zs ih => intro s h1 h2; exact ih ((s + z) % 256) (by omega) (by omega)
theorem small_bd (zs : List Int) : 0 ≤ smallS zs ∧ smallS zs ≤ 255 := fold_bd zs 0 (by decide) (by decide)
theorem fold_sum (zs : List Int) : ∀ s : Int, 0 ≤ s → s ≤ 255 → zs.foldl (fun s z => (s + z) % 256) s = (s + zs.sum) % 256 := by
  induction zs with
  | nil => intro s h1 h2; simp; omega
  | cons z zs ih => intro s h1 h2; rw [List.foldl_cons, ih _ (by omega) (by omega), List.sum_cons]; omega
theorem small_sum (zs : List Int) : smallS zs = zs.sum % 256 := by
  have := fold_sum zs 0 (by decide) (by decide)
  rw [Int.zero_add] at this
  exact this

/-- The steps' numbers, as the walk writes them. -/
theorem u32_lt (r : BitVec 32) : r.toNat < 4294967296 := r.isLt
theorem xorI (a b : BitVec 32) : bits .xor .u32 (a.toNat : Int) (b.toNat : Int) = ((a ^^^ b).toNat : Int) := by
  rw [u32_xor_nat _ _ (u32_lt a) (u32_lt b), BitVec.toNat_xor]
theorem andI (a b : BitVec 32) : bits .and .u32 (a.toNat : Int) (b.toNat : Int) = ((a &&& b).toNat : Int) := by
  rw [u32_and_nat _ _ (u32_lt a) (u32_lt b), BitVec.toNat_and]
theorem ofInt_byte {z : Int} (h0 : 0 ≤ z) (h1 : z ≤ 255) : (BitVec.ofInt 32 z).toNat = z.toNat ∧ ((BitVec.ofInt 32 z).toNat : Int) = z := by
  have : (BitVec.ofInt 32 z).toNat = z.toNat := by
    rw [BitVec.toNat_ofInt]
    have e : z % ((2 ^ 32 : Nat) : Int) = z := Int.emod_eq_of_lt h0 (by omega)
    rw [e]
  exact ⟨this, by rw [this]; omega⟩
theorem shr_nat (r : BitVec 32) (k : Nat) : (r >>> k).toNat = r.toNat / 2 ^ k := by
  rw [BitVec.toNat_ushiftRight, Nat.shiftRight_eq_div_pow]
theorem shr4 (r : BitVec 32) : (r.toNat : Int) / (16 : Int) = ((r >>> 4).toNat : Int) := by
  rw [shr_nat]; exact (Int.natCast_ediv _ _).symm
theorem shr1 (r : BitVec 32) : (r.toNat : Int) / (2 : Int) = ((r >>> 1).toNat : Int) := by
  rw [shr_nat]; exact (Int.natCast_ediv _ _).symm
theorem and15 (r : BitVec 32) : (r &&& 15#32).toNat < 16 := by
  rw [BitVec.toNat_and]
  exact Nat.lt_of_le_of_lt Nat.and_le_right (by decide)
theorem nib_at (r : BitVec 32) : nibTab.getD (r &&& 15#32).toNat 0 = ((stN 4 (r &&& 15#32)).toNat : Int) := by
  have h := nibTab_at ⟨(r &&& 15#32).toNat, and15 r⟩
  rw [h]
  show ((stN 4 (BitVec.ofNat 32 (r &&& 15#32).toNat)).toNat : Int) = _
  rw [BitVec.ofNat_toNat, BitVec.setWidth_eq]
theorem nib_xor (r : BitVec 32) : bits .xor .u32 ((r >>> 4).toNat : Int) ((stN 4 (r &&& 15#32)).toNat : Int) = ((stN 4 r).toNat : Int) := by
  rw [xorI, ← st4_eq r]
theorem notI (r : BitVec 32) : bits .xor .u32 IntKind.u32.max (r.toNat : Int) = ((~~~r).toNat : Int) := by
  have e : (IntKind.u32.max : Int) = ((BitVec.allOnes 32).toNat : Int) := by decide
  rw [e, xorI, BitVec.allOnes_xor]
theorem bit_at (r : BitVec 32) : (r &&& 1#32).toNat = r.toNat % 2 := by
  rw [BitVec.toNat_and]
  show r.toNat &&& (2 ^ 1 - 1) = _
  rw [Nat.and_two_pow_sub_one_eq_mod]
theorem lsb_at (r : BitVec 32) : r.getLsbD 0 = decide (r.toNat % 2 = 1) := by
  rw [BitVec.getLsbD, Nat.testBit_zero]
theorem st_one {r : BitVec 32} (h : r.toNat % 2 = 1) : st r = (r >>> 1) ^^^ pol := by
  unfold st; rw [if_pos (by rw [lsb_at, h]; rfl)]
theorem st_nil {r : BitVec 32} (h : r.toNat % 2 = 0) : st r = r >>> 1 := by
  unfold st; rw [if_neg (by rw [lsb_at, h]; decide)]
theorem pol_nat : (pol.toNat : Int) = 3988292384 := by decide
end Go.Proofs.YtjgkjmegpinelaaDoor.Sx

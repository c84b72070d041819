/-
  The plain mathematics of SumTells: bytes of up to four neighbouring places that are turned turn the register. No program is imported.
-/
import Derived.Test.YtccolhekkjgabaaDoorSa
namespace Go.Proofs.YtccolhekkjgabaaDoor.Sx
set_option linter.unusedVariables false

def dif (d : BitVec 32) (es : List (BitVec 32)) : BitVec 32 := es.foldl (fun d e => stN 8 (d ^^^ e)) d
theorem crc_dif (xs : List Int) : ∀ (ys : List Int) (r s : BitVec 32), xs.length = ys.length →
    crcR r xs ^^^ crcR s ys = dif (r ^^^ s) (List.zipWith (fun x y => BitVec.ofInt 32 x ^^^ BitVec.ofInt 32 y) xs ys) := by
  induction xs with
  | nil => intro ys r s h; cases ys with
    | nil => rfl
    | cons y ys => cases h
  | cons x xs ih => intro ys r s h; cases ys with
    | nil => cases h
    | cons y ys =>
      have h' : xs.length = ys.length := by simpa using h
      show crcR (byt r x) xs ^^^ crcR (byt s y) ys = dif (stN 8 ((r ^^^ s) ^^^ (BitVec.ofInt 32 x ^^^ BitVec.ofInt 32 y))) _
      rw [ih ys _ _ h']
      congr 1
      unfold byt
      rw [← stN_xor]
      congr 1
      rw [BitVec.xor_assoc, BitVec.xor_assoc]
      congr 1
      rw [← BitVec.xor_assoc, ← BitVec.xor_assoc, BitVec.xor_comm s]
def val : List (BitVec 32) → BitVec 32
  | [] => 0
  | e :: es => e ^^^ (val es <<< 8)
theorem shl_nat {x : BitVec 32} (h : x.toNat < 16777216) : (x <<< 8).toNat = x.toNat * 256 := by
  rw [BitVec.toNat_shiftLeft, Nat.shiftLeft_eq, Nat.mod_eq_of_lt (by omega)]
theorem stN_shl {x : BitVec 32} (h : x.toNat < 16777216) : stN 8 (x <<< 8) = x := by
  rw [stN_low]
  · apply BitVec.eq_of_toNat_eq
    rw [shr_nat, shl_nat h]
    show x.toNat * 256 / 256 = _
    omega
  · intro i hi
    rw [BitVec.getLsbD_shiftLeft]
    simp [hi]
theorem val_lt : ∀ es : List (BitVec 32), es.length ≤ 4 → (∀ e ∈ es, e.toNat < 256) → (val es).toNat < 256 ^ es.length
  | [], _, _ => by decide
  | e :: es, h, hb => by
    have h' : es.length ≤ 3 := by simpa using h
    have ih := val_lt es (by omega) fun x hx => hb x (List.mem_cons_of_mem _ hx)
    have he := hb e List.mem_cons_self
    have hp : 256 ^ es.length ≤ 256 ^ 3 := Nat.pow_le_pow_right (by decide) h'
    show (e ^^^ (val es <<< 8)).toNat < 256 ^ (es.length + 1)
    rw [BitVec.toNat_xor, shl_nat (by omega), Nat.pow_succ]
    have e1 : 256 ^ es.length * 256 = 2 ^ (8 * es.length + 8) := by rw [Nat.pow_add, Nat.pow_mul]
    rw [e1]
    apply Nat.xor_lt_two_pow
    · rw [← e1]; have : 1 ≤ 256 ^ es.length := Nat.pow_pos (by decide); omega
    · rw [← e1]; omega
theorem dif_val : ∀ (es : List (BitVec 32)) (d : BitVec 32), es.length ≤ 4 → (∀ e ∈ es, e.toNat < 256) → dif d es = 0 → d = val es
  | [], d, _, _, h => h
  | e :: es, d, hl, hb, h => by
    have h' : es.length ≤ 3 := by simpa using hl
    have hb' : ∀ e ∈ es, e.toNat < 256 := fun x hx => hb x (List.mem_cons_of_mem _ hx)
    have ih := dif_val es (stN 8 (d ^^^ e)) (by omega) hb' h
    have hv := val_lt es (by omega) hb'
    have hp : 256 ^ es.length ≤ 256 ^ 3 := Nat.pow_le_pow_right (by decide) h'
    rw [← stN_shl (x := val es) (by omega)] at ih
    have h2 := stN_inj ih
    show d = e ^^^ (val es <<< 8)
    rw [← h2, BitVec.xor_comm d e, ← BitVec.xor_assoc, BitVec.xor_self, BitVec.zero_xor]
theorem val_zero : ∀ es : List (BitVec 32), es.length ≤ 4 → (∀ e ∈ es, e.toNat < 256) → val es = 0 → ∀ e ∈ es, e = 0
  | [], _, _, _ => fun e h => by cases h
  | e :: es, hl, hb, h => by
    have h' : es.length ≤ 3 := by simpa using hl
    have hb' : ∀ e ∈ es, e.toNat < 256 := fun x hx => hb x (List.mem_cons_of_mem _ hx)
    have hv := val_lt es (by omega) hb'
    have hp : 256 ^ es.length ≤ 256 ^ 3 := Nat.pow_le_pow_right (by decide) h'
    have he := hb e List.mem_cons_self
    have h1 : e = val es <<< 8 := xor_zero_iff.1 h
    have h2 : e.toNat = (val es).toNat * 256 := by rw [h1]; exact shl_nat (by omega)
    have h3 : val es = 0 := BitVec.eq_of_toNat_eq (by show (val es).toNat = 0; omega)
    have h4 : e = 0 := BitVec.eq_of_toNat_eq (by show e.toNat = 0; omega)
    intro x hx
    rcases List.mem_cons.1 hx with rfl | hx
    · exact h4
    · exact val_zero es (by omega) hb' h3 x hx
theorem byte_xor {x y : Int} (h0 : 0 ≤ x) (h1 : x ≤ 255) (h2 : 0 ≤ y) (h3 : y ≤ 255) : (BitVec.ofInt 32 x ^^^ BitVec.ofInt 32 y).toNat < 256 := by
  rw [BitVec.toNat_xor]
  apply Nat.xor_lt_two_pow (n := 8)
  · rw [(ofInt_byte h0 h1).1]; omega
  · rw [(ofInt_byte h2 h3).1]; omega
theorem byte_inj {x y : Int} (h0 : 0 ≤ x) (h1 : x ≤ 255) (h2 : 0 ≤ y) (h3 : y ≤ 255) (h : BitVec.ofInt 32 x ^^^ BitVec.ofInt 32 y = 0) : x = y := by
  have := congrArg (fun r : BitVec 32 => (r.toNat : Int)) (xor_zero_iff.1 h)
  rw [(ofInt_byte h0 h1).2] at this
  exact this.trans (ofInt_byte h2 h3).2
theorem Bytes.mem {zs : List Int} (h : Bytes zs) {z : Int} (hz : z ∈ zs) : 0 ≤ z ∧ z ≤ 255 := by
  obtain ⟨j, hj, rfl⟩ := List.getElem_of_mem hz
  have := h j hj
  simpa [List.getD, hj] using this
/-- Up to four bytes: the register tells them. -/
theorem crc_win {xs ys : List Int} {r : BitVec 32} (hl : xs.length = ys.length) (h4 : xs.length ≤ 4) (hx : Bytes xs) (hy : Bytes ys) (h : crcR r xs = crcR r ys) : xs = ys := by
  have h1 := crc_dif xs ys r r hl
  rw [xor_zero_iff.2 h, BitVec.xor_self] at h1
  have hb : ∀ e ∈ List.zipWith (fun x y => BitVec.ofInt 32 x ^^^ BitVec.ofInt 32 y) xs ys, e.toNat < 256 := by
    intro e he
    obtain ⟨j, hj, rfl⟩ := List.getElem_of_mem he
    simp only [List.length_zipWith] at hj
    rw [List.getElem_zipWith]
    have a := hx.mem (List.getElem_mem (show j < xs.length by omega))
    have b := hy.mem (List.getElem_mem (show j < ys.length by omega))
    exact byte_xor a.1 a.2 b.1 b.2
  have hle : (List.zipWith (fun x y => BitVec.ofInt 32 x ^^^ BitVec.ofInt 32 y) xs ys).length ≤ 4 := by simp; omega
  have hz := val_zero _ hle hb (dif_val _ _ hle hb h1.symm).symm
  apply List.ext_getElem hl
  intro j h5 h6
  have a := hx.mem (List.getElem_mem h5)
  have b := hy.mem (List.getElem_mem h6)
  refine byte_inj a.1 a.2 b.1 b.2 (hz _ ?_)
  have h7 : j < (List.zipWith (fun x y => BitVec.ofInt 32 x ^^^ BitVec.ofInt 32 y) xs ys).length := by simp; omega
  rw [← List.getElem_zipWith (h := h7)]
  exact List.getElem_mem h7
theorem crc_inj (xs : List Int) : ∀ {r s : BitVec 32}, crcR r xs = crcR s xs → r = s := by
  induction xs with
  | nil => exact fun h => h
  | cons x xs ih =>
    intro r s h
    have := stN_inj (ih h)
    have h2 := congrArg (· ^^^ BitVec.ofInt 32 x) this
    simpa [BitVec.xor_assoc] using h2
theorem crc_app (r : BitVec 32) (xs ys : List Int) : crcR r (xs ++ ys) = crcR (crcR r xs) ys := by
  unfold crcR; rw [List.foldl_append]
theorem bytes_part {zs l : List Int} (h : Bytes zs) (hs : ∀ z ∈ l, z ∈ zs) : Bytes l := by
  intro j hj
  have := h.mem (hs _ (List.getElem_mem hj))
  simpa [List.getD, hj] using this
/-- Two texts of bytes that are alike but for four neighbouring places. -/
theorem crc_tells {xs ys : List Int} {r : BitVec 32} {p : Nat} (hl : xs.length = ys.length) (hx : Bytes xs) (hy : Bytes ys) (hs : ∀ j, j < p ∨ p + 4 ≤ j → xs.getD j 0 = ys.getD j 0) (h : crcR r xs = crcR r ys) : xs = ys := by
  have cut : ∀ l : List Int, l = l.take p ++ ((l.drop p).take 4 ++ l.drop (p + 4)) := by
    intro l
    conv => lhs; rw [← List.take_append_drop p l, ← List.take_append_drop 4 (l.drop p), List.drop_drop]
  have e1 : xs.take p = ys.take p := by
    apply List.ext_getElem (by simp [hl])
    intro j h1 h2
    simp only [List.length_take] at h1 h2
    have := hs j (Or.inl (by omega))
    simp [List.getD, show j < xs.length by omega, show j < ys.length by omega] at this
    simpa using this
  have e2 : xs.drop (p + 4) = ys.drop (p + 4) := by
    apply List.ext_getElem (by simp [hl])
    intro j h1 h2
    simp only [List.length_drop] at h1 h2
    have := hs (p + 4 + j) (Or.inr (by omega))
    simp [List.getD, show p + 4 + j < xs.length by omega, show p + 4 + j < ys.length by omega] at this
    simpa using this
  have e3 : (xs.drop p).take 4 = (ys.drop p).take 4 := by
    rw [cut xs, cut ys, e1, e2, crc_app, crc_app, crc_app, crc_app] at h
    have h2 := crc_inj _ h
    exact crc_win (by simp [hl]) (by simp; omega) (bytes_part hx fun z hz => List.mem_of_mem_drop (List.mem_of_mem_take hz)) (bytes_part hy fun z hz => List.mem_of_mem_drop (List.mem_of_mem_take hz)) h2
  rw [cut xs, cut ys, e1, e2, e3]

/-- What the law has made of the bytes behind k masks; U of them turned a byte. -/
def Turned (bs : List Int) (p k : Nat) (T : List Int) (U : Nat) : Prop :=
  T.length = bs.length ∧ Bytes T ∧ (∀ j, j < p ∨ p + k ≤ j → T.getD j 0 = bs.getD j 0) ∧ (U = 0 → T = bs) ∧ (0 < U → T ≠ bs) ∧
    (U = 1 → ∃ q x, q < bs.length ∧ T = bs.set q x ∧ x ≠ bs.getD q 0 ∧ 0 ≤ x ∧ x ≤ 255)
theorem turned_start {bs : List Int} (hb : Bytes bs) (p : Nat) : Turned bs p 0 bs 0 :=
  ⟨rfl, hb, fun _ _ => rfl, fun _ => rfl, fun h => absurd h (by decide), fun h => absurd h (by decide)⟩
theorem turned_skip {bs T : List Int} {p k U : Nat} (h : Turned bs p k T U) : Turned bs p (k + 1) T U := by
  obtain ⟨h1, h2, h3, h4⟩ := h
  exact ⟨h1, h2, fun j hj => h3 j (by omega), h4⟩
theorem getD_set (l : List Int) (i j : Nat) (x : Int) (h : i < l.length) : (l.set i x).getD j 0 = if i = j then x else l.getD j 0 := by
  unfold List.getD
  rw [List.getElem?_set]
  by_cases hij : i = j
  · subst hij; simp [h]
  · simp [hij]
theorem bytes_set {l : List Int} {i : Nat} {x : Int} (h : Bytes l) (h0 : 0 ≤ x) (h1 : x ≤ 255) : Bytes (l.set i x) := by
  intro j hj
  rw [List.length_set] at hj
  by_cases hi : i < l.length
  · rw [getD_set l i j x hi]
    by_cases hij : i = j
    · rw [if_pos hij]; exact ⟨h0, h1⟩
    · rw [if_neg hij]; exact h j hj
  · rw [List.set_eq_of_length_le (by omega)]; exact h j hj
theorem turned_next {bs T : List Int} {p k U : Nat} (h : Turned bs p k T U) (hl : p + k < bs.length) {y : Int} (h0 : 0 ≤ y) (h1 : y ≤ 255) (hne : y ≠ T.getD (p + k) 0) : Turned bs p (k + 1) (T.set (p + k) y) (U + 1) := by
  obtain ⟨a1, a2, a3, a4, a5, a6⟩ := h
  have hT : T.getD (p + k) 0 = bs.getD (p + k) 0 := a3 _ (Or.inr (Nat.le_refl _))
  refine ⟨by simp [a1], bytes_set a2 h0 h1, fun j hj => ?_, fun h => absurd h (Nat.succ_ne_zero _), fun _ he => ?_, fun hU => ?_⟩
  · rw [getD_set _ _ _ _ (by omega), if_neg (by omega)]; exact a3 j (by omega)
  · have : (T.set (p + k) y).getD (p + k) 0 = bs.getD (p + k) 0 := congrArg (fun l : List Int => l.getD (p + k) 0) he
    rw [getD_set _ _ _ _ (by omega), if_pos rfl] at this
    exact hne (this.trans hT.symm)
  · have hU0 : U = 0 := by omega
    rw [a4 hU0]
    exact ⟨p + k, y, hl, rfl, by rw [← hT]; exact hne, h0, h1⟩
theorem sum_set : ∀ (l : List Int) (q : Nat) (x : Int), q < l.length → (l.set q x).sum = l.sum - l.getD q 0 + x
  | [], q, x, h => absurd h (Nat.not_lt_zero _)
  | z :: l, 0, x, h => by simp [List.getD]; omega
  | z :: l, q + 1, x, h => by
    have ih := sum_set l q x (by simpa using h)
    show ((z :: l.set q x)).sum = _
    rw [List.sum_cons, ih, List.sum_cons]
    have : (z :: l).getD (q + 1) 0 = l.getD q 0 := by simp [List.getD]
    rw [this]; omega
theorem small_tells {bs : List Int} {q : Nat} {x : Int} (hb : Bytes bs) (hq : q < bs.length) (hne : x ≠ bs.getD q 0) (h0 : 0 ≤ x) (h1 : x ≤ 255) : smallS bs ≠ smallS (bs.set q x) := by
  rw [small_sum, small_sum, sum_set bs q x hq]
  have := hb q hq
  omega
/-- The law, in numbers. -/
theorem turned_ends {bs T : List Int} {p U : Nat} (hb : Bytes bs) (h : Turned bs p 4 T U) : (U = 0 → crcS bs = crcS T) ∧ (0 < U → crcS bs ≠ crcS T) ∧ (U = 1 → smallS bs ≠ smallS T) := by
  obtain ⟨a1, a2, a3, a4, a5, a6⟩ := h
  refine ⟨fun h => by rw [a4 h], fun h he => ?_, fun h => ?_⟩
  · unfold crcS at he
    have he2 : crcR (BitVec.allOnes 32) bs = crcR (BitVec.allOnes 32) T := by
      have := congrArg (~~~ ·) he
      simpa using this
    exact a5 h (crc_tells a1.symm hb a2 (fun j hj => (a3 j hj).symm) he2).symm
  · obtain ⟨q, x, h1, rfl, h2, h3, h4⟩ := a6 h
    exact small_tells hb h1 h2 h3 h4
theorem xor_byte {X M : Nat} (hX : X ≤ 255) (hM : M ≤ 255) : X ^^^ M ≤ 255 := by
  have : X ^^^ M < 2 ^ 8 := Nat.xor_lt_two_pow (by omega) (by omega)
  omega
theorem xor_ne {X M : Nat} (hM : M ≠ 0) : X ^^^ M ≠ X := by
  intro h
  apply hM
  have := congrArg (X ^^^ ·) h
  simpa [← Nat.xor_assoc] using this
end Go.Proofs.YtccolhekkjgabaaDoor.Sx

/-
  The mathematics of layer 7: fields, frames, what bytes are read as; all over lists of bytes. No program is imported.
-/
import Derived.Test.YtjgkjmegpinelaaDoorDa
import Derived.Test.YtjgkjmegpinelaaDoorDd
import Derived.Test.YtjgkjmegpinelaaDoorSa
import Derived.Lib.AtoiTie
namespace Go.Proofs.YtjgkjmegpinelaaDoor.Tg
open Dx Sx
set_option linter.unusedVariables false
set_option linter.unusedSimpArgs false

abbrev Fld := Int × List UInt8
def toI (l : List UInt8) : List Int := l.map fun c => (c.toNat : Int)
theorem toI_length (l : List UInt8) : (toI l).length = l.length := by simp [toI]
def hdr : List UInt8 := [56, 61, 70, 73, 88, 46, 52, 46, 52, 1]
def front : List UInt8 := [56, 61, 70, 73, 88, 46, 52, 46, 52, 1, 57, 61]
def itoaT (x : Int) : List UInt8 := if x < 0 then 45 :: dec x.natAbs else dec x.natAbs
def encF (f : Fld) : List UInt8 := itoaT f.1 ++ 61 :: (f.2 ++ [1])
def bodyL (F : List Fld) : List UInt8 := F.flatMap encF
def fitB (f : Fld) : Bool := decide (1 ≤ f.1 ∧ f.1 ≤ 9999 ∧ f.1 ≠ 8 ∧ f.1 ≠ 9 ∧ f.1 ≠ 10) && (!f.2.isEmpty && !f.2.contains 1)
def formB (F : List Fld) : Bool := (F.head?.map Prod.fst == some 35) && F.all fitB
def validE (F : List Fld) : Int := if formB F = false then 11 else if 4096 < (bodyL F).length then 3 else 0
def smallN (l : List UInt8) : Nat := (l.map UInt8.toNat).sum % 256
def sumT (l : List UInt8) : List UInt8 := [49, 48, 61] ++ (low 3 (smallN l) ++ [1])
def pre (body : List UInt8) : List UInt8 := front ++ (dec body.length ++ 1 :: body)
def frm (body : List UInt8) : List UInt8 := pre body ++ sumT (pre body)

/-- The number of bytes of the body, read digit by digit: i digits have been read, n is their number. -/
def numG (i n : Nat) : List UInt8 → Nat × Nat × Int
  | [] => (0, 0, 10)
  | c :: r => if c = 1 ∧ 0 < i then (13 + i, 13 + i + n, 0)
      else if isD c = false ∨ (c = 48 ∧ i = 0) then (0, 0, 11)
      else if 4096 < n * 10 + dv c then (0, 0, 11)
      else numG (i + 1) (n * 10 + dv c) r
def findS (b : List UInt8) : Nat × Nat × Int :=
  if b.isPrefixOf front then (0, 0, 10) else if front.isPrefixOf b = false then (0, 0, 11) else numG 0 0 (b.drop 12)
def sumForm (l : List UInt8) : Bool := l.take 3 == [49, 48, 61] && ((l.drop 3).take 3).all isD && l.drop 6 == [1]

/-- What stands between the bytes 01. -/
def splitS : List UInt8 → List (List UInt8)
  | [] => [[]]
  | c :: r => if c = 1 then [] :: splitS r else match splitS r with
    | [] => [[c]]
    | p :: ps => (c :: p) :: ps
def cutE : List UInt8 → List UInt8 × List UInt8
  | [] => ([], [])
  | c :: l => if c = 61 then ([], l) else (c :: (cutE l).1, (cutE l).2)
def atoiV (l : List UInt8) : Int := match Lib.atoiAll l with
  | .ok v => v
  | .range => Lib.atoiSat l
  | _ => 0
def fieldOf (t : List UInt8) : Fld := (atoiV (cutE t).1, (cutE t).2)
def trim1 (l : List UInt8) : List UInt8 := if [1].isSuffixOf l then l.take (l.length - 1) else l
def parseG (body : List UInt8) : List Fld := (splitS (trim1 body)).map fieldOf
def fieldsS (body : List UInt8) : List Fld × Int := if validE (parseG body) = 0 ∧ bodyL (parseG body) = body then (parseG body, 0) else ([], 11)

def bodyE (b : List UInt8) (s t : Nat) : List Fld × Nat × Int :=
  if b.length < t + 7 then ([], 0, 10)
  else if sumForm ((b.drop t).take 7) = false then ([], 0, 11)
  else if (b.drop t).take 7 ≠ sumT (b.take t) then ([], 0, 12)
  else ((fieldsS ((b.drop s).take (t - s))).1, if (fieldsS ((b.drop s).take (t - s))).2 = 0 then t + 7 else 0, (fieldsS ((b.drop s).take (t - s))).2)
def decE (b : List UInt8) : List Fld × Nat × Int :=
  if (findS b).2.2 ≠ 0 then ([], 0, (findS b).2.2) else bodyE b (findS b).1 (findS b).2.1

/-- The first place at which what is left is as asked. -/
def findI (p : List UInt8 → Bool) : List UInt8 → Option Nat
  | [] => none
  | c :: r => if p (c :: r) then some 0 else (findI p r).map (· + 1)
def skipS (b : List UInt8) : Nat := match findI (hdr.isPrefixOf ·) (b.drop 1) with
  | some i => i + 1
  | none => match findI (·.isPrefixOf hdr) (b.drop 1) with
    | some i => i + 1
    | none => b.length
def decS (b : List UInt8) : List Fld × Nat × Int :=
  ((decE b).1, if (decE b).2.2 = 11 ∨ (decE b).2.2 = 12 then skipS b else (decE b).2.1, (decE b).2.2)

/-! ### Small facts -/
theorem not_mem_dec (m : Nat) (c : UInt8) (hc : isD c = false) : c ∉ dec m := fun h => by
  have := List.all_eq_true.1 (dec_all m) c h
  rw [hc] at this; cases this
theorem fitB_iff {f : Fld} : fitB f = true ↔ 1 ≤ f.1 ∧ f.1 ≤ 9999 ∧ f.1 ≠ 8 ∧ f.1 ≠ 9 ∧ f.1 ≠ 10 ∧ f.2 ≠ [] ∧ (1 : UInt8) ∉ f.2 := by
  unfold fitB
  simp only [Bool.and_eq_true, decide_eq_true_eq, Bool.not_eq_true', List.contains_eq_mem, decide_eq_false_iff_not, List.isEmpty_eq_false_iff]
  constructor
  · rintro ⟨⟨a, b, c, d, e⟩, f, g⟩; exact ⟨a, b, c, d, e, f, g⟩
  · rintro ⟨a, b, c, d, e, f, g⟩; exact ⟨⟨a, b, c, d, e⟩, f, g⟩
theorem itoaT_pos {x : Int} (h : 0 ≤ x) : itoaT x = dec x.toNat := by
  unfold itoaT; rw [if_neg (by omega), show x.natAbs = x.toNat by omega]
theorem bodyL_cons (f : Fld) (F : List Fld) : bodyL (f :: F) = encF f ++ bodyL F := by simp [bodyL]
theorem bodyL_app (F G : List Fld) : bodyL (F ++ G) = bodyL F ++ bodyL G := by simp [bodyL]
theorem validE_zero {F : List Fld} : validE F = 0 ↔ formB F = true ∧ (bodyL F).length ≤ 4096 := by
  unfold validE
  by_cases h1 : formB F = false
  · rw [if_pos h1, h1]; simp
  · rw [if_neg h1]
    by_cases h2 : 4096 < (bodyL F).length
    · rw [if_pos h2]; simp; intro _; omega
    · rw [if_neg h2]; simp at h1; simp [h1]; omega
theorem formB_iff {F : List Fld} : formB F = true ↔ (∃ v r, F = (35, v) :: r) ∧ ∀ f ∈ F, fitB f = true := by
  unfold formB
  rw [Bool.and_eq_true, List.all_eq_true]
  refine and_congr ?_ Iff.rfl
  cases F with
  | nil => simp
  | cons f r => obtain ⟨t, v⟩ := f; simp
/-- A field's text. -/
def pieceF (f : Fld) : List UInt8 := itoaT f.1 ++ 61 :: f.2
theorem encF_piece (f : Fld) : encF f = pieceF f ++ [1] := by simp [encF, pieceF]
theorem piece_no1 {f : Fld} (h : fitB f = true) : (1 : UInt8) ∉ pieceF f := by
  obtain ⟨h1, h2, _, _, _, _, h7⟩ := fitB_iff.1 h
  unfold pieceF
  rw [itoaT_pos (by omega)]
  simp only [List.mem_append, List.mem_cons, not_or]
  exact ⟨not_mem_dec _ _ (by decide), by decide, h7⟩
theorem splitS_piece : ∀ (p r : List UInt8), (1 : UInt8) ∉ p → splitS (p ++ 1 :: r) = p :: splitS r
  | [], r, _ => by simp [splitS]
  | c :: p, r, h => by
    simp only [List.mem_cons, not_or] at h
    rw [List.cons_append, splitS, if_neg (fun e => h.1 e.symm), splitS_piece p r h.2]
theorem splitS_last : ∀ (p : List UInt8), (1 : UInt8) ∉ p → splitS p = [p]
  | [], _ => rfl
  | c :: p, h => by
    simp only [List.mem_cons, not_or] at h
    rw [splitS, if_neg (fun e => h.1 e.symm), splitS_last p h.2]
theorem cutE_at : ∀ (p r : List UInt8), (61 : UInt8) ∉ p → cutE (p ++ 61 :: r) = (p, r)
  | [], r, _ => by simp [cutE]
  | c :: p, r, h => by
    simp only [List.mem_cons, not_or] at h
    rw [List.cons_append, cutE, if_neg (fun e => h.1 e.symm), cutE_at p r h.2]
theorem cutE_none : ∀ (p : List UInt8), (61 : UInt8) ∉ p → cutE p = (p, [])
  | [], _ => rfl
  | c :: p, h => by
    simp only [List.mem_cons, not_or] at h
    rw [cutE, if_neg (fun e => h.1 e.symm), cutE_none p h.2]
theorem cutE_len : ∀ (p : List UInt8), (cutE p).1.length ≤ p.length ∧ (cutE p).2.length ≤ p.length
  | [] => ⟨Nat.le_refl _, Nat.le_refl _⟩
  | c :: p => by
    have := cutE_len p
    rw [cutE]; split <;> simp <;> omega
theorem splitS_ne : ∀ (l : List UInt8), splitS l ≠ []
  | [] => by simp [splitS]
  | c :: r => by rw [splitS]; split; simp; split <;> simp
theorem trim1_snoc (l : List UInt8) : trim1 (l ++ [1]) = l := by
  unfold trim1
  rw [if_pos (List.isSuffixOf_iff_suffix.2 ⟨l, rfl⟩)]
  simp
theorem body_end : ∀ (F : List Fld) (f : Fld), ∃ X, bodyL (f :: F) = X ++ [1]
  | [], f => ⟨pieceF f, by simp [bodyL, encF_piece]⟩
  | g :: F, f => by
    obtain ⟨X, hX⟩ := body_end F g
    exact ⟨encF f ++ X, by rw [bodyL_cons, hX, List.append_assoc]⟩
theorem split_body : ∀ (F : List Fld) (f : Fld), (∀ g ∈ f :: F, fitB g = true) → splitS (trim1 (bodyL (f :: F))) = (f :: F).map pieceF
  | [], f, h => by
    rw [bodyL_cons, encF_piece]
    simp only [bodyL, List.flatMap_nil, List.append_nil]
    rw [trim1_snoc, splitS_last _ (piece_no1 (h f (by simp)))]
    rfl
  | g :: F, f, h => by
    have ih := split_body F g (fun x hx => h x (List.mem_cons_of_mem _ hx))
    obtain ⟨X, hX⟩ := body_end F g
    rw [hX, trim1_snoc] at ih
    have e : bodyL (f :: g :: F) = (pieceF f ++ 1 :: X) ++ [1] := by rw [bodyL_cons, hX, encF_piece]; simp
    rw [e, trim1_snoc, splitS_piece _ _ (piece_no1 (h f (by simp))), ih]
    rfl
theorem dig_dgt {d : Nat} (h : d < 10) : Lib.digitVal (dgt d) = some d := by
  match d, h with
  | 0, _ => rfl
  | 1, _ => rfl
  | 2, _ => rfl
  | 3, _ => rfl
  | 4, _ => rfl
  | 5, _ => rfl
  | 6, _ => rfl
  | 7, _ => rfl
  | 8, _ => rfl
  | 9, _ => rfl
theorem dec_low2 : ∀ (k acc m : Nat), Lib.decFrom acc (low k m) = some (acc * 10 ^ k + m % 10 ^ k)
  | 0, acc, m => by simp [low, Lib.decFrom, Nat.mod_one]
  | k + 1, acc, m => by
    rw [low_cons]
    have h1 := dig_dgt (show m / 10 ^ k % 10 < 10 by omega)
    have h2 := dec_low2 k (acc * 10 + m / 10 ^ k % 10) m
    simp only [Lib.decFrom, h1]
    rw [h2, Nat.mod_pow_succ, Nat.pow_succ]
    congr 1
    rw [Nat.add_mul, Nat.mul_assoc, Nat.mul_comm 10 (10 ^ k), Nat.mul_comm (m / 10 ^ k % 10)]
    omega
theorem dgt_sign {d : Nat} (h : d < 10) : (dgt d == 45) = false ∧ (dgt d == 43) = false := by
  match d, h with
  | 0, _ => decide
  | 1, _ => decide
  | 2, _ => decide
  | 3, _ => decide
  | 4, _ => decide
  | 5, _ => decide
  | 6, _ => decide
  | 7, _ => decide
  | 8, _ => decide
  | 9, _ => decide
theorem atoi_dec (n : Nat) : Lib.atoi (dec n) = some (n : Int) := by
  have h2 := dec_low2 (nd n) 0 n
  rw [dec_low]
  obtain ⟨k, hk⟩ : ∃ k, nd n = k + 1 := ⟨nd n - 1, by have := nd_pos n; omega⟩
  rw [hk] at h2 ⊢
  rw [low_cons] at h2 ⊢
  obtain ⟨s1, s2⟩ := dgt_sign (show n / 10 ^ k % 10 < 10 by omega)
  simp only [Lib.atoi, s1, s2, Bool.false_eq_true, if_false]
  unfold Lib.decNat
  rw [if_neg (by simp), h2]
  have : n % 10 ^ (k + 1) = n := Nat.mod_eq_of_lt (by rw [← hk]; exact lt_nd n)
  simp [this]
theorem atoiV_dec {n : Nat} (h : n ≤ 9999) : atoiV (dec n) = (n : Int) := by
  have hl : (dec n).length ≤ 4 := by rw [dec_length]; exact nd_le 4 n (by omega) (by omega)
  have e : Lib.atoi (dec n) = some (n : Int) := atoi_dec n
  unfold atoiV
  rw [Lib.atoiAll_short _ (by omega), e]
  rfl
theorem fieldOf_piece {f : Fld} (h : fitB f = true) : fieldOf (pieceF f) = f := by
  obtain ⟨h1, h2, _, _, _, _, h7⟩ := fitB_iff.1 h
  unfold fieldOf pieceF
  rw [itoaT_pos (by omega), cutE_at _ _ (not_mem_dec _ _ (by decide)), atoiV_dec (by omega)]
  obtain ⟨t, v⟩ := f
  simp only [Prod.mk.injEq, and_true]
  show ((Int.toNat t : Nat) : Int) = t
  have : 1 ≤ t := h1
  omega
theorem parse_body {F : List Fld} (hne : F ≠ []) (h : ∀ g ∈ F, fitB g = true) : parseG (bodyL F) = F := by
  cases F with
  | nil => exact absurd rfl hne
  | cons f F =>
    unfold parseG
    rw [split_body F f h, List.map_map]
    have : ∀ (G : List Fld), (∀ g ∈ G, fitB g = true) → G.map (fieldOf ∘ pieceF) = G := by
      intro G hG
      induction G with
      | nil => rfl
      | cons g G ih =>
        rw [List.map_cons, ih (fun x hx => hG x (List.mem_cons_of_mem _ hx))]
        show fieldOf (pieceF g) :: G = _
        rw [fieldOf_piece (hG g (by simp))]
    exact this _ h
theorem fields_body {F : List Fld} (h : validE F = 0) : fieldsS (bodyL F) = (F, 0) := by
  obtain ⟨h1, h2⟩ := validE_zero.1 h
  obtain ⟨⟨v, r, rfl⟩, h3⟩ := formB_iff.1 h1
  unfold fieldsS
  rw [parse_body (by simp) h3, if_pos ⟨h, rfl⟩]
theorem fields_ok {body : List UInt8} {F : List Fld} (h : fieldsS body = (F, 0)) : validE F = 0 ∧ bodyL F = body := by
  unfold fieldsS at h
  by_cases hc : validE (parseG body) = 0 ∧ bodyL (parseG body) = body
  · rw [if_pos hc] at h
    obtain rfl : parseG body = F := congrArg Prod.fst h
    exact hc
  · rw [if_neg hc] at h; cases h
theorem fields_no {body : List UInt8} (h : (fieldsS body).2 ≠ 0) : fieldsS body = ([], 11) := by
  unfold fieldsS at h ⊢
  by_cases hc : validE (parseG body) = 0 ∧ bodyL (parseG body) = body
  · rw [if_pos hc] at h; exact absurd rfl h
  · rw [if_neg hc]

/-! ### The number of bytes -/
theorem numG_digits : ∀ (l r : List UInt8) (i n : Nat), l.all isD = true → (i = 0 → l.headD 0 ≠ 48) → n * 10 ^ l.length + val l ≤ 4096 → numG i n (l ++ r) = numG (i + l.length) (n * 10 ^ l.length + val l) r
  | [], r, i, n, _, _, _ => by simp [val]
  | c :: l, r, i, n, hd, h0, hv => by
    simp only [List.all_cons, Bool.and_eq_true] at hd
    have hval : val (c :: l) = dv c * 10 ^ l.length + val l := by
      have := val_app [c] l
      simpa [val] using this
    have hp : 0 < 10 ^ l.length := Nat.pow_pos (by decide)
    rw [hval, List.length_cons, Nat.pow_succ] at hv
    have hstep : n * 10 + dv c ≤ 4096 := by
      have h1 : (n * 10 + dv c) * 1 ≤ (n * 10 + dv c) * 10 ^ l.length := Nat.mul_le_mul_left _ hp
      have h2 : (n * 10 + dv c) * 10 ^ l.length = n * (10 ^ l.length * 10) + dv c * 10 ^ l.length := by
        rw [Nat.add_mul, Nat.mul_assoc, Nat.mul_comm 10]
      omega
    have hc1 : ¬ (c = 1 ∧ 0 < i) := fun h => by rw [h.1] at hd; exact absurd hd.1 (by decide)
    have hc2 : ¬ (isD c = false ∨ (c = 48 ∧ i = 0)) := by
      rintro (h | ⟨h, hi⟩)
      · rw [hd.1] at h; cases h
      · exact h0 hi (by simpa using h)
    have h2 : (n * 10 + dv c) * 10 ^ l.length + val l = n * 10 ^ (l.length + 1) + (dv c * 10 ^ l.length + val l) := by
      rw [Nat.pow_succ, Nat.add_mul, Nat.mul_assoc, Nat.mul_comm 10 (10 ^ l.length), Nat.add_assoc]
    rw [List.cons_append, numG, if_neg hc1, if_neg hc2, if_neg (by omega), numG_digits l r (i + 1) (n * 10 + dv c) hd.2 (by omega) (by rw [h2, Nat.pow_succ]; omega), List.length_cons, hval, h2]
    congr 1; omega
theorem numG_at (m : Nat) (r : List UInt8) (h1 : 1 ≤ m) (h2 : m ≤ 4096) : numG 0 0 (dec m ++ 1 :: r) = (13 + nd m, 13 + nd m + m, 0) := by
  have hw := dec_whole m
  rw [numG_digits (dec m) (1 :: r) 0 0 (dec_all m) (fun _ => ?_) (by rw [val_dec]; omega), val_dec, dec_length, numG, if_pos ⟨rfl, by have := nd_pos m; omega⟩]
  · simp
  · intro h
    unfold wholeB at hw
    simp only [Bool.and_eq_true, Bool.or_eq_true, beq_iff_eq, bne_iff_ne] at hw
    rcases hw.2 with h3 | h3
    · have := congrArg val h3
      rw [val_dec] at this
      simp [val, dv] at this
      omega
    · exact h3 h
theorem numG_some : ∀ (r : List UInt8) (i n s t : Nat), numG i n r = (s, t, 0) → ∃ l x, r = l ++ 1 :: x ∧ l.all isD = true ∧ (i = 0 → l ≠ [] ∧ l.headD 0 ≠ 48) ∧ s = 13 + (i + l.length) ∧ t = s + (n * 10 ^ l.length + val l) ∧ (n ≤ 4096 → n * 10 ^ l.length + val l ≤ 4096)
  | [], i, n, s, t, h => by simp [numG] at h
  | c :: r, i, n, s, t, h => by
    rw [numG] at h
    by_cases h1 : c = 1 ∧ 0 < i
    · rw [if_pos h1] at h
      obtain ⟨rfl, hi⟩ := h1
      simp only [Prod.mk.injEq] at h
      exact ⟨[], r, rfl, rfl, (fun h => by omega), by simp; omega, by simp [val]; omega, by simp [val]⟩
    · rw [if_neg h1] at h
      by_cases h2 : isD c = false ∨ (c = 48 ∧ i = 0)
      · rw [if_pos h2] at h; simp at h
      · rw [if_neg h2] at h
        by_cases h3 : 4096 < n * 10 + dv c
        · rw [if_pos h3] at h; simp at h
        · rw [if_neg h3] at h
          obtain ⟨l, x, rfl, hl, _, hs, ht, hv⟩ := numG_some r _ _ s t h
          have hd : isD c = true := by
            cases hh : isD c with
            | true => rfl
            | false => exact absurd (.inl hh) h2
          have hval : val (c :: l) = dv c * 10 ^ l.length + val l := by
            have := val_app [c] l
            simpa [val] using this
          have e2 : (n * 10 + dv c) * 10 ^ l.length + val l = n * 10 ^ (l.length + 1) + (dv c * 10 ^ l.length + val l) := by
            rw [Nat.pow_succ, Nat.add_mul, Nat.mul_assoc, Nat.mul_comm 10 (10 ^ l.length), Nat.add_assoc]
          refine ⟨c :: l, x, rfl, by simp [hd, hl], (fun hi => ⟨by simp, fun h48 => h2 (.inr ⟨by simpa using h48, hi⟩)⟩), by rw [hs, List.length_cons]; omega, ?_, ?_⟩
          · rw [ht, List.length_cons, hval, e2]
          · intro _; rw [List.length_cons, hval, ← e2]; exact hv (by omega)
theorem numG_ok {r : List UInt8} {s t : Nat} (h : numG 0 0 r = (s, t, 0)) : ∃ m x, r = dec m ++ 1 :: x ∧ 1 ≤ m ∧ m ≤ 4096 ∧ s = 13 + nd m ∧ t = s + m := by
  obtain ⟨l, x, rfl, hl, h0, hs, ht, hv⟩ := numG_some r 0 0 s t h
  obtain ⟨hne, h48⟩ := h0 rfl
  have hw : wholeB l = true := by
    unfold wholeB
    simp only [Bool.and_eq_true, Bool.or_eq_true, beq_iff_eq, bne_iff_ne]
    refine ⟨⟨by cases l with | nil => exact absurd rfl hne | cons => rfl, hl⟩, .inr h48⟩
  have hd := dec_val hw
  have hlen : l.length = nd (val l) := by rw [← dec_length, hd]
  refine ⟨val l, x, by rw [hd], ?_, by have := hv (by omega); omega, by omega, by omega⟩
  rcases Nat.eq_zero_or_pos (val l) with h | h
  · exfalso
    rw [h, dec_small (by omega)] at hd
    rw [← hd] at h48
    exact h48 (by decide)
  · exact h
theorem numG_short : ∀ (l : List UInt8) (i n : Nat), l.all isD = true → (i = 0 → l.headD 0 ≠ 48) → n * 10 ^ l.length + val l ≤ 4096 → numG i n l = (0, 0, 10) := by
  intro l i n h1 h2 h3
  have := numG_digits l [] i n h1 h2 h3
  rw [List.append_nil] at this
  rw [this]; rfl
theorem numG_err : ∀ (r : List UInt8) (i n : Nat), (numG i n r).2.2 ≠ 0 → numG i n r = (0, 0, (numG i n r).2.2) ∧ ((numG i n r).2.2 = 10 ∨ (numG i n r).2.2 = 11)
  | [], i, n, h => by simp [numG]
  | c :: r, i, n, h => by
    rw [numG] at h ⊢
    by_cases h1 : c = 1 ∧ 0 < i
    · rw [if_pos h1] at h; exact absurd rfl h
    · rw [if_neg h1] at h ⊢
      by_cases h2 : isD c = false ∨ (c = 48 ∧ i = 0)
      · rw [if_pos h2]; exact ⟨rfl, .inr rfl⟩
      · rw [if_neg h2] at h ⊢
        by_cases h3 : 4096 < n * 10 + dv c
        · rw [if_pos h3]; exact ⟨rfl, .inr rfl⟩
        · rw [if_neg h3] at h ⊢; exact numG_err r _ _ h
end Go.Proofs.YtjgkjmegpinelaaDoor.Tg

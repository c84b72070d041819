/-
  The mathematics of layer 7: a frame is read as its fields, whatever follows; what is read as a frame is that frame; a beginning of one is short; a byte that was turned is told.
-/
import Derived.Test.YtjgkjmegpinelaaDoorTa
namespace Go.Proofs.YtjgkjmegpinelaaDoor.Tg
open Dx Sx
set_option linter.unusedVariables false
set_option linter.unusedSimpArgs false

theorem findS_front (r : List UInt8) : findS (front ++ r) = numG 0 0 r := by
  unfold findS
  cases r with
  | nil => rfl
  | cons c r =>
    rw [if_neg (by simp [front, List.isPrefixOf]), if_neg (by simp [front, List.isPrefixOf])]
    rfl
theorem findS_beginning {b : List UInt8} (h : b <+: front) : findS b = (0, 0, 10) := by
  unfold findS
  rw [if_pos (List.isPrefixOf_iff_prefix.2 h)]
theorem findS_other {b : List UInt8} (h : ¬ b <+: front) (h2 : ¬ front <+: b) : findS b = (0, 0, 11) := by
  unfold findS
  rw [if_neg (fun e => h (List.isPrefixOf_iff_prefix.1 e)), if_pos (by
    cases e : front.isPrefixOf b with
    | false => rfl
    | true => exact absurd (List.isPrefixOf_iff_prefix.1 e) h2)]
theorem findS_ok {b : List UInt8} (h : (findS b).2.2 = 0) : ∃ r, b = front ++ r := by
  unfold findS at h
  by_cases h1 : b.isPrefixOf front = true
  · rw [if_pos h1] at h; cases h
  · rw [if_neg h1] at h
    by_cases h2 : front.isPrefixOf b = false
    · rw [if_pos h2] at h; cases h
    · obtain ⟨r, hr⟩ := List.isPrefixOf_iff_prefix.1 (by simpa using h2 : front.isPrefixOf b = true)
      exact ⟨r, hr.symm⟩
theorem findS_err {b : List UInt8} (h : (findS b).2.2 ≠ 0) : (findS b).2.2 = 10 ∨ (findS b).2.2 = 11 := by
  by_cases h1 : b <+: front
  · rw [findS_beginning h1]; exact .inl rfl
  · by_cases h2 : front <+: b
    · obtain ⟨r, rfl⟩ := h2
      rw [findS_front] at h ⊢
      exact (numG_err r 0 0 h).2
    · rw [findS_other h1 h2]; exact .inr rfl
theorem sumT_length (l : List UInt8) : (sumT l).length = 7 := by simp [sumT, low_length]
theorem sumForm_sumT (l : List UInt8) : sumForm (sumT l) = true := by
  have e : sumT l = 49 :: 48 :: 61 :: (low 3 (smallN l) ++ [1]) := rfl
  have h3 : (low 3 (smallN l)).length = 3 := low_length _ _
  unfold sumForm
  rw [e]
  have e1 : (low 3 (smallN l) ++ [1]).take 3 = low 3 (smallN l) := List.take_left' h3
  have e2 : (low 3 (smallN l) ++ [1]).drop 3 = [1] := List.drop_left' h3
  show ((([49, 48, 61] : List UInt8) == [49, 48, 61]) && ((low 3 (smallN l) ++ [1]).take 3).all isD && ((low 3 (smallN l) ++ [1]).drop 3) == [1]) = true
  rw [e1, e2, low_all]
  rfl
theorem front_length : front.length = 12 := rfl
theorem pre_length (body : List UInt8) : (pre body).length = 13 + nd body.length + body.length := by simp [pre, front_length, dec_length]; omega
theorem frm_length (body : List UInt8) : (frm body).length = 13 + nd body.length + body.length + 7 := by unfold frm; rw [List.length_append, pre_length, sumT_length]
theorem frm_front (body : List UInt8) : frm body = front ++ (dec body.length ++ 1 :: (body ++ sumT (pre body))) := by simp [frm, pre]
/-- The body of a frame, where it stands. -/
theorem body_at {m : Nat} (x : List UInt8) : (front ++ (dec m ++ 1 :: x)).drop (13 + nd m) = x := by
  have e : front ++ (dec m ++ 1 :: x) = (front ++ (dec m ++ [1])) ++ x := by simp
  rw [e]
  exact List.drop_left' (by simp [front_length, dec_length]; omega)
theorem bodyE_frm (body x : List UInt8) : bodyE (frm body ++ x) (13 + nd body.length) (13 + nd body.length + body.length) = ((fieldsS body).1, if (fieldsS body).2 = 0 then (frm body).length else 0, (fieldsS body).2) := by
  have hl := pre_length body
  have e : frm body ++ x = pre body ++ (sumT (pre body) ++ x) := by simp [frm]
  have e1 : (frm body ++ x).take (13 + nd body.length + body.length) = pre body := by rw [e]; exact List.take_left' hl
  have e2 : (frm body ++ x).drop (13 + nd body.length + body.length) = sumT (pre body) ++ x := by rw [e]; exact List.drop_left' hl
  have e3 : (sumT (pre body) ++ x).take 7 = sumT (pre body) := List.take_left' (sumT_length _)
  have e4 : ((frm body ++ x).drop (13 + nd body.length)).take (13 + nd body.length + body.length - (13 + nd body.length)) = body := by
    rw [frm_front, List.append_assoc, List.append_assoc, List.cons_append, body_at, Nat.add_sub_cancel_left, List.append_assoc]
    exact List.take_left' rfl
  unfold bodyE
  rw [if_neg (by rw [List.length_append, frm_length]; omega), e2, e3, if_neg (by rw [sumForm_sumT]; decide), e1, if_neg (by simp), e4, frm_length]
theorem decE_frm {F : List Fld} (h : validE F = 0) (x : List UInt8) : decE (frm (bodyL F) ++ x) = (F, (frm (bodyL F)).length, 0) := by
  obtain ⟨h1, h2⟩ := validE_zero.1 h
  have hpos : 1 ≤ (bodyL F).length := by
    obtain ⟨⟨v, r, rfl⟩, _⟩ := formB_iff.1 h1
    rw [bodyL_cons]; simp [encF]; omega
  have hf : findS (frm (bodyL F) ++ x) = (13 + nd (bodyL F).length, 13 + nd (bodyL F).length + (bodyL F).length, 0) := by
    rw [frm_front, List.append_assoc, findS_front, List.append_assoc, List.cons_append, numG_at _ _ hpos h2]
  unfold decE
  rw [hf, if_neg (by simp)]
  show bodyE _ _ _ = _
  rw [bodyE_frm, fields_body h]
  rfl
theorem decS_frm {F : List Fld} (h : validE F = 0) (x : List UInt8) : decS (frm (bodyL F) ++ x) = (F, (frm (bodyL F)).length, 0) := by
  unfold decS
  rw [decE_frm h]; rfl
theorem decE_short {F : List Fld} (h : validE F = 0) {k : Nat} (hk : k < (frm (bodyL F)).length) : decE ((frm (bodyL F)).take k) = ([], 0, 10) := by
  obtain ⟨h1, h2⟩ := validE_zero.1 h
  have hpos : 1 ≤ (bodyL F).length := by
    obtain ⟨⟨v, r, rfl⟩, _⟩ := formB_iff.1 h1
    rw [bodyL_cons]; simp [encF]; omega
  rw [frm_length] at hk
  generalize bodyL F = body at *
  unfold decE
  rcases Nat.lt_or_ge 12 k with h12 | h12
  · have e1 : (frm body).take k = front ++ (dec body.length ++ 1 :: (body ++ sumT (pre body))).take (k - 12) := by
      rw [frm_front, List.take_append, List.take_of_length_le (by rw [front_length]; omega)]; rfl
    rw [e1, findS_front]
    rcases Nat.lt_or_ge (nd body.length) (k - 12) with h13 | h13
    · have e2 : (dec body.length ++ 1 :: (body ++ sumT (pre body))).take (k - 12) = dec body.length ++ 1 :: (body ++ sumT (pre body)).take (k - 13 - nd body.length) := by
        rw [List.take_append, List.take_of_length_le (by rw [dec_length]; omega), dec_length, show k - 12 - nd body.length = (k - 13 - nd body.length) + 1 by omega, List.take_succ_cons]
      rw [e2, numG_at _ _ hpos h2, if_neg (by simp)]
      show bodyE _ _ _ = _
      unfold bodyE
      rw [if_pos (by simp [front_length, dec_length, sumT_length]; omega)]
    · have e2 : (dec body.length ++ 1 :: (body ++ sumT (pre body))).take (k - 12) = (dec body.length).take (k - 12) := by
        rw [List.take_append_of_le_length (by rw [dec_length]; exact h13)]
      have hw := dec_whole body.length
      have hsub : ((dec body.length).take (k - 12)).all isD = true := by
        rw [List.all_eq_true]
        intro c hc
        exact List.all_eq_true.1 (dec_all _) c (List.mem_of_mem_take hc)
      rw [e2, numG_short _ 0 0 hsub (fun _ => ?_) (by rw [Nat.zero_mul, Nat.zero_add]; exact Nat.le_trans (val_take_le _ _) (by rw [val_dec]; exact h2))]
      · rfl
      · intro h48
        have e3 : (dec body.length).headD 0 = 48 := by
          cases hd : dec body.length with
          | nil => rw [hd] at h48; simp at h48
          | cons c r =>
            rw [hd, show k - 12 = (k - 13) + 1 by omega, List.take_succ_cons] at h48
            simpa using h48
        unfold wholeB at hw
        simp only [Bool.and_eq_true, Bool.or_eq_true, beq_iff_eq, bne_iff_ne] at hw
        rcases hw.2 with h3 | h3
        · have := congrArg val h3
          rw [val_dec, show val [48] = 0 by decide] at this
          omega
        · exact h3 e3
  · have e1 : (frm body).take k <+: front := by
      rw [frm_front, List.take_append_of_le_length (by rw [front_length]; omega)]
      exact List.take_prefix _ _
    rw [findS_beginning e1]
    rfl
theorem decS_short {F : List Fld} (h : validE F = 0) {k : Nat} (hk : k < (frm (bodyL F)).length) : decS ((frm (bodyL F)).take k) = ([], 0, 10) := by
  unfold decS
  rw [decE_short h hk]; rfl
/-- The fields are there only where all is right; the number beside a fault is nought. -/
theorem bodyE_err {b : List UInt8} {s t : Nat} (h : (bodyE b s t).2.2 ≠ 0) : bodyE b s t = ([], 0, (bodyE b s t).2.2) ∧ ((bodyE b s t).2.2 = 10 ∨ (bodyE b s t).2.2 = 11 ∨ (bodyE b s t).2.2 = 12) := by
  unfold bodyE at h ⊢
  by_cases h1 : b.length < t + 7
  · rw [if_pos h1]; exact ⟨rfl, .inl rfl⟩
  · rw [if_neg h1] at h ⊢
    by_cases h2 : sumForm ((b.drop t).take 7) = false
    · rw [if_pos h2]; exact ⟨rfl, .inr (.inl rfl)⟩
    · rw [if_neg h2] at h ⊢
      by_cases h3 : (b.drop t).take 7 ≠ sumT (b.take t)
      · rw [if_pos h3]; exact ⟨rfl, .inr (.inr rfl)⟩
      · rw [if_neg h3] at h ⊢
        have h4 : (fieldsS ((b.drop s).take (t - s))).2 ≠ 0 := h
        rw [fields_no h4]
        exact ⟨rfl, .inr (.inl rfl)⟩
theorem decE_err {b : List UInt8} (h : (decE b).2.2 ≠ 0) : decE b = ([], 0, (decE b).2.2) ∧ ((decE b).2.2 = 10 ∨ (decE b).2.2 = 11 ∨ (decE b).2.2 = 12) := by
  unfold decE at h ⊢
  by_cases h1 : (findS b).2.2 ≠ 0
  · rw [if_pos h1]
    refine ⟨rfl, ?_⟩
    rcases findS_err h1 with h2 | h2
    · exact .inl h2
    · exact .inr (.inl h2)
  · rw [if_neg h1] at h ⊢
    exact bodyE_err h
theorem decE_ok {b : List UInt8} (h : (decE b).2.2 = 0) : validE (decE b).1 = 0 ∧ (decE b).2.1 ≤ b.length ∧ b.take (decE b).2.1 = frm (bodyL (decE b).1) ∧ (decE b).2.1 = (frm (bodyL (decE b).1)).length := by
  unfold decE at h ⊢
  by_cases h1 : (findS b).2.2 ≠ 0
  · rw [if_pos h1] at h; exact absurd h h1
  · rw [if_neg h1] at h ⊢
    have h0 : (findS b).2.2 = 0 := by omega
    obtain ⟨r, rfl⟩ := findS_ok h0
    rw [findS_front] at h h0 ⊢
    obtain ⟨m, x, rfl, m1, m2, hs, ht⟩ := numG_ok (r := r) (s := (numG 0 0 r).1) (t := (numG 0 0 r).2.1) (by rw [← h0])
    rw [hs] at ht
    rw [hs, ht] at h ⊢
    unfold bodyE at h ⊢
    by_cases h2 : (front ++ (dec m ++ 1 :: x)).length < 13 + nd m + m + 7
    · rw [if_pos h2] at h; cases h
    · rw [if_neg h2] at h ⊢
      generalize hb : front ++ (dec m ++ 1 :: x) = b at *
      by_cases h3 : sumForm ((b.drop (13 + nd m + m)).take 7) = false
      · rw [if_pos h3] at h; cases h
      · rw [if_neg h3] at h ⊢
        by_cases h4 : (b.drop (13 + nd m + m)).take 7 ≠ sumT (b.take (13 + nd m + m))
        · rw [if_pos h4] at h; cases h
        · rw [if_neg h4] at h ⊢
          simp only [ne_eq, Decidable.not_not] at h4
          have hx : b.drop (13 + nd m) = x := by rw [← hb]; exact body_at x
          have hxl : m + 7 ≤ x.length := by
            rw [← hx, List.length_drop]; omega
          rw [Nat.add_sub_cancel_left, hx] at h ⊢
          have h5 : (fieldsS (x.take m)).2 = 0 := h
          obtain ⟨G, hG⟩ : ∃ G, fieldsS (x.take m) = (G, 0) := ⟨(fieldsS (x.take m)).1, by rw [← h5]⟩
          obtain ⟨v1, v2⟩ := fields_ok hG
          rw [hG]
          have hlen : (bodyL G).length = m := by rw [v2, List.length_take]; omega
          have hp : b.take (13 + nd m + m) = pre (bodyL G) := by
            unfold pre
            rw [hlen, v2, ← hb]
            have e : front ++ (dec m ++ 1 :: x) = (front ++ (dec m ++ [1])) ++ x := by simp
            have el : (front ++ (dec m ++ [1])).length = 13 + nd m := by simp [front_length, dec_length]; omega
            rw [e, List.take_append, List.take_of_length_le (by omega), el, Nat.add_sub_cancel_left]
            simp
          have hf : b.take (13 + nd m + m + 7) = frm (bodyL G) := by
            rw [List.take_add, h4, hp]; rfl
          have hfl : (frm (bodyL G)).length = 13 + nd m + m + 7 := by rw [frm_length, hlen]
          refine ⟨v1, ?_, ?_, ?_⟩
          · show 13 + nd m + m + 7 ≤ _; omega
          · show b.take (13 + nd m + m + 7) = _; exact hf
          · show 13 + nd m + m + 7 = _; exact hfl.symm
theorem decS_e (b : List UInt8) : (decS b).2.2 = (decE b).2.2 := rfl
theorem decS_ok {b : List UInt8} (h : (decS b).2.2 = 0) : validE (decS b).1 = 0 ∧ (decS b).2.1 ≤ b.length ∧ b.take (decS b).2.1 = frm (bodyL (decS b).1) ∧ (decS b).2.1 = (frm (bodyL (decS b).1)).length := by
  have h' : (decE b).2.2 = 0 := h
  have e : decS b = decE b := by
    unfold decS
    rw [if_neg (by omega)]
  rw [e]
  exact decE_ok h'
theorem findI_lt {p : List UInt8 → Bool} : ∀ {l : List UInt8} {i : Nat}, findI p l = some i → i < l.length
  | [], i, h => by cases h
  | c :: r, i, h => by
    rw [findI] at h
    split at h
    · cases h; simp
    · cases hf : findI p r with
      | none => rw [hf] at h; cases h
      | some j =>
        rw [hf] at h
        simp at h
        have := findI_lt hf
        simp; omega
theorem skipS_bd {b : List UInt8} (h : b ≠ []) : 0 < skipS b ∧ skipS b ≤ b.length := by
  have hl : 0 < b.length := List.length_pos_iff.2 h
  unfold skipS
  cases h1 : findI (hdr.isPrefixOf ·) (b.drop 1) with
  | some i => have := findI_lt h1; rw [List.length_drop] at this; exact ⟨by simp, by simp; omega⟩
  | none =>
    cases h2 : findI (·.isPrefixOf hdr) (b.drop 1) with
    | some i => have := findI_lt h2; rw [List.length_drop] at this; exact ⟨by simp, by simp; omega⟩
    | none => exact ⟨hl, Nat.le_refl _⟩
theorem decE_nil : decE [] = ([], 0, 10) := rfl
theorem decS_err {b : List UInt8} (h : (decS b).2.2 ≠ 0) : (decS b).1 = [] ∧ (decS b).2.1 ≤ b.length ∧ (0 < (decS b).2.1 ↔ (decS b).2.2 ≠ 10) ∧ ((decS b).2.2 = 10 ∨ (decS b).2.2 = 11 ∨ (decS b).2.2 = 12) := by
  obtain ⟨h1, h2⟩ := decE_err (b := b) h
  refine ⟨?_, ?_, ?_, h2⟩
  · show (decE b).1 = []; rw [h1]
  all_goals
    have hne : (decE b).2.2 ≠ 10 → b ≠ [] := fun h3 e => by rw [e, decE_nil] at h3; exact h3 rfl
    rcases h2 with h3 | h3
    · have e : (decS b).2.1 = 0 := by
        show (if (decE b).2.2 = 11 ∨ (decE b).2.2 = 12 then skipS b else (decE b).2.1) = 0
        rw [if_neg (by omega), h1]
      have e2 : (decS b).2.2 = 10 := h3
      omega
    · have e : (decS b).2.1 = skipS b := by
        show (if (decE b).2.2 = 11 ∨ (decE b).2.2 = 12 then skipS b else (decE b).2.1) = skipS b
        rw [if_pos h3]
      have e2 : (decS b).2.2 = (decE b).2.2 := rfl
      have hb := skipS_bd (hne (by omega))
      omega
/-- What is consumed, wherever there was enough. -/
theorem decS_pos {b : List UInt8} (h : (decS b).2.2 ≠ 10) : 0 < (decS b).2.1 ∧ (decS b).2.1 ≤ b.length := by
  by_cases h0 : (decS b).2.2 = 0
  · obtain ⟨_, h2, _, h4⟩ := decS_ok h0
    exact ⟨by rw [h4, frm_length]; omega, h2⟩
  · obtain ⟨_, h2, h3, _⟩ := decS_err h0
    exact ⟨h3.2 h, h2⟩
/-! ### A byte that was turned -/
theorem small_app (a b : List UInt8) : smallN (a ++ b) = (smallN a + smallN b) % 256 := by
  unfold smallN; rw [List.map_append, List.sum_append]; omega
theorem small_set {l : List UInt8} {i : Nat} (h : i < l.length) (c : UInt8) (hc : c ≠ l[i]) : smallN (l.set i c) ≠ smallN l := by
  have e1 : l = l.take i ++ l[i] :: l.drop (i + 1) := by rw [← List.drop_eq_getElem_cons h, List.take_append_drop]
  have e2 : l.set i c = l.take i ++ c :: l.drop (i + 1) := List.set_eq_take_append_cons_drop.trans (if_pos h)
  have h1 : smallN l = ((l.take i).map UInt8.toNat).sum % 256 + 0 ∨ True := .inr trivial
  intro e
  have s1 : smallN (l.take i ++ c :: l.drop (i + 1)) = smallN (l.take i ++ l[i] :: l.drop (i + 1)) := by rw [← e2, ← e1]; exact e
  unfold smallN at s1
  simp only [List.map_append, List.map_cons, List.sum_append, List.sum_cons] at s1
  have b1 := c.toNat_lt
  have b2 := (l[i]).toNat_lt
  have : c.toNat = (l[i]).toNat := by omega
  exact hc (UInt8.toNat_inj.1 this)
theorem low3_inj {a b : Nat} (ha : a < 1000) (hb : b < 1000) (h : low 3 a = low 3 b) : a = b := by
  have := congrArg val h
  rw [val_low, val_low] at this
  omega
theorem smallN_lt (l : List UInt8) : smallN l < 256 := Nat.mod_lt _ (by decide)
theorem sumT_inj {a b : List UInt8} (h : sumT a = sumT b) : smallN a = smallN b := by
  have h1 : low 3 (smallN a) ++ [1] = low 3 (smallN b) ++ [1] := by
    have := congrArg (List.drop 3) h
    exact this
  have h2 := List.append_cancel_right h1
  have := smallN_lt a; have := smallN_lt b
  exact low3_inj (by omega) (by omega) h2
theorem tells {x y : List UInt8} {i : Nat} {c : UInt8} (hi : i < (frm x).length) (hc : (frm x)[i]? ≠ some c) (h : (frm x).set i c = frm y) : False := by
  have hl : (frm x).length = (frm y).length := by rw [← h, List.length_set]
  have hp : (pre x).length = (pre y).length := by
    unfold frm at hl
    rw [List.length_append, List.length_append, sumT_length, sumT_length] at hl
    omega
  by_cases hlt : i < (pre x).length
  · have e : (frm x).set i c = (pre x).set i c ++ sumT (pre x) := by
      unfold frm
      rw [List.set_append_left _ _ hlt]
    rw [e] at h
    have h2 := List.append_inj h (by rw [List.length_set]; exact hp)
    have h3 := sumT_inj h2.2
    rw [← h2.1] at h3
    refine small_set hlt c ?_ h3.symm
    intro hc2
    apply hc
    unfold frm
    rw [List.getElem?_append_left hlt, List.getElem?_eq_getElem hlt, hc2]
  · have e : (frm x).set i c = pre x ++ (sumT (pre x)).set (i - (pre x).length) c := by
      unfold frm
      rw [List.set_append_right _ _ (by omega)]
    rw [e] at h
    have h2 := List.append_inj h hp
    have h3 : (sumT (pre x)).set (i - (pre x).length) c = sumT (pre x) := by rw [h2.2, ← h2.1]
    have hb : i - (pre x).length < (sumT (pre x)).length := by
      unfold frm at hi; rw [List.length_append] at hi; omega
    apply hc
    unfold frm
    rw [List.getElem?_append_right (by omega), ← h3, List.getElem?_set_self hb]
end Go.Proofs.YtjgkjmegpinelaaDoor.Tg

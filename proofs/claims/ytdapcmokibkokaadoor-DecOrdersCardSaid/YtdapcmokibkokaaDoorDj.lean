/-
  Layer 2: text and amount belong together; the law DecBack.
-/
import Derived.Test.YtdapcmokibkokaaDoorDi
namespace Go.Proofs.YtdapcmokibkokaaDoor.Dx
open Go.RowKit Go.Sort
set_option linter.unusedVariables false
set_option linter.unusedSimpArgs false

theorem dec_ne (m : Nat) : dec m ≠ [] := by
  intro h
  have h0 := dec_length m
  have hp := nd_pos m
  rw [h, List.length_nil] at h0
  omega
theorem txt_cut (m p : Nat) : cutD (txtN m p) = (dec (m / 10 ^ p), (if p = 0 then [] else low p m), !decide (p = 0)) := by
  unfold txtN
  by_cases h0 : p = 0
  · rw [if_pos h0, if_pos h0, List.append_nil, cutD_digits (dec_all _), decide_eq_true h0]; rfl
  · rw [if_neg h0, if_neg h0, cutD_point _ (dec_all _), decide_eq_false h0]; rfl
theorem txt_sign (m p : Nat) : signB (txtN m p) = false := by
  obtain ⟨c, r, hc, hne⟩ := dgt_dec (m / 10 ^ p)
  unfold txtN signB
  rw [hc]
  simp [hne]
theorem txt_val (m p : Nat) : val (dec (m / 10 ^ p) ++ (if p = 0 then [] else low p m) ++ List.replicate (p - (if p = 0 then ([] : List UInt8) else low p m).length) 48) = m := by
  by_cases h0 : p = 0
  · subst h0
    simp [val_dec]
  · rw [if_neg h0, low_length, Nat.sub_self, List.replicate_zero, List.append_nil, val_app, low_length, val_dec, val_low]
    exact Nat.div_add_mod' m (10 ^ p)
theorem txt_frac (m p : Nat) : ((!decide (p = 0)) && !fracB (if p = 0 then [] else low p m) p) = false := by
  by_cases h0 : p = 0
  · rw [decide_eq_true h0]; rfl
  · rw [if_neg h0]
    have h1 : (low p m).isEmpty = false := by
      cases h : low p m with
      | nil => have := low_length p m; rw [h] at this; exact absurd this.symm h0
      | cons _ _ => rfl
    unfold fracB
    rw [h1, low_all, low_length, decide_eq_true (Nat.le_refl p)]
    simp

/-- An amount's text is read as that amount. -/
theorem parse_fmt (x : Int) (p : Nat) (hx : Fx.fitB x = true) : parseS (fmtT x p) p = (x, 0) := by
  have hfit := Fx.fitB_true hx
  have hm : x.natAbs ≤ maxA := by unfold maxA; omega
  unfold fmtT
  by_cases hn : x < 0
  · rw [if_pos hn]
    have hu : unsig (45 :: txtN x.natAbs p) = txtN x.natAbs p := rfl
    have hs : signB (45 :: txtN x.natAbs p) = true := rfl
    unfold parseS
    rw [hu, hs, txt_cut]
    dsimp only
    rw [txt_val, dec_whole, txt_frac, Bool.not_true, Bool.or_false, if_neg (by decide)]
    have hall : (dec (x.natAbs / 10 ^ p) ++ (if p = 0 then [] else low p x.natAbs)).all isD = true := by
      rw [List.all_append, dec_all]
      split
      · rfl
      · rw [low_all]; rfl
    have hz : (dec (x.natAbs / 10 ^ p) ++ (if p = 0 then [] else low p x.natAbs)).all (· == 48) = false := by
      cases h : (dec (x.natAbs / 10 ^ p) ++ (if p = 0 then [] else low p x.natAbs)).all (· == 48) with
      | false => rfl
      | true =>
        exfalso
        have h1 := (all48_val _ hall).1 h
        have h2 := txt_val x.natAbs p
        rw [val_app, h1, val_zeros] at h2
        omega
    rw [hz, Bool.and_false, if_neg (by decide), if_pos hm, if_pos rfl]
    have : -((x.natAbs : Nat) : Int) = x := by omega
    rw [this]
  · rw [if_neg hn]
    have hs := txt_sign x.natAbs p
    have hu : unsig (txtN x.natAbs p) = txtN x.natAbs p := by unfold unsig; rw [hs]; rfl
    unfold parseS
    rw [hu, hs, txt_cut]
    dsimp only
    rw [txt_val, dec_whole, txt_frac, Bool.not_true, Bool.or_false, if_neg (by decide), Bool.false_and, if_neg (by decide), if_pos hm, if_neg (by decide)]
    have : ((x.natAbs : Nat) : Int) = x := by omega
    rw [this]

theorem parse_err (l : List UInt8) (p : Nat) (h : (parseS l p).2 ≠ 0) : (parseS l p).1 = 0 := by
  unfold parseS at h ⊢
  split
  · rfl
  · rename_i h1
    rw [if_neg h1] at h
    split
    · rfl
    · rename_i h2
      rw [if_neg h2] at h
      split
      · rename_i h3
        rw [if_pos h3] at h
        exact absurd rfl h
      · rfl

/-- What a text was read as has that text, with noughts behind that it lacked. -/
theorem fmt_parse (l : List UInt8) (p : Nat) (h : (parseS l p).2 = 0) :
    Fx.fitB (parseS l p).1 = true ∧ ∃ t, fmtT (parseS l p).1 p = l ++ t ∧ ∀ c ∈ t, c = 48 ∨ c = 46 := by
  have hl : l = (if signB l then [45] else []) ++ unsig l := by
    unfold unsig
    cases hs : signB l
    · rfl
    · cases l with
      | nil => cases hs
      | cons c r =>
        have hc : c = 45 := by simpa [signB] using hs
        rw [hc]; rfl
  obtain ⟨b1, b2⟩ := cutD_back (unsig l)
  have hdef := parseS.eq_1 l p
  generalize parseS l p = R at h hdef ⊢
  generalize hneg : signB l = neg at hl hdef
  generalize hu : unsig l = u at hl hdef b1 b2
  generalize (cutD u).2.2 = pt at hdef b1 b2
  generalize (cutD u).2.1 = f at hdef b1 b2
  generalize (cutD u).1 = w at hdef b1 b2
  cases hA : (!wholeB w || (pt && !fracB f p))
  · rw [hA, if_neg (by decide)] at hdef
    cases hB : (neg && (w ++ f).all (· == 48))
    · rw [hB, if_neg (by decide)] at hdef
      have hw : wholeB w = true := by
        cases hw : wholeB w
        · rw [hw] at hA; cases hA
        · rfl
      have hwa : w.all isD = true := by unfold wholeB at hw; simp only [Bool.and_eq_true] at hw; exact hw.1.2
      have hpf : pt = true → fracB f p = true := by
        intro hp
        rw [hp, hw] at hA
        cases hf : fracB f p
        · rw [hf] at hA; cases hA
        · rfl
      have hfa : f.all isD = true := by
        cases hp : pt
        · rw [b2 hp]; rfl
        · have := hpf hp; unfold fracB at this; simp only [Bool.and_eq_true] at this; exact this.1.2
      have hfl : f.length ≤ p := by
        cases hp : pt
        · rw [b2 hp]; simp
        · have := hpf hp; unfold fracB at this; simp only [Bool.and_eq_true, decide_eq_true_eq] at this; exact this.2
      by_cases hv : val (w ++ f ++ List.replicate (p - f.length) 48) ≤ maxA
      · rw [if_pos hv] at hdef
        have hFall : (f ++ List.replicate (p - f.length) 48).all isD = true := by rw [List.all_append, hfa, all_rep]; rfl
        have hFlen : (f ++ List.replicate (p - f.length) 48).length = p := by rw [List.length_append, List.length_replicate]; omega
        have hval : val (w ++ f ++ List.replicate (p - f.length) 48) = val w * 10 ^ p + val (f ++ List.replicate (p - f.length) 48) := by
          rw [List.append_assoc, val_app, hFlen]
        have hFlt := val_lt _ hFall
        rw [hFlen] at hFlt
        have hq : val (w ++ f ++ List.replicate (p - f.length) 48) / 10 ^ p = val w := by
          rw [hval, Nat.add_comm, Nat.mul_comm, Nat.add_mul_div_left _ _ (Nat.pow_pos (by omega)), Nat.div_eq_of_lt hFlt, Nat.zero_add]
        have hlow : low p (val (w ++ f ++ List.replicate (p - f.length) 48)) = f ++ List.replicate (p - f.length) 48 := by
          have h1 := low_val (w ++ f ++ List.replicate (p - f.length) 48) (by rw [List.append_assoc, List.all_append, hwa, hFall]; rfl)
          have h2 : (w ++ f ++ List.replicate (p - f.length) 48).length = w.length + p := by rw [List.append_assoc, List.length_append, hFlen]
          rw [h2, low_split p, hq] at h1
          have h3 := low_val w hwa
          rw [h3, List.append_assoc] at h1
          rw [List.append_assoc]
          exact List.append_cancel_left h1
        have htxt : ∃ t, txtN (val (w ++ f ++ List.replicate (p - f.length) 48)) p = u ++ t ∧ ∀ c ∈ t, c = 48 ∨ c = 46 := by
          unfold txtN
          rw [hq, dec_val hw, hlow]
          cases hp : pt
          · have hf0 := b2 hp
            rw [hp] at b1
            rw [hf0, b1]
            by_cases h0 : p = 0
            · exact ⟨[], by rw [if_pos h0]; simp, fun c hc => by cases hc⟩
            · refine ⟨46 :: List.replicate p 48, by rw [if_neg h0]; simp, fun c hc => ?_⟩
              rcases List.mem_cons.1 hc with h | h
              · exact Or.inr h
              · exact Or.inl (List.eq_of_mem_replicate h)
          · have hfr := hpf hp
            rw [hp] at b1
            have h0 : p ≠ 0 := by
              intro h0
              unfold fracB at hfr
              simp only [Bool.and_eq_true, Bool.not_eq_true', decide_eq_true_eq] at hfr
              have : f = [] := List.length_eq_zero_iff.1 (by omega)
              rw [this] at hfr
              exact absurd hfr.1.1 (by decide)
            refine ⟨List.replicate (p - f.length) 48, ?_, fun c hc => Or.inl (List.eq_of_mem_replicate hc)⟩
            rw [if_neg h0, b1]; simp
        obtain ⟨t, ht, hta⟩ := htxt
        unfold maxA at hv
        generalize hV : val (w ++ f ++ List.replicate (p - f.length) 48) = V at hv hdef ht hval
        cases hn : neg
        · rw [hn] at hl hdef
          rw [hdef]
          refine ⟨show Fx.fitB (V : Int) = true from Fx.fitB_mk (by omega) (by omega), t, ?_, hta⟩
          show fmtT (V : Int) p = _
          unfold fmtT
          rw [if_neg (by omega), Int.natAbs_natCast, ht, hl]; rfl
        · rw [hn] at hl hdef hB
          rw [hdef]
          have hpos : 0 < V := by
            rcases Nat.eq_zero_or_pos V with h0 | h0
            · exfalso
              have hwf : (w ++ f).all isD = true := by rw [List.all_append, hwa, hfa]; rfl
              have h3 : val (w ++ f) = 0 := by
                have h4 := val_app (w ++ f) (List.replicate (p - f.length) 48)
                rw [hV, h0, val_zeros, Nat.add_zero] at h4
                rcases Nat.mul_eq_zero.1 h4.symm with h5 | h5
                · exact h5
                · exact absurd h5 (Nat.ne_of_gt (Nat.pow_pos (by omega)))
              have h5 := (all48_val _ hwf).2 h3
              rw [h5] at hB; cases hB
            · exact h0
          refine ⟨show Fx.fitB (-(V : Int)) = true from Fx.fitB_mk (by omega) (by omega), t, ?_, hta⟩
          show fmtT (-(V : Int)) p = _
          unfold fmtT
          rw [if_pos (by omega), show (-(V : Int)).natAbs = V by omega, ht, hl]; rfl
      · rw [if_neg hv] at hdef; rw [hdef] at h; exact absurd h (by decide)
    · rw [hB, if_pos rfl] at hdef; rw [hdef] at h; exact absurd h (by decide)
  · rw [hA, if_pos rfl] at hdef; rw [hdef] at h; exact absurd h (by decide)

theorem txt_len (m p : Nat) (hm : m ≤ 4611686018427387904) (hp : p ≤ 9) : (txtN m p).length ≤ 30 := by
  rw [txtN_length]
  have := nd_lt20 (m := m / 10 ^ p) (Nat.lt_of_le_of_lt (Nat.div_le_self _ _) (by omega))
  split <;> omega
theorem fmtR_len (x p : Int) : (fmtR x p).1.length ≤ 31 := by
  unfold fmtR
  split
  · split
    · rename_i h hf
      have hfit := Fx.fitB_true hf
      have := txt_len x.natAbs p.toNat (by omega) (by omega)
      show (fmtT x p.toNat).length ≤ 31
      unfold fmtT
      split
      · rw [List.length_cons]; omega
      · omega
    · simp
  · simp

theorem back1 (x p : Int) (h : (fmtR x p).2 = 0) : parR (fmtR x p).1 p = (x, 0) := by
  unfold fmtR at h ⊢
  unfold parR
  by_cases hp : 0 ≤ p ∧ p ≤ 9
  · rw [if_pos hp] at h ⊢
    cases hf : Fx.fitB x
    · rw [hf] at h; exact absurd h (by simp)
    · rw [if_pos rfl, if_pos hp]
      exact parse_fmt x p.toNat hf
  · rw [if_neg hp] at h; exact absurd h (by decide)
theorem back2 (l : List UInt8) (p : Int) (h : (parR l p).2 ≠ 0) : (parR l p).1 = 0 := by
  unfold parR at h ⊢
  by_cases hp : 0 ≤ p ∧ p ≤ 9
  · rw [if_pos hp] at h ⊢; exact parse_err _ _ h
  · rw [if_neg hp]
theorem back3 (l : List UInt8) (p : Int) (h : (parR l p).2 = 0) : ∃ t, fmtR (parR l p).1 p = (l ++ t, 0) ∧ ∀ c ∈ t, c = 48 ∨ c = 46 := by
  unfold parR at h ⊢
  by_cases hp : 0 ≤ p ∧ p ≤ 9
  · rw [if_pos hp] at h ⊢
    obtain ⟨h1, t, h2, h3⟩ := fmt_parse l p.toNat h
    exact ⟨t, by unfold fmtR; rw [if_pos hp, if_pos h1, h2], h3⟩
  · rw [if_neg hp] at h; exact absurd h (by decide)

theorem idx_app (l t : List UInt8) (k : Nat) (h : k < t.length) (h' : l.length + k < (bs (l ++ t)).size) : (bs (l ++ t))[l.length + k]'h' = t[k]'h := by
  have h2 : l.length + k < (l ++ t).length := h'
  show (l ++ t)[l.length + k]'h2 = _
  rw [List.getElem_append_right (by omega)]
  congr 1
  omega
theorem fz1 (y : Int) (c : UInt8) (h : c = 48 ∨ c = 46) : c.toNat = 48 ∨ c.toNat = 46 := by rcases h with rfl | rfl; exact Or.inl rfl; exact Or.inr rfl

set_option maxRecDepth 100000 in
set_option maxHeartbeats 2000000 in
theorem back_walk (x : Int) (s : ByteArray) (p : Int) (w : World) (hs : s.size ≤ 140737488351232) (htab : Tab w) :
    Calls Tryd.prog 5 #[.int .i64 x, .string s, .int .i64 p] w fun e w' => e = .returned (.bool true) ∧ Below w.heap.size w w' := by
  have hw := wakes_any w htab
  have hF := fun w (ht : Tab w) => format_any x p w ht
  have hP1 := fun w => parse_any (fmtR x p).1 p w (by have := fmtR_len x p; omega)
  have hP2 := fun w => parse_any s.data.toList p w (by show s.size ≤ _; omega)
  have hb1 := back1 x p
  have hb2 := back2 s.data.toList p
  have hb3 := back3 s.data.toList p
  have hF2 := fun w (ht : Tab w) => format_any (parR s.data.toList p).1 p w ht
  rw [← bs_eta s] at hP2
  generalize hy : (parR s.data.toList p).1 = y at hP2 hb2 hb3 hF2
  generalize (parR s.data.toList p).2 = e2 at hP2 hb2 hb3
  have hsz : s.data.toList.length = s.size := rfl
  have hse : s = bs s.data.toList := rfl
  generalize s.data.toList = l at hb3 hsz hse
  generalize bs (fmtR x p).1 = S1 at hF hP1
  generalize (fmtR x p).2 = e1 at hF hb1
  have hlen : ∀ t, fmtR y p = (l ++ t, 0) → t.length ≤ 31 := fun t h => by
    have h2 := fmtR_len y p
    rw [h] at h2
    simp only [List.length_append] at h2
    omega
  by_cases h1 : e1 = 0
  · rw [hb1 h1] at hP1
    subst h1
    clear hb1
    by_cases h2 : e2 = 0
    · subst h2
      obtain ⟨t, ht, hta⟩ := hb3 rfl
      have htl := hlen t ht
      rw [ht] at hF2
      clear hb2 hb3 ht
      have hsl : l.length ≤ 140737488351232 := by omega
      have x1 : (bs (l ++ t)).extract 0 l.length = s := by rw [hse, bs_extract, List.drop_zero, Nat.sub_zero, List.take_left]
      have sS : (bs (l ++ t)).size = l.length + t.length := by rw [bs_size, List.length_append]
      have hidx : ∀ k (h : k < t.length) (h' : l.length + k < (bs (l ++ t)).size), ((bs (l ++ t))[l.length + k]'h') = t[k]'h := fun k h h' => idx_app l t k h h'
      generalize bs (l ++ t) = S2 at hF2 x1 sS hidx
      rw [hsz] at x1 sS hidx
      clear hse hsz hlen
      obtain ⟨n, hn⟩ : ∃ n, s.size = n := ⟨_, rfl⟩
      obtain ⟨m, hm⟩ : ∃ m, t.length = m := ⟨_, rfl⟩
      rw [hn] at x1 sS hidx hs
      have HI := Lib.hid hidx
      have HM := Lib.hid hm
      rw [hm] at sS htl
      clear hidx hm hsl
      go_enter Tryd.func5, Tryd.ntmps5
      go_upto_region 8 with (first | (go_at_call 7; refine hw.mono ?_; rintro e w1 ⟨rfl, hb1⟩) | (go_at_call 8; refine (hF _ (htab.below (by assumption))).mono ?_; rintro e w2 ⟨rfl, hb2⟩) | (go_at_call 10; refine (hP1 _).mono ?_; rintro e w3 ⟨rfl, hb3⟩))
      go_wp2_with (first | (go_at_call 10; refine (hP2 _).mono ?_; rintro e w4 ⟨rfl, hb4⟩) | (go_at_call 8; refine (hF2 _ (htab.below (below_next (below_next (below_next hb1 hb2) hb3) hb4))).mono ?_; rintro e w5 ⟨rfl, hb5⟩))
      go_loopg [12] m (fun g i wr => ∃ k j : Nat, k + g = m ∧ j = n + k ∧ i = .int .i64 (j : Int) ∧ wr = w5)
      case atStart => exact ⟨0, n, by omega, by omega, rfl, rfl⟩
      case round =>
        obtain ⟨k, j, hk, hj, rfl, rfl⟩ := hrel
        by_cases hlt : k < m
        · have hlt' : k < t.length := by rw [HM.out]; exact hlt
          have hc := fz1 y _ (hta _ (List.getElem_mem hlt'))
          have hidn : ∀ h, (S2[j]'h).toNat = (t[k]'hlt').toNat := by
            rw [hj]
            exact fun h => by rw [HI.out k hlt' h]
          have hjn : j < n + m := by omega
          have HJ := Lib.hid hj; clear hj
          generalize (t[k]'hlt').toNat = C at hc hidn
          rcases hc with rfl | rfl
          · go_wp2
            go_roundg (gk - 1)
            case measure => omega
            case rel => exact ⟨k + 1, j + 1, by omega, by have := HJ.out; omega, by go_num, rfl⟩
          · go_wp2
            go_roundg (gk - 1)
            case measure => omega
            case rel => exact ⟨k + 1, j + 1, by omega, by have := HJ.out; omega, by go_num, rfl⟩
        · have hjn : j = n + m := by omega
          clear hk hj hlt
          subst hjn
          go_wp2
          go_ret
          exact ⟨rfl, below_next (below_next (below_next (below_next hb1 hb2) hb3) hb4) hb5⟩
    · have hy0 := hb2 h2
      rw [hy0] at hP2
      have f2 : (e2 == 0) = false := beq_eq_false_iff_ne.2 h2
      clear hb2 hb3 hF2 hsz hse
      go_enter Tryd.func5, Tryd.ntmps5
      go_upto_region 8 with (first | (go_at_call 7; refine hw.mono ?_; rintro e w1 ⟨rfl, hb1⟩) | (go_at_call 8; refine (hF _ (htab.below (by assumption))).mono ?_; rintro e w2 ⟨rfl, hb2⟩) | (go_at_call 10; refine (hP1 _).mono ?_; rintro e w3 ⟨rfl, hb3⟩))
      go_wp2_with (go_at_call 10; refine (hP2 _).mono ?_; rintro e w4 ⟨rfl, hb4⟩)
      go_ret
      exact ⟨rfl, below_next (below_next (below_next hb1 hb2) hb3) hb4⟩
  · have f1 : (e1 == 0) = false := beq_eq_false_iff_ne.2 h1
    clear hb1 hP1
    by_cases h2 : e2 = 0
    · subst h2
      obtain ⟨t, ht, hta⟩ := hb3 rfl
      have htl := hlen t ht
      rw [ht] at hF2
      clear hb2 hb3 ht
      have hsl : l.length ≤ 140737488351232 := by omega
      have x1 : (bs (l ++ t)).extract 0 l.length = s := by rw [hse, bs_extract, List.drop_zero, Nat.sub_zero, List.take_left]
      have sS : (bs (l ++ t)).size = l.length + t.length := by rw [bs_size, List.length_append]
      have hidx : ∀ k (h : k < t.length) (h' : l.length + k < (bs (l ++ t)).size), ((bs (l ++ t))[l.length + k]'h') = t[k]'h := fun k h h' => idx_app l t k h h'
      generalize bs (l ++ t) = S2 at hF2 x1 sS hidx
      rw [hsz] at x1 sS hidx
      clear hse hsz hlen
      obtain ⟨n, hn⟩ : ∃ n, s.size = n := ⟨_, rfl⟩
      obtain ⟨m, hm⟩ : ∃ m, t.length = m := ⟨_, rfl⟩
      rw [hn] at x1 sS hidx hs
      have HI := Lib.hid hidx
      have HM := Lib.hid hm
      rw [hm] at sS htl
      clear hidx hm hsl
      go_enter Tryd.func5, Tryd.ntmps5
      go_upto_region 8 with (first | (go_at_call 7; refine hw.mono ?_; rintro e w1 ⟨rfl, hb1⟩) | (go_at_call 8; refine (hF _ (htab.below (by assumption))).mono ?_; rintro e w2 ⟨rfl, hb2⟩))
      go_wp2_with (first | (go_at_call 10; refine (hP2 _).mono ?_; rintro e w4 ⟨rfl, hb4⟩) | (go_at_call 8; refine (hF2 _ (htab.below (below_next (below_next hb1 hb2) hb4))).mono ?_; rintro e w5 ⟨rfl, hb5⟩))
      go_loopg [12] m (fun g i wr => ∃ k j : Nat, k + g = m ∧ j = n + k ∧ i = .int .i64 (j : Int) ∧ wr = w5)
      case atStart => exact ⟨0, n, by omega, by omega, rfl, rfl⟩
      case round =>
        obtain ⟨k, j, hk, hj, rfl, rfl⟩ := hrel
        by_cases hlt : k < m
        · have hlt' : k < t.length := by rw [HM.out]; exact hlt
          have hc := fz1 y _ (hta _ (List.getElem_mem hlt'))
          have hidn : ∀ h, (S2[j]'h).toNat = (t[k]'hlt').toNat := by
            rw [hj]
            exact fun h => by rw [HI.out k hlt' h]
          have hjn : j < n + m := by omega
          have HJ := Lib.hid hj; clear hj
          generalize (t[k]'hlt').toNat = C at hc hidn
          rcases hc with rfl | rfl
          · go_wp2
            go_roundg (gk - 1)
            case measure => omega
            case rel => exact ⟨k + 1, j + 1, by omega, by have := HJ.out; omega, by go_num, rfl⟩
          · go_wp2
            go_roundg (gk - 1)
            case measure => omega
            case rel => exact ⟨k + 1, j + 1, by omega, by have := HJ.out; omega, by go_num, rfl⟩
        · have hjn : j = n + m := by omega
          clear hk hj hlt
          subst hjn
          go_wp2
          go_ret
          exact ⟨rfl, below_next (below_next (below_next hb1 hb2) hb4) hb5⟩
    · have hy0 := hb2 h2
      rw [hy0] at hP2
      have f2 : (e2 == 0) = false := beq_eq_false_iff_ne.2 h2
      clear hb2 hb3 hF2 hsz hse
      go_enter Tryd.func5, Tryd.ntmps5
      go_upto_region 8 with (first | (go_at_call 7; refine hw.mono ?_; rintro e w1 ⟨rfl, hb1⟩) | (go_at_call 8; refine (hF _ (htab.below (by assumption))).mono ?_; rintro e w2 ⟨rfl, hb2⟩))
      go_wp2_with (go_at_call 10; refine (hP2 _).mono ?_; rintro e w4 ⟨rfl, hb4⟩)
      go_ret
      exact ⟨rfl, below_next (below_next hb1 hb2) hb4⟩
end Go.Proofs.YtdapcmokibkokaaDoor.Dx

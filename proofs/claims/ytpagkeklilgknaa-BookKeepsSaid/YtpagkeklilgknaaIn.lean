/-
  Layer 13: orders: the reference's Find, Drop, Cut and Selling.
-/
import Derived.Test.YtpagkeklilgknaaIm
namespace Go.Proofs.Ytpagkeklilgknaa.Bo
open Go.RowKit Rw
set_option linter.unusedVariables false
set_option linter.unusedSimpArgs false

set_option maxRecDepth 100000 in
set_option maxHeartbeats 4000000 in
theorem rfind_any (a : Option Addr) (len cap : Nat) (X L R : List Od) (o : Option Od) (c d : Int) (w : World) (h : Has enco w a X) (hl : X.length = len) (hd : Dec keyo X (c, d) L o R) :
    Calls Try.prog 25 #[.slice a len cap, .int .i64 c, .int .i64 d] w fun e w' => e = .returned (.int .i64 (findI L o)) ∧ Below w.heap.size w w' := by
  have hm := h.1
  rw [hl] at hm
  have H := Lib.hid h; have HL := Lib.hid hl
  have HEQ : Hid (∀ j, j < len → j ≤ L.length → (o.isSome = true → (j = L.length → (X.getD j zo).acct = c ∧ (X.getD j zo).id = d)) ∧ ((o.isSome = true ∧ j = L.length) ∨ (X.getD j zo).acct ≠ c ∨ (X.getD j zo).id ≠ d)) := Lib.hid fun j h1 h2 => by
    refine ⟨fun h3 h4 => ?_, ?_⟩
    · subst h4
      cases o with
      | none => cases h3
      | some y =>
        obtain ⟨e1, e2, e3⟩ := hd.at_key (d := zo)
        rw [e1]
        exact ⟨e2, e3⟩
    · rcases Nat.lt_or_ge j L.length with h3 | h3
      · have : (X.getD j zo).acct < c ∨ ((X.getD j zo).acct = c ∧ (X.getD j zo).id < d) := hd.lt_lo (d := zo) h3
        exact .inr (by omega)
      · cases o with
        | some y => exact .inl ⟨rfl, by omega⟩
        | none =>
          have : c < (X.getD j zo).acct ∨ (c = (X.getD j zo).acct ∧ d < (X.getD j zo).id) := hd.lt_hi (d := zo) h3 (by rw [hl]; exact h1)
          exact .inr (by omega)
  have HHI : Hid (∀ j, j < len → L.length < j → (X.getD j zo).acct ≠ c ∨ (X.getD j zo).id ≠ d) := Lib.hid fun j h1 h2 => by
    have : c < (X.getD j zo).acct ∨ (c = (X.getD j zo).acct ∧ d < (X.getD j zo).id) := hd.lt_hi (d := zo) (by cases o <;> simp <;> omega) (by rw [hl]; exact h1)
    omega
  have HLT : Hid (o.isSome = true → L.length < len) := Lib.hid fun h1 => by rw [← hl]; exact hd.isSome_lt h1
  obtain ⟨FI, hFI⟩ : ∃ FI, FI = findI L o := ⟨_, rfl⟩
  have HFI : Hid (FI = if o.isSome then (L.length : Int) else -1) := Lib.hid hFI
  rw [← hFI]
  clear h hl hd hFI
  generalize o.isSome = B at *
  generalize L.length = P at *
  go_enter Try.func25, Try.ntmps25
  go_wp2
  go_loopg [11] len (fun m i wr => ∃ k : Nat, k + m = len ∧ i = .int .i64 (k : Int) ∧ Hid (B = true → k ≤ P) ∧ Hid (Below w.heap.size w wr))
  case atStart => exact ⟨0, by omega, rfl, Lib.hid (fun _ => Nat.zero_le _), Lib.hid (Below.refl _ _)⟩
  case round =>
    obtain ⟨k, hk, rfl, HK, HB⟩ := hrel
    by_cases hlt : k < len
    · obtain ⟨b, off, rfl, c0, c1, c2, c3, c4⟩ := ato (H.out.keep HB.out) (show k < X.length by rw [HL.out]; exact hlt)
      have hcase : Hid ((B = true ∧ k = P ∧ (X.getD k zo).acct = c ∧ (X.getD k zo).id = d) ∨ ((B = true → k + 1 ≤ P) ∧ ((X.getD k zo).acct ≠ c ∨ (X.getD k zo).id ≠ d))) := Lib.hid (by
        rcases Nat.lt_or_ge P k with h1 | h1
        · exact .inr ⟨fun h2 => by have := HK.out h2; omega, HHI.out k hlt h1⟩
        · obtain ⟨h2, h3⟩ := HEQ.out k hlt h1
          rcases h3 with ⟨h3, h4⟩ | h3
          · exact .inl ⟨h3, h4, h2 h3 h4⟩
          · by_cases h5 : B = true ∧ k = P
            · obtain ⟨e1, e2⟩ := h2 h5.1 h5.2
              omega
            · exact .inr ⟨fun h6 => by have : k ≠ P := fun e => h5 ⟨h6, e⟩; omega, h3⟩)
      generalize X.getD k zo = x at *
      have i1 : (0 : Int) ≤ (k : Int) := by omega
      have i2 : (k : Int) < (len : Int) := by omega
      obtain ⟨g, hg⟩ : ∃ g, g = wr.heap.size := ⟨_, rfl⟩
      obtain ⟨W1, hW1⟩ : ∃ W1, W1 = wr.alloc (.cells #[.int .i64 x.acct, .int .i64 x.id, .int .i64 x.instr, .int .i64 x.qty, .int .i64 x.price] 37) := ⟨_, rfl⟩
      have x0 : Blk W1 g #[.int .i64 x.acct, .int .i64 x.id, .int .i64 x.instr, .int .i64 x.qty, .int .i64 x.price] 37 := by rw [hW1, hg]; exact Blk.new wr _ _
      have hb1 : Below wr.heap.size wr W1 := by rw [hW1]; exact one_alloc _ _
      have HB1 := Lib.hid (below_next HB.out hb1); have HG := Lib.hid hg; have HW1 := Lib.hid hW1
      have d0 : W1.cell? ⟨g, 0, none⟩ = some (.int .i64 x.acct) := x0.cell 0
      have d1 : W1.cell? ⟨g, 1, none⟩ = some (.int .i64 x.id) := x0.cell 1
      clear hg hW1 hb1 x0
      go_upto_region 4 with (fail)
      rw [← HG.out, ← HW1.out]
      clear HEQ HHI HLT
      rcases hcase.out with ⟨h1, h2, e1, e2⟩ | ⟨h1, h2⟩
      · have b1 : (x.acct == c) = true := beq_iff_eq.2 e1
        have b2 : (x.id == d) = true := beq_iff_eq.2 e2
        have HE : Hid (FI = (k : Int)) := Lib.hid (by rw [HFI.out, if_pos h1, h2])
        clear hcase e1 e2 h1 h2
        go_wp2
        go_ret
        exact ⟨by rw [HE.out] <;> rfl, HB1.out⟩
      · by_cases e1 : x.acct = c
        · have b1 : (x.acct == c) = true := beq_iff_eq.2 e1
          have b2 : (x.id == d) = false := beq_eq_false_iff_ne.2 (by omega)
          have HK2 := Lib.hid h1
          clear hcase h1 h2 e1
          go_wp2
          go_roundg (len - (k + 1))
          case measure => omega
          case rel => exact ⟨k + 1, by omega, by go_num, HK2, HB1⟩
        · have b1 : (x.acct == c) = false := beq_eq_false_iff_ne.2 e1
          have HK2 := Lib.hid h1
          clear hcase h1 h2 e1
          go_wp2
          go_roundg (len - (k + 1))
          case measure => omega
          case rel => exact ⟨k + 1, by omega, by go_num, HK2, HB1⟩
    · have HE : Hid (FI = -1) := Lib.hid (by
        rw [HFI.out]
        cases hB : B with
        | false => rfl
        | true => have h1 := HK.out hB; have h2 := HLT.out hB; omega)
      go_wp2
      go_ret
      exact ⟨by rw [HE.out] <;> rfl, HB.out⟩
theorem made_o (w : World) : Own enco (w.alloc (.cells #[] 37)) w.heap.size (.slice (some ⟨w.heap.size, 0, none⟩) 0 0) [] := Own.made w _ (Nat.le_refl _)
theorem made_drew_o (w : World) : Own enco (w.alloc (.cells #[] 37)).drew w.heap.size (.slice (some ⟨w.heap.size, 0, none⟩) 0 0) [] := Own.made w _ (Nat.le_refl _)
set_option maxRecDepth 100000 in
set_option maxHeartbeats 4000000 in
theorem rdrop_any (a : Option Addr) (len cap : Nat) (X L R : List Od) (o : Option Od) (c d : Int) (w : World) (h : Has enco w a X) (hl : X.length = len) (hlc : len ≤ cap) (hm : len ≤ 900) (hcm : cap ≤ 9223372036854775807) (hd : Dec keyo X (c, d) L o R) :
    Calls Try.prog 31 #[.slice a len cap, .int .i64 c, .int .i64 d] w (DropIt L o R w) := by
  unfold DropIt
  have hp := rfind_any a len cap X L R o c d w h hl hd
  cases o with
  | none =>
    have HE : Hid (dropE none = 34) := Lib.hid rfl
    have HL : Hid (dropL L none R = []) := Lib.hid rfl
    have HF : Hid (findI L none = -1) := Lib.hid rfl
    rw [HE.out, HL.out]
    rw [HF.out] at hp
    clear h hl hd
    go_enter Try.func31, Try.ntmps31
    go_wp2_with (go_at_call 25; (with_reducible refine hp.mono ?_); rintro e w5 ⟨rfl, hb5⟩)
    go_ret2
    exact ⟨_, rfl, Own.nil _ _, hb5⟩
  | some y =>
    have HE : Hid (dropE (some y) = 0) := Lib.hid rfl
    have HL : Hid (dropL L (some y) R = L ++ R) := Lib.hid rfl
    have HF : Hid (findI L (some y) = (L.length : Int)) := Lib.hid rfl
    rw [HE.out, HL.out]
    rw [HF.out] at hp
    have hX : X = L ++ (y :: R) := hd.eq
    rw [hX] at h hl
    have h2 : 0 < (L ++ (y :: R)).length := by rw [List.length_append, List.length_cons]; omega
    cases a with
    | none => obtain ⟨g, o, e, _⟩ := h.2 h2; cases e
    | some ad =>
      obtain ⟨b, off, rfl⟩ := plain_o h h2
      obtain ⟨k, hk⟩ : ∃ k, L.length = k := ⟨_, rfl⟩
      rw [hk] at hp
      obtain ⟨AR, hAR⟩ : ∃ AR : Addr, (if cap = k + 1 then some (⟨b, off, none⟩ : Addr) else some ⟨b, off + (k + 1) * 5, none⟩) = some AR := by split <;> exact ⟨_, rfl⟩
      have e2 : L ++ (y :: R) = (L ++ [y]) ++ R := by simp
      have hkl : k + 1 ≤ len := by rw [← hl, e2, List.length_append, List.length_append, hk]; simp
      have hlr : R.length = len - (k + 1) := by rw [e2, List.length_append, List.length_append, hk] at hl; simp at hl; omega
      have HH : Hid (∀ wx, Below w.heap.size w wx → Has enco wx (some ⟨b, off, none⟩) L ∧ Has enco wx (some AR) R) := Lib.hid fun wx hb => by
        have h3 := h.keep hb
        exact ⟨h3.left, tail_o (L := L ++ [y]) (k := k + 1) (by rw [← e2]; exact h3) (by simp; omega) (by rw [← e2]; exact hl) hlc hAR⟩
      have HK := Lib.hid hk; have HLR := Lib.hid hlr
      have i0 : (0 : Int) ≤ (k : Int) := by omega
      have i1 : (k : Int) ≤ (len : Int) := by omega
      have i2 : (k : Int) ≤ (cap : Int) := by omega
      have i3 : (len : Int) ≤ (cap : Int) := by omega
      have i4 : (0 : Int) ≤ (k : Int) + 1 := by omega
      have i5 : (k : Int) + 1 ≤ (len : Int) := by omega
      have i6 : IntKind.i64.wrap ((k : Int) + 1) = (k : Int) + 1 := IntWalk.i64_in _ (by omega)
      have i7 : ((k : Int) + 1).toNat = k + 1 := by omega
      clear h hk e2 hlr h2 hl hX hd
      go_enter Try.func31, Try.ntmps31
      go_upto_region 4 with (go_at_call 25; (with_reducible refine hp.mono ?_); rintro e w5 ⟨rfl, hb5⟩; have HB5 := Lib.hid hb5; clear hb5)
      go_region_held3 (fun wx => True)
        (exact trivial)
        (first
          | (refine step_ap oko (by rfl) (.tmp 15) (.tmp 18) (by rfl) w5.heap.size (.slice (some ⟨w5.heap.size, 0, none⟩) 0 0) [] (by rfl) (by first | exact made_o _ | exact made_drew_o _) (some ⟨b, off, none⟩) k cap L (by rfl) (HH.out _ (by first | exact below_next HB5.out (one_alloc _ _) | exact below_next HB5.out (one_alloc _ _).drew)).1 HK.out (fun h => by cases h) (by simp [maxLen]; omega) (by simp [enco]; omega) (by simp) ?_; intro v6 w6 ho6 hb6 hg6 hv6; have HO6 := Lib.hid ho6; have HB6 := Lib.hid (((show Below w5.heap.size w5 (w5.alloc (.cells #[] 37)).drew from (one_alloc _ _).drew)).trans hb6); clear ho6 hb6 hg6 hv6)
          | (refine step_ap oko (by rfl) (.tmp 19) (.tmp 23) (by rfl) w5.heap.size _ ([] ++ L) (by rfl) HO6.out (some AR) (len - (k + 1)) (cap - (k + 1)) R (by rfl) (HH.out _ (below_next HB5.out HB6.out)).2 HLR.out (fun h => by cases h) (by have := HK.out; simp [maxLen]; omega) (by have := HK.out; simp [enco]; omega) HB6.out.size ?_; intro v7 w7 ho7 hb7 hg7 hv7; have HO7 := Lib.hid ho7; have HB7 := Lib.hid (HB6.out.trans hb7); clear ho7 hb7 hg7 hv7)
          | fail)
      go_wp2
      go_ret2
      exact ⟨_, rfl, by have := HO7.out; rw [List.nil_append] at this; exact this.low HB5.out.size, below_next HB5.out HB7.out⟩
set_option maxRecDepth 100000 in
set_option maxHeartbeats 8000000 in
theorem rselling_any (a : Option Addr) (len cap : Nat) (X : List Od) (c i : Int) (w : World) (h : Has enco w a X) (hl : X.length = len) (hm : len ≤ 900) (hq : ∀ x ∈ X, qtyB x.qty = true) :
    Calls Try.prog 27 #[.slice a len cap, .int .i64 c, .int .i64 i] w fun e w' => e = .returned (.int .i64 (sellS c i X)) ∧ Below w.heap.size w w' := by
  have H := Lib.hid h; have HL := Lib.hid hl; have HQ := Lib.hid hq
  have HT : Hid (∀ k, 0 ≤ sellS c i (X.take k) ∧ sellS c i (X.take k) ≤ 900000000000) := Lib.hid fun k => by
    have h1 := sellS_bd c i (X.take k) fun x hx => hq x (List.mem_of_mem_take hx)
    have : (X.take k).length ≤ 900 := by rw [List.length_take]; omega
    omega
  clear h hl hq
  go_enter Try.func27, Try.ntmps27
  go_wp2
  go_loopg [7, 12] len (fun m s j wr => ∃ k : Nat, k + m = len ∧ s = .int .i64 (sellS c i (X.take k)) ∧ j = .int .i64 (k : Int) ∧ Hid (Below w.heap.size w wr))
  case atStart => exact ⟨0, by omega, rfl, rfl, Lib.hid (Below.refl _ _)⟩
  case round =>
    obtain ⟨k, hk, rfl, rfl, HB⟩ := hrel
    by_cases hlt : k < len
    · obtain ⟨b, off, rfl, c0, c1, c2, c3, c4⟩ := ato (H.out.keep HB.out) (show k < X.length by rw [HL.out]; exact hlt)
      have HS : Hid (sellS c i (X.take (k + 1)) = sellS c i (X.take k) + sell1 c i (X.getD k zo)) := Lib.hid (sellS_take (by rw [HL.out]; exact hlt))
      have t1 := HT.out k
      have hqx : qtyB (X.getD k zo).qty = true := HQ.out _ (by
        rw [List.getD_eq_getElem?_getD, List.getElem?_eq_getElem (show k < X.length by rw [HL.out]; exact hlt)]
        exact List.getElem_mem _)
      generalize X.getD k zo = x at *
      generalize sellS c i (X.take k) = T at *
      obtain ⟨x1, x2⟩ := qtyB_iff.1 hqx
      obtain ⟨s1, s2⟩ := absS_bd hqx
      have HA := Lib.hid fun w => rabs_any x.qty w hqx
      obtain ⟨g, hg⟩ : ∃ g, g = wr.heap.size := ⟨_, rfl⟩
      obtain ⟨W1, hW1⟩ : ∃ W1, W1 = wr.alloc (.cells #[.int .i64 x.acct, .int .i64 x.id, .int .i64 x.instr, .int .i64 x.qty, .int .i64 x.price] 37) := ⟨_, rfl⟩
      have x0 : Blk W1 g #[.int .i64 x.acct, .int .i64 x.id, .int .i64 x.instr, .int .i64 x.qty, .int .i64 x.price] 37 := by rw [hW1, hg]; exact Blk.new wr _ _
      have hb1 : Below wr.heap.size wr W1 := by rw [hW1]; exact one_alloc _ _
      have HB1 := Lib.hid (below_next HB.out hb1); have HG := Lib.hid hg; have HW1 := Lib.hid hW1
      have d0 : W1.cell? ⟨g, 0, none⟩ = some (.int .i64 x.acct) := x0.cell 0
      have d2 : W1.cell? ⟨g, 2, none⟩ = some (.int .i64 x.instr) := x0.cell 2
      have d3 : W1.cell? ⟨g, 3, none⟩ = some (.int .i64 x.qty) := x0.cell 3
      clear hg hW1 hb1 hqx x0
      have i1 : (0 : Int) ≤ (k : Int) := by omega
      have i2 : (k : Int) < (len : Int) := by omega
      go_upto_region 5 with (fail)
      rw [← HG.out, ← HW1.out]
      by_cases e1 : x.acct = c
      rotate_left
      · have b1 : (x.acct == c) = false := beq_eq_false_iff_ne.2 e1
        have HE : Hid (sell1 c i x = 0) := Lib.hid (by simp [sell1, e1])
        clear e1
        go_wp2
        go_roundg (len - (k + 1))
        case measure => omega
        case rel => exact ⟨k + 1, by omega, by rw [HS.out, HE.out, Int.add_zero], by go_num, HB1⟩
      have b1 : (x.acct == c) = true := beq_iff_eq.2 e1
      by_cases e2 : x.instr = i
      rotate_left
      · have b2 : (x.instr == i) = false := beq_eq_false_iff_ne.2 e2
        have HE : Hid (sell1 c i x = 0) := Lib.hid (by simp [sell1, e2])
        clear e1 e2
        go_wp2
        go_roundg (len - (k + 1))
        case measure => omega
        case rel => exact ⟨k + 1, by omega, by rw [HS.out, HE.out, Int.add_zero], by go_num, HB1⟩
      have b2 : (x.instr == i) = true := beq_iff_eq.2 e2
      by_cases e3 : x.qty < 0
      · have HE : Hid (sell1 c i x = absS x.qty) := Lib.hid (by simp [sell1, absS, e1, e2, e3])
        have iw : IntKind.i64.wrap (T + absS x.qty) = T + absS x.qty := IntWalk.i64_in _ (by omega)
        generalize absS x.qty = S at *
        clear e1 e2
        go_wp2_with (go_at_call 46; (with_reducible refine (HA.out _).mono ?_); rintro e w5 ⟨rfl, rfl⟩)
        go_roundg (len - (k + 1))
        case measure => omega
        case rel => exact ⟨k + 1, by omega, by rw [HS.out, HE.out], by go_num, HB1⟩
      · have HE : Hid (sell1 c i x = 0) := Lib.hid (by simp [sell1, e3])
        clear e1 e2
        go_wp2
        go_roundg (len - (k + 1))
        case measure => omega
        case rel => exact ⟨k + 1, by omega, by rw [HS.out, HE.out, Int.add_zero], by go_num, HB1⟩
    · have HE : Hid (X.take k = X) := Lib.hid (List.take_of_length_le (by rw [HL.out]; omega))
      go_wp2
      go_ret
      exact ⟨by rw [HE.out] <;> rfl, HB.out⟩
end Go.Proofs.Ytpagkeklilgknaa.Bo

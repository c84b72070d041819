/-
  Layer 10: the program's found and Below; slices.Clone, Index and Contains of integers.
-/
import Derived.Test.YtnhaoalndlgakaaPc
import Derived.Lib.SliceRun
namespace Go.Proofs.Ytnhaoalndlgakaa.Tr
open Go.RowKit
set_option linter.unusedVariables false
set_option linter.unusedSimpArgs false

theorem found_any (a : Option Addr) (len cap : Nat) (z : List Int) (v : Int) (w : World) (h : HasZ w a z) (hl : z.length = len) :
    Calls Try.prog 18 #[.slice a len cap, .int .i64 v] w fun e w' => e = .returned (.bool (foundB z v)) ∧ Below w.heap.size w w' := by
  have hc := check_any a len cap z w h hl
  have HF : Hid (foundB z v = (decide ((checkS z).2 = 0) && decide (0 ≤ v) && decide (v < (len : Int)))) := Lib.hid (by rw [← hl]; rfl)
  clear h hl
  generalize (checkS z).1 = x at *
  generalize (checkS z).2 = E at *
  by_cases h0 : E = 0
  · subst h0
    by_cases h1 : 0 ≤ v
    · have HF2 : Hid (foundB z v = decide (v < (len : Int))) := Lib.hid (by rw [HF.out]; simp [h1])
      go_enter Try.func18, Try.ntmps18
      go_wp2_with (go_at_call 8; refine hc.mono ?_; rintro e w1 ⟨rfl, hb⟩)
      go_ret
      exact ⟨by rw [HF2.out] <;> rfl, hb⟩
    · have HF2 : Hid (foundB z v = false) := Lib.hid (by rw [HF.out]; simp [h1])
      go_enter Try.func18, Try.ntmps18
      go_wp2_with (go_at_call 8; refine hc.mono ?_; rintro e w1 ⟨rfl, hb⟩)
      go_ret
      exact ⟨by rw [HF2.out] <;> rfl, hb⟩
  · have HF2 : Hid (foundB z v = false) := Lib.hid (by rw [HF.out]; simp [h0])
    have b0 : (E == 0) = false := beq_eq_false_iff_ne.2 h0
    go_enter Try.func18, Try.ntmps18
    go_wp2_with (go_at_call 8; refine hc.mono ?_; rintro e w1 ⟨rfl, hb⟩)
    go_ret
    exact ⟨by rw [HF2.out] <;> rfl, hb⟩

/-! ### slices.Clone -/
set_option maxRecDepth 100000 in
set_option maxHeartbeats 1000000 in
theorem clone_any (a : Option Addr) (len cap : Nat) (z : List Int) (w : World) (h : HasZ w a z) (hl : z.length = len) (hn : a = none → cap = 0) (hm : len ≤ 17592186044416) :
    Calls Try.prog 20 #[.slice a len cap] w fun e w' => ∃ v, e = .returned v ∧ OwnN w' w.heap.size v z ∧ Below w.heap.size w w' := by
  cases a with
  | none =>
    have hb : z = [] := by
      rcases Nat.eq_zero_or_pos z.length with h0 | h0
      · exact List.eq_nil_of_length_eq_zero h0
      · obtain ⟨g, o, e, _⟩ := h.at h0; cases e
    subst hb
    have h0 := hn rfl
    simp at hl
    subst hl h0
    clear h hn
    have qn := fun w => Lib.run_eql_slice_nil (P := Try.prog) w 22 3 none 0 0 0 0 Try.underlying22
    go_enter Try.func20, Try.ntmps20
    go_wp2
    go_ret
    exact ⟨_, rfl, own_none _ _, Below.refl _ _⟩
  | some ad =>
    have hb1 : Below w.heap.size w (w.alloc (.cells #[] 3)) := (Below.refl _ _).alloc (Nat.le_refl _) _
    have HLIT := Lib.hid (own_made w w.heap.size (Nat.le_refl _))
    have HB1 := Lib.hid hb1; have H := Lib.hid h; have HL := Lib.hid hl
    clear hb1 h hl hn
    have qn := fun w => Lib.run_eql_slice_nil (P := Try.prog) w 22 3 (some ad) len cap 0 0 Try.underlying22
    go_enter Try.func20, Try.ntmps20
    go_wp2_with (at_builtin; refine wp_apn rfl (.tmp 5) (.tmp 6) rfl w.heap.size _ [] rfl HLIT.out _ _ _ z rfl (H.out.keep HB1.out) HL.out (fun h => by cases h) (by simp; omega) HB1.out.size ?_; intro v5 w5 ho5 hb5 hg5; have HO5 := Lib.hid ho5; have HB5 := Lib.hid (HB1.out.trans hb5); clear ho5 hg5 hb5)
    go_ret
    exact ⟨_, rfl, HO5.out, HB5.out⟩

/-! ### slices.Index, slices.Contains -/
theorem par_mem {z : List Int} {j : Nat} (h : j < z.length) : par z j ∈ z := by
  unfold par
  rw [List.getD_eq_getElem?_getD, List.getElem?_eq_getElem h]
  exact List.getElem_mem h
theorem mem_par {z : List Int} {x : Int} (h : x ∈ z) : ∃ j, j < z.length ∧ par z j = x := by
  obtain ⟨j, hj, e⟩ := List.getElem_of_mem h
  refine ⟨j, hj, ?_⟩
  unfold par
  rw [List.getD_eq_getElem?_getD, List.getElem?_eq_getElem hj, ← e]; rfl
set_option maxRecDepth 100000 in
set_option maxHeartbeats 1000000 in
theorem index_any (a : Option Addr) (len cap : Nat) (z : List Int) (v : Int) (w : World) (h : HasZ w a z) (hl : z.length = len) :
    Calls Try.prog 24 #[.slice a len cap, .int .i64 v] w fun e w' => ∃ r : Int, e = .returned (.int .i64 r) ∧ decide (0 ≤ r) = decide (v ∈ z) ∧ w = w' := by
  have hm := h.2.1
  rw [hl] at hm
  have H := Lib.hid h; have HL := Lib.hid hl
  clear h hl
  go_enter Try.func24, Try.ntmps24
  go_wp2
  go_loopg [8] len (fun m i wr => ∃ k : Nat, k + m = len ∧ i = .int .i64 (k : Int) ∧ Hid (∀ j, j < k → par z j ≠ v) ∧ w = wr)
  case atStart => exact ⟨0, by omega, rfl, Lib.hid fun j hj => absurd hj (Nat.not_lt_zero _), rfl⟩
  case round =>
    obtain ⟨k, hk, rfl, HA, rfl⟩ := hrel
    by_cases hlt : k < len
    · obtain ⟨b, off, rfl, c0⟩ := H.out.at (show k < z.length by rw [HL.out]; exact hlt)
      by_cases hq : par z k = v
      · have HE : Hid (decide (v ∈ z) = true) := Lib.hid (decide_eq_true (by rw [← hq]; exact par_mem (by rw [HL.out]; exact hlt)))
        rw [hq] at c0
        clear hq
        go_wp2
        go_ret
        exact ⟨_, rfl, by rw [HE.out]; simp, rfl⟩
      · have HA2 : Hid (∀ j, j < k + 1 → par z j ≠ v) := Lib.hid fun j hj => by
          rcases Nat.lt_or_ge j k with h | h
          · exact HA.out j h
          · obtain rfl : j = k := by omega
            exact hq
        have b0 : (v == par z k) = false := beq_eq_false_iff_ne.2 (fun e => hq e.symm)
        generalize par z k = x at *
        clear hq
        go_wp2
        go_roundg (len - (k + 1))
        case measure => omega
        case rel => exact ⟨k + 1, by omega, by go_num, HA2, rfl⟩
    · have HE : Hid (decide (v ∈ z) = false) := Lib.hid (decide_eq_false fun hv => by
        obtain ⟨j, hj, e⟩ := mem_par hv
        exact HA.out j (by rw [HL.out] at hj; omega) e)
      go_wp2
      go_ret
      exact ⟨_, rfl, by rw [HE.out]; rfl, rfl⟩
theorem contains_any (a : Option Addr) (len cap : Nat) (z : List Int) (v : Int) (w : World) (h : HasZ w a z) (hl : z.length = len) :
    Calls Try.prog 22 #[.slice a len cap, .int .i64 v] w fun e w' => e = .returned (.bool (decide (v ∈ z))) ∧ w = w' := by
  have hi := index_any a len cap z v w h hl
  clear h hl
  go_enter Try.func22, Try.ntmps22
  go_wp2_with (go_at_call 24; refine hi.mono ?_; rintro e w1 ⟨r, rfl, hr, rfl⟩; have HR := Lib.hid hr; clear hr)
  go_ret
  exact ⟨by rw [← HR.out] <;> rfl, rfl⟩

/-! ### Below -/
theorem own_one (w : World) (n : Int) (base : Nat) (hb : base ≤ w.heap.size) : OwnN (w.alloc (.cells #[.int .i64 n] 3)) base (.slice (some ⟨w.heap.size, 0, none⟩) 1 1) [n] :=
  ⟨rfl, .inr ⟨w.heap.size, 1, _, rfl, hb, (MapKept.heap_alloc w _).1, Nat.le_refl _, by decide, rfl, rfl⟩⟩
def BelowIt (z : List Int) (v : Int) (w : World) (e : Ending) (w' : World) : Prop := ∃ u, e = .returned u ∧ OwnN w' w.heap.size u (belowS z v) ∧ Below w.heap.size w w'
set_option maxRecDepth 100000 in
set_option maxHeartbeats 2000000 in
theorem below_any (a : Option Addr) (len cap : Nat) (z : List Int) (v : Int) (w : World) (h : HasZ w a z) (hl : z.length = len) :
    Calls Try.prog 15 #[.slice a len cap, .int .i64 v] w (BelowIt z v w) := by
  unfold BelowIt
  have hf := found_any a len cap z v w h hl
  cases hfb : foundB z v with
  | false =>
    have HE := Lib.hid (below_no hfb)
    rw [hfb] at hf
    clear h hl hfb
    go_enter Try.func15, Try.ntmps15
    go_wp2_with (go_at_call 18; refine hf.mono ?_; rintro e w1 ⟨rfl, hb⟩)
    go_ret
    exact ⟨_, rfl, by rw [HE.out]; exact own_none _ _, hb⟩
  | true =>
    rw [hfb] at hf
    obtain ⟨n, rfl, hnl, h16, h2, hg⟩ := found_nat hfb
    rw [hl] at hnl h16
    have HE := Lib.hid (below_yes hfb)
    have HG := Lib.hid hg.dn; have H := Lib.hid h; have HL := Lib.hid hl
    clear h hl hfb hg h2
    go_enter Try.func15, Try.ntmps15
    go_wp2_with (go_at_call 18; refine hf.mono ?_; rintro e w1 ⟨rfl, hb⟩; have HB := Lib.hid hb; have HO := Lib.hid (own_one w1 n w.heap.size hb.size); clear hb hf)
    go_loopg [5, 6] (len - (n + 1)) (fun m x i wr => ∃ k : Nat, k + m = len ∧ n < k ∧ i = .int .i64 (k : Int) ∧ Hid (OwnN wr w.heap.size x (belN z n k)) ∧ Hid (Below w.heap.size w wr))
    case atStart => exact ⟨n + 1, by omega, by omega, by go_num, by rw [bel_first (HG.out.less (by rw [HL.out]; omega))]; exact HO, Lib.hid (HB.out.alloc HB.out.size _)⟩
    case round =>
      obtain ⟨k, hk, hnk, rfl, HX, HW⟩ := hrel
      by_cases hlt : k < len
      · obtain ⟨b, off, rfl, c0⟩ := (H.out.keep HW.out).at (show k < z.length by rw [HL.out]; exact hlt)
        obtain ⟨a2, cap2, rfl, hx2, hn2, hc2, _⟩ := HX.out.has
        have hcn := contains_any a2 _ cap2 (belN z n k) (par z k) wr hx2 rfl
        have hlen := bel_len z n k
        have hnx := bel_next hnk (HG.out.less (show k + 1 ≤ z.length by rw [HL.out]; omega))
        by_cases hq : (n : Int) ∈ pth z k
        · have HS : Hid (belN z n (k + 1) = belN z n k ++ [(k : Int)]) := Lib.hid (by rw [bel_succ, if_pos hq])
          rw [decide_eq_true (hnx.1 hq)] at hcn
          generalize par z k = x at *
          generalize belN z n k = L at *
          have HC := Lib.hid hcn
          clear hq hnx hcn
          go_wp2_with (first | (go_at_call 22; refine HC.out.mono ?_; rintro e w2 ⟨rfl, rfl⟩) | (at_builtin; (refine wp_apn rfl (.tmp 27) (.tmp 29) rfl w.heap.size _ L rfl (HX.out.keep (one_alloc _ _)) _ _ _ [(k : Int)] rfl (lit_one wr (k : Int) _ _ rfl) rfl (fun h => by cases h) (by omega) (by rw [World.size_alloc]; have := HW.out.size; omega) ?_; intro v5 w5 ho5 hb5 hg5; have HO5 := Lib.hid ho5; have HB5 := Lib.hid ((HW.out.alloc HW.out.size _).trans hb5); clear ho5 hg5 hb5)))
          go_roundg (len - (k + 1))
          case measure => omega
          case rel => exact ⟨k + 1, by omega, by omega, by go_num, by rw [HS.out]; exact HO5, HB5⟩
        · have HS : Hid (belN z n (k + 1) = belN z n k) := Lib.hid (by rw [bel_succ, if_neg hq])
          rw [decide_eq_false (fun e => hq (hnx.2 e))] at hcn
          generalize par z k = x at *
          generalize belN z n k = L at *
          have HC := Lib.hid hcn
          clear hq hnx hcn
          go_wp2_with (go_at_call 22; refine HC.out.mono ?_; rintro e w2 ⟨rfl, rfl⟩)
          go_roundg (len - (k + 1))
          case measure => omega
          case rel => exact ⟨k + 1, by omega, by omega, by go_num, by rw [HS.out]; exact HX, HW⟩
      · obtain rfl : k = len := by omega
        go_wp2
        go_ret
        exact ⟨_, rfl, by rw [HE.out, HL.out]; exact HX.out, HW.out⟩
end Go.Proofs.Ytnhaoalndlgakaa.Tr

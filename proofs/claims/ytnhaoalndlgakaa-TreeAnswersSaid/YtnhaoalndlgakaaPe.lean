/-
  Layer 10: the reference's Up, Check, Above, Under and Below.
-/
import Derived.Test.YtnhaoalndlgakaaPd
namespace Go.Proofs.Ytnhaoalndlgakaa.Tr
open Go.RowKit
set_option linter.unusedVariables false
set_option linter.unusedSimpArgs false

def OwnIt (l : List Int) (w : World) (e : Ending) (w' : World) : Prop := ∃ u, e = .returned u ∧ OwnN w' w.heap.size u l ∧ Below w.heap.size w w'
set_option maxRecDepth 100000 in
set_option maxHeartbeats 2000000 in
theorem rup_any (a : Option Addr) (len cap : Nat) (z : List Int) (n : Nat) (w : World) (h : HasZ w a z) (hl : z.length = len) (h16 : len ≤ 16) (hn : n < len) (hd : Dn z (n + 1)) :
    Calls Try.prog 17 #[.slice a len cap, .int .i64 (n : Int)] w (OwnIt (pth z n) w) := by
  unfold OwnIt
  have hpl := pth_len z n
  have H := Lib.hid h; have HL := Lib.hid hl; have HD := Lib.hid hd
  clear h hl hd
  go_enter Try.func17, Try.ntmps17
  go_wp2
  go_loopg [5, 6] (pth z n).length (fun m x i wr => ∃ (pre rest : List Int) (at' : Int), m = rest.length ∧ i = .int .i64 at' ∧ Hid (pth z n = pre ++ rest) ∧ Hid (OwnN wr w.heap.size x pre) ∧ Hid (Below w.heap.size w wr) ∧
    Hid ((at' = -1 ∧ rest = []) ∨ ∃ q : Nat, at' = (q : Int) ∧ q < len ∧ q ≤ n ∧ rest = pth z q))
  case atStart => exact ⟨[], _, _, rfl, rfl, Lib.hid rfl, Lib.hid (own_none _ _), Lib.hid (Below.refl _ _), Lib.hid (.inr ⟨n, rfl, hn, Nat.le_refl _, rfl⟩)⟩
  case round =>
    obtain ⟨pre, rest, at', rfl, rfl, HP, HX, HW, HQ⟩ := hrel
    have hpp : pre.length + rest.length ≤ len := by
      have := congrArg List.length HP.out
      rw [List.length_append] at this
      omega
    obtain ⟨a2, cap2, rfl, hx2, hn2, hc2, _⟩ := HX.out.has
    rcases HQ.out with ⟨rfl, rfl⟩ | ⟨q, rfl, hql, hqn, hrq⟩
    · have HE : Hid (pth z n = pre) := Lib.hid (by rw [HP.out, List.append_nil])
      clear hx2 hn2 HP HQ
      go_wp2
      go_ret
      exact ⟨_, rfl, by rw [HE.out]; exact HX.out, HW.out⟩
    · obtain ⟨b, off, rfl, c0⟩ := H.out.at (show q < z.length by rw [HL.out]; exact hql)
      obtain ⟨L, hL⟩ : ∃ L, pre = L := ⟨_, rfl⟩
      have hpos := pth_pos z q
      rw [← hrq] at hpos
      have i0 : (pre.length : Int) ≤ (len : Int) := by omega
      obtain ⟨rest2, at2, hp2, hr2, hq2⟩ : ∃ (rest2 : List Int) (at2 : Int), par z q = at2 ∧ rest = (q : Int) :: rest2 ∧ ((at2 = -1 ∧ rest2 = []) ∨ ∃ r : Nat, at2 = (r : Int) ∧ r < len ∧ r ≤ n ∧ rest2 = pth z r) := by
        by_cases hr : par z q = -1
        · exact ⟨[], _, rfl, by rw [hrq, pth_root hr], .inl ⟨hr, rfl⟩⟩
        · rcases HD.out q (by omega) with h1 | ⟨h1, h2⟩
          · exact absurd h1 hr
          · exact ⟨_, _, rfl, by rw [hrq, pth_step (HD.out.less (by omega)) hr], .inr ⟨(par z q).toNat, by omega, by omega, by omega, rfl⟩⟩
      have HP2 : Hid (pth z n = (pre ++ [(q : Int)]) ++ rest2) := Lib.hid (by rw [HP.out, hr2, List.append_assoc]; rfl)
      have HQ2 := Lib.hid hq2
      have hrl : rest.length = rest2.length + 1 := by rw [hr2]; rfl
      rw [hp2] at c0
      have C0 := Lib.hid c0
      clear c0 hp2 hr2 hq2 hrq HP HQ hx2 hn2 hL
      go_wp2_with (at_builtin; refine wp_apn rfl (.tmp 21) (.tmp 23) rfl w.heap.size _ pre rfl (HX.out.keep (one_alloc _ _)) _ _ _ [(q : Int)] rfl (lit_one wr (q : Int) _ _ rfl) rfl (fun h => by cases h) (by omega) (by rw [World.size_alloc]; have := HW.out.size; omega) ?_; intro v5 w5 ho5 hb5 hg5; have HO5 := Lib.hid ho5; have HB5 := Lib.hid ((HW.out.alloc HW.out.size _).trans hb5); clear ho5 hg5 hb5; have c5 := (HB5.out.cell (p := ⟨b, off + q, none⟩) (Fr.lt_of_cell C0.out)).trans C0.out)
      go_roundg rest2.length
      case measure => omega
      case rel => exact ⟨_, rest2, at2, rfl, rfl, HP2, HO5, HB5, HQ2⟩

/-! ### Check -/
set_option maxRecDepth 100000 in
set_option maxHeartbeats 2000000 in
theorem rcheck_any (a : Option Addr) (len cap : Nat) (z : List Int) (w : World) (h : HasZ w a z) (hl : z.length = len) :
    Calls Try.prog 9 #[.slice a len cap] w fun e w' => e = .returned (.tuple #[.int .i64 (checkS z).1, .int .i64 (checkS z).2]) ∧ Below w.heap.size w w' := by
  have hm := h.2.1
  rw [hl] at hm
  have H := Lib.hid h; have HL := Lib.hid hl
  clear h hl
  by_cases h1 : len < 2
  · have HC := Lib.hid (check_few (z := z) (by rw [HL.out]; exact h1))
    go_enter Try.func9, Try.ntmps9
    go_wp2
    go_ret2
    exact ⟨by rw [HC.out] <;> rfl, Below.refl _ _⟩
  by_cases h2 : 16 < len
  · have HC := Lib.hid (check_room (z := z) (by rw [HL.out]; exact h2))
    go_enter Try.func9, Try.ntmps9
    go_wp2
    go_ret2
    exact ⟨by rw [HC.out] <;> rfl, Below.refl _ _⟩
  have HC := Lib.hid (check_scan (z := z) (by rw [HL.out]; exact h1) (by rw [HL.out]; exact h2))
  go_enter Try.func9, Try.ntmps9
  go_wp2
  go_loopg [14] len (fun m i wr => ∃ k : Nat, k + m = len ∧ i = .int .i64 (k : Int) ∧ Hid (checkS z = scan z (z.length - k)) ∧ Hid (Good z k) ∧ Hid (Below w.heap.size w wr))
  case atStart => exact ⟨0, by omega, rfl, Lib.hid HC.out, Lib.hid (fun v hv => absurd hv (Nat.not_lt_zero _)), Lib.hid (Below.refl _ _)⟩
  case round =>
    obtain ⟨k, hk, rfl, HS, HG, HW⟩ := hrel
    by_cases hlt : k < len
    · obtain ⟨b, off, rfl, c0⟩ := (H.out.keep HW.out).at (show k < z.length by rw [HL.out]; exact hlt)
      have hkz : k < z.length := by rw [HL.out]; exact hlt
      by_cases hr : par z k = -1
      · have HS2 : Hid (checkS z = scan z (z.length - (k + 1))) := Lib.hid (HS.out.trans (scan_ok hkz (okB_root hr)))
        have HG2 := Lib.hid (good_next HG.out (okB_root hr))
        rw [hr] at c0
        clear hr hkz
        go_wp2
        go_roundg (len - (k + 1))
        case measure => omega
        case rel => exact ⟨k + 1, by omega, by go_num, HS2, HG2, HW⟩
      · obtain ⟨x, hx⟩ : ∃ x, par z k = x := ⟨_, rfl⟩
        have hno : (2 ≤ x → x < (k : Int) → 4 ≤ (pth z x.toNat).length) → Hid (checkS z = ((k : Int), 33)) := fun h2 => Lib.hid (HS.out.trans (scan_no hkz (okB_no hr (by rw [hx]; exact h2))))
        rw [hx] at c0 hr
        have b0 : (x == -1) = false := beq_eq_false_iff_ne.2 hr
        by_cases g0 : k < 2
        · have HE := hno (fun _ h => by omega)
          clear hr hkz hx hno
          go_wp2
          go_ret2
          exact ⟨by rw [HE.out] <;> rfl, HW.out⟩
        by_cases g1 : x < 2
        · have HE := hno (fun h => by omega)
          clear hr hkz hx hno
          go_wp2
          go_ret2
          exact ⟨by rw [HE.out] <;> rfl, HW.out⟩
        obtain ⟨q, rfl⟩ : ∃ q : Nat, x = (q : Int) := ⟨x.toNat, by omega⟩
        have g2 : 2 ≤ q := by omega
        by_cases g3 : k ≤ q
        · have HE := hno (fun _ h => by omega)
          clear hr hkz hx hno g1
          go_wp2
          go_ret2
          exact ⟨by rw [HE.out] <;> rfl, HW.out⟩
        have hd1 : Dn z (k + 1) := fun v hv => by
          by_cases e : v = k
          · rw [e, hx]; exact .inr ⟨by omega, by omega⟩
          · exact HG.out.dn v (by omega)
        have hup := rup_any (some ⟨b, off, none⟩) len cap z k wr (H.out.keep HW.out) HL.out (by omega) hlt hd1
        unfold OwnIt at hup
        have hpk : (pth z k).length = (pth z q).length + 1 := by
          rw [pth_step hd1 (by rw [hx]; exact hr), hx]
          simp
        obtain ⟨d, hd⟩ : ∃ d, (pth z k).length = d := ⟨_, rfl⟩
        have HLD : Hid (∀ (w2 : World) (N : Nat) (u : Value), OwnN w2 N u (pth z k) → ∃ a2 c2, u = .slice a2 d c2) := Lib.hid fun w2 N u ho => by
          obtain ⟨a2, c2, e, _⟩ := ho.has
          exact ⟨a2, c2, by rw [e, hd]⟩
        by_cases g4 : (pth z q).length < 4
        · have hok := okB_yes hx g2 (by omega) g4
          have HS2 : Hid (checkS z = scan z (z.length - (k + 1))) := Lib.hid (HS.out.trans (scan_ok hkz hok))
          have HG2 := Lib.hid (good_next HG.out hok)
          have g5 : d ≤ 4 := by omega
          clear hr hkz hx hno hok hpk hd g4 g1 hd1
          go_wp2_with (go_at_call 17; refine hup.mono ?_; rintro e w2 ⟨u, rfl, ho, hb⟩; obtain ⟨a2, c2, rfl⟩ := HLD.out _ _ _ ho; have HB := Lib.hid (below_next HW.out hb); clear ho hb)
          go_roundg (len - (k + 1))
          case measure => omega
          case rel => exact ⟨k + 1, by omega, by go_num, HS2, HG2, HB⟩
        · have HE := hno (fun _ _ => by rw [Int.toNat_natCast]; omega)
          have g5 : 4 < d := by omega
          clear hr hkz hx hno hpk hd g4 g1 hd1
          go_wp2_with (go_at_call 17; refine hup.mono ?_; rintro e w2 ⟨u, rfl, ho, hb⟩; obtain ⟨a2, c2, rfl⟩ := HLD.out _ _ _ ho; have HB := Lib.hid (below_next HW.out hb); clear ho hb)
          go_ret2
          exact ⟨by rw [HE.out] <;> rfl, HB.out⟩
    · have HE : Hid (checkS z = (0, 0)) := Lib.hid (HS.out.trans (scan_end (by rw [HL.out]; omega)))
      go_wp2
      go_ret2
      exact ⟨by rw [HE.out] <;> rfl, HW.out⟩

/-! ### Above, Under, Below -/
theorem rabove_any (a : Option Addr) (len cap : Nat) (z : List Int) (v : Int) (w : World) (h : HasZ w a z) (hl : z.length = len) :
    Calls Try.prog 12 #[.slice a len cap, .int .i64 v] w (OwnIt (aboveS z v) w) := by
  unfold OwnIt
  have hc := rcheck_any a len cap z w h hl
  cases hfb : foundB z v with
  | false =>
    have HE := Lib.hid (above_no hfb)
    have hor : (checkS z).2 ≠ 0 ∨ ((checkS z).2 = 0 ∧ v < 0) ∨ ((checkS z).2 = 0 ∧ 0 ≤ v ∧ (len : Int) ≤ v) := by
      by_cases h1 : (checkS z).2 = 0
      · by_cases h2 : v < 0
        · exact .inr (.inl ⟨h1, h2⟩)
        · refine .inr (.inr ⟨h1, by omega, ?_⟩)
          by_cases h3 : (len : Int) ≤ v
          · exact h3
          · rw [found_iff.2 ⟨h1, by omega, by rw [hl]; omega⟩] at hfb
            cases hfb
      · exact .inl h1
    clear h hl hfb
    generalize (checkS z).1 = x at *
    generalize (checkS z).2 = E at *
    rcases hor with h0 | ⟨rfl, h1⟩ | ⟨rfl, h1, h2⟩
    · have b0 : (E != 0) = true := by rw [bne_iff_ne]; exact h0
      clear h0
      go_enter Try.func12, Try.ntmps12
      go_wp2_with (go_at_call 9; refine hc.mono ?_; rintro e w1 ⟨rfl, hb⟩)
      go_ret
      exact ⟨_, rfl, by rw [HE.out]; exact own_none _ _, hb⟩
    · go_enter Try.func12, Try.ntmps12
      go_wp2_with (go_at_call 9; refine hc.mono ?_; rintro e w1 ⟨rfl, hb⟩)
      go_ret
      exact ⟨_, rfl, by rw [HE.out]; exact own_none _ _, hb⟩
    · have h3 : ¬ v < 0 := by omega
      go_enter Try.func12, Try.ntmps12
      go_wp2_with (go_at_call 9; refine hc.mono ?_; rintro e w1 ⟨rfl, hb⟩)
      go_ret
      exact ⟨_, rfl, by rw [HE.out]; exact own_none _ _, hb⟩
  | true =>
    obtain ⟨n, rfl, hnl, h16, h2, hg⟩ := found_nat hfb
    have h0 := (found_iff.1 hfb).1
    rw [h0] at hc
    have HE := Lib.hid (above_yes hfb)
    have HU : Hid (∀ w1, Below w.heap.size w w1 → Calls Try.prog 17 #[.slice a len cap, .int .i64 (n : Int)] w1 (OwnIt (pth z n) w1)) := Lib.hid fun w1 hb => rup_any a len cap z n w1 (h.keep hb) hl (by omega) (by omega) (hg.dn.less (by omega))
    rw [hl] at hnl
    clear h hl hfb hg h2 h0 h16
    generalize (checkS z).1 = x at *
    go_enter Try.func12, Try.ntmps12
    go_wp2_with (first | (go_at_call 9; refine hc.mono ?_; rintro e w1 ⟨rfl, hb⟩; have HB := Lib.hid hb; clear hb) | (go_at_call 17; refine (HU.out _ HB.out).mono ?_; rintro e w2 ⟨u, rfl, ho, hb2⟩))
    go_ret
    exact ⟨_, rfl, by rw [HE.out]; exact ho.low HB.out.size, below_next HB.out hb2⟩
set_option maxRecDepth 100000 in
set_option maxHeartbeats 1000000 in
theorem under_any (a : Option Addr) (len cap : Nat) (z : List Int) (u v : Int) (w : World) (h : HasZ w a z) (hl : z.length = len) :
    Calls Try.prog 23 #[.slice a len cap, .int .i64 u, .int .i64 v] w fun e w' => e = .returned (.bool (decide (v ∈ aboveS z u))) ∧ Below w.heap.size w w' := by
  have ha := rabove_any a len cap z u w h hl
  have h16 := above_len z u
  unfold OwnIt at ha
  clear h hl
  obtain ⟨L, hL⟩ : ∃ L, aboveS z u = L := ⟨_, rfl⟩
  rw [hL] at ha h16 ⊢
  clear hL
  go_enter Try.func23, Try.ntmps23
  go_wp2_with (go_at_call 12; refine ha.mono ?_; rintro e w1 ⟨u1, rfl, ho, hb⟩; obtain ⟨a2, c2, rfl, hh, _⟩ := ho.has; have HH := Lib.hid hh; have HB := Lib.hid hb; clear ho hb hh ha)
  go_loopg [13] L.length (fun m i wr => ∃ k : Nat, k + m = L.length ∧ i = .int .i64 (k : Int) ∧ Hid (∀ j, j < k → par L j ≠ v) ∧ w1 = wr)
  case atStart => exact ⟨0, by omega, rfl, Lib.hid fun j hj => absurd hj (Nat.not_lt_zero _), rfl⟩
  case round =>
    obtain ⟨k, hk, rfl, HA, rfl⟩ := hrel
    by_cases hlt : k < L.length
    · obtain ⟨b, off, rfl, c0⟩ := HH.out.at hlt
      by_cases hq : par L k = v
      · have HE : Hid (decide (v ∈ L) = true) := Lib.hid (decide_eq_true (by rw [← hq]; exact par_mem hlt))
        rw [hq] at c0
        clear hq
        go_wp2
        go_ret
        exact ⟨by rw [HE.out] <;> rfl, HB.out⟩
      · have HA2 : Hid (∀ j, j < k + 1 → par L j ≠ v) := Lib.hid fun j hj => by
          rcases Nat.lt_or_ge j k with h | h
          · exact HA.out j h
          · obtain rfl : j = k := by omega
            exact hq
        have b0 : (par L k == v) = false := beq_eq_false_iff_ne.2 hq
        generalize par L k = x at *
        clear hq
        go_wp2
        go_roundg (L.length - (k + 1))
        case measure => omega
        case rel => exact ⟨k + 1, by omega, by go_num, HA2, rfl⟩
    · have HE : Hid (decide (v ∈ L) = false) := Lib.hid (decide_eq_false fun hv => by
        obtain ⟨j, hj, e⟩ := mem_par hv
        exact HA.out j (by omega) e)
      go_wp2
      go_ret
      exact ⟨by rw [HE.out] <;> rfl, HB.out⟩
set_option maxRecDepth 100000 in
set_option maxHeartbeats 1000000 in
theorem rbelow_any (a : Option Addr) (len cap : Nat) (z : List Int) (v : Int) (w : World) (h : HasZ w a z) (hl : z.length = len) :
    Calls Try.prog 16 #[.slice a len cap, .int .i64 v] w (OwnIt (refN z v len) w) := by
  unfold OwnIt
  have hm := h.2.1
  rw [hl] at hm
  have H := Lib.hid h; have HL := Lib.hid hl
  clear h hl
  go_enter Try.func16, Try.ntmps16
  go_wp2
  go_loopg [5, 9] len (fun m x i wr => ∃ k : Nat, k + m = len ∧ i = .int .i64 (k : Int) ∧ Hid (OwnN wr w.heap.size x (refN z v k)) ∧ Hid (Below w.heap.size w wr))
  case atStart => exact ⟨0, by omega, rfl, Lib.hid (own_none _ _), Lib.hid (Below.refl _ _)⟩
  case round =>
    obtain ⟨k, hk, rfl, HX, HW⟩ := hrel
    by_cases hlt : k < len
    · have hun := under_any a len cap z (k : Int) v wr (H.out.keep HW.out) HL.out
      obtain ⟨a2, cap2, rfl, _⟩ := HX.out.has
      have hlen := ref_small (v := v) (show k ≤ z.length by rw [HL.out]; omega)
      by_cases hq : v ∈ aboveS z (k : Int)
      · have HS : Hid (refN z v (k + 1) = refN z v k ++ [(k : Int)]) := Lib.hid (by rw [ref_succ, if_pos hq])
        rw [decide_eq_true hq] at hun
        generalize refN z v k = L at *
        clear hq
        go_wp2_with (first | (go_at_call 23; refine hun.mono ?_; rintro e w2 ⟨rfl, hb2⟩; have HO2 := Lib.hid (HX.out.keep hb2); have HB2 := Lib.hid (below_next HW.out hb2); clear hb2) | (at_builtin; refine wp_apn rfl (.tmp 16) (.tmp 18) rfl w.heap.size _ L rfl (HO2.out.keep (one_alloc _ _)) _ _ _ [(k : Int)] rfl (lit_one w2 (k : Int) _ _ rfl) rfl (fun h => by cases h) (by omega) (by rw [World.size_alloc]; have := HB2.out.size; omega) ?_; intro v5 w5 ho5 hb5 hg5; have HO5 := Lib.hid ho5; have HB5 := Lib.hid ((HB2.out.alloc HB2.out.size _).trans hb5); clear ho5 hg5 hb5))
        go_roundg (len - (k + 1))
        case measure => omega
        case rel => exact ⟨k + 1, by omega, by go_num, by rw [HS.out]; exact HO5, HB5⟩
      · have HS : Hid (refN z v (k + 1) = refN z v k) := Lib.hid (by rw [ref_succ, if_neg hq])
        rw [decide_eq_false hq] at hun
        generalize refN z v k = L at *
        clear hq
        go_wp2_with (go_at_call 23; refine hun.mono ?_; rintro e w2 ⟨rfl, hb2⟩; have HO2 := Lib.hid (HX.out.keep hb2); have HB2 := Lib.hid (below_next HW.out hb2); clear hb2)
        go_roundg (len - (k + 1))
        case measure => omega
        case rel => exact ⟨k + 1, by omega, by go_num, by rw [HS.out]; exact HO2, HB2⟩
    · obtain rfl : k = len := by omega
      go_wp2
      go_ret
      exact ⟨_, rfl, HX.out, HW.out⟩
end Go.Proofs.Ytnhaoalndlgakaa.Tr

/-
  Layer 13: lists of api.Pos: slices.Clone, Grow, Concat. (Written by gen_ic.py out of p_ie.txt.)
-/
import Derived.Test.YtpagkeklilgknaaIdp
import Derived.Lib.AppendZeros
import Derived.Lib.SliceRun
namespace Go.Proofs.Ytpagkeklilgknaa.Bo
open Go.RowKit Rw
set_option linter.unusedVariables false
set_option linter.unusedSimpArgs false

set_option maxRecDepth 100000 in
set_option maxHeartbeats 1000000 in
theorem clone_p (a : Option Addr) (len cap : Nat) (X : List Ps) (w : World) (h : Has encp w a X) (hl : X.length = len) (hn : a = none → cap = 0) (hm : len ≤ 1000) :
    Calls Try.prog 40 #[.slice a len cap] w fun e w' => ∃ v, e = .returned v ∧ Own encp w' w.heap.size v X ∧ Below w.heap.size w w' := by
  cases a with
  | none =>
    have hb : X = [] := by
      rcases Nat.eq_zero_or_pos X.length with h0 | h0
      · exact List.eq_nil_of_length_eq_zero h0
      · obtain ⟨g, o, e, _⟩ := h.2 h0; cases e
    subst hb
    have h0 := hn rfl
    simp at hl
    subst hl h0
    clear h hn
    have qn := fun w => Lib.run_eql_slice_nil (P := Try.prog) w 22 48 none 0 0 0 0 Try.underlying22
    go_enter Try.func40, Try.ntmps40
    go_wp2
    go_ret
    exact ⟨_, rfl, Own.nil _ _, Below.refl _ _⟩
  | some ad =>
    have hb1 : Below w.heap.size w (w.alloc (.cells #[] 48)) := one_alloc _ _
    have HLIT : Hid (Own encp (w.alloc (.cells #[] 48)) w.heap.size (.slice (some ⟨w.heap.size, 0, none⟩) 0 0) []) := Lib.hid (Own.made w w.heap.size (Nat.le_refl _))
    have HB1 := Lib.hid hb1; have H := Lib.hid h; have HL := Lib.hid hl
    clear hb1 h hl hn
    have qn := fun w => Lib.run_eql_slice_nil (P := Try.prog) w 22 48 (some ad) len cap 0 0 Try.underlying22
    go_enter Try.func40, Try.ntmps40
    go_wp2_with (at_builtin; refine wp_ap okp rfl (.tmp 5) (.tmp 6) rfl w.heap.size _ [] rfl HLIT.out _ _ _ X rfl (H.out.keep HB1.out) HL.out (fun h => by cases h) (by simp [maxLen]; omega) (by simp [encp]; omega) HB1.out.size ?_; intro v5 w5 ho5 hb5 hg5 hv5; have HO5 := Lib.hid ho5; have HB5 := Lib.hid (HB1.out.trans hb5); clear ho5 hg5 hb5 hv5)
    go_ret
    exact ⟨_, rfl, HO5.out, HB5.out⟩
set_option maxRecDepth 100000 in
set_option maxHeartbeats 1000000 in
theorem grow_p (n : Nat) (w : World) (hn : n ≤ 1000) :
    Calls Try.prog 59 #[.slice none 0 0, .int .i64 (n : Int)] w fun e w' => ∃ v, e = .returned v ∧ Own encp w' w.heap.size v [] ∧ Below w.heap.size w w' := by
  rcases Nat.eq_zero_or_pos n with rfl | h0
  · go_enter Try.func59, Try.ntmps59
    go_wp2
    go_ret
    exact ⟨_, rfl, Own.nil _ _, Below.refl _ _⟩
  · obtain ⟨i0, hi, hz0, hz1, hz2⟩ := info_parts okp.info
    have hr := fun ty => Lib.run_append_nil_zeros (P := Try.prog) w encp.S 3 ty encp.T i0 encp.zero .i64 .i64 okp.und Try.underlying3 hi hz0 n h0 (by rw [hz1]; exact okp.pos) (by omega) (by rw [hz2]; simp [encp]; omega)
    have g1 := grownCap_ge w n 0 encp.T
    have g2 := grownCap_le_maxLen w n 0 encp.T (by unfold maxLen; omega)
    have hsz : (Builtin.zeroCells encp.zero.cells n ++ Builtin.zeroCells encp.zero.cells (grownCap w n 0 encp.T - n)).size = grownCap w n 0 encp.T * encp.k := by
      rw [Array.size_append, size_zeroCells, size_zeroCells, okp.zs, ← Nat.add_mul]
      congr 1
      omega
    have HO : Hid (Own encp (w.drew.alloc (.cells (Builtin.zeroCells encp.zero.cells n ++ Builtin.zeroCells encp.zero.cells (grownCap w n 0 encp.T - n)) encp.T)) w.heap.size (.slice (some ⟨w.heap.size, 0, none⟩) 0 (grownCap w n 0 encp.T)) []) :=
      Lib.hid (World.ownsRow_made w.drew _ _ (Nat.le_refl _) g2 hsz)
    have HB : Hid (Below w.heap.size w (w.drew.alloc (.cells (Builtin.zeroCells encp.zero.cells n ++ Builtin.zeroCells encp.zero.cells (grownCap w n 0 encp.T - n)) encp.T))) := Lib.hid ((Below.refl _ _).drew.alloc (Nat.le_refl _) _)
    obtain ⟨G, hG⟩ : ∃ G, G = grownCap w n 0 encp.T := ⟨_, rfl⟩
    rw [← hG] at hr g1 g2 HO HB
    obtain ⟨W1, hW1⟩ : ∃ W1, W1 = w.drew.alloc (.cells (Builtin.zeroCells encp.zero.cells n ++ Builtin.zeroCells encp.zero.cells (G - n)) encp.T) := ⟨_, rfl⟩
    rw [← hW1] at hr HO HB
    unfold maxLen at g2
    have HR := Lib.hid hr
    have i1 : IntKind.i64.wrap ((n : Int) - (0 - 0)) = (n : Int) := by rw [show (n : Int) - (0 - 0) = (n : Int) by omega]; exact IntWalk.i64_in _ (by omega)
    have i2 : IntKind.i64.wrap (n : Int) = (n : Int) := IntWalk.i64_in _ (by omega)
    clear hr hsz hi hz0 hz1 hz2 hG hW1
    go_enter Try.func59, Try.ntmps59
    go_wp2_with (at_builtin; refine Lib.wpList_append_run _ rfl _ _ _ _ rfl _ _ rfl rfl _ _ (HR.out _) ?_)
    all_goals
      go_ret
      exact ⟨_, rfl, HO.out, HB.out⟩
/-- One of several slices that are joined. -/
structure Ptp where
  a : Option Addr
  len : Nat
  cap : Nat
  X : List Ps
structure Ptp.Ok (w : World) (p : Ptp) : Prop where
  has : Has encp w p.a p.X
  len : p.X.length = p.len
  none_ : p.a = none → p.cap = 0
def allp (Ls : List Ptp) : List Ps := Ls.flatMap Ptp.X
theorem allp_le (Ls : List Ptp) (k : Nat) : (allp (Ls.take k)).length ≤ (allp Ls).length := by
  have : allp Ls = allp (Ls.take k) ++ allp (Ls.drop k) := by unfold allp; rw [← List.flatMap_append, List.take_append_drop]
  rw [this, List.length_append]; omega
theorem allp_succ {Ls : List Ptp} {k : Nat} {p : Ptp} (h : Ls[k]? = some p) : allp (Ls.take (k + 1)) = allp (Ls.take k) ++ p.X := by
  unfold allp
  rw [List.take_add_one, h, List.flatMap_append]
  simp
set_option maxRecDepth 100000 in
set_option maxHeartbeats 2000000 in
theorem concat_p (g n : Nat) (Ls : List Ptp) (w : World) (hL : Ls.length = n) (hc : ∀ (j : Nat) (p : Ptp), Ls[j]? = some p → w.cell? ⟨g, j, none⟩ = some (.slice p.a p.len p.cap)) (hp : ∀ (j : Nat) (p : Ptp), Ls[j]? = some p → p.Ok w) (hm : (allp Ls).length ≤ 1000) (hn : n ≤ 1000) :
    Calls Try.prog 53 #[.slice (some ⟨g, 0, none⟩) n n] w fun e w' => ∃ v, e = .returned v ∧ Own encp w' w.heap.size v (allp Ls) ∧ Below w.heap.size w w' := by
  obtain ⟨N, hN⟩ : ∃ N, N = w.heap.size := ⟨_, rfl⟩
  have HC : Hid (∀ wx, Below N w wx → ∀ (j : Nat) (p : Ptp), Ls[j]? = some p → wx.cell? ⟨g, j, none⟩ = some (.slice p.a p.len p.cap)) := Lib.hid fun wx hb j p h => (hb.cell (by rw [hN]; exact Fr.lt_of_cell (hc j p h))).trans (hc j p h)
  have HP : Hid (∀ wx, Below N w wx → ∀ (j : Nat) (p : Ptp), Ls[j]? = some p → p.Ok wx) := Lib.hid fun wx hb j p h => ⟨(hp j p h).has.keep (by rw [← hN]; exact hb), (hp j p h).len, (hp j p h).none_⟩
  have HT : Hid (∀ k, (allp (Ls.take k)).length ≤ 1000) := Lib.hid fun k => by have := allp_le Ls k; omega
  have HL := Lib.hid hL; have HN := Lib.hid hN
  have HE : Hid (allp (Ls.take n) = allp Ls) := Lib.hid (by rw [List.take_of_length_le (by omega)])
  have HG := Lib.hid fun w => grow_p (allp (Ls.take n)).length w (HT.out n)
  rw [← hN]
  clear hc hp hL hm hN
  go_enter Try.func53, Try.ntmps53
  go_wp2
  go_loopg [3, 11] n (fun m s i wr => ∃ k : Nat, k + m = n ∧ s = .int .i64 ((allp (Ls.take k)).length : Int) ∧ i = .int .i64 (k : Int) ∧ w = wr)
  case atStart => exact ⟨0, by omega, rfl, rfl, rfl⟩
  case round =>
    obtain ⟨k, hk, rfl, rfl, rfl⟩ := hrel
    by_cases hlt : k < n
    · obtain ⟨p, hp⟩ : ∃ p, Ls[k]? = some p := ⟨Ls[k]'(by rw [HL.out]; exact hlt), List.getElem?_eq_getElem _⟩
      have c0 := HC.out w (Below.refl _ _) k p hp
      have hs : Hid ((allp (Ls.take (k + 1))).length = (allp (Ls.take k)).length + p.len) := Lib.hid (by rw [allp_succ hp, List.length_append, (HP.out w (Below.refl _ _) k p hp).len])
      have t1 := HT.out (k + 1)
      rw [hs.out] at t1
      obtain ⟨q0, q1, q2, q3⟩ := p
      simp only at c0 hs t1
      generalize (allp (Ls.take k)).length = T at *
      go_wp2
      go_roundg (n - (k + 1))
      case measure => omega
      case rel => exact ⟨k + 1, by omega, by rw [hs.out]; go_num, by go_num, rfl⟩
    · obtain rfl : k = n := by omega
      have t1 := HT.out k
      obtain ⟨T, hT⟩ : ∃ T, T = (allp (Ls.take k)).length := ⟨_, rfl⟩
      rw [← hT] at HG t1 ⊢
      clear hT
      go_wp2_with (go_at_call 59; (with_reducible refine (HG.out _).mono ?_); rintro e w5 ⟨v5, rfl, ho5, hb5⟩; rw [← HN.out] at ho5 hb5; have HO5 := Lib.hid ho5; have HB5 := Lib.hid hb5; clear ho5 hb5)
      go_loopg [6, 27] k (fun m v i wr => ∃ j : Nat, j + m = k ∧ i = .int .i64 (j : Int) ∧ Hid (Own encp wr N v (allp (Ls.take j))) ∧ Hid (Below N w wr))
      case atStart => exact ⟨0, by omega, rfl, by simpa [allp] using HO5, HB5⟩
      case round =>
        obtain ⟨j, hj, rfl, HO, HB⟩ := hrel
        by_cases hlt : j < k
        · obtain ⟨p, hp⟩ : ∃ p, Ls[j]? = some p := ⟨Ls[j]'(by rw [HL.out]; exact hlt), List.getElem?_eq_getElem _⟩
          have c0 := HC.out wr HB.out j p hp
          have ok := HP.out wr HB.out j p hp
          have hs : Hid (allp (Ls.take (j + 1)) = allp (Ls.take j) ++ p.X) := Lib.hid (allp_succ hp)
          have t2 := HT.out (j + 1)
          rw [hs.out, List.length_append, ok.len] at t2
          have hB := HB.out.size
          have HOk := Lib.hid ok
          obtain ⟨q0, q1, q2, q3⟩ := p
          simp only at c0 hs t2
          generalize allp (Ls.take j) = T at *
          clear ok
          go_wp2_with (at_builtin; refine wp_ap okp rfl (.tmp 31) (.tmp 32) rfl N _ T rfl HO.out _ _ _ q3 rfl HOk.out.has HOk.out.len HOk.out.none_ (by unfold maxLen; omega) (by simp [encp]; omega) (by rw [HN.out]; exact hB) ?_; intro v6 w6 ho6 hb6 hg6 hv6; have HO6 := Lib.hid ho6; have HB6 := Lib.hid (HB.out.trans hb6); clear ho6 hg6 hb6 hv6)
          go_roundg (k - (j + 1))
          case measure => omega
          case rel => exact ⟨j + 1, by omega, by go_num, by rw [hs.out]; exact HO6, HB6⟩
        · obtain rfl : j = k := by omega
          rw [HE.out] at HO
          go_wp2
          go_ret
          exact ⟨_, rfl, HO.out, HB.out⟩
end Go.Proofs.Ytpagkeklilgknaa.Bo

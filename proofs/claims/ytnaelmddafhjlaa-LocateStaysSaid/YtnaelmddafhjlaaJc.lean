/-
  Layer 14: reservations: slices.Grow, Concat; integers: Clone; plus, reservation. (Written by gen_jb.py.)
-/
import Derived.Test.YtnaelmddafhjlaaJb
import Derived.Lib.AppendZeros
import Derived.Lib.SliceRun
namespace Go.Proofs.Ytnaelmddafhjlaa.Bo
open Go.RowKit Rw
set_option linter.unusedVariables false
set_option linter.unusedSimpArgs false

set_option maxRecDepth 100000 in
set_option maxHeartbeats 1000000 in
theorem grow_l (n : Nat) (w : World) (hn : n ≤ 1000) :
    Calls Try.prog 36 #[.slice none 0 0, .int .i64 (n : Int)] w fun e w' => ∃ v, e = .returned v ∧ Own encl w' w.heap.size v [] ∧ Below w.heap.size w w' := by
  rcases Nat.eq_zero_or_pos n with rfl | h0
  · go_enter Try.func36, Try.ntmps36
    go_wp2
    go_ret
    exact ⟨_, rfl, Own.nil _ _, Below.refl _ _⟩
  · obtain ⟨i0, hi, hz0, hz1, hz2⟩ := info_parts okl.info
    have hr := fun ty => Lib.run_append_nil_zeros (P := Try.prog) w encl.S 3 ty encl.T i0 encl.zero .i64 .i64 okl.und Try.underlying3 hi hz0 n h0 (by rw [hz1]; exact okl.pos) (by omega) (by rw [hz2]; simp [encl]; omega)
    have g1 := grownCap_ge w n 0 encl.T
    have g2 := grownCap_le_maxLen w n 0 encl.T (by unfold maxLen; omega)
    have hsz : (Builtin.zeroCells encl.zero.cells n ++ Builtin.zeroCells encl.zero.cells (grownCap w n 0 encl.T - n)).size = grownCap w n 0 encl.T * encl.k := by
      rw [Array.size_append, size_zeroCells, size_zeroCells, okl.zs, ← Nat.add_mul]
      congr 1
      omega
    have HO : Hid (Own encl (w.drew.alloc (.cells (Builtin.zeroCells encl.zero.cells n ++ Builtin.zeroCells encl.zero.cells (grownCap w n 0 encl.T - n)) encl.T)) w.heap.size (.slice (some ⟨w.heap.size, 0, none⟩) 0 (grownCap w n 0 encl.T)) []) :=
      Lib.hid (World.ownsRow_made w.drew _ _ (Nat.le_refl _) g2 hsz)
    have HB : Hid (Below w.heap.size w (w.drew.alloc (.cells (Builtin.zeroCells encl.zero.cells n ++ Builtin.zeroCells encl.zero.cells (grownCap w n 0 encl.T - n)) encl.T))) := Lib.hid ((Below.refl _ _).drew.alloc (Nat.le_refl _) _)
    obtain ⟨G, hG⟩ : ∃ G, G = grownCap w n 0 encl.T := ⟨_, rfl⟩
    rw [← hG] at hr g1 g2 HO HB
    obtain ⟨W1, hW1⟩ : ∃ W1, W1 = w.drew.alloc (.cells (Builtin.zeroCells encl.zero.cells n ++ Builtin.zeroCells encl.zero.cells (G - n)) encl.T) := ⟨_, rfl⟩
    rw [← hW1] at hr HO HB
    unfold maxLen at g2
    have HR := Lib.hid hr
    have i1 : IntKind.i64.wrap ((n : Int) - (0 - 0)) = (n : Int) := by rw [show (n : Int) - (0 - 0) = (n : Int) by omega]; exact IntWalk.i64_in _ (by omega)
    have i2 : IntKind.i64.wrap (n : Int) = (n : Int) := IntWalk.i64_in _ (by omega)
    clear hr hsz hi hz0 hz1 hz2 hG hW1
    go_enter Try.func36, Try.ntmps36
    go_wp2_with (at_builtin; refine Lib.wpList_append_run _ rfl _ _ _ _ rfl _ _ rfl rfl _ _ (HR.out _) ?_)
    all_goals
      go_ret
      exact ⟨_, rfl, HO.out, HB.out⟩
/-- One of several slices that are joined. -/
structure Ptl where
  a : Option Addr
  len : Nat
  cap : Nat
  X : List Lo
structure Ptl.Ok (w : World) (p : Ptl) : Prop where
  has : Has encl w p.a p.X
  len : p.X.length = p.len
  none_ : p.a = none → p.cap = 0
def alll (Ls : List Ptl) : List Lo := Ls.flatMap Ptl.X
theorem alll_le (Ls : List Ptl) (k : Nat) : (alll (Ls.take k)).length ≤ (alll Ls).length := by
  have : alll Ls = alll (Ls.take k) ++ alll (Ls.drop k) := by unfold alll; rw [← List.flatMap_append, List.take_append_drop]
  rw [this, List.length_append]; omega
theorem alll_succ {Ls : List Ptl} {k : Nat} {p : Ptl} (h : Ls[k]? = some p) : alll (Ls.take (k + 1)) = alll (Ls.take k) ++ p.X := by
  unfold alll
  rw [List.take_add_one, h, List.flatMap_append]
  simp
set_option maxRecDepth 100000 in
set_option maxHeartbeats 2000000 in
theorem concat_l (g n : Nat) (Ls : List Ptl) (w : World) (hL : Ls.length = n) (hc : ∀ (j : Nat) (p : Ptl), Ls[j]? = some p → w.cell? ⟨g, j, none⟩ = some (.slice p.a p.len p.cap)) (hp : ∀ (j : Nat) (p : Ptl), Ls[j]? = some p → p.Ok w) (hm : (alll Ls).length ≤ 1000) (hn : n ≤ 1000) :
    Calls Try.prog 31 #[.slice (some ⟨g, 0, none⟩) n n] w fun e w' => ∃ v, e = .returned v ∧ Own encl w' w.heap.size v (alll Ls) ∧ Below w.heap.size w w' := by
  obtain ⟨N, hN⟩ : ∃ N, N = w.heap.size := ⟨_, rfl⟩
  have HC : Hid (∀ wx, Below N w wx → ∀ (j : Nat) (p : Ptl), Ls[j]? = some p → wx.cell? ⟨g, j, none⟩ = some (.slice p.a p.len p.cap)) := Lib.hid fun wx hb j p h => (hb.cell (by rw [hN]; exact Fr.lt_of_cell (hc j p h))).trans (hc j p h)
  have HP : Hid (∀ wx, Below N w wx → ∀ (j : Nat) (p : Ptl), Ls[j]? = some p → p.Ok wx) := Lib.hid fun wx hb j p h => ⟨(hp j p h).has.keep (by rw [← hN]; exact hb), (hp j p h).len, (hp j p h).none_⟩
  have HT : Hid (∀ k, (alll (Ls.take k)).length ≤ 1000) := Lib.hid fun k => by have := alll_le Ls k; omega
  have HL := Lib.hid hL; have HN := Lib.hid hN
  have HE : Hid (alll (Ls.take n) = alll Ls) := Lib.hid (by rw [List.take_of_length_le (by omega)])
  have HG := Lib.hid fun w => grow_l (alll (Ls.take n)).length w (HT.out n)
  rw [← hN]
  clear hc hp hL hm hN
  go_enter Try.func31, Try.ntmps31
  go_wp2
  go_loopg [3, 11] n (fun m s i wr => ∃ k : Nat, k + m = n ∧ s = .int .i64 ((alll (Ls.take k)).length : Int) ∧ i = .int .i64 (k : Int) ∧ w = wr)
  case atStart => exact ⟨0, by omega, rfl, rfl, rfl⟩
  case round =>
    obtain ⟨k, hk, rfl, rfl, rfl⟩ := hrel
    by_cases hlt : k < n
    · obtain ⟨p, hp⟩ : ∃ p, Ls[k]? = some p := ⟨Ls[k]'(by rw [HL.out]; exact hlt), List.getElem?_eq_getElem _⟩
      have c0 := HC.out w (Below.refl _ _) k p hp
      have hs : Hid ((alll (Ls.take (k + 1))).length = (alll (Ls.take k)).length + p.len) := Lib.hid (by rw [alll_succ hp, List.length_append, (HP.out w (Below.refl _ _) k p hp).len])
      have t1 := HT.out (k + 1)
      rw [hs.out] at t1
      obtain ⟨q0, q1, q2, q3⟩ := p
      simp only at c0 hs t1
      generalize (alll (Ls.take k)).length = T at *
      go_wp2
      go_roundg (n - (k + 1))
      case measure => omega
      case rel => exact ⟨k + 1, by omega, by rw [hs.out]; go_num, by go_num, rfl⟩
    · obtain rfl : k = n := by omega
      have t1 := HT.out k
      obtain ⟨T, hT⟩ : ∃ T, T = (alll (Ls.take k)).length := ⟨_, rfl⟩
      rw [← hT] at HG t1 ⊢
      clear hT
      go_wp2_with (go_at_call 36; (with_reducible refine (HG.out _).mono ?_); rintro e w5 ⟨v5, rfl, ho5, hb5⟩; rw [← HN.out] at ho5 hb5; have HO5 := Lib.hid ho5; have HB5 := Lib.hid hb5; clear ho5 hb5)
      go_loopg [6, 27] k (fun m v i wr => ∃ j : Nat, j + m = k ∧ i = .int .i64 (j : Int) ∧ Hid (Own encl wr N v (alll (Ls.take j))) ∧ Hid (Below N w wr))
      case atStart => exact ⟨0, by omega, rfl, by simpa [alll] using HO5, HB5⟩
      case round =>
        obtain ⟨j, hj, rfl, HO, HB⟩ := hrel
        by_cases hlt : j < k
        · obtain ⟨p, hp⟩ : ∃ p, Ls[j]? = some p := ⟨Ls[j]'(by rw [HL.out]; exact hlt), List.getElem?_eq_getElem _⟩
          have c0 := HC.out wr HB.out j p hp
          have ok := HP.out wr HB.out j p hp
          have hs : Hid (alll (Ls.take (j + 1)) = alll (Ls.take j) ++ p.X) := Lib.hid (alll_succ hp)
          have t2 := HT.out (j + 1)
          rw [hs.out, List.length_append, ok.len] at t2
          have hB := HB.out.size
          have HOk := Lib.hid ok
          obtain ⟨q0, q1, q2, q3⟩ := p
          simp only at c0 hs t2
          generalize alll (Ls.take j) = T at *
          clear ok
          go_wp2_with (at_builtin; refine wp_ap okl rfl (.tmp 31) (.tmp 32) rfl N _ T rfl HO.out _ _ _ q3 rfl HOk.out.has HOk.out.len HOk.out.none_ (by unfold maxLen; omega) (by simp [encl]; omega) (by rw [HN.out]; exact hB) ?_; intro v6 w6 ho6 hb6 hg6 hv6; have HO6 := Lib.hid ho6; have HB6 := Lib.hid (HB.out.trans hb6); clear ho6 hg6 hb6 hv6)
          go_roundg (k - (j + 1))
          case measure => omega
          case rel => exact ⟨j + 1, by omega, by go_num, by rw [hs.out]; exact HO6, HB6⟩
        · obtain rfl : j = k := by omega
          rw [HE.out] at HO
          go_wp2
          go_ret
          exact ⟨_, rfl, HO.out, HB.out⟩
theorem plain_l {w : World} {ad : Addr} {X : List Lo} (h : Has encl w (some ad) X) (h0 : 0 < X.length) : ∃ b off, ad = ⟨b, off, none⟩ := by
  obtain ⟨b, off, e, _⟩ := h.2 h0
  exact ⟨b, off, by simpa using e⟩
/-- What is behind an index: the old address if nothing of the capacity is left, else the moved one. -/
theorem tail_l {w : World} {b off cap k len : Nat} {L R : List Lo} {AR : Addr} (h : Has encl w (some ⟨b, off, none⟩) (L ++ R)) (hk : L.length = k) (hl : (L ++ R).length = len) (hc : len ≤ cap) (hAR : (if cap = k then some (⟨b, off, none⟩ : Addr) else some ⟨b, off + k * 3, none⟩) = some AR) : Has encl w (some AR) R := by
  by_cases e : cap = k
  · have : R = [] := List.eq_nil_of_length_eq_zero (by rw [List.length_append] at hl; omega)
    rw [this]; exact Has.nil _ _
  · rw [if_neg e] at hAR
    have h2 := h.right okl
    rw [hk] at h2
    rw [← hAR]
    exact h2
/-- Three slices, laid. -/
theorem three_l (w : World) (p q r : Ptl) (g : Nat) (hg : g = w.heap.size) (hp : p.Ok w) (hq : q.Ok w) (hr : r.Ok w) (hm : p.X.length + q.X.length + r.X.length ≤ 1000) :
    Calls Try.prog 31 #[.slice (some ⟨g, 0, none⟩) 3 3] ((w.alloc (.cells #[.slice p.a p.len p.cap, .slice q.a q.len q.cap, .slice r.a r.len r.cap] 23)).drew) fun e w' => ∃ v, e = .returned v ∧ Own encl w' w.heap.size v (p.X ++ (q.X ++ r.X)) ∧ Below w.heap.size w w' := by
  have hn := Blk.new w #[.slice p.a p.len p.cap, .slice q.a q.len q.cap, .slice r.a r.len r.cap] 23
  rw [← hg] at hn
  have hb : Below w.heap.size w ((w.alloc (.cells #[.slice p.a p.len p.cap, .slice q.a q.len q.cap, .slice r.a r.len r.cap] 23)).drew) := (one_alloc _ _).drew
  have he : alll [p, q, r] = p.X ++ (q.X ++ r.X) := by simp [alll]
  refine (concat_l g 3 [p, q, r] _ rfl ?_ ?_ (by rw [he]; simp only [List.length_append]; omega) (by omega)).mono ?_
  · intro j x hx
    match j, hx with
    | 0, hx => cases hx; exact hn.cell 0
    | 1, hx => cases hx; exact hn.cell 1
    | 2, hx => cases hx; exact hn.cell 2
  · intro j x hx
    match j, hx with
    | 0, hx => cases hx; exact ⟨hp.has.keep hb, hp.len, hp.none_⟩
    | 1, hx => cases hx; exact ⟨hq.has.keep hb, hq.len, hq.none_⟩
    | 2, hx => cases hx; exact ⟨hr.has.keep hb, hr.len, hr.none_⟩
  · rintro e w' ⟨v, rfl, ho, hb2⟩
    rw [he] at ho
    exact ⟨v, rfl, ho.low hb.size, below_next hb hb2⟩
set_option maxRecDepth 100000 in
set_option maxHeartbeats 1000000 in
theorem clone_z (a : Option Addr) (len cap : Nat) (X : List Int) (w : World) (h : Has encz w a X) (hl : X.length = len) (hn : a = none → cap = 0) (hm : len * 8 ≤ 140737488351232) :
    Calls Try.prog 34 #[.slice a len cap] w fun e w' => ∃ v, e = .returned v ∧ Own encz w' w.heap.size v X ∧ Below w.heap.size w w' := by
  cases a with
  | none =>
    have hb : X = [] := by
      rcases Nat.eq_zero_or_pos X.length with h0 | h0
      · exact List.eq_nil_of_length_eq_zero h0
      · obtain ⟨g, o, e, _⟩ := h.2 h0; cases e
    subst hb
    have h0 := hn rfl
    simp at hl
    subst hl h0
    clear h hn
    have qn := fun w => Lib.run_eql_slice_nil (P := Try.prog) w 22 3 none 0 0 0 0 Try.underlying22
    go_enter Try.func34, Try.ntmps34
    go_wp2
    go_ret
    exact ⟨_, rfl, Own.nil _ _, Below.refl _ _⟩
  | some ad =>
    have hb1 : Below w.heap.size w (w.alloc (.cells #[] 3)) := one_alloc _ _
    have HLIT : Hid (Own encz (w.alloc (.cells #[] 3)) w.heap.size (.slice (some ⟨w.heap.size, 0, none⟩) 0 0) []) := Lib.hid (Own.made w w.heap.size (Nat.le_refl _))
    have HB1 := Lib.hid hb1; have H := Lib.hid h; have HL := Lib.hid hl
    clear hb1 h hl hn
    have qn := fun w => Lib.run_eql_slice_nil (P := Try.prog) w 22 3 (some ad) len cap 0 0 Try.underlying22
    go_enter Try.func34, Try.ntmps34
    go_wp2_with (at_builtin; refine wp_ap okz rfl (.tmp 5) (.tmp 6) rfl w.heap.size _ [] rfl HLIT.out _ _ _ X rfl (H.out.keep HB1.out) HL.out (fun h => by cases h) (by simp [maxLen]; omega) (by simp [encz]; omega) HB1.out.size ?_; intro v5 w5 ho5 hb5 hg5 hv5; have HO5 := Lib.hid ho5; have HB5 := Lib.hid (HB1.out.trans hb5); clear ho5 hg5 hb5 hv5)
    go_ret
    exact ⟨_, rfl, HO5.out, HB5.out⟩
set_option maxRecDepth 100000 in
set_option maxHeartbeats 1000000 in
/-- A supply with a quantity added for one instrument. -/
theorem plus_any (a : Option Addr) (len cap k : Nat) (q s : Int) (X : List Int) (w : World) (h : Has encz w a X) (hl : X.length = len) (hn : a = none → cap = 0) (hm : len * 8 ≤ 140737488351232) (hk : k < len) (hs : IntKind.i64.wrap (X.getD k 0 + q) = s) :
    Calls Try.prog 28 #[.slice a len cap, .int .i64 (k : Int), .int .i64 q] w fun e w' => ∃ v, e = .returned v ∧ Own encz w' w.heap.size v (X.set k s) ∧ Below w.heap.size w w' := by
  have HC := Lib.hid (clone_z a len cap X w h hl hn hm)
  have HL := Lib.hid hl
  have i0 : (0 : Int) ≤ (k : Int) := by omega
  have i1 : (k : Int) < (len : Int) := by omega
  have HX : Hid (k < X.length) := Lib.hid (by rw [hl]; exact hk)
  obtain ⟨x, hx⟩ : ∃ x, X.getD k 0 = x := ⟨_, rfl⟩
  rw [hx] at hs
  have HXX := Lib.hid hx
  clear h hl hn hx
  go_enter Try.func28, Try.ntmps28
  go_wp2_with (go_at_call 34; (with_reducible refine HC.out.mono ?_); rintro e w5 ⟨v5, rfl, ho5, hb5⟩; obtain ⟨g5, c5, rfl, hg5, hgl5, hf5⟩ := ho5.block (by have := HX.out; omega); have c0 := own_atz ho5 HX.out; have HS5 := Lib.hid (own_setz ho5 HX.out s); rw [HXX.out] at c0; rw [HL.out] at HS5 ⊢; have hfz := hf5 k; have HB5 := Lib.hid hb5; have HG5 := Lib.hid hg5; clear ho5 hf5 hb5 hgl5 hg5)
  go_ret
  exact ⟨_, rfl, HS5.out, HB5.out.setCell (p := ⟨g5, k, none⟩) HG5.out _⟩
/-- A list of one reservation, or none. -/
def resO (c d s : Int) : Option Lo := if s = 0 then none else some ⟨c, d, s⟩
theorem reservation_any (c d s : Int) (w : World) :
    Calls Try.prog 32 #[.int .i64 c, .int .i64 d, .int .i64 s] w fun e w' => ∃ p : Ptl, e = .returned (.slice p.a p.len p.cap) ∧ p.Ok w' ∧ p.X = (resO c d s).toList ∧ Below w.heap.size w w' := by
  by_cases h0 : s = 0
  · subst h0
    go_enter Try.func32, Try.ntmps32
    go_wp2
    go_ret
    exact ⟨⟨none, 0, 0, []⟩, rfl, ⟨Has.nil _ _, rfl, fun _ => rfl⟩, rfl, Below.refl _ _⟩
  · have b0 : (s == 0) = false := beq_eq_false_iff_ne.2 h0
    have HE : Hid (resO c d s = some ⟨c, d, s⟩) := Lib.hid (if_neg h0)
    clear h0
    go_enter Try.func32, Try.ntmps32
    go_wp2
    go_ret
    exact ⟨⟨some ⟨w.heap.size, 0, none⟩, 1, 1, [⟨c, d, s⟩]⟩, rfl, ⟨onel w ⟨c, d, s⟩ _ _ rfl, rfl, fun h => by cases h⟩, by rw [HE.out]; rfl, one_alloc _ _⟩
end Go.Proofs.Ytnaelmddafhjlaa.Bo

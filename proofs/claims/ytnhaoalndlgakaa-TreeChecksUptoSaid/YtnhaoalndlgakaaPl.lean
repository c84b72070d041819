/-
  Layer 10: accounts in memory (by their parents alone), Parents, and the law TreeChecks (of bulk up to the bound).
-/
import Derived.Test.YtnhaoalndlgakaaPh
import Derived.OwnWalk
namespace Go.Proofs.Ytnhaoalndlgakaa.Tr
open Go.RowKit
set_option linter.unusedVariables false
set_option linter.unusedSimpArgs false

def cellsA (p : Int) : List Value := [.int .i64 p, .slice none 0 0, .bool false, .int .i64 0]
/-- Accounts that have their parents alone. -/
def HasA (w : World) (a : Option Addr) (z : List Int) : Prop := z.length ≤ 9223372036854775807 ∧ (0 < z.length → ∃ b off, a = some ⟨b, off, none⟩ ∧ ∀ j, j < z.length →
  w.cell? ⟨b, off + j * 4, none⟩ = some (.int .i64 (par z j)) ∧ w.cell? ⟨b, off + j * 4 + 1, none⟩ = some (.slice none 0 0) ∧ w.cell? ⟨b, off + j * 4 + 2, none⟩ = some (.bool false) ∧ w.cell? ⟨b, off + j * 4 + 3, none⟩ = some (.int .i64 0))
theorem HasA.at {w : World} {a : Option Addr} {z : List Int} (h : HasA w a z) {j : Nat} (hj : j < z.length) : ∃ b off, a = some ⟨b, off, none⟩ ∧
    w.cell? ⟨b, off + j * 4, none⟩ = some (.int .i64 (par z j)) ∧ w.cell? ⟨b, off + j * 4 + 1, none⟩ = some (.slice none 0 0) ∧ w.cell? ⟨b, off + j * 4 + 2, none⟩ = some (.bool false) ∧ w.cell? ⟨b, off + j * 4 + 3, none⟩ = some (.int .i64 0) := by
  obtain ⟨b, off, e, hc⟩ := h.2 (by omega)
  exact ⟨b, off, e, hc j hj⟩
theorem HasA.keep {w w' : World} {a : Option Addr} {z : List Int} (h : HasA w a z) (hb : Below w.heap.size w w') : HasA w' a z :=
  ⟨h.1, fun h0 => by
    obtain ⟨b, off, e, hj⟩ := h.2 h0
    refine ⟨b, off, e, fun j hj' => ?_⟩
    obtain ⟨c0, c1, c2, c3⟩ := hj j hj'
    exact ⟨(hb.cell (p := ⟨b, off + j * 4, none⟩) (Fr.lt_of_cell c0)).trans c0, (hb.cell (p := ⟨b, off + j * 4 + 1, none⟩) (Fr.lt_of_cell c1)).trans c1, (hb.cell (p := ⟨b, off + j * 4 + 2, none⟩) (Fr.lt_of_cell c2)).trans c2, (hb.cell (p := ⟨b, off + j * 4 + 3, none⟩) (Fr.lt_of_cell c3)).trans c3⟩⟩
def OwnA (w : World) (base : Nat) (v : Value) (z : List Int) : Prop := w.ownsRow base 29 4 v z.length (z.flatMap cellsA)
theorem infoA : (Try.prog.info? 29).map (fun i => (i.zero, i.size, i.bytes)) = some (some (.agg #[.int .i64 0, .slice none 0 0, .bool false, .int .i64 0]), 4, 48) := by kernel_rfl
theorem flatA : ∀ (z : List Int) (j i : Nat) (f : Int), i < 4 → z[j]? = some f → (z.flatMap cellsA)[j * 4 + i]? = (cellsA f)[i]?
  | [], j, i, f, _, h => by simp at h
  | g :: F, 0, i, f, hi, h => by
    simp at h; subst h
    rw [List.flatMap_cons, List.getElem?_append_left (by simp [cellsA]; omega), Nat.zero_mul, Nat.zero_add]
  | g :: F, j + 1, i, f, hi, h => by
    rw [List.flatMap_cons, List.getElem?_append_right (by simp [cellsA]; omega), ← flatA F j i f hi (by simpa using h)]
    congr 1
    simp [cellsA]; omega
theorem cellsA_len : ∀ (z : List Int), (z.flatMap cellsA).length = z.length * 4
  | [] => rfl
  | f :: F => by rw [List.flatMap_cons, List.length_append, cellsA_len F]; simp [cellsA]; omega
theorem ownA_nil (w : World) (base : Nat) : OwnA w base (.slice none 0 0) [] := ⟨rfl, .inl ⟨rfl, rfl⟩⟩
theorem OwnA.has {w : World} {base : Nat} {v : Value} {z : List Int} (h : OwnA w base v z) : ∃ a cap, v = .slice a z.length cap ∧ HasA w a z ∧ (a = none → cap = 0) ∧ z.length ≤ cap ∧ cap ≤ maxLen := by
  have h' := h
  rcases h.2 with ⟨rfl, h0⟩ | ⟨g, cap, cur, rfl, hb, hh, h1, h2, h3, h4⟩
  · have e : z = [] := List.eq_nil_of_length_eq_zero h0
    subst e
    exact ⟨none, 0, rfl, ⟨by simp, fun h => absurd h (by decide)⟩, fun _ => rfl, Nat.le_refl _, by decide⟩
  · refine ⟨some ⟨g, 0, none⟩, cap, rfl, ⟨by unfold maxLen at h2; omega, fun _ => ⟨g, 0, rfl, fun j hj => ?_⟩⟩, (fun h => by cases h), h1, h2⟩
    have hf : z[j]? = some (par z j) := by simp [par, List.getD, hj]
    have e0 := flatA z j 0 _ (by decide) hf
    have e1 := flatA z j 1 _ (by decide) hf
    have e2 := flatA z j 2 _ (by decide) hf
    have e3 := flatA z j 3 _ (by decide) hf
    rw [Nat.zero_add]
    refine ⟨?_, ?_, ?_, ?_⟩
    · rw [World.ownsRow.cellAt h' (j * 4) (by omega)]
      rw [Nat.add_zero] at e0
      rw [e0]; rfl
    · rw [World.ownsRow.cellAt h' (j * 4 + 1) (by omega), e1]; rfl
    · rw [World.ownsRow.cellAt h' (j * 4 + 2) (by omega), e2]; rfl
    · rw [World.ownsRow.cellAt h' (j * 4 + 3) (by omega), e3]; rfl
theorem OwnA.keep {w w' : World} {base : Nat} {v : Value} {z : List Int} (h : OwnA w base v z) (hb : Below w.heap.size w w') : OwnA w' base v z :=
  World.ownsRow.kept h (grown_of_below hb none) (by cases v.ownBlock with | none => exact .inl rfl | some k => exact .inr (by simp))
theorem one_acct (w : World) (p : Int) (T : TypeId) (g : Nat) (hg : g = w.heap.size) : ∀ j u, ([p].flatMap cellsA)[j]? = some u → (w.alloc (.cells #[.int .i64 p, .slice none 0 0, .bool false, .int .i64 0] T)).cell? ((⟨g, 0, none⟩ : Addr).add j) = some u := by
  subst hg
  intro j u hu
  have e : ([p].flatMap cellsA) = [.int .i64 p, .slice none 0 0, .bool false, .int .i64 0] := rfl
  rw [e] at hu
  rw [Go.WideShapes.add_plain, Nat.zero_add, Lib.cell_of_heap (MapKept.heap_alloc w _).1, ← hu]
  exact List.getElem?_toArray ..
/-- append(own accounts, one account that has its parent alone). -/
theorem wp_apa {w : World} {ops : Array Oper} {rest : List Oper} {o : Oper} {a : Act} {Q : Exit → Act → World → Prop} (hgd : o.guard = none) (sl x : Operand)
    (ho : o.op = .call { callee := .builtin .append, args := #[sl, x], argTypes := #[27, 27] }) (base : Nat) (v : Value) (z0 : List Int) (hs : a.eval sl = v) (w0 : World) (p : Int) (T : TypeId) (hw : w = w0.alloc (.cells #[.int .i64 p, .slice none 0 0, .bool false, .int .i64 0] T)) (hown : OwnA w base v z0)
    (hx : a.eval x = .slice (some ⟨w0.heap.size, 0, none⟩) 1 1) (hb : (z0.length + 1) * 48 ≤ 140737488355328) (hbase : base ≤ w.heap.size)
    (h : ∀ v' w', OwnA w' base v' (z0 ++ [p]) → Below base w w' → wpList Try.prog ops Q rest (a.put o.dst v') w') : wpList Try.prog ops Q (o :: rest) a w := by
  obtain ⟨i0, fi, hz0, hz1, hz2⟩ := info_parts infoA
  refine wpList_append_own w hgd sl x 27 ho base 29 i0 (.agg #[.int .i64 0, .slice none 0 0, .bool false, .int .i64 0]) 4 48 Try.underlying27 fi hz0 hz1 hz2 (by kernel_rfl) (by decide) v z0.length (z0.flatMap cellsA) hs hown ⟨w0.heap.size, 0, none⟩ 1 1 ([p].flatMap cellsA) hx rfl (by rw [hw]; exact one_acct w0 p T _ rfl) (fun u hu => by
    have e : ([p].flatMap cellsA) = [.int .i64 p, .slice none 0 0, .bool false, .int .i64 0] := rfl
    rw [e] at hu
    simp at hu
    rcases hu with rfl | rfl | rfl | rfl <;> rfl) (by unfold maxLen; omega) hb hbase ?_
  intro v' w' h2 h3 _
  refine h v' w' ?_ ((Below.refl _ _).grown h3 hbase fun k hk => (World.ownsRow.lt hown k hk).1)
  unfold OwnA
  rw [List.length_append, List.flatMap_append]
  exact h2
/-! ### Parents -/
theorem made_zero (n : Nat) : (madeCells (Value.int .i64 0).cells (n * 1)).toList = (List.replicate n (0 : Int)).map (Value.int .i64) := by
  unfold madeCells
  rw [Nat.mul_one]
  apply List.ext_getElem
  · simp
  · intro j h1 h2
    simp [Value.cells, Nat.mod_one]
theorem wp_mkn {ops : Array Oper} {rest : List Oper} {o : Oper} {a : Act} {Q : Exit → Act → World → Prop} {w : World} (hgd : o.guard = none) (l c : Operand)
    (hop : o.op = Op.makeSlice 22 l c) (base n : Nat) (hl : a.eval l = .int .i64 (n : Int)) (hc : a.eval c = .int .i64 (n : Int)) (hn : n ≤ 281474976) (hbase : base ≤ w.heap.size)
    (h : ∀ w', OwnN w' base (.slice (some ⟨w.heap.size, 0, none⟩) n n) (List.replicate n 0) → Below base w w' → wpList Try.prog ops Q rest (a.put o.dst (.slice (some ⟨w.heap.size, 0, none⟩) n n)) w') : wpList Try.prog ops Q (o :: rest) a w := by
  obtain ⟨i0, hi, hz0, hz1, hz2⟩ := info_parts infoN
  refine wpList_make_full w hgd l c 22 hop base 3 i0 (.int .i64 0) 1 Try.underlying22 hi hz0 hz1 .i64 .i64 _ _ n hl hc rfl rfl (by rw [hz2]; omega) (by unfold maxLen; omega) hbase ?_
  intro w' h1 h2
  refine h w' ?_ ((Below.refl base w).grown h2 hbase (fun k hk => by cases hk))
  unfold OwnN
  rw [← made_zero, List.length_replicate]
  exact h1
set_option maxRecDepth 100000 in
set_option maxHeartbeats 2000000 in
theorem parents_any (a : Option Addr) (len cap : Nat) (z : List Int) (w : World) (h : HasA w a z) (hl : z.length = len) (hm : len ≤ 281474976) :
    Calls Try.prog 11 #[.slice a len cap] w fun e w' => ∃ u, e = .returned u ∧ OwnN w' w.heap.size u z ∧ Below w.heap.size w w' := by
  have H := Lib.hid h; have HL := Lib.hid hl
  obtain ⟨N, hN⟩ : ∃ N, N = w.heap.size := ⟨_, rfl⟩
  have HN := Lib.hid hN
  have hNle : N ≤ w.heap.size := by omega
  clear h hl hN
  rw [← HN.out]
  go_enter Try.func11, Try.ntmps11
  go_wp2_with (at_make; refine wp_mkn rfl (.tmp 7) (.tmp 7) rfl N len rfl rfl hm hNle ?_; intro w1 ho1 hb1; have HO1 := Lib.hid ho1; have HB1 := Lib.hid hb1; clear ho1 hb1)
  go_loopg [11] len (fun m i wr => ∃ (k : Nat) (l : List Int), k + m = len ∧ i = .int .i64 (k : Int) ∧ Hid (OwnN wr N (.slice (some ⟨w.heap.size, 0, none⟩) len len) l) ∧ Hid (l.length = len) ∧ Hid (∀ j, j < k → par l j = par z j) ∧ Hid (Below N w wr))
  case atStart => exact ⟨0, _, by omega, rfl, HO1, Lib.hid (by rw [List.length_replicate]), Lib.hid (fun j hj => absurd hj (Nat.not_lt_zero _)), HB1⟩
  case round =>
    obtain ⟨k, l, hk, rfl, HO, HLL, HP, HB⟩ := hrel
    by_cases hlt : k < len
    · obtain ⟨b, off, rfl, c0, c1, c2, c3⟩ := (H.out.keep (by have := HB.out; rwa [HN.out] at this)).at (show k < z.length by rw [HL.out]; exact hlt)
      obtain ⟨x, hx⟩ : ∃ x, par z k = x := ⟨_, rfl⟩
      have hal := one_alloc wr (.cells #[.int .i64 x, .slice none 0 0, .bool false, .int .i64 0] 29)
      obtain ⟨g', c', e, hgN, _, k0, k1, k2⟩ := (HO.out.keep hal).store (j := k) (by rw [HLL.out]; exact hlt)
      injection e with e1 e2 e3
      cases e1
      have K2 := Lib.hid k2
      have HP2 : Hid (∀ j, j < k + 1 → par (l.set k x) j = par z j) := Lib.hid fun j hj => by
        by_cases e : k = j
        · subst e
          rw [hx]
          have : k < l.length := by rw [HLL.out]; exact hlt
          simp [par, List.getD, this]
        · rw [← HP.out j (by omega)]
          simp [par, List.getD, List.getElem?_set, e]
      have HB2 : Hid (Below N w ((wr.alloc (.cells #[.int .i64 x, .slice none 0 0, .bool false, .int .i64 0] 29)).setCell ⟨w.heap.size, k, none⟩ (.int .i64 x))) := Lib.hid ((HB.out.alloc (by have := HB.out.size; omega) _).setCell (p := ⟨w.heap.size, k, none⟩) hgN _)
      rw [hx] at c0
      clear e2 e3 k2 hx hal
      go_wp2
      go_roundg (len - (k + 1))
      case measure => omega
      case rel => exact ⟨k + 1, _, by omega, by go_num, Lib.hid (K2.out x), Lib.hid (by rw [List.length_set]; exact HLL.out), HP2, HB2⟩
    · obtain rfl : k = len := by omega
      have he : l = z := ext_par (by rw [HLL.out, HL.out]) fun j hj => HP.out j (by rw [HLL.out] at hj; exact hj)
      subst he
      go_wp2
      go_ret
      exact ⟨_, rfl, HO.out, HB.out⟩

/-! ### TreeChecks -/
set_option maxRecDepth 100000 in
set_option maxHeartbeats 4000000 in
theorem checks_walk (a0 : Option Addr) (len0 cap0 : Nat) (z0 : List Int) (w : World) (hrow : Fr.IsRow .i64 w a0 len0 cap0 z0) (hm : cap0 ≤ 1048576) :
    Calls Try.prog 3 #[.slice a0 len0 cap0] w fun e w' => e = .returned (.bool true) ∧ Below w.heap.size w w' := by
  obtain ⟨z, hl, hz, hlc, hn⟩ := hasZ_of_row hrow
  have HZ : Hid (∀ W, Below w.heap.size w W → HasZ W a0 z) := Lib.hid fun W hb => hz.keep hb
  have HL := Lib.hid hl
  have hlen : len0 ≤ 1048576 := by omega
  clear hrow hl hz hn
  go_enter Try.func3, Try.ntmps3
  go_wp2_with fail
  refine (wakes_any w).mono ?_
  rintro e w1 ⟨rfl, hb⟩
  have B1 := Lib.hid hb
  clear hb
  go_wp2_with fail
  refine (check_any a0 len0 cap0 z w1 (HZ.out _ B1.out) HL.out).mono ?_
  rintro e w2 ⟨rfl, hb⟩
  have B2 := Lib.hid (below_next B1.out hb)
  clear hb B1
  go_wp2_with fail
  refine (rcheck_any a0 len0 cap0 z w2 (HZ.out _ B2.out) HL.out).mono ?_
  rintro e w3 ⟨rfl, hb⟩
  have B3 := Lib.hid (below_next B2.out hb)
  clear hb B2
  generalize (checkS z).1 = C1 at *
  generalize (checkS z).2 = C2 at *
  go_wp2_with fail
  go_loopg [7, 24] len0 (fun m x i wr => ∃ k : Nat, k + m = len0 ∧ i = .int .i64 (k : Int) ∧ Hid (OwnA wr w.heap.size x (z.take k)) ∧ Hid (Below w.heap.size w wr))
  case atStart => exact ⟨0, by omega, rfl, Lib.hid (ownA_nil _ _), B3⟩
  case round =>
    obtain ⟨k, hk, rfl, HX, HW⟩ := hrel
    by_cases hlt : k < len0
    · obtain ⟨b, off, rfl, c0⟩ := (HZ.out _ HW.out).at (show k < z.length by rw [HL.out]; exact hlt)
      obtain ⟨x, hx⟩ : ∃ x, par z k = x := ⟨_, rfl⟩
      have HS : Hid (z.take (k + 1) = z.take k ++ [x]) := Lib.hid (by
        rw [List.take_succ_eq_append_getElem (show k < z.length by rw [HL.out]; exact hlt), ← hx]
        unfold par
        simp [List.getD, show k < z.length by rw [HL.out]; exact hlt])
      have htl : (z.take k).length ≤ k := by rw [List.length_take]; omega
      rw [hx] at c0
      generalize z.take k = L at *
      clear hx
      go_wp2_with (at_builtin; (refine wp_apa rfl (.tmp 28) (.tmp 31) rfl w.heap.size _ L rfl wr x _ rfl (HX.out.keep (one_alloc _ _)) rfl (by omega) (by rw [World.size_alloc]; have := HW.out.size; omega) ?_; intro v5 w5 ho5 hb5; have HO5 := Lib.hid ho5; have HB5 := Lib.hid ((HW.out.alloc HW.out.size _).trans hb5); clear ho5 hb5))
      go_roundg (len0 - (k + 1))
      case measure => omega
      case rel => exact ⟨k + 1, by omega, by go_num, by rw [HS.out]; exact HO5, HB5⟩
    · obtain rfl : k = len0 := by omega
      have ht : z.take k = z := List.take_of_length_le (by rw [HL.out]; exact Nat.le_refl _)
      rw [ht] at HX
      obtain ⟨a5, c5, rfl, h5, -⟩ := HX.out.has
      have H5 := Lib.hid h5
      rw [HL.out]
      clear ht h5
      go_wp2_with fail
      refine (parents_any a5 k c5 z wr H5.out HL.out (by omega)).mono ?_
      rintro e w6 ⟨u, rfl, ho, hb⟩
      obtain ⟨a6, c6, rfl, h6, -⟩ := ho.has
      have B6 := Lib.hid (below_next HW.out hb); have H6 := Lib.hid h6
      clear ho hb h6
      rw [HL.out]
      go_wp2_with fail
      refine (same_any _ _ _ _ _ _ z z w6 H6.out HL.out (HZ.out _ B6.out) HL.out).mono ?_
      rintro e w7 ⟨rfl, nd, rfl⟩
      have B7 := Lib.hid (below_next B6.out (below_drew w6 nd))
      have dz : decide (z = z) = true := decide_eq_true rfl
      clear B6
      go_wp2
      go_ret
      exact ⟨rfl, B7.out⟩
end Go.Proofs.Ytnhaoalndlgakaa.Tr

/-
  Layer 1's law FixpKeeps: it returns true, for every list.
-/
import Derived.Test.YtghnhdooedmpjaaFxD
import Derived.Laws.AppendOwnNone
namespace Go.Proofs.Ytghnhdooedmpjaa.Fx
open Go.RowKit
set_option linter.unusedVariables false

theorem info_int : (Try.prog.info? 3).map (fun i => (i.zero, i.size, i.bytes)) = some (some (.int .i64 0), 1, 8) := by kernel_rfl
theorem one_new (w : World) (v : Value) (t : TypeId) : ∀ j u, [v][j]? = some u → (w.alloc (.cells #[v] t)).cell? ((⟨w.heap.size, 0, none⟩ : Addr).add j) = some u := by
  intro j u hj
  match j, hj with
  | 0, hj => simp at hj; subst hj; simp [Addr.add]
theorem ints_one (l : List Int) : ∀ u ∈ l.map (Value.int .i64), u.oneCell' = true := by
  intro u hu
  obtain ⟨n, _, rfl⟩ := List.mem_map.1 hu
  rfl
theorem own_form {w : World} {base e : Nat} {v : Value} {n : Nat} {xs : List Value} (h : w.ownsRow base e 1 v (n + 1) xs) :
    ∃ g cap, v = .slice (some ⟨g, 0, none⟩) (n + 1) cap ∧ base ≤ g ∧ n + 1 ≤ cap ∧ cap ≤ maxLen ∧ ∀ j u, xs[j]? = some u → w.cell? ⟨g, j, none⟩ = some u := by
  have hl := h.1
  have hcell : ∀ {g cap}, v = .slice (some ⟨g, 0, none⟩) (n + 1) cap → ∀ j u, xs[j]? = some u → w.cell? ⟨g, j, none⟩ = some u := by
    intro g cap hv j u hj
    subst hv
    have hjl : j < xs.length := by
      rcases Nat.lt_or_ge j xs.length with h1 | h1
      · exact h1
      · rw [List.getElem?_eq_none h1] at hj; cases hj
    rw [h.cellAt j (by omega)]; exact hj
  rcases h.2 with ⟨_, h0⟩ | ⟨g, cap, cur, hv, hb, _, h1, h2, _⟩
  · omega
  · exact ⟨g, cap, hv, hb, h1, h2, hcell hv⟩
theorem mine_at {w : World} {g len : Nat} {zs : List Int} (hl : len ≤ zs.length) (h : ∀ j u, ((zs.take len).map (Value.int .i64) ++ [.int .i64 71])[j]? = some u → w.cell? ⟨g, j, none⟩ = some u) (j : Nat) (hj : j < len) : w.cell? ⟨g, j, none⟩ = some (.int .i64 (zs.getD j 0)) := by
  apply h
  rw [List.getElem?_append_left (by simp; omega), List.getElem?_map, List.getElem?_take, if_pos hj, List.getElem?_eq_getElem (by omega)]
  simp [List.getD, show j < zs.length by omega]
theorem mine_row {w : World} {g len : Nat} {zs : List Int} (hl : len ≤ zs.length ∧ len ≤ 9223372036854775807) (h : ∀ j u, ((zs.take len).map (Value.int .i64) ++ [.int .i64 71])[j]? = some u → w.cell? ⟨g, j, none⟩ = some u) : Fr.HasRow .i64 w (some ⟨g, 0, none⟩) len zs :=
  ⟨hl.1, hl.2, fun _ => ⟨g, 0, rfl, fun j hj => by rw [Nat.zero_add]; exact mine_at hl.1 h j hj⟩⟩
theorem mine_last {w : World} {g len : Nat} {zs : List Int} (hl : len ≤ zs.length ∧ len ≤ 9223372036854775807) (h : ∀ j u, ((zs.take len).map (Value.int .i64) ++ [.int .i64 71])[j]? = some u → w.cell? ⟨g, j, none⟩ = some u) : w.cell? ⟨g, len, none⟩ = some (.int .i64 71) := by
  apply h
  have e : ((zs.take len).map (Value.int .i64)).length = len := by simp; omega
  rw [List.getElem?_append_right (by omega), e, Nat.sub_self]; rfl
theorem src_cells {w : World} {x : Addr} {zs : List Int} {len cap : Nat} (h : ∀ i, i < zs.length → w.cell? (x.add i) = some (.int .i64 (zs.getD i 0))) (h1 : len ≤ cap) (h2 : zs.length = cap) (n : Nat) :
    ∀ j u, ((zs.take len).map (Value.int .i64))[j]? = some u → ((w.drewN n).alloc (.cells #[] 3)).cell? (x.add j) = some u := by
  intro j u hj
  have hjl : j < len := by
    rcases Nat.lt_or_ge j len with h3 | h3
    · exact h3
    · rw [List.getElem?_eq_none (by simp; omega)] at hj; cases hj
  have hc := h j (by omega)
  have hlt := Fr.lt_of_cell hc
  rw [World.cell?_alloc_lt (w.drewN n) _ _ hlt]
  rw [List.getElem?_map, List.getElem?_take, if_pos hjl, List.getElem?_eq_getElem (by omega)] at hj
  simp [List.getD, show j < zs.length by omega] at hj hc
  rw [← hj]; exact hc
theorem below_one {w w1 : World} {n : Nat} {o : Obj} (hg : ((w.drewN n).alloc o).grownBy w1 (some w.heap.size)) : Below w.heap.size w w1 := by
  refine ⟨hg.os, hg.tape, hg.output, ?_, fun k hk => ?_⟩
  · have := hg.size; rw [World.size_alloc] at this; exact Nat.le_of_succ_le this
  · have h1 := hg.block k (by rw [World.size_alloc]; exact Nat.lt_succ_of_lt hk) (fun e => by cases e; omega)
    rw [h1]; exact Below.heap_alloc (w.drewN n) o k hk
theorem below_two {w0 w1 w2 : World} {e : Nat} {o : Obj} {v : Value} {n : Nat} {xs : List Value} (hb : Below w0.heap.size w0 w1) (hg : (w1.alloc o).grownBy w2 v.ownBlock) (ho : w1.ownsRow w0.heap.size e 1 v n xs) : Below w0.heap.size w0 w2 := by
  have hs := hg.size
  rw [World.size_alloc] at hs
  refine hb.trans ⟨hg.os, hg.tape, hg.output, by omega, fun k hk => ?_⟩
  have h0 := hb.size
  have h1 := hg.block k (by rw [World.size_alloc]; omega) (fun e => by have := (ho.lt k e.symm).1; omega)
  rw [h1]; exact Below.heap_alloc w1 o k (by omega)

set_option maxRecDepth 100000 in
set_option maxHeartbeats 2000000 in
theorem keeps_some (x : Addr) (len cap : Nat) (zs : List Int) (w : World) (hrow : Fr.IsRow .i64 w (some x) len cap zs) (hreach : cap * 8 ≤ 140737488351232) :
    Calls Try.prog 8 #[.slice (some x) len cap] w fun e w' => e = .returned (.bool true) ∧ Below w.heap.size w w' := by
  obtain ⟨i0, hi, hz0, hz1, hz2⟩ := info_parts info_int
  obtain ⟨h1, h2, h4⟩ : len ≤ cap ∧ zs.length = cap ∧ (∀ i, i < zs.length → w.cell? (x.add i) = some (.int .i64 (zs.getD i 0))) := by
    rcases hrow with ⟨h, _⟩ | ⟨y, hy, h1, h2, h3, h4, _⟩
    · cases h
    · cases hy; exact ⟨h1, h3, h4⟩
  have hL := Lib.hid (show len ≤ zs.length ∧ len ≤ 9223372036854775807 by omega)
  have H4 := Lib.hid h4; have HR := Lib.hid hrow.has; clear h4 hrow
  go_enter Try.func8, Try.ntmps8
  go_wp2_with (first | (go_at_call 9; refine (wakes_any _).mono ?_; rintro e w' ⟨rfl, n, rfl⟩) | (at_builtin; refine wpList_append_own _ rfl (.tmp 8) (.tmp 9) 31 rfl w.heap.size 3 i0 (.int .i64 0) 1 8 Try.underlying31 hi hz0 hz1 hz2 rfl (by decide) (.slice (some ⟨w.heap.size, 0, none⟩) 0 0) 0 [] rfl (World.ownsRow_made (w.drewN n) #[] 0 (Nat.le_refl _) (by decide) rfl) x len cap ((zs.take len).map (Value.int .i64)) rfl (by simp; omega) (src_cells H4.out h1 h2 n) (ints_one _) (by unfold maxLen; omega) (by omega) (by rw [World.size_alloc]; exact Nat.le_succ _) ?_; intro v1 w1 hown1' hgrow1 _; simp only [Nat.zero_add, List.nil_append] at hown1'; have hown1 := Lib.hid hown1'; have hb1 := Lib.hid (below_one (n := n) hgrow1); clear hown1' hgrow1) | (at_builtin; refine wpList_append_own _ rfl (.tmp 10) (.tmp 11) 31 rfl w.heap.size 3 i0 (.int .i64 0) 1 8 Try.underlying31 hi hz0 hz1 hz2 rfl (by decide) v1 len ((zs.take len).map (Value.int .i64)) rfl (hown1.out.alloc _) ⟨w1.heap.size, 0, none⟩ 1 1 [.int .i64 71] rfl rfl (one_new _ _ _) (by simp [Value.oneCell']) (by unfold maxLen; omega) (by omega) (by have := hb1.out.size; rw [World.size_alloc]; omega) ?_; intro v2 w2 hown2 hgrow2 _; obtain ⟨g, cap2, hv2, hg2, hc2, hc3, hcell2⟩ := own_form hown2; subst hv2; have hb2 := Lib.hid (below_two hb1.out hgrow2 hown1.out); have hr2 := Lib.hid (mine_row (hl := hL.out) hcell2); have hlast := Lib.hid (mine_last (hl := hL.out) hcell2); have hc4 := Lib.hid hcell2; clear hown2 hgrow2 hcell2) | (go_at_call 20; refine (sum_any _ _ _ _ _ (row_drew hr2.out 0)).mono ?_; rintro e w' ⟨rfl, n3, rfl⟩) | (go_at_call 21; refine (prod_any _ _ _ _ _ (row_drew hr2.out _)).mono ?_; rintro e w' ⟨rfl, n4, rfl⟩))
  obtain ⟨ns, hns⟩ : ∃ ns, ns = n3 + n4 := ⟨_, rfl⟩
  go_loopg [25] len (fun m i wr => ∃ k : Nat, k + m = len ∧ i = .int .i64 (k : Int) ∧ wr = w2.drewN (n3 + n4))
  case atStart => exact ⟨0, by omega, rfl, by simp⟩
  case round =>
    obtain ⟨k, hk, rfl, rfl⟩ := hrel
    by_cases hlt : k < len
    · obtain ⟨b, off, hx, hj⟩ := HR.out.2.2 (by omega)
      have ck : w2.cell? ⟨b, off + k, none⟩ = some (.int .i64 (zs.getD k 0)) := (hb2.out.cell (p := ⟨b, off + k, none⟩) (Fr.lt_of_cell (hj k hlt))).trans (hj k hlt)
      have cm := mine_at hL.out.1 hc4.out k hlt
      obtain ⟨y, hy⟩ : ∃ y, zs.getD k 0 = y := ⟨_, rfl⟩
      rw [hy] at ck cm
      clear hy hj
      injection hx with hx'
      subst hx'
      go_wp2
      go_roundg (gk - 1)
      case measure => omega
      case rel => exact ⟨k + 1, by omega, by go_num, rfl⟩
    · have cl := hlast.out
      obtain rfl : k = len := by omega
      go_wp2
      go_ret
      exact ⟨rfl, hb2.out.trans ⟨rfl, rfl, rfl, Nat.le_refl _, fun _ _ => rfl⟩⟩

theorem below_fresh (w : World) (n : Nat) : Below w.heap.size w ((w.drewN n).alloc (.cells #[] 3)) := (below_drewN (Below.refl _ _) n).alloc (Nat.le_refl _) _
theorem one_new' (w : World) (n : Nat) (v : Value) : ∀ j u, [v][j]? = some u → (((w.drewN n).alloc (.cells #[] 3)).alloc (.cells #[v] 3)).cell? ((⟨w.heap.size + 1, 0, none⟩ : Addr).add j) = some u := by
  have h := one_new ((w.drewN n).alloc (.cells #[] 3)) v 3
  rw [World.size_alloc] at h
  exact h

set_option maxRecDepth 100000 in
set_option maxHeartbeats 2000000 in
theorem keeps_none (zs : List Int) (w : World) (hrow : Fr.IsRow .i64 w none 0 0 zs) :
    Calls Try.prog 8 #[.slice none 0 0] w fun e w' => e = .returned (.bool true) ∧ Below w.heap.size w w' := by
  obtain ⟨i0, hi, hz0, hz1, hz2⟩ := info_parts info_int
  have hL := Lib.hid (show 0 ≤ zs.length ∧ 0 ≤ 9223372036854775807 by omega)
  have HR := Lib.hid hrow.has; clear hrow
  go_enter Try.func8, Try.ntmps8
  go_wp2_with (first | (go_at_call 9; refine (wakes_any _).mono ?_; rintro e w' ⟨rfl, n, rfl⟩) | (at_builtin; refine wpList_append_own_none rfl (.tmp 8) (.tmp 9) 31 rfl w.heap.size 3 i0 1 Try.underlying31 hi (.slice (some ⟨w.heap.size, 0, none⟩) 0 0) 0 [] rfl (World.ownsRow_made (w.drewN n) #[] 0 (Nat.le_refl _) (by decide) rfl) rfl ?_; have hown1 := Lib.hid (World.ownsRow_made (base := w.heap.size) (e := 3) (size := 1) (w.drewN n) #[] 0 (Nat.le_refl _) (by decide) rfl); have hb1 := Lib.hid (below_fresh w n)) | (at_builtin; refine wpList_append_own _ rfl (.tmp 10) (.tmp 11) 31 rfl w.heap.size 3 i0 (.int .i64 0) 1 8 Try.underlying31 hi hz0 hz1 hz2 rfl (by decide) (.slice (some ⟨w.heap.size, 0, none⟩) 0 0) 0 [] rfl (hown1.out.alloc _) ⟨w.heap.size + 1, 0, none⟩ 1 1 [.int .i64 71] rfl rfl (one_new' w n _) (by simp [Value.oneCell']) (by unfold maxLen; omega) (by omega) (by have := hb1.out.size; rw [World.size_alloc]; omega) ?_; intro v2 w2 hown2 hgrow2 _; obtain ⟨g, cap2, hv2, hg2, hc2, hc3, hcell2⟩ := own_form hown2; subst hv2; have hb2 := Lib.hid (below_two hb1.out hgrow2 hown1.out); have hr2 := Lib.hid (mine_row (hl := hL.out) hcell2); have hlast := Lib.hid (mine_last (hl := hL.out) hcell2); have hc4 := Lib.hid hcell2; clear hown2 hgrow2 hcell2) | (go_at_call 20; refine (sum_any _ _ _ _ _ (row_drew hr2.out 0)).mono ?_; rintro e w' ⟨rfl, n3, rfl⟩) | (go_at_call 21; refine (prod_any _ _ _ _ _ (row_drew hr2.out _)).mono ?_; rintro e w' ⟨rfl, n4, rfl⟩))
  obtain ⟨ns, hns⟩ : ∃ ns, ns = n3 + n4 := ⟨_, rfl⟩
  go_loopg [25] 0 (fun m i wr => ∃ k : Nat, k + m = 0 ∧ i = .int .i64 (k : Int) ∧ wr = w2.drewN (n3 + n4))
  case atStart => exact ⟨0, by omega, rfl, by simp⟩
  case round =>
    obtain ⟨k, hk, rfl, rfl⟩ := hrel
    by_cases hlt : k < 0
    · exact absurd hlt (Nat.not_lt_zero _)
    · have cl := hlast.out
      obtain rfl : k = 0 := by omega
      go_wp2
      go_ret
      exact ⟨rfl, hb2.out.trans ⟨rfl, rfl, rfl, Nat.le_refl _, fun _ _ => rfl⟩⟩

theorem keeps_walk (a : Option Addr) (len cap : Nat) (zs : List Int) (w : World) (hrow : Fr.IsRow .i64 w a len cap zs) (hreach : cap * 8 ≤ 140737488351232) :
    Calls Try.prog 8 #[.slice a len cap] w fun e w' => e = .returned (.bool true) ∧ Below w.heap.size w w' := by
  cases a with
  | some x => exact keeps_some x len cap zs w hrow hreach
  | none =>
    rcases id hrow with ⟨_, rfl, rfl, _⟩ | ⟨x, hx, _⟩
    · exact keeps_none zs w hrow
    · cases hx
end Go.Proofs.Ytghnhdooedmpjaa.Fx

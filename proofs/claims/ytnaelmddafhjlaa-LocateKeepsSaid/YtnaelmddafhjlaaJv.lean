/-
  Layer 14: the law LocateKeeps.
-/
import Derived.Test.YtnaelmddafhjlaaJu
import Derived.Deep.DeepMust
namespace Go.Proofs.Ytnaelmddafhjlaa.Bo
open Go.RowKit Rw
set_option linter.unusedVariables false
set_option linter.unusedSimpArgs false

theorem set_grown (W : World) (g i : Nat) (v : Value) : W.grownBy (W.setCell ⟨g, i, none⟩ v) (some g) := ⟨rfl, rfl, rfl, by simp [World.setCell], fun k _ hk => Below.heap_setCell _ _ _ _ (fun e => hk (by rw [e]))⟩
theorem grown_trans {A B C : World} {row : Option Nat} (h1 : A.grownBy B row) (h2 : B.grownBy C row) : A.grownBy C row :=
  ⟨h2.os.trans h1.os, h2.tape.trans h1.tape, h2.output.trans h1.output, Nat.le_trans h1.size h2.size, fun k hk hr => (h2.block k (Nat.lt_of_lt_of_le hk h1.size) hr).trans (h1.block k hk hr)⟩
theorem made_l (w : World) : Own encl (w.alloc (.cells #[] 42)) w.heap.size (.slice (some ⟨w.heap.size, 0, none⟩) 0 0) [] := Own.made w _ (Nat.le_refl _)
theorem two_litz (w : World) : Has encz (w.alloc (.cells #[.int .i64 71, .int .i64 72] 3)) (some ⟨w.heap.size, 0, none⟩) [71, 72] := Has.lit (E := encz) w [71, 72] _ _ _ rfl rfl (by simp)
theorem two_litl (w : World) : Has encl (w.alloc (.cells #[.int .i64 73, .int .i64 0, .int .i64 0, .int .i64 74, .int .i64 0, .int .i64 0] 42)) (some ⟨w.heap.size, 0, none⟩) [⟨73, 0, 0⟩, ⟨74, 0, 0⟩] := Has.lit (E := encl) w [⟨73, 0, 0⟩, ⟨74, 0, 0⟩] _ _ _ rfl rfl (by simp)
theorem three_litz (w : World) : Has encz (w.alloc (.cells #[.int .i64 1, .int .i64 2, .int .i64 3] 3)) (some ⟨w.heap.size, 0, none⟩) [1, 2, 3] := Has.lit (E := encz) w [1, 2, 3] _ _ _ rfl rfl (by simp)
theorem three_litl (w : World) : Has encl (w.alloc (.cells #[.int .i64 0, .int .i64 0, .int .i64 0, .int .i64 0, .int .i64 0, .int .i64 0, .int .i64 0, .int .i64 0, .int .i64 0] 42)) (some ⟨w.heap.size, 0, none⟩) [zl, zl, zl] := Has.lit (E := encl) w [zl, zl, zl] _ _ _ rfl rfl (by simp)
theorem ends_z {w : World} {g n : Nat} {X : List Int} (h : Has encz w (some ⟨g, 0, none⟩) (X ++ [71, 72])) (hn : X.length = n) : w.cell? ⟨g, n, none⟩ = some (.int .i64 71) ∧ w.cell? ⟨g, n + 1, none⟩ = some (.int .i64 72) := by
  subst hn
  obtain ⟨b, off, e, c0⟩ := atz h (j := X.length) (by simp)
  obtain ⟨b', off', e', d0⟩ := atz h (j := X.length + 1) (by simp)
  cases e; cases e'
  refine ⟨by rw [← Nat.zero_add X.length, c0]; simp [List.getD], by rw [← Nat.zero_add (X.length + 1), d0]; simp [List.getD]⟩
theorem ends_l {w : World} {g n : Nat} {X : List Lo} (h : Has encl w (some ⟨g, 0, none⟩) (X ++ [⟨73, 0, 0⟩, ⟨74, 0, 0⟩])) (hn : X.length = n) : w.cell? ⟨g, n * 3, none⟩ = some (.int .i64 73) ∧ w.cell? ⟨g, (n + 1) * 3, none⟩ = some (.int .i64 74) := by
  subst hn
  obtain ⟨b, off, e, c0, _⟩ := atl h (j := X.length) (by simp)
  obtain ⟨b', off', e', d0, _⟩ := atl h (j := X.length + 1) (by simp)
  cases e; cases e'
  refine ⟨by rw [← Nat.zero_add (X.length * 3), c0]; simp [List.getD], by rw [← Nat.zero_add ((X.length + 1) * 3), d0]; simp [List.getD]⟩
theorem supL_le (Z : List Int) (i q : Int) : (supL Z i q).length ≤ Z.length := by unfold supL; split <;> simp
theorem resZ_le (Z : List Int) (n : Nat) (o : Option Lo) (i q : Int) : (resZ Z n o i q).length ≤ Z.length := by unfold resZ; split <;> simp
theorem resX_le {Z : List Int} {n : Nat} {X L R : List Lo} {o : Option Lo} {c i q : Int} {p : K2} (hd : Dec keyl X p L o R) : (resX Z n L o R c i q).length ≤ X.length + 1 := by
  have := hd.len
  unfold resX
  split
  · have : (resO c i (heldO o + q)).toList.length ≤ 1 := resO_len _ _ _
    simp only [List.length_append]; omega
  · simp
/-- Three lists of the call's own, one behind another. -/
structure Tri (wO : World) (M s1 s2 : Nat) (va vb vc : Value) (na nb nc : Nat) (w : World) : Prop where
  below : Below M wO w
  sz : s2 ≤ w.heap.size
  a : ∃ Z : List Int, Z.length = na ∧ Own encz w M va Z
  b : ∃ Z : List Int, Z.length = nb ∧ Own encz w s1 vb Z
  c : ∃ Z : List Lo, Z.length = nc ∧ Own encl w s2 vc Z
section
variable {wO : World} {M s1 s2 : Nat} {va vb vc : Value} {na nb nc : Nat} {w : World}
theorem Tri.stA {g ca : Nat} (h : Tri wO M s1 s2 (.slice (some ⟨g, 0, none⟩) na ca) vb vc na nb nc w) (hM : M ≤ s1) (h12 : s1 ≤ s2) (ab : g < s1) (hg : M ≤ g) {j : Nat} (hj : j < na) (v : Int) : Tri wO M s1 s2 (.slice (some ⟨g, 0, none⟩) na ca) vb vc na nb nc (w.setCell ⟨g, j, none⟩ (.int .i64 v)) := by
  obtain ⟨Z, hZ, hO⟩ := h.a
  obtain ⟨Y, hY, hP⟩ := h.b
  obtain ⟨X, hX, hQ⟩ := h.c
  have gr := set_grown w g j (.int .i64 v)
  have sz := h.sz
  subst hZ
  refine ⟨h.below.grown gr (by omega) (fun r e => by cases e; exact hg), Nat.le_trans sz gr.size, ⟨Z.set j v, by simp, own_setz hO hj v⟩, ⟨Y, hY, hP.kept gr fun r e => by cases e; exact ab⟩, ⟨X, hX, hQ.kept gr fun r e => by cases e; omega⟩⟩
theorem Tri.stB {g cb : Nat} (h : Tri wO M s1 s2 va (.slice (some ⟨g, 0, none⟩) nb cb) vc na nb nc w) (hM : M ≤ s1) (h12 : s1 ≤ s2) (ab : ∀ r, va.ownBlock = some r → r < s1) (bc : g < s2) (hg : s1 ≤ g) {j : Nat} (hj : j < nb) (v : Int) : Tri wO M s1 s2 va (.slice (some ⟨g, 0, none⟩) nb cb) vc na nb nc (w.setCell ⟨g, j, none⟩ (.int .i64 v)) := by
  obtain ⟨Z, hZ, hO⟩ := h.a
  obtain ⟨Y, hY, hP⟩ := h.b
  obtain ⟨X, hX, hQ⟩ := h.c
  have gr := set_grown w g j (.int .i64 v)
  have sz := h.sz
  subst hY
  refine ⟨h.below.grown gr (by omega) (fun r e => by cases e; omega), Nat.le_trans sz gr.size, ⟨Z, hZ, hO.gone gr fun r hr e => by cases e; have := ab _ hr; omega⟩, ⟨Y.set j v, by simp, own_setz hP hj v⟩, ⟨X, hX, hQ.kept gr fun r e => by cases e; exact bc⟩⟩
theorem Tri.stC {g cc : Nat} (h : Tri wO M s1 s2 va vb (.slice (some ⟨g, 0, none⟩) nc cc) na nb nc w) (hM : M ≤ s1) (h12 : s1 ≤ s2) (ab : ∀ r, va.ownBlock = some r → r < s1) (bc : ∀ r, vb.ownBlock = some r → r < s2) (hg : s2 ≤ g) {j : Nat} (hj : j < nc) (x : Lo) :
    Tri wO M s1 s2 va vb (.slice (some ⟨g, 0, none⟩) nc cc) na nb nc (((w.setCell ⟨g, j * 3, none⟩ (.int .i64 x.acct)).setCell ⟨g, j * 3 + 1, none⟩ (.int .i64 x.instr)).setCell ⟨g, j * 3 + 2, none⟩ (.int .i64 x.qty)) := by
  obtain ⟨Z, hZ, hO⟩ := h.a
  obtain ⟨Y, hY, hP⟩ := h.b
  obtain ⟨X, hX, hQ⟩ := h.c
  have gr := grown_trans (grown_trans (set_grown w g (j * 3) (.int .i64 x.acct)) (set_grown _ g (j * 3 + 1) (.int .i64 x.instr))) (set_grown _ g (j * 3 + 2) (.int .i64 x.qty))
  have sz := h.sz
  subst hX
  refine ⟨h.below.grown gr (by omega) (fun r e => by cases e; omega), Nat.le_trans sz gr.size, ⟨Z, hZ, hO.gone gr fun r hr e => by cases e; have := ab _ hr; omega⟩, ⟨Y, hY, hP.gone gr fun r hr e => by cases e; have := bc _ hr; omega⟩, ⟨X.set j x, by simp, own_alll hQ hj x⟩⟩
end
set_option maxRecDepth 100000 in
set_option maxHeartbeats 16000000 in
theorem keeps_walk (a0 : Option Addr) (len0 cap0 : Nat) (Z : List Int) (a1 : Option Addr) (len1 cap1 : Nat) (X : List Lo) (x2 : Lo) (w : World) (w0 : Inz w a0 len0 cap0 Z) (w1' : Inl w a1 len1 cap1 X) :
    Calls Try.prog 7 #[.slice a0 len0 cap0, .slice a1 len1 cap1, vl x2] w fun e w' => e = .returned (.bool true) ∧ Below w.heap.size w w' := by
  obtain ⟨hx0, hl0, hlc0, hn0, hcap0⟩ := w0
  obtain ⟨hx1, hl1, hlc1, hn1, hcap1⟩ := w1'
  obtain ⟨c, i, q⟩ := x2
  obtain ⟨N, hN⟩ : ∃ N, N = w.heap.size := ⟨_, rfl⟩
  obtain ⟨W0, hW0⟩ : ∃ W0, W0 = w.alloc (.cells #[.int .i64 c, .int .i64 i, .int .i64 q] 29) := ⟨_, rfl⟩
  have x0 : Blk W0 N #[.int .i64 c, .int .i64 i, .int .i64 q] 29 := by rw [hW0, hN]; exact Blk.new w _ _
  have hb : Below w.heap.size w W0 := by rw [hW0]; exact one_alloc _ _
  have KS : Hid (∀ wx, Below W0.heap.size W0 wx → wx.cell? ⟨N, 0, none⟩ = some (.int .i64 c) ∧ wx.cell? ⟨N, 1, none⟩ = some (.int .i64 i) ∧ wx.cell? ⟨N, 2, none⟩ = some (.int .i64 q)) := Lib.hid fun wx hb => ⟨(x0.keep hb).cell 0, (x0.keep hb).cell 1, (x0.keep hb).cell 2⟩
  have HX0 : Hid (∀ wx, Below W0.heap.size W0 wx → Has encz wx a0 Z) := Lib.hid fun wx h => (hx0.keep hb).keep h
  have HX1 : Hid (∀ wx, Below W0.heap.size W0 wx → Has encl wx a1 X) := Lib.hid fun wx h => (hx1.keep hb).keep h
  have HB := Lib.hid hb; have HN := Lib.hid hN; have HW := Lib.hid hW0; have HL0 := Lib.hid hl0; have HL1 := Lib.hid hl1; have HN0 := Lib.hid hn0; have HN1 := Lib.hid hn1
  clear hx0 hx1 hN hW0 x0 hb hl0 hl1 hn0 hn1
  go_enter Try.func7, Try.ntmps7
  go_wp2_with fail
  rw [← HN.out, ← HW.out]
  clear HN HW
  refine (wakes_any W0).mono ?_
  rintro e w1 ⟨rfl, hb1⟩
  have B1 := Lib.hid hb1
  clear hb1
  go_wp2_with fail
  refine (rtidy_any a0 len0 cap0 Z a1 len1 cap1 X w1 (HX0.out _ B1.out) HL0.out (HX1.out _ B1.out) HL1.out).mono ?_
  rintro e w3 ⟨rfl, hb2⟩
  have B3 := Lib.hid (below_next B1.out hb2)
  clear hb2 B1
  cases hR : tidyS Z X with
  | false =>
    clear hR
    go_wp2
    go_ret
    exact ⟨rfl, below_next HB.out B3.out⟩
  | true =>
  by_cases h512 : 512 < len1
  · have i0 : (512 : Int) < (len1 : Int) := by omega
    clear hR
    go_wp2
    go_ret
    exact ⟨rfl, below_next HB.out B3.out⟩
  have i0 : ¬ (512 : Int) < (len1 : Int) := by omega
  obtain ⟨hZ, hP, hQ⟩ := tidy_of hR
  obtain ⟨L, o, R, hd⟩ := dec_of (key := keyl) (c, i) hP
  have HQO : Hid (∀ y, o = some y → stockB y.qty = true) := Lib.hid fun y e => hQ y (hd.mem y e)
  have HZS : Hid (∀ j, j < len0 → stockB (Z.getD j 0) = true) := Lib.hid fun j hj => hZ j (by rw [HL0.out]; exact hj)
  have HD := Lib.hid hd
  clear hR hZ hP hQ hd
  go_upto_region 6 with (first
    | (at_builtin; (refine wp_ap okz rfl (.tmp 28) (.tmp 29) rfl w3.heap.size _ [] rfl (made_z w3) _ _ _ Z rfl (HX0.out _ (below_next B3.out (one_alloc _ _))) HL0.out HN0.out (by simp [maxLen]; omega) (by simp [encz]; omega) (by simp) ?_; intro v5 w5 ho5 hb5 hg5 hv5; have HO5 := Lib.hid ho5; have HB5 := Lib.hid ((one_alloc w3 (.cells #[] 3)).trans hb5); clear ho5 hb5 hg5 hv5))
    | (at_builtin; (refine wp_ap okz rfl (.tmp 30) (.tmp 31) rfl w3.heap.size _ ([] ++ Z) rfl (HO5.out.keep (one_alloc _ _)) _ _ _ [71, 72] rfl (two_litz w5) rfl (fun h => by cases h) (by have := HL0.out; simp [maxLen]; omega) (by have := HL0.out; simp [encz]; omega) (by rw [World.size_alloc]; exact Nat.le_trans HB5.out.size (Nat.le_add_right _ 1)) ?_; intro v6 w6 ho6 hb6 hg6 hv6; have HO6 := Lib.hid ho6; have HB6 := Lib.hid ((HB5.out.trans ((one_alloc w5 _).mono HB5.out.size)).trans hb6); clear ho6 hb6 hg6 hv6)))
  have ho6 := HO6.out
  rw [List.nil_append] at ho6
  obtain ⟨g7, c7, rfl, _, _, _⟩ := ho6.block (by simp)
  obtain ⟨n7, hn7⟩ : ∃ n7, n7 = (Z ++ [(71 : Int), 72]).length := ⟨_, rfl⟩
  have hn7' : n7 = len0 + 2 := by rw [hn7, List.length_append, HL0.out]; rfl
  rw [← hn7]
  rw [← hn7] at ho6
  obtain ⟨a7', c7', e7, hh7, _, hc7, hd7⟩ := (show Own encz w6 w3.heap.size (.slice (some ⟨g7, 0, none⟩) (Z ++ [(71 : Int), 72]).length c7) (Z ++ [71, 72]) by rw [← hn7]; exact ho6).has okz
  injection e7 with e71 e72 e73
  subst e71 e73
  rw [← hn7] at hc7
  have H7 := Lib.hid hh7
  have B6 := Lib.hid (below_next B3.out HB6.out)
  have hc7b : len0 ≤ c7 := by omega
  have HN7 := Lib.hid hn7'
  have HD7 := Lib.hid hd7
  clear hn7' hd7
  clear e72 hh7 ho6 HO6 HO5 HB5 HB6 hn7
  go_upto_region 7 with (first
    | (at_builtin; (refine wp_ap okl rfl (.tmp 33) (.tmp 34) rfl w6.heap.size _ [] rfl (made_l w6) _ _ _ X rfl (HX1.out _ (below_next B6.out (one_alloc _ _))) HL1.out HN1.out (by simp [maxLen]; omega) (by simp [encl]; omega) (by simp) ?_; intro v5 w7 ho5 hb5 hg5 hv5; have HO5 := Lib.hid ho5; have HB5 := Lib.hid ((one_alloc w6 (.cells #[] 42)).trans hb5); clear ho5 hb5 hg5 hv5))
    | (at_builtin; (refine wp_ap okl rfl (.tmp 35) (.tmp 38) rfl w6.heap.size _ ([] ++ X) rfl (HO5.out.keep (one_alloc _ _)) _ _ _ [⟨73, 0, 0⟩, ⟨74, 0, 0⟩] rfl (two_litl w7) rfl (fun h => by cases h) (by have := HL1.out; simp [maxLen]; omega) (by have := HL1.out; simp [encl]; omega) (by rw [World.size_alloc]; exact Nat.le_trans HB5.out.size (Nat.le_add_right _ 1)) ?_; intro v8 w8 ho8 hb8 hg8 hv8; have HO8 := Lib.hid ho8; have HB8 := Lib.hid ((HB5.out.trans ((one_alloc w7 _).mono HB5.out.size)).trans hb8); clear ho8 hb8 hg8 hv8)))
  have ho8 := HO8.out
  rw [List.nil_append] at ho8
  obtain ⟨g8, c8, rfl, _, _, _⟩ := ho8.block (by simp)
  obtain ⟨n8, hn8⟩ : ∃ n8, n8 = (X ++ [(⟨73, 0, 0⟩ : Lo), ⟨74, 0, 0⟩]).length := ⟨_, rfl⟩
  have hn8' : n8 = len1 + 2 := by rw [hn8, List.length_append, HL1.out]; rfl
  rw [← hn8]
  rw [← hn8] at ho8
  obtain ⟨a8', c8', e8, hh8, _, hc8, hd8⟩ := (show Own encl w8 w6.heap.size (.slice (some ⟨g8, 0, none⟩) (X ++ [(⟨73, 0, 0⟩ : Lo), ⟨74, 0, 0⟩]).length c8) (X ++ [⟨73, 0, 0⟩, ⟨74, 0, 0⟩]) by rw [← hn8]; exact ho8).has okl
  injection e8 with e81 e82 e83
  subst e81 e83
  rw [← hn8] at hc8
  have H8 := Lib.hid hh8
  have H7 := Lib.hid (H7.out.keep HB8.out)
  have B8 := Lib.hid (below_next B6.out HB8.out)
  have hc8b : len1 ≤ c8 := by omega
  have HN8 := Lib.hid hn8'
  have HD8 := Lib.hid hd8
  clear hn8' hd8
  clear e82 hh8 ho8 HO8 HO5 HB5 HB8 hn8 B6 B3
  obtain ⟨M, hM⟩ : ∃ M, M = w8.heap.size := ⟨_, rfl⟩
  have HM := Lib.hid hM
  -- from now on: all that lies below M stays
  have F0 : Hid (∀ wx, Below M w8 wx → Below W0.heap.size W0 wx) := Lib.hid fun wx h => below_next B8.out (by rw [← hM]; exact h)
  have F7 : Hid (∀ wx, Below M w8 wx → Has encz wx (some ⟨g7, 0, none⟩) (Z ++ [71, 72])) := Lib.hid fun wx h => H7.out.keep (by rw [← hM]; exact h)
  have F8 : Hid (∀ wx, Below M w8 wx → Has encl wx (some ⟨g8, 0, none⟩) (X ++ [⟨73, 0, 0⟩, ⟨74, 0, 0⟩])) := Lib.hid fun wx h => H8.out.keep (by rw [← hM]; exact h)
  have KM : Hid (∀ wx, Below M w8 wx → wx.cell? ⟨N, 0, none⟩ = some (.int .i64 c) ∧ wx.cell? ⟨N, 1, none⟩ = some (.int .i64 i) ∧ wx.cell? ⟨N, 2, none⟩ = some (.int .i64 q)) := Lib.hid fun wx h => KS.out _ (F0.out _ h)
  have WM : Hid (∀ wx, Below M w8 wx → M ≤ wx.heap.size) := Lib.hid fun wx h => by rw [hM]; exact h.size
  have C7 := Lib.hid fun wx (h : Below M w8 wx) => (sup_any (some ⟨g7, 0, none⟩) len0 c7 Z i q wx (F7.out wx h).left HL0.out (fun e => by cases e) (by omega) HZS.out).mono fun e w' ⟨v, h1, h2, h3⟩ => (⟨v, h1, h2, h3, h.trans (h3.mono (WM.out wx h))⟩ : ∃ v, e = Ending.returned (.tuple #[v, .int .i64 (supE Z i q)]) ∧ Own encz w' wx.heap.size v (supL Z i q) ∧ Below wx.heap.size wx w' ∧ Below M w8 w')
  have C8 := Lib.hid fun wx (h : Below M w8 wx) => (res_any (some ⟨g7, 0, none⟩) len0 c7 Z (some ⟨g8, 0, none⟩) len1 c8 X L R o c i q wx (F7.out wx h).left HL0.out (fun e => by cases e) (by omega) (F8.out wx h).left HL1.out hc8b (fun e => by cases e) (by omega) (by have := HD8.out; unfold maxLen at this; omega) HD.out HZS.out HQO.out).mono fun e w' ⟨v, u, s, h1, h2, h3, h4, h5, h6⟩ => (⟨v, u, s, h1, h2, h3, h4, h5, h6, h.trans (h6.mono (WM.out wx h))⟩ : ∃ v u s, e = Ending.returned (.tuple #[v, u, .int .i64 (resE Z X.length o i q)]) ∧ Own encz w' wx.heap.size v (resZ Z X.length o i q) ∧ (∀ r, v.ownBlock = some r → r < s) ∧ Own encl w' s u (resX Z X.length L o R c i q) ∧ wx.heap.size ≤ s ∧ Below wx.heap.size wx w' ∧ Below M w8 w')
  have l9 : (supL Z i q).length ≤ len0 := by have := supL_le Z i q; have := HL0.out; omega
  have l11 : (resZ Z X.length o i q).length ≤ len0 := by have := resZ_le Z X.length o i q; have := HL0.out; omega
  have l12 : (resX Z X.length L o R c i q).length ≤ 600 := by have := resX_le (Z := Z) (n := X.length) (c := c) (i := i) (q := q) HD.out; have := HL1.out; omega
  clear HD HQO HZS
  generalize supE Z i q = E7 at *
  generalize supL Z i q = Y9 at *
  generalize resE Z X.length o i q = E8 at *
  generalize resZ Z X.length o i q = Y11 at *
  generalize resX Z X.length L o R c i q = Y12 at *
  have i7a : (0 : Int) ≤ (len0 : Int) := by omega
  have i7b : (len0 : Int) ≤ (c7 : Int) := by omega
  have i8a : (0 : Int) ≤ (len1 : Int) := by omega
  have i8b : (len1 : Int) ≤ (c8 : Int) := by omega
  obtain ⟨k0, k1, k2⟩ := KM.out w8 (Below.refl _ _)
  go_upto_region 7 with (fail)
  go_region_held3 (fun wx => wx.cell? ⟨N, 0, none⟩ = some (.int .i64 c) ∧ wx.cell? ⟨N, 1, none⟩ = some (.int .i64 i) ∧ wx.cell? ⟨N, 2, none⟩ = some (.int .i64 q))
    (first | exact KM.out _ (by first | assumption | exact (Below.refl _ _).drew | exact Below.drew (by assumption) | exact Below.refl _ _))
    (first | (go_split_ands; go_at_call 12; (with_reducible refine (C7.out _ (by first | assumption | exact (Below.refl _ _).drew | exact Below.drew (by assumption))).mono ?_); rintro e wA ⟨v9, rfl, ho9, hb9, hbA⟩) | fail)
  clear k0 k1 k2
  obtain ⟨a9, c9, rfl, -⟩ := ho9.has okz
  have G9 : Hid (∀ r, (Value.slice a9 Y9.length c9).ownBlock = some r → r < wA.heap.size) := Lib.hid fun r h => (ho9.lt h).2
  have O9 := Lib.hid (ho9.low (base' := M) (Nat.le_of_eq HM.out))
  clear ho9
  go_upto_region 8 with (fail)
  go_region_held3 (fun wx => wx.cell? ⟨N, 0, none⟩ = some (.int .i64 c) ∧ wx.cell? ⟨N, 1, none⟩ = some (.int .i64 i) ∧ wx.cell? ⟨N, 2, none⟩ = some (.int .i64 q))
    (first | exact KM.out _ (by first | assumption | exact (Below.refl _ _).drew | exact Below.drew (by assumption) | exact Below.refl _ _))
    (first | (go_split_ands; go_at_call 17; (with_reducible refine (C8.out _ (by first | assumption | exact (Below.refl _ _).drew | exact Below.drew (by assumption))).mono ?_); rintro e wB ⟨v11, u12, sR, rfl, ho11, hr11, ho12, hsR, hb11, hbB⟩) | fail)
  have hsA : wA.heap.size ≤ sR := hsR
  have hbAB : Below wA.heap.size wA wB := (Below.refl wA.heap.size wA).drew.trans hb11
  have ho11 : Own encz wB wA.heap.size v11 Y11 := ho11
  obtain ⟨s2, hs2⟩ : ∃ s2, s2 = min sR wB.heap.size := ⟨_, rfl⟩
  have hs2a : s2 ≤ sR := by omega
  have hs2b : s2 ≤ wB.heap.size := by omega
  have G11 : Hid (∀ r, v11.ownBlock = some r → r < s2) := Lib.hid fun r h => by have := (ho11.lt h).2; have := hr11 r h; omega
  have O9 := Lib.hid (O9.out.keep hbAB)
  have O12 := ho12.low hs2a
  obtain ⟨s1, hs1⟩ : ∃ s1, s1 = wA.heap.size := ⟨_, rfl⟩
  rw [← hs1] at G9 ho11
  have S12 : Hid (s1 ≤ s2) := Lib.hid (by have := hbAB.size; omega)
  have MS : Hid (M ≤ s1) := Lib.hid (by rw [hs1]; exact WM.out _ hbA)
  obtain ⟨a11, c11, rfl, -⟩ := ho11.has okz
  obtain ⟨a12, c12, rfl, -⟩ := O12.has okl
  have TR : Hid (Tri w8 M s1 s2 (.slice a9 Y9.length c9) (.slice a11 Y11.length c11) (.slice a12 Y12.length c12) Y9.length Y11.length Y12.length wB) := Lib.hid ⟨hbB, hs2b, ⟨Y9, rfl, O9.out⟩, ⟨Y11, rfl, ho11⟩, ⟨Y12, rfl, O12⟩⟩
  clear O9 ho11 O12 ho12 hr11 hsR hsA hbAB hs2 hs2a hs2b hs1 hbA hbB hb9 hb11 C7 C8 hM
  generalize Y9.length = n9 at *
  generalize Y11.length = n11 at *
  generalize Y12.length = n12 at *
  go_wp2
  go_loopg [73] n9 (fun m i wr => ∃ k : Nat, k + m = n9 ∧ i = .int .i64 (k : Int) ∧ Hid (Tri w8 M s1 s2 (.slice a9 n9 c9) (.slice a11 n11 c11) (.slice a12 n12 c12) n9 n11 n12 wr))
  case atStart => exact ⟨0, by omega, rfl, TR⟩
  case round =>
    obtain ⟨k, hk, rfl, HT⟩ := hrel
    by_cases hlt : k < n9
    · obtain ⟨ZA, hZA, hOA⟩ := HT.out.a
      obtain ⟨g, cc, e, hgM, _, hfz⟩ := hOA.block (by omega)
      injection e with e1 e2 e3
      subst e1
      have j0 := hfz k
      rw [← hZA] at hOA
      have m0 := own_atz hOA (show k < ZA.length by omega)
      have HT2 := Lib.hid (HT.out.stA MS.out S12.out (G9.out g rfl) hgM hlt 1)
      have i1 : (0 : Int) ≤ (k : Int) := by omega
      have i2 : (k : Int) < (n9 : Int) := by omega
      clear hOA hZA e2 e3 hfz
      go_wp2
      go_roundg (n9 - (k + 1))
      case measure => omega
      case rel => exact ⟨k + 1, by omega, by go_num, HT2⟩
    · clear TR
      go_wp2
      go_loopg [82] n11 (fun m i wr => ∃ k : Nat, k + m = n11 ∧ i = .int .i64 (k : Int) ∧ Hid (Tri w8 M s1 s2 (.slice a9 n9 c9) (.slice a11 n11 c11) (.slice a12 n12 c12) n9 n11 n12 wr))
      case atStart => exact ⟨0, by omega, rfl, HT⟩
      case round =>
        obtain ⟨k, hk, rfl, HT⟩ := hrel
        by_cases hlt : k < n11
        · obtain ⟨ZB, hZB, hOB⟩ := HT.out.b
          obtain ⟨g, cc, e, hgM, _, hfz⟩ := hOB.block (by omega)
          injection e with e1 e2 e3
          subst e1
          have j0 := hfz k
          rw [← hZB] at hOB
          have m0 := own_atz hOB (show k < ZB.length by omega)
          have HT2 := Lib.hid (HT.out.stB MS.out S12.out G9.out (G11.out g rfl) hgM hlt 2)
          have i1 : (0 : Int) ≤ (k : Int) := by omega
          have i2 : (k : Int) < (n11 : Int) := by omega
          clear hOB hZB e2 e3 hfz
          go_wp2
          go_roundg (n11 - (k + 1))
          case measure => omega
          case rel => exact ⟨k + 1, by omega, by go_num, HT2⟩
        · go_wp2
          go_loopg [91] n12 (fun m i wr => ∃ k : Nat, k + m = n12 ∧ i = .int .i64 (k : Int) ∧ Hid (Tri w8 M s1 s2 (.slice a9 n9 c9) (.slice a11 n11 c11) (.slice a12 n12 c12) n9 n11 n12 wr))
          case atStart => exact ⟨0, by omega, rfl, HT⟩
          case round =>
            obtain ⟨k, hk, rfl, HT⟩ := hrel
            by_cases hlt : k < n12
            · obtain ⟨ZC, hZC, hOC⟩ := HT.out.c
              obtain ⟨g, cc, e, hgM, _, hfz⟩ := hOC.block (by omega)
              injection e with e1 e2 e3
              subst e1
              have j0 := hfz (k * 3)
              have j1 := hfz (k * 3 + 1)
              have j2 := hfz (k * 3 + 2)
              rw [← hZC] at hOC
              obtain ⟨m0, m1, m2⟩ := own_atl hOC (show k < ZC.length by omega)
              have HT2 := Lib.hid (HT.out.stC MS.out S12.out G9.out G11.out hgM hlt zl)
              have i1 : (0 : Int) ≤ (k : Int) := by omega
              have i2 : (k : Int) < (n12 : Int) := by omega
              clear hOC hZC e2 e3 hfz
              go_wp2
              go_roundg (n12 - (k + 1))
              case measure => omega
              case rel => exact ⟨k + 1, by omega, by go_num, HT2⟩
            · obtain ⟨ZA, hZA, hOA⟩ := HT.out.a
              obtain ⟨ZB, hZB, hOB⟩ := HT.out.b
              obtain ⟨ZC, hZC, hOC⟩ := HT.out.c
              have HOA := Lib.hid hOA; have HOB := Lib.hid hOB; have HOC := Lib.hid hOC; have HZA := Lib.hid hZA; have HZB := Lib.hid hZB; have HZC := Lib.hid hZC
              have HBW := Lib.hid HT.out.below; have HS2 := Lib.hid HT.out.sz
              clear hOA hOB hOC hZA hZB hZC HT
              go_upto_region 25 with (at_builtin; (refine wp_ap okz rfl (.tmp 99) (.tmp 100) rfl M _ ZA rfl (HOA.out.keep (one_alloc _ _)) _ _ _ [1, 2, 3] rfl (three_litz wr) rfl (fun h => by cases h) (by have := HZA.out; simp [maxLen]; omega) (by have := HZA.out; simp [encz]; omega) (by rw [World.size_alloc]; exact Nat.le_trans (WM.out _ HBW.out) (Nat.le_add_right _ 1)) ?_; intro v20 w20 ho20 hb20 hg20 hv20; have HO20 := Lib.hid ho20; have HG20 := Lib.hid hg20; have HB20 := Lib.hid ((HBW.out.trans ((one_alloc wr (.cells #[.int .i64 1, .int .i64 2, .int .i64 3] 3)).mono (WM.out _ HBW.out))).trans hb20); clear ho20 hb20 hg20 hv20))
              obtain ⟨a20, c20, rfl, -⟩ := HO20.out.has okz
              have n20 : (ZA ++ [(1 : Int), 2, 3]).length = n9 + 3 := by rw [List.length_append, HZA.out]; rfl
              rw [n20]
              obtain ⟨n23, hn23⟩ : ∃ n23, n23 = n9 + 3 := ⟨_, rfl⟩
              rw [← hn23]
              have i23 : (3 : Int) ≤ (n23 : Int) := by omega
              have HOB := Lib.hid ((HOB.out.keep (one_alloc wr (.cells #[.int .i64 1, .int .i64 2, .int .i64 3] 3))).gone HG20.out fun r hr e => by have h1 := (HOB.out.lt hr).1; have h2 := G9.out r e; omega)
              have HOC := Lib.hid ((HOC.out.keep (one_alloc wr (.cells #[.int .i64 1, .int .i64 2, .int .i64 3] 3))).gone HG20.out fun r hr e => by have h1 := (HOC.out.lt hr).1; have h2 := G9.out r e; have := S12.out; omega)
              have HS20 : Hid (s2 ≤ w20.heap.size) := Lib.hid (by have h1 := HG20.out.size; rw [World.size_alloc] at h1; have := HS2.out; omega)
              clear n20 hn23 HO20 HG20 HOA HBW HS2 HZA
              go_upto_region 26 with (at_builtin; (refine wp_ap okz rfl (.tmp 102) (.tmp 103) rfl s1 _ ZB rfl (HOB.out.keep (one_alloc _ _)) _ _ _ [1, 2, 3] rfl (three_litz w20) rfl (fun h => by cases h) (by have := HZB.out; simp [maxLen]; omega) (by have := HZB.out; simp [encz]; omega) (by rw [World.size_alloc]; have := HS20.out; have := S12.out; omega) ?_; intro v30 w30 ho30 hb30 hg30 hv30; have HO30 := Lib.hid ho30; have HG30 := Lib.hid hg30; have HB30 := Lib.hid ((HB20.out.trans ((one_alloc w20 (.cells #[.int .i64 1, .int .i64 2, .int .i64 3] 3)).mono (WM.out _ HB20.out))).trans (hb30.mono MS.out)); clear ho30 hb30 hg30 hv30))
              obtain ⟨a30, c30, rfl, -⟩ := HO30.out.has okz
              have n30 : (ZB ++ [(1 : Int), 2, 3]).length = n11 + 3 := by rw [List.length_append, HZB.out]; rfl
              rw [n30]
              obtain ⟨n33, hn33⟩ : ∃ n33, n33 = n11 + 3 := ⟨_, rfl⟩
              rw [← hn33]
              have i33 : (3 : Int) ≤ (n33 : Int) := by omega
              have HOC := Lib.hid ((HOC.out.keep (one_alloc w20 (.cells #[.int .i64 1, .int .i64 2, .int .i64 3] 3))).gone HG30.out fun r hr e => by have h1 := (HOC.out.lt hr).1; have h2 := G11.out r e; omega)
              have HS30 : Hid (s2 ≤ w30.heap.size) := Lib.hid (by have h1 := HG30.out.size; rw [World.size_alloc] at h1; have := HS20.out; omega)
              clear n30 hn33 HO30 HG30 HOB HB20 HS20 HZB
              go_upto_region 27 with (at_builtin; (refine wp_ap okl rfl (.tmp 105) (.tmp 109) rfl s2 _ ZC rfl (HOC.out.keep (one_alloc _ _)) _ _ _ [zl, zl, zl] rfl (three_litl w30) rfl (fun h => by cases h) (by have := HZC.out; simp [maxLen]; omega) (by have := HZC.out; simp [encl]; omega) (by rw [World.size_alloc]; have := HS30.out; omega) ?_; intro v40 w40 ho40 hb40 hg40 hv40; have HO40 := Lib.hid ho40; have HB40 := Lib.hid ((HB30.out.trans ((one_alloc w30 (.cells #[.int .i64 0, .int .i64 0, .int .i64 0, .int .i64 0, .int .i64 0, .int .i64 0, .int .i64 0, .int .i64 0, .int .i64 0] 42)).mono (WM.out _ HB30.out))).trans (hb40.mono (Nat.le_trans MS.out S12.out))); clear ho40 hb40 hg40 hv40))
              obtain ⟨a40, c40, rfl, -⟩ := HO40.out.has okl
              have n40 : (ZC ++ [zl, zl, zl]).length = n12 + 3 := by rw [List.length_append, HZC.out]; rfl
              rw [n40]
              obtain ⟨n43, hn43⟩ : ∃ n43, n43 = n12 + 3 := ⟨_, rfl⟩
              rw [← hn43]
              have i43 : (3 : Int) ≤ (n43 : Int) := by omega
              clear n40 hn43 HO40 HOC HB30 HS30 HZC
              have S1 := Lib.hid (same_z (some ⟨g7, 0, none⟩) a0 len0 c7 len0 cap0 Z Z w40 (F7.out w40 HB40.out).left (HX0.out _ (F0.out _ HB40.out)) HL0.out HL0.out)
              rw [decide_eq_true (rfl : Z = Z)] at S1
              have n7e := HN7.out
              have n8e := HN8.out
              have i9a : (len0 : Int) < (n7 : Int) := by omega
              have i9b : (len0 : Int) + 1 < (n7 : Int) := by omega
              have i9c : IntKind.i64.wrap ((len0 : Int) + 1) = (len0 : Int) + 1 := IntWalk.i64_in _ (by omega)
              have i9d : ((len0 : Int) + 1).toNat = len0 + 1 := by omega
              have i9e : (0 : Int) ≤ (len0 : Int) + 1 := by omega
              have i8A : (len1 : Int) < (n8 : Int) := by omega
              have i8B : (len1 : Int) + 1 < (n8 : Int) := by omega
              have i8c : IntKind.i64.wrap ((len1 : Int) + 1) = (len1 : Int) + 1 := IntWalk.i64_in _ (by omega)
              have i8d : ((len1 : Int) + 1).toNat = len1 + 1 := by omega
              have i8e : (0 : Int) ≤ (len1 : Int) + 1 := by omega
              clear n7e n8e
              go_wp2_with fail
              refine S1.out.mono ?_
              rintro e wS ⟨rfl, hbS⟩
              have BS := Lib.hid (HB40.out.trans (hbS.mono (WM.out _ HB40.out)))
              clear hbS S1
              obtain ⟨p1, p2⟩ := ends_z (F7.out wS BS.out) HL0.out
              have S2 := Lib.hid (same_l (some ⟨g8, 0, none⟩) a1 len1 c8 len1 cap1 X X wS (F8.out wS BS.out).left (HX1.out _ (F0.out _ BS.out)) HL1.out HL1.out)
              rw [decide_eq_true (rfl : X = X)] at S2
              go_wp2_with fail
              refine S2.out.mono ?_
              rintro e wT ⟨rfl, hbT⟩
              have BT := Lib.hid (BS.out.trans (hbT.mono (WM.out _ BS.out)))
              clear hbT S2 p1 p2
              obtain ⟨p3, p4⟩ := ends_l (F8.out wT BT.out) HL1.out
              go_wp2
              go_ret
              exact ⟨rfl, below_next HB.out (F0.out _ BT.out)⟩
end Go.Proofs.Ytnaelmddafhjlaa.Bo

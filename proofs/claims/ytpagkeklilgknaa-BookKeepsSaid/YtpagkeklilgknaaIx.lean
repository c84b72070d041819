/-
  Layer 13: the law BookKeeps.
-/
import Derived.Test.YtpagkeklilgknaaIu
import Derived.Deep.DeepMust
namespace Go.Proofs.Ytpagkeklilgknaa.Bo
open Go.RowKit Rw
set_option linter.unusedVariables false
set_option linter.unusedSimpArgs false

theorem set_grown (W : World) (g i : Nat) (v : Value) : W.grownBy (W.setCell ⟨g, i, none⟩ v) (some g) := ⟨rfl, rfl, rfl, by simp [World.setCell], fun k _ hk => Below.heap_setCell _ _ _ _ (fun e => hk (by rw [e]))⟩
theorem grown_trans {A B C : World} {row : Option Nat} (h1 : A.grownBy B row) (h2 : B.grownBy C row) : A.grownBy C row :=
  ⟨h2.os.trans h1.os, h2.tape.trans h1.tape, h2.output.trans h1.output, Nat.le_trans h1.size h2.size, fun k hk hr => (h2.block k (Nat.lt_of_lt_of_le hk h1.size) hr).trans (h1.block k hk hr)⟩
theorem made_p (w : World) : Own encp (w.alloc (.cells #[] 48)) w.heap.size (.slice (some ⟨w.heap.size, 0, none⟩) 0 0) [] := Own.made w _ (Nat.le_refl _)
theorem two_litp (w : World) : Has encp (w.alloc (.cells #[.int .i64 71, .int .i64 0, .int .i64 0, .int .i64 72, .int .i64 0, .int .i64 0] 48)) (some ⟨w.heap.size, 0, none⟩) [⟨71, 0, 0⟩, ⟨72, 0, 0⟩] := Has.lit (E := encp) w [⟨71, 0, 0⟩, ⟨72, 0, 0⟩] _ _ _ rfl rfl (by simp)
theorem two_lito (w : World) : Has enco (w.alloc (.cells #[.int .i64 73, .int .i64 0, .int .i64 0, .int .i64 0, .int .i64 0, .int .i64 74, .int .i64 0, .int .i64 0, .int .i64 0, .int .i64 0] 37)) (some ⟨w.heap.size, 0, none⟩) [⟨73, 0, 0, 0, 0⟩, ⟨74, 0, 0, 0, 0⟩] := Has.lit (E := enco) w [⟨73, 0, 0, 0, 0⟩, ⟨74, 0, 0, 0, 0⟩] _ _ _ rfl rfl (by simp)
/-- What is still to be written to, of three lists that lie behind one another. -/
structure Rest (wO : World) (M : Nat) (vs : Nat → Value) (Ys : Nat → List Od) (ss : Nat → Nat) (k : Nat) (w : World) : Prop where
  below : Below M wO w
  own : ∀ j, k ≤ j → j < 3 → Own enco w (ss j) (vs j) (Ys j)
theorem Rest.next {wO : World} {M : Nat} {vs : Nat → Value} {Ys : Nat → List Od} {ss : Nat → Nat} {k : Nat} {w : World} (h : Rest wO M vs Ys ss k w) : Rest wO M vs Ys ss (k + 1) w := ⟨h.below, fun j h1 h2 => h.own j (by omega) h2⟩
theorem Rest.gone {wO : World} {M : Nat} {vs : Nat → Value} {Ys : Nat → List Od} {ss : Nat → Nat} {k : Nat} {A B : World} {row : Option Nat} (h : Rest wO M vs Ys ss k A) (hg : A.grownBy B row) (hM : M ≤ A.heap.size) (hs : ∀ i j, i ≤ j → ss i ≤ ss j) (hr : ∀ r, row = some r → M ≤ r ∧ r < ss k) : Rest wO M vs Ys ss k B :=
  ⟨h.below.grown hg hM (fun r e => (hr r e).1), fun j h1 h2 => (h.own j h1 h2).kept hg fun r e => by have := (hr r e).2; have := hs k j h1; omega⟩
theorem Rest.keep {wO : World} {M : Nat} {vs : Nat → Value} {Ys : Nat → List Od} {ss : Nat → Nat} {k : Nat} {A B : World} (h : Rest wO M vs Ys ss k A) (hM : M ≤ A.heap.size) (hb : Below A.heap.size A B) : Rest wO M vs Ys ss k B :=
  ⟨h.below.trans (hb.mono hM), fun j h1 h2 => (h.own j h1 h2).keep hb⟩
def pick4 (a b c d : Nat) : Nat → Nat | 0 => a | 1 => b | 2 => c | _ => d
theorem pick4_mono {a b c d : Nat} (h1 : a ≤ b) (h2 : b ≤ c) (h3 : c ≤ d) : ∀ i j, i ≤ j → pick4 a b c d i ≤ pick4 a b c d j := by
  intro i j h
  rcases i with _ | _ | _ | i <;> rcases j with _ | _ | _ | j <;> simp [pick4] <;> omega
theorem three_litp (w : World) : Has encp (w.alloc (.cells #[.int .i64 0, .int .i64 0, .int .i64 0, .int .i64 0, .int .i64 0, .int .i64 0, .int .i64 0, .int .i64 0, .int .i64 0] 48)) (some ⟨w.heap.size, 0, none⟩) [zp, zp, zp] := Has.lit (E := encp) w [zp, zp, zp] _ _ _ rfl rfl (by simp)
theorem three_lito (w : World) : Has enco (w.alloc (.cells #[.int .i64 0, .int .i64 0, .int .i64 0, .int .i64 0, .int .i64 0, .int .i64 0, .int .i64 0, .int .i64 0, .int .i64 0, .int .i64 0, .int .i64 0, .int .i64 0, .int .i64 0, .int .i64 0, .int .i64 0] 37)) (some ⟨w.heap.size, 0, none⟩) [zo, zo, zo] := Has.lit (E := enco) w [zo, zo, zo] _ _ _ rfl rfl (by simp)
theorem ends_p {w : World} {g n : Nat} {X : List Ps} (h : Has encp w (some ⟨g, 0, none⟩) (X ++ [⟨71, 0, 0⟩, ⟨72, 0, 0⟩])) (hn : X.length = n) : w.cell? ⟨g, n * 3, none⟩ = some (.int .i64 71) ∧ w.cell? ⟨g, (n + 1) * 3, none⟩ = some (.int .i64 72) := by
  subst hn
  obtain ⟨b, off, e, c0, _⟩ := atp h (j := X.length) (by simp)
  obtain ⟨b', off', e', d0, _⟩ := atp h (j := X.length + 1) (by simp)
  cases e; cases e'
  refine ⟨by rw [← Nat.zero_add (X.length * 3), c0]; simp [List.getD], by rw [← Nat.zero_add ((X.length + 1) * 3), d0]; simp [List.getD]⟩
theorem ends_o {w : World} {g n : Nat} {X : List Od} (h : Has enco w (some ⟨g, 0, none⟩) (X ++ [⟨73, 0, 0, 0, 0⟩, ⟨74, 0, 0, 0, 0⟩])) (hn : X.length = n) : w.cell? ⟨g, n * 5, none⟩ = some (.int .i64 73) ∧ w.cell? ⟨g, (n + 1) * 5, none⟩ = some (.int .i64 74) := by
  subst hn
  obtain ⟨b, off, e, c0, _⟩ := ato h (j := X.length) (by simp)
  obtain ⟨b', off', e', d0, _⟩ := ato h (j := X.length + 1) (by simp)
  cases e; cases e'
  refine ⟨by rw [← Nat.zero_add (X.length * 5), c0]; simp [List.getD], by rw [← Nat.zero_add ((X.length + 1) * 5), d0]; simp [List.getD]⟩
theorem addL_le {X L R : List Ps} {o : Option Ps} {c d q : Int} (hd : Dec keyp X (c, d) L o R) : (addL X L o R c d q).length ≤ X.length + 1 := by
  have := hd.len
  unfold addL
  split
  · simp
  · split
    · omega
    · have : (addO c d o q).toList.length ≤ 1 := by cases addO c d o q <;> simp
      simp only [List.length_append]; omega
theorem putL_le {n : Nat} {X L R : List Od} {o : Option Od} {x : Od} {p : K2} (hd : Dec keyo X p L o R) : (putL n L o R x).length ≤ X.length + 1 := by
  have := hd.len
  unfold putL
  split
  · simp only [List.length_append, List.length_cons, List.length_nil]; omega
  · simp
theorem cutL_le {X L R : List Od} {o : Option Od} {q : Int} {p : K2} (hd : Dec keyo X p L o R) : (cutL L o R q).length ≤ X.length + 1 := by
  have := hd.len
  unfold cutL
  split
  · have : (cutO o q).toList.length ≤ 1 := by cases cutO o q <;> simp
    simp only [List.length_append]; omega
  · simp
theorem dropL_le {X L R : List Od} {o : Option Od} {p : K2} (hd : Dec keyo X p L o R) : (dropL L o R).length ≤ X.length + 1 := by
  have := hd.len
  unfold dropL
  split
  · simp only [List.length_append]; omega
  · simp
def pick3 {β : Type} (x y z : β) (j : Nat) : β := match j with | 0 => x | 1 => y | _ => z
/-- The contracts, seen from an older world. -/
theorem from3 {w wx : World} {M : Nat} {f : FuncId} {args : Array Value} {α : Type} {E : Enc α} {Y : List α} {r : Value → Value} (hM : M ≤ wx.heap.size) (h : Below M w wx) (hc : Calls Try.prog f args wx fun e w' => ∃ v, e = .returned (r v) ∧ Own E w' wx.heap.size v Y ∧ Below wx.heap.size wx w') :
    Calls Try.prog f args wx fun e w' => ∃ v, e = .returned (r v) ∧ Own E w' wx.heap.size v Y ∧ Below wx.heap.size wx w' ∧ Below M w w' := hc.mono fun e w' ⟨v, h1, h2, h3⟩ => ⟨v, h1, h2, h3, h.trans (h3.mono hM)⟩
set_option maxRecDepth 100000 in
set_option maxHeartbeats 16000000 in
theorem keeps_walk (a0 : Option Addr) (len0 cap0 : Nat) (X0 : List Ps) (a1 : Option Addr) (len1 cap1 : Nat) (X1 : List Od) (a2 b2 c2 f2 : Int) (w : World) (w0 : Inp w a0 len0 cap0 X0) (w1' : Ino w a1 len1 cap1 X1) :
    Calls Try.prog 8 #[.slice a0 len0 cap0, .slice a1 len1 cap1, .agg #[.int .i64 a2, .int .i64 b2, .int .i64 c2, .int .i64 f2]] w fun e w' => e = .returned (.bool true) ∧ Below w.heap.size w w' := by
  obtain ⟨hx0, hl0, hlc0, hn0, hcap0⟩ := w0
  obtain ⟨hx1, hl1, hlc1, hn1, hcap1⟩ := w1'
  obtain ⟨N, hN⟩ : ∃ N, N = w.heap.size := ⟨_, rfl⟩
  obtain ⟨W0, hW0⟩ : ∃ W0, W0 = w.alloc (.cells #[.int .i64 a2, .int .i64 b2, .int .i64 c2, .int .i64 f2] 49) := ⟨_, rfl⟩
  have x0 : Blk W0 N #[.int .i64 a2, .int .i64 b2, .int .i64 c2, .int .i64 f2] 49 := by rw [hW0, hN]; exact Blk.new w _ _
  have hb : Below w.heap.size w W0 := by rw [hW0]; exact one_alloc _ _
  have KS : Hid (∀ wx, Below W0.heap.size W0 wx → wx.cell? ⟨N, 0, none⟩ = some (.int .i64 a2) ∧ wx.cell? ⟨N, 1, none⟩ = some (.int .i64 b2) ∧ wx.cell? ⟨N, 2, none⟩ = some (.int .i64 c2) ∧ wx.cell? ⟨N, 3, none⟩ = some (.int .i64 f2)) := Lib.hid fun wx hb => ⟨(x0.keep hb).cell 0, (x0.keep hb).cell 1, (x0.keep hb).cell 2, (x0.keep hb).cell 3⟩
  have HX0 : Hid (∀ wx, Below W0.heap.size W0 wx → Has encp wx a0 X0) := Lib.hid fun wx h => (hx0.keep hb).keep h
  have HX1 : Hid (∀ wx, Below W0.heap.size W0 wx → Has enco wx a1 X1) := Lib.hid fun wx h => (hx1.keep hb).keep h
  have HB := Lib.hid hb; have HN := Lib.hid hN; have HW := Lib.hid hW0; have HL0 := Lib.hid hl0; have HN0 := Lib.hid hn0; have HL1 := Lib.hid hl1; have HN1 := Lib.hid hn1
  have isum : IntKind.i64.wrap ((len0 : Int) + (len1 : Int)) = (len0 : Int) + (len1 : Int) := IntWalk.i64_in _ (by omega)
  clear hx0 hx1 hN hW0 x0 hb hl0 hl1 hn0 hn1
  go_enter Try.func8, Try.ntmps8
  go_wp2_with fail
  rw [← HN.out, ← HW.out]
  clear HN HW
  refine (wakes_any W0).mono ?_
  rintro e w1 ⟨rfl, hb1⟩
  have B1 := Lib.hid hb1
  clear hb1
  go_wp2_with fail
  refine (rrise_p a0 len0 cap0 X0 w1 (HX0.out _ B1.out) HL0.out).mono ?_
  rintro e w2 ⟨rfl, hb2⟩
  have B2 := Lib.hid (below_next B1.out hb2)
  clear hb2 B1
  cases hR : riseSp X0 with
  | false =>
    clear hR
    go_wp2
    go_ret
    exact ⟨rfl, below_next HB.out B2.out⟩
  | true =>
  go_wp2_with fail
  refine (rrise_o a1 len1 cap1 X1 w2 (HX1.out _ B2.out) HL1.out).mono ?_
  rintro e w3 ⟨rfl, hb3⟩
  have B3 := Lib.hid (below_next B2.out hb3)
  clear hb3 B2
  cases hR1 : riseSo X1 with
  | false =>
    clear hR hR1
    go_wp2
    go_ret
    exact ⟨rfl, below_next HB.out B3.out⟩
  | true =>
  by_cases h512 : (512 : Int) < (len0 : Int) + (len1 : Int)
  · clear hR hR1
    go_wp2
    go_ret
    exact ⟨rfl, below_next HB.out B3.out⟩
  have hs0 : len0 ≤ 512 := by omega
  have hs1 : len1 ≤ 512 := by omega
  obtain ⟨hP, hQ⟩ := riseS_of hR
  obtain ⟨hP1, hQ1⟩ := riseS_ofo hR1
  obtain ⟨L, o, R, hd⟩ := dec_of (key := keyp) (a2, b2) hP
  obtain ⟨L1, o1, R1, hd1⟩ := dec_of (key := keyo) (a2, f2) hP1
  have HD := Lib.hid hd; have HD1 := Lib.hid hd1
  have HQO : Hid (∀ y, o = some y → qtyB y.qty = true) := Lib.hid fun y e => hQ y (hd.mem y e)
  have HQO1 : Hid (∀ y, o1 = some y → qtyB y.qty = true) := Lib.hid fun y e => hQ1 y (hd1.mem y e)
  clear hR hR1 hP hQ hP1 hQ1 hd hd1
  obtain ⟨p71, hp71⟩ : ∃ p : Ps, p = ⟨71, 0, 0⟩ := ⟨_, rfl⟩
  go_upto_region 6 with (first
    | (at_builtin; (refine wp_ap okp rfl (.tmp 40) (.tmp 41) rfl w3.heap.size _ [] rfl (made_p w3) _ _ _ X0 rfl (HX0.out _ (below_next B3.out (one_alloc _ _))) HL0.out HN0.out (by simp [maxLen]; omega) (by simp [encp]; omega) (by simp) ?_; intro v5 w5 ho5 hb5 hg5 hv5; have HO5 := Lib.hid ho5; have HB5 := Lib.hid ((one_alloc w3 (.cells #[] 48)).trans hb5); clear ho5 hb5 hg5 hv5))
    | (at_builtin; (refine wp_ap okp rfl (.tmp 42) (.tmp 45) rfl w3.heap.size _ ([] ++ X0) rfl (HO5.out.keep (one_alloc _ _)) _ _ _ [⟨71, 0, 0⟩, ⟨72, 0, 0⟩] rfl (two_litp w5) rfl (fun h => by cases h) (by have := HL0.out; simp [maxLen]; omega) (by have := HL0.out; simp [encp]; omega) (by rw [World.size_alloc]; exact Nat.le_trans HB5.out.size (Nat.le_add_right _ 1)) ?_; intro v6 w6 ho6 hb6 hg6 hv6; have HO6 := Lib.hid ho6; have HB6 := Lib.hid ((HB5.out.trans ((one_alloc w5 _).mono HB5.out.size)).trans hb6); clear ho6 hb6 hg6 hv6)))
  have ho6 := HO6.out
  rw [List.nil_append] at ho6
  obtain ⟨g7, c7, rfl, _, _, _⟩ := ho6.block (by simp)
  obtain ⟨n7, hn7⟩ : ∃ n7, n7 = (X0 ++ [(⟨71, 0, 0⟩ : Ps), ⟨72, 0, 0⟩]).length := ⟨_, rfl⟩
  have hn7' : n7 = len0 + 2 := by rw [hn7, List.length_append, HL0.out]; rfl
  rw [← hn7]
  rw [← hn7] at ho6
  obtain ⟨a7', c7', e7, hh7, _, hc7, _⟩ := (show Own encp w6 w3.heap.size (.slice (some ⟨g7, 0, none⟩) (X0 ++ [(⟨71, 0, 0⟩ : Ps), ⟨72, 0, 0⟩]).length c7) (X0 ++ [⟨71, 0, 0⟩, ⟨72, 0, 0⟩]) by rw [← hn7]; exact ho6).has okp
  injection e7 with e71 e72 e73
  subst e71 e73
  rw [← hn7] at hc7
  have H7 := Lib.hid hh7
  have B6 := Lib.hid (below_next B3.out HB6.out)
  have hc7b : len0 ≤ c7 := by omega
  have HN7 := Lib.hid hn7'
  clear hn7'
  clear e72 hh7 ho6 HO6 HO5 HB5 HB6 hp71 hn7 p71
  go_upto_region 7 with (first
    | (at_builtin; (refine wp_ap oko rfl (.tmp 47) (.tmp 48) rfl w6.heap.size _ [] rfl (made_o w6) _ _ _ X1 rfl (HX1.out _ (below_next B6.out (one_alloc _ _))) HL1.out HN1.out (by simp [maxLen]; omega) (by simp [enco]; omega) (by simp) ?_; intro v5 w7 ho5 hb5 hg5 hv5; have HO5 := Lib.hid ho5; have HB5 := Lib.hid ((one_alloc w6 (.cells #[] 37)).trans hb5); clear ho5 hb5 hg5 hv5))
    | (at_builtin; (refine wp_ap oko rfl (.tmp 49) (.tmp 52) rfl w6.heap.size _ ([] ++ X1) rfl (HO5.out.keep (one_alloc _ _)) _ _ _ [⟨73, 0, 0, 0, 0⟩, ⟨74, 0, 0, 0, 0⟩] rfl (two_lito w7) rfl (fun h => by cases h) (by have := HL1.out; simp [maxLen]; omega) (by have := HL1.out; simp [enco]; omega) (by rw [World.size_alloc]; exact Nat.le_trans HB5.out.size (Nat.le_add_right _ 1)) ?_; intro v8 w8 ho8 hb8 hg8 hv8; have HO8 := Lib.hid ho8; have HB8 := Lib.hid ((HB5.out.trans ((one_alloc w7 _).mono HB5.out.size)).trans hb8); clear ho8 hb8 hg8 hv8)))
  have ho8 := HO8.out
  rw [List.nil_append] at ho8
  obtain ⟨g8, c8, rfl, _, _, _⟩ := ho8.block (by simp)
  obtain ⟨n8, hn8⟩ : ∃ n8, n8 = (X1 ++ [(⟨73, 0, 0, 0, 0⟩ : Od), ⟨74, 0, 0, 0, 0⟩]).length := ⟨_, rfl⟩
  have hn8' : n8 = len1 + 2 := by rw [hn8, List.length_append, HL1.out]; rfl
  rw [← hn8]
  rw [← hn8] at ho8
  obtain ⟨a8', c8', e8, hh8, _, hc8, _⟩ := (show Own enco w8 w6.heap.size (.slice (some ⟨g8, 0, none⟩) (X1 ++ [(⟨73, 0, 0, 0, 0⟩ : Od), ⟨74, 0, 0, 0, 0⟩]).length c8) (X1 ++ [⟨73, 0, 0, 0, 0⟩, ⟨74, 0, 0, 0, 0⟩]) by rw [← hn8]; exact ho8).has oko
  injection e8 with e81 e82 e83
  subst e81 e83
  rw [← hn8] at hc8
  have H8 := Lib.hid hh8
  have H7 := Lib.hid (H7.out.keep HB8.out)
  have B8 := Lib.hid (below_next B6.out HB8.out)
  have hc8b : len1 ≤ c8 := by omega
  have HN8 := Lib.hid hn8'
  clear hn8'
  clear e82 hh8 ho8 HO8 HO5 HB5 HB8 hn8 B6 B3
  obtain ⟨M, hM⟩ : ∃ M, M = w8.heap.size := ⟨_, rfl⟩
  have HM := Lib.hid hM
  -- from now on: all that lies below M stays
  have F0 : Hid (∀ wx, Below M w8 wx → Below W0.heap.size W0 wx) := Lib.hid fun wx h => below_next B8.out (by rw [← hM]; exact h)
  have F7 : Hid (∀ wx, Below M w8 wx → Has encp wx (some ⟨g7, 0, none⟩) (X0 ++ [⟨71, 0, 0⟩, ⟨72, 0, 0⟩])) := Lib.hid fun wx h => H7.out.keep (by rw [← hM]; exact h)
  have F8 : Hid (∀ wx, Below M w8 wx → Has enco wx (some ⟨g8, 0, none⟩) (X1 ++ [⟨73, 0, 0, 0, 0⟩, ⟨74, 0, 0, 0, 0⟩])) := Lib.hid fun wx h => H8.out.keep (by rw [← hM]; exact h)
  have KM : Hid (∀ wx, Below M w8 wx → wx.cell? ⟨N, 0, none⟩ = some (.int .i64 a2) ∧ wx.cell? ⟨N, 1, none⟩ = some (.int .i64 b2) ∧ wx.cell? ⟨N, 2, none⟩ = some (.int .i64 c2) ∧ wx.cell? ⟨N, 3, none⟩ = some (.int .i64 f2)) := Lib.hid fun wx h => KS.out _ (F0.out _ h)
  have sz : ∀ wx, Below M w8 wx → M ≤ wx.heap.size := fun wx h => by rw [hM]; exact h.size
  have C7 := Lib.hid fun wx (h : Below M w8 wx) => from3 (r := fun v => .tuple #[v, .int .i64 (addE X0.length o c2)]) (sz wx h) h (add_any (some ⟨g7, 0, none⟩) len0 c7 X0 L R o a2 b2 c2 wx (F7.out wx h).left HL0.out hc7b (fun e => by cases e) (by omega) (by have := hc7; unfold maxLen at *; omega) HD.out HQO.out)
  have C8 := Lib.hid fun wx (h : Below M w8 wx) => from3 (r := fun v => .tuple #[v, .int .i64 (putE len1 o1)]) (sz wx h) h (put_any (some ⟨g8, 0, none⟩) len1 c8 ⟨a2, f2, 0, 1, 0⟩ X1 L1 R1 o1 wx (F8.out wx h).left HL1.out hc8b (fun e => by cases e) (by omega) (by have := hc8; unfold maxLen at *; omega) HD1.out)
  have C9 := Lib.hid fun wx (h : Below M w8 wx) => from3 (r := fun v => .tuple #[v, .int .i64 (cutN o1 1), .int .i64 (cutE o1 1)]) (sz wx h) h (cut_any (some ⟨g8, 0, none⟩) len1 c8 X1 L1 R1 o1 a2 f2 1 wx (F8.out wx h).left HL1.out hc8b (fun e => by cases e) (by omega) (by have := hc8; unfold maxLen at *; omega) HD1.out HQO1.out)
  have C10 := Lib.hid fun wx (h : Below M w8 wx) => from3 (r := fun v => .tuple #[v, .int .i64 (dropE o1)]) (sz wx h) h (drop_any (some ⟨g8, 0, none⟩) len1 c8 X1 L1 R1 o1 a2 f2 wx (F8.out wx h).left HL1.out hc8b (by omega) (by have := hc8; unfold maxLen at *; omega) HD1.out)
  clear sz
  have l9 : (addL X0 L o R a2 b2 c2).length ≤ 600 := by have := addL_le (q := c2) HD.out; have := HL0.out; omega
  have l11 : (putL len1 L1 o1 R1 ⟨a2, f2, 0, 1, 0⟩).length ≤ 600 := by have := putL_le (n := len1) (x := ⟨a2, f2, 0, 1, 0⟩) HD1.out; have := HL1.out; omega
  have l13 : (cutL L1 o1 R1 1).length ≤ 600 := by have := cutL_le (q := 1) HD1.out; have := HL1.out; omega
  have l16 : (dropL L1 o1 R1).length ≤ 600 := by have := dropL_le HD1.out; have := HL1.out; omega
  clear HD HD1 HQO HQO1
  generalize addE X0.length o c2 = E7 at *
  generalize addL X0 L o R a2 b2 c2 = Y9 at *
  generalize putE len1 o1 = E8 at *
  generalize putL len1 L1 o1 R1 ⟨a2, f2, 0, 1, 0⟩ = Y11 at *
  generalize cutN o1 1 = E9 at *
  generalize cutE o1 1 = E10 at *
  generalize cutL L1 o1 R1 1 = Y13 at *
  generalize dropE o1 = E11 at *
  generalize dropL L1 o1 R1 = Y16 at *
  have i7a : (0 : Int) ≤ (len0 : Int) := by omega
  have i7b : (len0 : Int) ≤ (c7 : Int) := by omega
  have i8a : (0 : Int) ≤ (len1 : Int) := by omega
  have i8b : (len1 : Int) ≤ (c8 : Int) := by omega
  obtain ⟨k0, k1, k2, k3⟩ := KM.out w8 (Below.refl _ _)
  go_upto_region 7 with (fail)
  go_region_held3 (fun wx => wx.cell? ⟨N, 0, none⟩ = some (.int .i64 a2) ∧ wx.cell? ⟨N, 1, none⟩ = some (.int .i64 b2) ∧ wx.cell? ⟨N, 2, none⟩ = some (.int .i64 c2) ∧ wx.cell? ⟨N, 3, none⟩ = some (.int .i64 f2))
    (first | exact KM.out _ (by first | assumption | exact (Below.refl _ _).drew | exact Below.drew (by assumption) | exact Below.refl _ _))
    (first | (go_split_ands; go_at_call 15; (with_reducible refine (C7.out _ (by first | assumption | exact (Below.refl _ _).drew | exact Below.drew (by assumption))).mono ?_); rintro e wA ⟨v9, rfl, ho9, hb9, hbA⟩) | fail)
  clear k0 k1 k2 k3
  obtain ⟨a9, c9, rfl, -⟩ := ho9.has okp
  have G9 : Hid (∀ r, (Value.slice a9 Y9.length c9).ownBlock = some r → r < wA.heap.size) := Lib.hid fun r h => (ho9.lt h).2
  have O9 := Lib.hid (ho9.low (base' := M) (Nat.le_of_eq HM.out))
  clear ho9
  go_upto_region 8 with (fail)
  go_region_held3 (fun wx => wx.cell? ⟨N, 0, none⟩ = some (.int .i64 a2) ∧ wx.cell? ⟨N, 1, none⟩ = some (.int .i64 b2) ∧ wx.cell? ⟨N, 2, none⟩ = some (.int .i64 c2) ∧ wx.cell? ⟨N, 3, none⟩ = some (.int .i64 f2))
    (first | exact KM.out _ (by first | assumption | exact (Below.refl _ _).drew | exact Below.drew (by assumption) | exact Below.refl _ _))
    (first | (go_split_ands; go_at_call 21; (with_reducible refine (C8.out _ (by first | assumption | exact (Below.refl _ _).drew | exact Below.drew (by assumption))).mono ?_); rintro e wB ⟨v11, rfl, ho11, hb11, hbB⟩) | fail)
  obtain ⟨a11, c11, rfl, -⟩ := ho11.has oko
  have G11 : Hid (∀ r, (Value.slice a11 Y11.length c11).ownBlock = some r → r < wB.heap.size) := Lib.hid fun r h => (ho11.lt h).2
  have hb11 : Below wA.heap.size wA wB := (Below.refl wA.heap.size wA).drew.trans hb11
  have O9 := Lib.hid (O9.out.keep hb11)
  have O11 : Hid (Own enco wB wA.heap.size (.slice a11 Y11.length c11) Y11) := Lib.hid ho11
  clear ho11
  go_upto_region 9 with (fail)
  go_region_held3 (fun wx => wx.cell? ⟨N, 0, none⟩ = some (.int .i64 a2) ∧ wx.cell? ⟨N, 1, none⟩ = some (.int .i64 b2) ∧ wx.cell? ⟨N, 2, none⟩ = some (.int .i64 c2) ∧ wx.cell? ⟨N, 3, none⟩ = some (.int .i64 f2))
    (first | exact KM.out _ (by first | assumption | exact (Below.refl _ _).drew | exact Below.drew (by assumption) | exact Below.refl _ _))
    (first | (go_split_ands; go_at_call 28; (with_reducible refine (C9.out _ (by first | assumption | exact (Below.refl _ _).drew | exact Below.drew (by assumption))).mono ?_); rintro e wC ⟨v13, rfl, ho13, hb13, hbC⟩) | fail)
  obtain ⟨a13, c13, rfl, -⟩ := ho13.has oko
  have G13 : Hid (∀ r, (Value.slice a13 Y13.length c13).ownBlock = some r → r < wC.heap.size) := Lib.hid fun r h => (ho13.lt h).2
  have hb13 : Below wB.heap.size wB wC := (Below.refl wB.heap.size wB).drew.trans hb13
  have O9 := Lib.hid (O9.out.keep hb13)
  have O11 := Lib.hid (O11.out.keep hb13)
  have O13 : Hid (Own enco wC wB.heap.size (.slice a13 Y13.length c13) Y13) := Lib.hid ho13
  clear ho13
  go_upto_region 10 with (fail)
  go_region_held3 (fun wx => wx.cell? ⟨N, 0, none⟩ = some (.int .i64 a2) ∧ wx.cell? ⟨N, 1, none⟩ = some (.int .i64 b2) ∧ wx.cell? ⟨N, 2, none⟩ = some (.int .i64 c2) ∧ wx.cell? ⟨N, 3, none⟩ = some (.int .i64 f2))
    (first | exact KM.out _ (by first | assumption | exact (Below.refl _ _).drew | exact Below.drew (by assumption) | exact Below.refl _ _))
    (first | (go_split_ands; go_at_call 30; (with_reducible refine (C10.out _ (by first | assumption | exact (Below.refl _ _).drew | exact Below.drew (by assumption))).mono ?_); rintro e wD ⟨v16, rfl, ho16, hb16, hbD⟩) | fail)
  obtain ⟨a16, c16, rfl, -⟩ := ho16.has oko
  have G16 : Hid (∀ r, (Value.slice a16 Y16.length c16).ownBlock = some r → r < wD.heap.size) := Lib.hid fun r h => (ho16.lt h).2
  have hb16 : Below wC.heap.size wC wD := (Below.refl wC.heap.size wC).drew.trans hb16
  have O9 := Lib.hid (O9.out.keep hb16)
  have O11 := Lib.hid (O11.out.keep hb16)
  have O13 := Lib.hid (O13.out.keep hb16)
  have O16 : Hid (Own enco wD wC.heap.size (.slice a16 Y16.length c16) Y16) := Lib.hid ho16
  clear ho16
  obtain ⟨vs, hvs⟩ : ∃ vs, vs = pick3 (Value.slice a11 Y11.length c11) (.slice a13 Y13.length c13) (.slice a16 Y16.length c16) := ⟨_, rfl⟩
  obtain ⟨Ys, hYs⟩ : ∃ Ys, Ys = pick3 Y11 Y13 Y16 := ⟨_, rfl⟩
  obtain ⟨ss, hss⟩ : ∃ ss, ss = pick4 wA.heap.size wB.heap.size wC.heap.size wD.heap.size := ⟨_, rfl⟩
  have MO := Lib.hid (show ∀ i j, i ≤ j → ss i ≤ ss j by rw [hss]; exact pick4_mono hb11.size hb13.size hb16.size)
  have RS : Hid (Rest w8 M vs Ys ss 0 wD) := Lib.hid ⟨hbD, fun j _ h => by
    rw [hvs, hYs, hss]
    match j, h with
    | 0, _ => exact O11.out
    | 1, _ => exact O13.out
    | 2, _ => exact O16.out⟩
  have GB : Hid (∀ j, j < 3 → ∀ r, (vs j).ownBlock = some r → r < ss (j + 1)) := Lib.hid fun j h r => by
    rw [hvs, hss]
    match j, h with
    | 0, _ => exact G11.out r
    | 1, _ => exact G13.out r
    | 2, _ => exact G16.out r
  have LY : Hid (∀ j, j < 3 → (Ys j).length ≤ 600) := Lib.hid fun j h => by
    rw [hYs]
    match j, h with
    | 0, _ => exact l11
    | 1, _ => exact l13
    | 2, _ => exact l16
  have VS : Hid (∀ j, j < 3 → (#[Value.slice a11 Y11.length c11, .slice a13 Y13.length c13, .slice a16 Y16.length c16] : Array Value)[j]? = some (vs j)) := Lib.hid fun j h => by
    rw [hvs]
    match j, h with
    | 0, _ => rfl
    | 1, _ => rfl
    | 2, _ => rfl
  have MS : Hid (M ≤ ss 0) := Lib.hid (by rw [hss, hM]; exact (show w8.heap.size ≤ wA.heap.size from by have := hbA.size; exact this))
  have SA : Hid (∀ r, (Value.slice a9 Y9.length c9).ownBlock = some r → r < ss 0) := Lib.hid fun r h => by rw [hss]; exact G9.out r h
  have WM : Hid (∀ wx, Below M w8 wx → M ≤ wx.heap.size) := Lib.hid fun wx h => by rw [hM]; exact h.size
  clear hvs hYs hss O11 O13 O16 G9 G11 G13 G16 hb9 hb11 hb13 hb16 hbA hbB hbC hbD C7 C8 C9 C10 hM l11 l13 l16
  obtain ⟨n9, hn9⟩ : ∃ n9, n9 = Y9.length := ⟨_, rfl⟩
  rw [← hn9] at O9 SA l9 ⊢
  have HN9 := Lib.hid hn9
  clear hn9
  go_wp2
  go_loopg [108] n9 (fun m i wr => ∃ k : Nat, k + m = n9 ∧ i = .int .i64 (k : Int) ∧ Hid (∃ Z, Z.length = n9 ∧ Own encp wr M (.slice a9 n9 c9) Z) ∧ Hid (Rest w8 M vs Ys ss 0 wr))
  case atStart => exact ⟨0, by omega, rfl, Lib.hid ⟨Y9, HN9.out.symm, O9.out⟩, RS⟩
  case round =>
    obtain ⟨k, hk, rfl, HZ, HR⟩ := hrel
    by_cases hlt : k < n9
    · obtain ⟨Z, hZ, hO⟩ := HZ.out
      obtain ⟨g, cc, e, hgM, _, hfz⟩ := hO.block (by omega)
      injection e with e1 e2 e3
      subst e1
      rw [← hZ] at hO
      obtain ⟨m0, m1, m2⟩ := own_atp hO (show k < Z.length by omega)
      have j0 := hfz (k * 3)
      have j1 := hfz (k * 3 + 1)
      have j2 := hfz (k * 3 + 2)
      have hset := own_allp hO (show k < Z.length by omega) zp
      have hgr := grown_trans (grown_trans (set_grown wr g (k * 3) (.int .i64 0)) (set_grown _ g (k * 3 + 1) (.int .i64 0))) (set_grown _ g (k * 3 + 2) (.int .i64 0))
      have hrest := HR.out.gone hgr (WM.out _ HR.out.below) MO.out (fun r e => by cases e; exact ⟨hgM, SA.out _ rfl⟩)
      rw [hZ] at hset
      have HS2 := Lib.hid hset; have HR2 := Lib.hid hrest; have HZL := Lib.hid hZ
      have i1 : (0 : Int) ≤ (k : Int) := by omega
      have i2 : (k : Int) < (n9 : Int) := by omega
      clear hset hrest hgr hO hZ e2 e3 HZ
      go_wp2
      go_roundg (n9 - (k + 1))
      case measure => omega
      case rel => exact ⟨k + 1, by omega, by go_num, Lib.hid ⟨Z.set k zp, by rw [List.length_set]; exact HZL.out, HS2.out⟩, HR2⟩
    · obtain ⟨Z, hZ, hO⟩ := HZ.out
      have HO := Lib.hid hO; have HZL := Lib.hid hZ
      clear hO hZ HZ
      go_upto_region 17 with (at_builtin; (refine wp_ap okp rfl (.tmp 116) (.tmp 120) rfl M _ Z rfl (HO.out.keep (one_alloc _ _)) _ _ _ [zp, zp, zp] rfl (three_litp wr) rfl (fun h => by cases h) (by have := HZL.out; simp [maxLen]; omega) (by have := HZL.out; simp [encp]; omega) (by rw [World.size_alloc]; exact Nat.le_trans (WM.out _ HR.out.below) (Nat.le_add_right _ 1)) ?_; intro v20 w20 ho20 hb20 hg20 hv20; have HO20 := Lib.hid ho20; have HG20 := Lib.hid hg20; clear ho20 hb20 hg20 hv20))
      obtain ⟨a20, c20, rfl, -⟩ := HO20.out.has okp
      have n20 : (Z ++ [zp, zp, zp]).length = n9 + 3 := by rw [List.length_append, HZL.out]; rfl
      rw [n20]
      obtain ⟨n23, hn23⟩ : ∃ n23, n23 = n9 + 3 := ⟨_, rfl⟩
      rw [← hn23]
      have i23 : (3 : Int) ≤ (n23 : Int) := by omega
      clear hn23
      have R20 : Hid (Rest w8 M vs Ys ss 0 w20) := Lib.hid ((HR.out.keep (WM.out _ HR.out.below) (one_alloc _ _)).gone HG20.out (by rw [World.size_alloc]; exact Nat.le_trans (WM.out _ HR.out.below) (Nat.le_add_right _ 1)) MO.out (fun r e => ⟨(HO.out.lt e).1, SA.out r e⟩))
      clear n20 HO20 HG20 HO HR HZL
      obtain ⟨gL, hgL⟩ : ∃ gL, gL = w20.heap.size := ⟨_, rfl⟩
      obtain ⟨W9, hW9⟩ : ∃ W9, W9 = w20.alloc (.cells #[Value.slice a11 Y11.length c11, .slice a13 Y13.length c13, .slice a16 Y16.length c16] 23) := ⟨_, rfl⟩
      have BL : Hid (Blk W9 gL #[Value.slice a11 Y11.length c11, .slice a13 Y13.length c13, .slice a16 Y16.length c16] 23) := Lib.hid (by rw [hW9, hgL]; exact Blk.new w20 _ _)
      have R9 : Hid (Rest w8 M vs Ys ss 0 W9) := Lib.hid (by rw [hW9]; exact R20.out.keep (WM.out _ R20.out.below) (one_alloc _ _))
      have GL : Hid (∀ j, j < 3 → ∀ r, (vs j).ownBlock = some r → r ≠ gL) := Lib.hid fun j h r e => by have := ((R20.out.own j (Nat.zero_le _) h).lt e).2; omega
      have HGL := Lib.hid hgL; have HW9 := Lib.hid hW9
      clear hgL hW9 R20
      go_upto_region 18 with (fail)
      rw [← HGL.out, ← HW9.out]
      clear HGL HW9
      generalize #[Value.slice a11 Y11.length c11, .slice a13 Y13.length c13, .slice a16 Y16.length c16] = CS at VS BL
      go_loopg [127] 3 (fun m i wr => ∃ k : Nat, k + m = 3 ∧ i = .int .i64 (k : Int) ∧ Hid (Blk wr gL CS 23) ∧ Hid (Rest w8 M vs Ys ss k wr))
      case atStart => exact ⟨0, by omega, rfl, BL, R9⟩
      case round =>
        obtain ⟨k, hk, rfl, HBL, HRR⟩ := hrel
        by_cases hlt : k < 3
        · have hown := HRR.out.own k (Nat.le_refl _) hlt
          obtain ⟨ak, ck, ek, -⟩ := hown.has oko
          obtain ⟨nk, hnk⟩ : ∃ nk, nk = (Ys k).length := ⟨_, rfl⟩
          rw [← hnk] at ek
          have cL : wr.cell? ⟨gL, k, none⟩ = some (.slice ak nk ck) := by rw [HBL.out.cell k, VS.out k hlt, ek]
          have lk : nk ≤ 600 := by rw [hnk]; exact LY.out k hlt
          have HGK : Hid (∀ r, (Value.slice ak nk ck).ownBlock = some r → r < ss (k + 1) ∧ r ≠ gL) := Lib.hid fun r e => by rw [← ek] at e; exact ⟨GB.out k hlt r e, GL.out k hlt r e⟩
          rw [ek] at hown
          have HOK : Hid (∃ Z, Z.length = nk ∧ Own enco wr (ss k) (.slice ak nk ck) Z) := Lib.hid ⟨Ys k, hnk.symm, hown⟩
          have HR1 := Lib.hid HRR.out.next
          have HMK : Hid (M ≤ ss k) := Lib.hid (Nat.le_trans MS.out (MO.out 0 k (Nat.zero_le _)))
          have i1 : (0 : Int) ≤ (k : Int) := by omega
          have i2 : (k : Int) < 3 := by omega
          have i3 : k < 3 := hlt
          clear hown ek hnk HRR
          go_wp2
          go_loopg [133] nk (fun m i wq => ∃ j : Nat, j + m = nk ∧ i = .int .i64 (j : Int) ∧ Hid (∃ Z, Z.length = nk ∧ Own enco wq (ss k) (.slice ak nk ck) Z) ∧ Hid (Blk wq gL CS 23) ∧ Hid (Rest w8 M vs Ys ss (k + 1) wq))
          case atStart => exact ⟨0, by omega, rfl, HOK, HBL, HR1⟩
          case round =>
            obtain ⟨j, hj, rfl, HZ, HBQ, HRQ⟩ := hrel
            by_cases hjl : j < nk
            · obtain ⟨Z, hZ, hO⟩ := HZ.out
              have hOl := fun r (e : (Value.slice ak nk ck).ownBlock = some r) => (hO.lt e).1
              obtain ⟨g, cc, e, hgM, _, hfz⟩ := hO.block (by omega)
              injection e with e1 e2 e3
              subst e1
              rw [← hZ] at hO
              obtain ⟨m0, m1, m2, m3, m4⟩ := own_ato hO (show j < Z.length by omega)
              have j0 := hfz (j * 5)
              have j1 := hfz (j * 5 + 1)
              have j2 := hfz (j * 5 + 2)
              have j3 := hfz (j * 5 + 3)
              have j4 := hfz (j * 5 + 4)
              have hset := own_allo hO (show j < Z.length by omega) zo
              have hgr := grown_trans (grown_trans (grown_trans (grown_trans (set_grown wr g (j * 5) (.int .i64 0)) (set_grown _ g (j * 5 + 1) (.int .i64 0))) (set_grown _ g (j * 5 + 2) (.int .i64 0))) (set_grown _ g (j * 5 + 3) (.int .i64 0))) (set_grown _ g (j * 5 + 4) (.int .i64 0))
              have hrest := HRQ.out.gone hgr (WM.out _ HRQ.out.below) MO.out (fun r e => by cases e; exact ⟨Nat.le_trans HMK.out (hOl _ rfl), (HGK.out _ rfl).1⟩)
              have hblk := HBQ.out.gone hgr (fun e => by cases e; exact (HGK.out _ rfl).2 rfl)
              rw [hZ] at hset
              have HS2 := Lib.hid hset; have HR2 := Lib.hid hrest; have HZL := Lib.hid hZ; have HB2 := Lib.hid hblk
              have i4 : (0 : Int) ≤ (j : Int) := by omega
              have i5 : (j : Int) < (nk : Int) := by omega
              clear hset hrest hgr hO hZ e2 e3 HZ hblk hOl
              go_wp2
              go_roundg (nk - (j + 1))
              case measure => omega
              case rel => exact ⟨j + 1, by omega, by go_num, Lib.hid ⟨Z.set j zo, by rw [List.length_set]; exact HZL.out, HS2.out⟩, HB2, HR2⟩
            · obtain ⟨Z, hZ, hO⟩ := HZ.out
              have HO := Lib.hid (hO.low HMK.out); have HZL := Lib.hid hZ
              have hOl := Lib.hid fun r (e : (Value.slice ak nk ck).ownBlock = some r) => (hO.lt e).1
              clear hO hZ HZ
              go_upto_region 26 with (at_builtin; (refine wp_ap oko rfl (.tmp 141) (.tmp 145) rfl M _ Z rfl (HO.out.keep (one_alloc _ _)) _ _ _ [zo, zo, zo] rfl (three_lito wr) rfl (fun h => by cases h) (by have := HZL.out; simp [maxLen]; omega) (by have := HZL.out; simp [enco]; omega) (by rw [World.size_alloc]; exact Nat.le_trans (WM.out _ HRQ.out.below) (Nat.le_add_right _ 1)) ?_; intro v30 w30 ho30 hb30 hg30 hv30; have HO30 := Lib.hid ho30; have HG30 := Lib.hid hg30; clear ho30 hb30 hg30 hv30))
              obtain ⟨a30, c30, rfl, -⟩ := HO30.out.has oko
              have n30 : (Z ++ [zo, zo, zo]).length = nk + 3 := by rw [List.length_append, HZL.out]; rfl
              rw [n30]
              obtain ⟨n33, hn33⟩ : ∃ n33, n33 = nk + 3 := ⟨_, rfl⟩
              rw [← hn33]
              have i33 : ¬ (n33 : Int) < 3 := by omega
              have i34 : ¬ n33 < 3 := by omega
              have HB30 := Lib.hid ((HBQ.out.keep (one_alloc _ _)).gone HG30.out (fun e => (HGK.out _ e).2 rfl))
              have HR30 : Hid (Rest w8 M vs Ys ss (k + 1) w30) := Lib.hid ((HRQ.out.keep (WM.out _ HRQ.out.below) (one_alloc _ _)).gone HG30.out (by rw [World.size_alloc]; exact Nat.le_trans (WM.out _ HRQ.out.below) (Nat.le_add_right _ 1)) MO.out (fun r e => ⟨Nat.le_trans HMK.out (hOl.out r e), (HGK.out r e).1⟩))
              clear n30 hn33 HO30 HG30 HO HZL hOl
              go_wp2
              go_roundg (3 - (k + 1))
              case measure => omega
              case rel => exact ⟨k + 1, by omega, by go_num, HB30, HR30⟩
        · have BE := Lib.hid HRR.out.below
          have S1 := Lib.hid (same_p (some ⟨g7, 0, none⟩) a0 len0 c7 len0 cap0 X0 X0 wr (F7.out wr BE.out).left (HX0.out _ (F0.out _ BE.out)) HL0.out HL0.out)
          rw [decide_eq_true (rfl : X0 = X0)] at S1
          have n7e := HN7.out
          have n8e := HN8.out
          have i9a : (len0 : Int) < (n7 : Int) := by omega
          have i9b : (len0 : Int) + 1 < (n7 : Int) := by omega
          have i9c : IntKind.i64.wrap ((len0 : Int) + 1) = (len0 : Int) + 1 := IntWalk.i64_in _ (by omega)
          have i9d : ((len0 : Int) + 1).toNat = len0 + 1 := by omega
          have i9e : (0 : Int) ≤ (len0 : Int) + 1 := by omega
          have i8A : (len1 : Int) < (n8 : Int) := by omega
          have i8B : (len1 : Int) + 1 < (n8 : Int) := by omega
          have i8c : IntKind.i64.wrap ((len1 : Int) + 1) = (len1 : Int) + 1 := IntWalk.i64_in _ (by omega)
          have i8d : ((len1 : Int) + 1).toNat = len1 + 1 := by omega
          have i8e : (0 : Int) ≤ (len1 : Int) + 1 := by omega
          clear n7e n8e HBL HRR
          go_wp2_with fail
          refine S1.out.mono ?_
          rintro e wS ⟨rfl, hbS⟩
          have BS := Lib.hid (BE.out.trans (hbS.mono (WM.out _ BE.out)))
          clear hbS S1
          obtain ⟨p1, p2⟩ := ends_p (F7.out wS BS.out) HL0.out
          have S2 := Lib.hid (same_o (some ⟨g8, 0, none⟩) a1 len1 c8 len1 cap1 X1 X1 wS (F8.out wS BS.out).left (HX1.out _ (F0.out _ BS.out)) HL1.out HL1.out)
          rw [decide_eq_true (rfl : X1 = X1)] at S2
          go_wp2_with fail
          refine S2.out.mono ?_
          rintro e wT ⟨rfl, hbT⟩
          have BT := Lib.hid (BS.out.trans (hbT.mono (WM.out _ BS.out)))
          clear hbT S2 p1 p2
          obtain ⟨p3, p4⟩ := ends_o (F8.out wT BT.out) HL1.out
          go_wp2
          go_ret
          exact ⟨rfl, below_next HB.out (F0.out _ BT.out)⟩
end Go.Proofs.Ytpagkeklilgknaa.Bo

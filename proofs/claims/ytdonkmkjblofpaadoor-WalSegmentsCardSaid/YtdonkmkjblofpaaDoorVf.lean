/-
  Layer 5: the law on segments, walked.
-/
import Derived.Test.YtdonkmkjblofpaaDoorVe
namespace Go.Proofs.YtdonkmkjblofpaaDoor.Wl
open Go.RowKit Go.Sort Dx Sx Dk
set_option linter.unusedVariables false
set_option linter.unusedSimpArgs false
theorem one_bytes {z : Int} (h : 0 ≤ z ∧ z ≤ 255) : Bytes [z] := fun i hi => by
  have : i = 0 := by simp at hi; omega
  subst this; exact h
/-- The law's records, appended one by one. -/
theorem seg_append {W w : World} {d g : Nat} {per : Int} {D : List (List (List Int))} {c : List (List Int)} {S : St} {j K : Nat} (h : JW W w d g per D c S) (ht : Tabs W) (hper : 1 ≤ per) (hc : D.flatten ++ c = cnt j) (ha : S.arm = 0 ∧ S.room = 1048576) (hK : K ≤ 63) (hj : j < K) (hlim : per < 64 → (K : Int) ≤ 15 * per) (ad : Addr) (cap : Nat) (hrow : Fr.HasRow .u8 w (some ad) 1 [(j : Int) + 1]) :
    Calls Tryd.prog 13 #[.pointer (some ⟨g, 0, none⟩), .slice (some ad) 1 cap] w fun e w' => e = .returned (.tuple #[.int .i64 ((j : Int) + 1), .int .i64 0]) ∧ ∃ D' c' S', JW W w' d g per D' c' S' ∧ D'.flatten ++ c' = cnt (j + 1) ∧ S'.arm = 0 ∧ S'.room = 1048576 := by
  have hn := nx_len h.jn
  rw [hc, cnt_len] at hn
  have hfew : (nxD per D c).length < 16 := by
    rcases Int.lt_or_le per 64 with h1 | h1
    · have := hlim h1
      rcases Nat.lt_or_ge (nxD per D c).length 16 with h2 | h2
      · exact h2
      · exfalso
        have : (16 : Int) * per ≤ ((nxD per D c).length : Int) * per := Int.mul_le_mul_of_nonneg_right (by omega) (by omega)
        omega
    · rcases Nat.eq_zero_or_pos (nxD per D c).length with h2 | h2
      · omega
      · exfalso
        have : (1 : Int) * per ≤ ((nxD per D c).length : Int) * per := Int.mul_le_mul_of_nonneg_right (by omega) (by omega)
        omega
  have hnext : 1 + tot D + c.length = j + 1 := by
    have := congrArg List.length hc
    rw [List.length_append, ← tot_flat, cnt_len] at this; omega
  refine (jw_append h ht hper (some ad) 1 cap [(j : Int) + 1] (one_bytes ⟨by omega, by omega⟩) hrow (fun h => by cases h) (by decide) (by rw [hc, cnt_len]; omega) (by rw [hc, cnt_size]; omega) hfew).mono ?_
  rintro e w' ⟨_, h2⟩
  obtain ⟨x, S', e1, e2, e3⟩ := h2 (by rw [hc, cnt_size, ha.2]; simp; omega)
  have hx : x = 0 := by
    rcases e1.1 with h | h
    · exact h.1
    · exact absurd ha.1 h.2.2
  obtain ⟨k1, k2⟩ := e2 hx
  refine ⟨by rw [k1, hnext]; rfl, _, _, S', k2, ?_, e1.2.1 ha.1, e1.2.2.trans ha.2⟩
  rw [← List.append_assoc, nx_flat, hc, cnt_succ]; simp
/-- What the law asks of the numbers: n segments pruned, F the first record left, L how many are left. -/
structure Nums (b c : Int) (K n F L : Nat) : Prop where
  sum : L + F = K + 1
  one : 1 ≤ F
  none : n = 0 → F = 1
  prod : 0 < K → (F : Int) - 1 = n * b
  small : F ≤ K + 1
  max : 0 < K → ¬ ((F : Int) > max c 1)
  end' : ¬ (c < K ∧ c ≥ 1 ∧ b ≤ c - F)
theorem tot_take_full {per : Int} {D : List (List (List Int))} {c : List (List Int)} (h : ∀ d ∈ D, (d.length : Int) = per) {j : Nat} (hj : j ≤ D.length) : (tot ((D ++ [c]).take j) : Int) = j * per := by
  rw [List.take_append_of_le_length hj]
  rw [tot_full (fun d hd => h d (List.mem_of_mem_take hd)), List.length_take, Nat.min_eq_left hj]
theorem seg_numbers {per c : Int} {D : List (List (List Int))} {cc : List (List Int)} {S : St} {C : List (List (List Int))} {n K : Nat} (h : Jn per D cc S) (hC : Cs D cc = C) (hq : C.flatten = cnt K) (h1 : n = 0 ∨ n < C.length)
    (h2 : ∀ i, i < n → i + 1 < C.length ∧ ((1 + tot (C.take (i + 1)) : Nat) : Int) ≤ c) (h3 : ¬ (n + 1 < C.length ∧ ((1 + tot (C.take (n + 1)) : Nat) : Int) ≤ c)) (hper : 1 ≤ per) (hK : K ≤ 63) :
    Nums per c K n (if C.drop n = [] then 1 else 1 + tot (C.take n)) (C.drop n).flatten.length ∧ 1 + tot (C.take n) + tot (C.drop n) ≤ 64 ∧ (0 < (C.drop n).flatten.length → (if C.drop n = [] then 1 else 1 + tot (C.take n)) = 1 + tot (C.take n)) := by
  have hsum : tot (C.take n) + (C.drop n).flatten.length = K := by
    have e1 := congrArg List.length hq
    rw [cnt_len] at e1
    have e2 := congrArg (fun x => (List.flatten x).length) (List.take_append_drop n C)
    simp only [List.flatten_append, List.length_append] at e2
    rw [tot_flat]; omega
  by_cases hc : cc = []
  · have hD := h.none hc
    subst hD hc
    have : C = [] := by rw [← hC]; rfl
    subst this
    obtain rfl : n = 0 := by simp at h1; omega
    have hK0 : K = 0 := by have := congrArg List.length hq; rw [cnt_len] at this; simpa using this.symm
    subst hK0
    exact ⟨⟨rfl, Nat.le_refl _, fun _ => rfl, fun h => absurd h (by decide), by simp, fun h => absurd h (by decide), fun h => by simp at h; omega⟩, by simp [tot], fun h => by simp at h⟩
  · have hCD : C = D ++ [cc] := by rw [← hC]; unfold Cs; rw [if_neg hc]
    have hnl : n ≤ D.length := by rw [hCD] at h1; simp at h1; omega
    have hne : C.drop n ≠ [] := by
      intro e; have := congrArg List.length e; rw [hCD] at this; simp at this; omega
    have ht := tot_take_full (c := cc) h.full hnl
    rw [← hCD] at ht
    rw [if_neg hne]
    refine ⟨⟨by omega, by omega, ?_, fun _ => by push_cast; omega, by omega, fun _ hx => ?_, fun ⟨x1, x2, x3⟩ => ?_⟩, ?_, fun _ => rfl⟩
    · intro e; subst e; simp [tot]
    · rcases Nat.eq_zero_or_pos n with e | e
      · subst e; simp [tot] at hx; omega
      · have := (h2 (n - 1) (by omega)).2
        rw [show n - 1 + 1 = n by omega] at this
        omega
    · have hlast : n + 1 < C.length := by
        rcases Nat.lt_or_ge (n + 1) C.length with hh | hh
        · exact hh
        · exfalso
          have hn : n = D.length := by rw [hCD] at hh; simp at hh; omega
          have htd : tot (C.take n) = tot D := by rw [hCD, hn]; simp
          have hcl := h.last
          have hKK : tot D + cc.length = K := by
            have := congrArg List.length hq
            rw [cnt_len, hCD, ← tot_flat, tot_snoc] at this; exact this
          push_cast at x3; omega
      have hn1 : n + 1 ≤ D.length := by rw [hCD] at hlast; simp at hlast; omega
      have ht1 := tot_take_full (c := cc) h.full hn1
      rw [← hCD] at ht1
      refine h3 ⟨hlast, ?_⟩
      push_cast at ht1 x3 ⊢
      rw [Int.add_mul] at ht1
      omega
    · rw [tot_flat (C.drop n)]; omega
set_option maxRecDepth 100000 in
set_option maxHeartbeats 1600000 in
theorem segs_walk (a b c : Int) (hb : -9223372036854775808 ≤ b ∧ b ≤ 9223372036854775807) (hc : -9223372036854775808 ≤ c ∧ c ≤ 9223372036854775807) (w : World) (ht : Tabs w) :
    Calls Tryd.prog 5 #[.int .i64 a, .int .i64 b, .int .i64 c] w fun e w' => e = .returned (.bool true) ∧ Below w.heap.size w w' := by
  obtain ⟨K, hK, hK63⟩ := and63 a
  have HT := Lib.hid ht
  clear ht
  obtain ⟨M, hM⟩ : ∃ M, IntKind.i64.wrap (15 * b) = M := ⟨_, rfl⟩
  by_cases hb1 : b < 1
  · go_enter Tryd.func5, Tryd.ntmps5
    go_wp2_with fail
    refine (wakes_any w HT.out).mono ?_
    rintro e w1 ⟨rfl, hb1⟩
    have B1 := Lib.hid hb1; clear hb1
    go_wp2
    go_ret
    exact ⟨rfl, B1.out⟩
  by_cases hbad : (K : Int) > M ∧ b < 64
  · obtain ⟨t1, t2⟩ := hbad
    go_enter Tryd.func5, Tryd.ntmps5
    go_wp2_with fail
    refine (wakes_any w HT.out).mono ?_
    rintro e w1 ⟨rfl, hb1⟩
    have B1 := Lib.hid hb1; clear hb1
    go_wp2
    go_ret
    exact ⟨rfl, B1.out⟩
  have hlim : Hid (b < 64 → (K : Int) ≤ 15 * b) := Lib.hid fun h => by
    have : M = 15 * b := by rw [← hM, IntWalk.i64_in _ (by omega)]
    omega
  have tt : (decide ((K : Int) > M) = false) ∨ (decide ((K : Int) > M) = true ∧ ¬ b < 64) := by
    by_cases h1 : (K : Int) > M
    · exact .inr ⟨by simpa using h1, fun h => hbad ⟨h1, h⟩⟩
    · exact .inl (by simpa using h1)
  have HB := Lib.hid hb; have HC := Lib.hid hc; have HK := Lib.hid hK63
  have HM := Lib.hid hbad
  clear hbad
  rcases tt with t1 | ⟨t1, t2⟩
  all_goals
    go_enter Tryd.func5, Tryd.ntmps5
    go_wp2_with fail
    refine (wakes_any w HT.out).mono ?_
    rintro e w1 ⟨rfl, hb1⟩
    have B1 := Lib.hid hb1; have HT1 := Lib.hid (HT.out.keep hb1)
    clear hb1
    go_wp2_with fail
    refine (ok_new w1 1048576).mono ?_
    rintro e w2 ⟨rfl, ok2⟩
    obtain ⟨d, hd⟩ : ∃ d, w1.heap.size + 1 = d := ⟨_, rfl⟩
    rw [hd] at ok2 ⊢
    have OP := Lib.hid (jw_new ok2 HT1.out rfl rfl b (by omega))
    clear ok2 hd
    go_wp2_with fail
    refine OP.out.mono ?_
    rintro e w3 ⟨g, ad3, cap3, rfl, hj3⟩
    have J3 := Lib.hid hj3
    clear hj3 OP
    go_wp2_with fail
    go_loopg [12] K (fun m o wr => ∃ (j : Nat) (D : List (List (List Int))) (cc : List (List Int)) (S : St), j + m = K ∧ o = .int .i64 ((j : Int) + 1) ∧ Hid (JW w1 wr d g b D cc S) ∧ Hid (D.flatten ++ cc = cnt j) ∧ Hid (S.arm = 0 ∧ S.room = 1048576))
    case atStart => exact ⟨0, [], [], _, by omega, by first | rfl | go_num, J3, Lib.hid rfl, Lib.hid ⟨rfl, rfl⟩⟩
    case round =>
      obtain ⟨j, D, cc, S, hj, rfl, HJ, HF, HA⟩ := hrel
      by_cases hlt : j < K
      · have hup : Below wr.heap.size wr (wr.alloc (.cells #[.int .u8 ((j : Int) + 1)] 5)) := (Below.refl _ _).alloc (Nat.le_refl _) _
        have AP := Lib.hid (seg_append (HJ.out.below hup) HT1.out (by omega) HF.out HA.out HK.out hlt hlim.out ⟨wr.heap.size, 0, none⟩ 1 (Ob.one_row wr _ _ _ rfl))
        have cv : IntKind.u8.wrap ((j : Int) + 1) = (j : Int) + 1 := by rw [IntKind.wrap_u8]; have := HK.out; omega
        have d2 : IntKind.i64.wrap ((j : Int) + 1 + 1) = (j : Int) + 1 + 1 := IntWalk.i64_in _ (by have := HK.out; omega)
        have hle : ((j : Int) + 1 ≤ (K : Int)) := by omega
        clear hup
        go_wp2_with fail
        refine AP.out.mono ?_
        rintro e w5 ⟨rfl, D', c', S', hj5, hf5, ha5⟩
        have J5 := Lib.hid hj5; have F5 := Lib.hid hf5; have A5 := Lib.hid ha5
        clear hj5 hf5 ha5 AP
        go_wp2_with fail
        go_roundg (K - (j + 1))
        case measure => omega
        case rel => exact ⟨j + 1, D', c', S', by omega, by first | rfl | go_num, J5, F5, A5⟩
      · obtain rfl : j = K := by omega
        have hle : ¬ ((j : Int) + 1 ≤ (j : Int)) := by omega
        have PR := Lib.hid (jw_prune HJ.out HT1.out HA.out.1 (by rw [HF.out, cnt_len]; have := HK.out; omega) c)
        go_wp2_with fail
        refine PR.out.mono ?_
        rintro e w6 ⟨n, rfl, hn1, hn2, hn3, ok6⟩
        obtain ⟨C, hC⟩ : ∃ C, Cs D cc = C := ⟨_, rfl⟩
        rw [hC] at hn1 hn2 hn3 ok6
        obtain ⟨q1, q2, q3⟩ := HJ.out.jn.cs
        rw [hC] at q1 q2 q3
        rw [HF.out] at q2
        obtain ⟨p1, p2, p3⟩ := prS_inv q1 HJ.out.jn.up HA.out.1 n
        have hfull := seg_numbers (n := n) (c := c) HJ.out.jn hC q2 hn1 hn2 hn3 (by omega) HK.out
        have hdf : (C.drop n).flatten = (cnt j).drop (tot (C.take n)) := by rw [flat_drop, q2]
        have OP2 := Lib.hid (jw_open ok6 HT1.out p1 p2 (fun x hx => q3 x (List.mem_of_mem_drop hx)) bytes_nil one_nil (by omega) (by have := hfull.2.1; omega) b (by omega))
        go_wp2_with fail
        refine OP2.out.mono ?_
        rintro e w7 ⟨x, S7, e1, e2, e3, e4, e5⟩
        have hx : x = 0 := by
          rcases e1.1 with h | h
          · exact h.1
          · exact absurd p3 h.2.2
        obtain ⟨g7, ad7, cap7, rfl, was7⟩ := e4 hx
        obtain ⟨NU, _, hF1⟩ := hfull
        have ROWS : Hid (∀ k, k < (C.drop n).flatten.length → ∃ gg ad cp bb off, ad7 = some ⟨gg, 0, none⟩ ∧ w7.cell? ⟨gg, k, none⟩ = some (.slice ad 1 cp) ∧ ad = some ⟨bb, off, none⟩ ∧ w7.cell? ⟨bb, off, none⟩ = some (.int .u8 (((if C.drop n = [] then 1 else 1 + tot (C.take n) : Nat) : Int) + (k : Int)))) := Lib.hid fun k hk => by
          obtain ⟨gg, ad, cp, h1, h2, h3⟩ := was_at was7 hk
          have hg : (C.drop n).flatten.getD k [] = [(((if C.drop n = [] then 1 else 1 + tot (C.take n) : Nat) : Int) + (k : Int))] := by
            rw [hF1 (by omega), hdf]
            rw [hdf, List.length_drop, cnt_len] at hk
            unfold cnt
            simp only [List.getD, List.getElem?_drop, List.getElem?_map]
            rw [List.getElem?_range (by omega)]
            simp; omega
          rw [hg] at h2 h3
          obtain ⟨bb, off, h4, h5⟩ := h3.2.2 (by simp)
          exact ⟨gg, ad, cp, bb, off, h1, h2, h4, by simpa using h5 0 (by simp)⟩
        have FR7 := Lib.hid (B1.out.trans (e3.frame.mono B1.out.size))
        obtain ⟨F, hF⟩ : ∃ F, (if C.drop n = [] then 1 else 1 + tot (C.take n)) = F := ⟨_, rfl⟩
        obtain ⟨L, hL⟩ : ∃ L, (C.drop n).flatten.length = L := ⟨_, rfl⟩
        rw [hF, hL] at NU
        rw [hF] at ROWS
        rw [hF, hL]
        rw [hL] at ROWS
        have hLm : L ≤ 9223372036854775807 := by have := NU.sum; have := HK.out; omega
        clear e1 e2 e3 e4 e5 was7 hx p1 p2 p3 q1 q2 q3 hn1 hn2 hn3 hC hF hL hF1 hdf OP2
        obtain ⟨n1, n2, n3, n4, n5, n6, n7⟩ := NU
        have hK64 := HK.out
        have hcb := HC.out; have hbb := HB.out
        have z1 : IntKind.i64.wrap ((j : Int) - (F : Int)) = (L : Int) - 1 := by rw [IntWalk.i64_in _ (by omega)]; omega
        have z2 : IntKind.i64.wrap ((L : Int) - 1 + 1) = (L : Int) := by rw [IntWalk.i64_in _ (by omega)]; omega
        have z3 : IntKind.i64.wrap ((F : Int) - 1) = (F : Int) - 1 := IntWalk.i64_in _ (by omega)
        have tn : (((n : Int) == 0) = true ∧ ((F : Int) != 1) = false) ∨ ((n : Int) == 0) = false := by
          by_cases h : n = 0
          · exact .inl ⟨by simp [h], by rw [n3 h]; rfl⟩
          · exact .inr (by simp; omega)
        have tk : (j = 0 ∧ F = 1) ∨ (0 < j ∧ IntKind.i64.wrap ((n : Int) * b) = (F : Int) - 1 ∧ ¬ ((F : Int) > max c 1)) := by
          by_cases h : j = 0
          · exact .inl ⟨h, by omega⟩
          · exact .inr ⟨by omega, by rw [← n4 (by omega)]; exact IntWalk.i64_in _ (by omega), n6 (by omega)⟩
        have tc : ¬ c < (j : Int) ∨ (c < (j : Int) ∧ ¬ c ≥ 1) ∨ (c < (j : Int) ∧ c ≥ 1 ∧ IntKind.i64.wrap (c - (F : Int)) = c - (F : Int) ∧ ¬ b ≤ c - (F : Int)) := by
          by_cases h1 : c < (j : Int)
          · by_cases h2 : c ≥ 1
            · exact .inr (.inr ⟨h1, h2, IntWalk.i64_in _ (by omega), fun h => n7 ⟨h1, h2, h⟩⟩)
            · exact .inr (.inl ⟨h1, h2⟩)
          · exact .inl h1
        have NN : Hid (L + F = j + 1) := Lib.hid n1
        clear n1 n2 n3 n4 n5 n6 n7
        have LOOP : Hid (∀ k, k < L → IntKind.i64.wrap ((F : Int) + (k : Int)) = (F : Int) + (k : Int) ∧ IntKind.u8.wrap ((F : Int) + (k : Int)) = (F : Int) + (k : Int)) := Lib.hid fun k hk => by
          have := NN.out; have := HK.out
          exact ⟨IntWalk.i64_in _ (by omega), by rw [IntKind.wrap_u8]; omega⟩
        have tall : (j = 0 ∧ F = 1) ∨ (0 < j ∧ IntKind.i64.wrap ((n : Int) * b) = (F : Int) - 1 ∧ ¬ ((F : Int) > max c 1)) := tk
        clear tk hK64 hcb hbb hb hc
        rcases tall with ⟨k1, k2⟩ | ⟨k1, k2, k3⟩
        · have tj : decide ((j : Int) > 0) = false := by simp; omega
          have tj2 : decide (0 < j) = false := by simp; omega
          clear k1 k2 tc
          rcases tn with ⟨tn, tn2⟩ | tn
          all_goals
            go_wp2_with fail
            go_loopg [141] L (fun m i wr => ∃ k : Nat, k + m = L ∧ i = .int .i64 (k : Int) ∧ w7 = wr)
            case atStart => exact ⟨0, by omega, by first | rfl | go_num, rfl⟩
            case round =>
              obtain ⟨k, hk, rfl, rfl⟩ := hrel
              by_cases hlt : k < L
              · obtain ⟨gg, ad, cp, bb, off, rfl, r1, rfl, r2⟩ := ROWS.out k hlt
                obtain ⟨d3, d4⟩ := LOOP.out k hlt
                have i0 : (0 : Int) ≤ (k : Int) := by omega
                have i1 : (k : Int) < (L : Int) := by omega
                go_wp2_with fail
                go_roundg (L - (k + 1))
                case measure => omega
                case rel => exact ⟨k + 1, by omega, by first | rfl | go_num, rfl⟩
              · obtain rfl : k = L := by omega
                go_wp2
                go_ret
                exact ⟨rfl, FR7.out⟩
        · rcases tn with ⟨tn, tn2⟩ | tn
          all_goals
            rcases tc with tc | ⟨tc, tc2⟩ | ⟨tc, tc2, tc3, tc4⟩
            all_goals
              go_wp2_with fail
              go_loopg [141] L (fun m i wr => ∃ k : Nat, k + m = L ∧ i = .int .i64 (k : Int) ∧ w7 = wr)
              case atStart => exact ⟨0, by omega, by first | rfl | go_num, rfl⟩
              case round =>
                obtain ⟨k, hk, rfl, rfl⟩ := hrel
                by_cases hlt : k < L
                · obtain ⟨gg, ad, cp, bb, off, rfl, r1, rfl, r2⟩ := ROWS.out k hlt
                  obtain ⟨d3, d4⟩ := LOOP.out k hlt
                  have i0 : (0 : Int) ≤ (k : Int) := by omega
                  have i1 : (k : Int) < (L : Int) := by omega
                  go_wp2_with fail
                  go_roundg (L - (k + 1))
                  case measure => omega
                  case rel => exact ⟨k + 1, by omega, by first | rfl | go_num, rfl⟩
                · obtain rfl : k = L := by omega
                  go_wp2
                  go_ret
                  exact ⟨rfl, FR7.out⟩
end Go.Proofs.YtdonkmkjblofpaaDoor.Wl

/-
  Layer 10: leaving with marks; the law TreeTwoWays.
-/
import Derived.Test.YtnhaoalndlgakaaPh
namespace Go.Proofs.Ytnhaoalndlgakaa.Tr
open Go.RowKit Go.Shelf Rf
set_option linter.unusedVariables false
set_option linter.unusedSimpArgs false
attribute [local go_sem] Oper.semAt_some

theorem shut_below {ds : List Deferred} {N : Nat} {w W W' : World} (hs : Shut ds W W') (hlow : ∀ d ∈ ds, ∀ r, d.target = .collected r → N ≤ r) (hB : Below N w W) : Below N w W' :=
  ⟨hs.os.trans hB.os, hs.tape.trans hB.tape, hs.output.trans hB.output, by rw [hs.size]; exact hB.size, fun k hk => by
    rw [hs.block k fun d hd e => by have := hlow d hd k e; omega]
    exact hB.block k hk⟩
theorem ret_tmp {fn : Func} {p : Tmp} (h : fn.results = #[.tmp p]) {tmps : Array Value} {ds : List Deferred} {w W : World} {N : Nat} (ht : tmps.getD p undef = .bool true) (hm : Marks ds W) (hlow : ∀ d ∈ ds, ∀ r, d.target = .collected r → N ≤ r) (hB : Below N w W) :
    LeavesInM Fence.wide 6 Try.prog fn tmps (fun e w' => e = .returned (.bool true) ∧ Below N w w') ds .returning W :=
  leaves_marks ds W hm fun W' hs => ⟨_, results_tmp h _ _ _, by rw [ht], shut_below hs hlow hB⟩
theorem low_nil {N : Nat} : ∀ d ∈ ([] : List Deferred), ∀ r, d.target = .collected r → N ≤ r := fun d hd => by cases hd
theorem marks_one {W : World} {D : Nat} (h : W.heap[D]? = some (.deferred (some []))) : Marks [{ target := .collected D, args := #[] }] W := ⟨by simp, fun d hd => by
  simp only [List.mem_cons, List.not_mem_nil, or_false] at hd
  subst hd
  exact ⟨_, rfl, h⟩⟩
theorem marks_keepT {ds : List Deferred} {A B : World} (h : Marks ds A) (hb : Below A.heap.size A B) : Marks ds B := ⟨h.1, fun d hd => by
  obtain ⟨r, h1, h2⟩ := h.2 d hd
  exact ⟨r, h1, (hb.block r (Array.getElem?_eq_some_iff.1 h2).1).trans h2⟩⟩
theorem low_one {N D : Nat} (h : N ≤ D) : ∀ d ∈ ([{ target := .collected D, args := #[] }] : List Deferred), ∀ r, d.target = .collected r → N ≤ r := fun d hd r e => by
  simp only [List.mem_cons, List.not_mem_nil, or_false] at hd
  subst hd
  have : D = r := by injection e
  omega
theorem mem_snoc {n x : Int} {pre : List Int} (h : n ∉ pre) : decide (n ∈ pre ++ [x]) = (x == n) := by
  by_cases e : x = n
  · rw [e]; simp
  · rw [beq_eq_false_iff_ne.2 e, decide_eq_false_iff_not]
    intro h2
    rcases List.mem_append.1 h2 with h3 | h3
    · exact h h3
    · exact e (List.mem_singleton.1 h3).symm
theorem take_par {l : List Int} {k : Nat} (h : k < l.length) : l.take (k + 1) = l.take k ++ [par l k] := by
  rw [List.take_succ_eq_append_getElem h]
  unfold par
  simp [List.getD, h]
theorem mem_take {l : List Int} {k : Nat} {x : Int} (h : k < l.length) : x ∈ l.take (k + 1) ↔ x ∈ l.take k ∨ par l k = x := by
  rw [take_par h, List.mem_append, List.mem_singleton]
  exact ⟨fun h => h.imp id Eq.symm, fun h => h.imp id Eq.symm⟩

set_option maxRecDepth 100000 in
set_option maxHeartbeats 8000000 in
theorem two_walk (a0 : Option Addr) (len0 cap0 : Nat) (z0 : List Int) (u v : Int) (w : World) (hrow : Fr.IsRow .i64 w a0 len0 cap0 z0) :
    Calls Try.prog 5 #[.slice a0 len0 cap0, .int .i64 u, .int .i64 v] w fun e w' => e = .returned (.bool true) ∧ Below w.heap.size w w' := by
  obtain ⟨z, hl, hz, hlc, hn⟩ := hasZ_of_row hrow
  obtain ⟨D, hD⟩ : ∃ D, D = w.heap.size := ⟨_, rfl⟩
  obtain ⟨W0, hW0⟩ : ∃ W0, W0 = w.alloc (.cells #[.int .i64 v] 3) := ⟨_, rfl⟩
  have b0 : Below D w W0 := by rw [hW0, hD]; exact one_alloc _ _
  have v0 : Bx W0 D (.int .i64 v) 3 := by rw [hW0, hD]; exact Bx.new w _ _
  have HZ : Hid (∀ W, Below D w W → HasZ W a0 z) := Lib.hid fun W hb => hz.keep (by rw [← hD]; exact hb)
  have HD := Lib.hid hD; have HW0 := Lib.hid hW0; have HB0 := Lib.hid b0; have HV0 := Lib.hid v0; have HL := Lib.hid hl; have HN := Lib.hid hn
  have hz0 : D + 1 ≤ W0.heap.size := v0.lt
  clear hrow hl hz hn hD hW0 b0 v0 hlc
  refine calls_marks Try.func5 rfl ?_
  simp only [Try.ntmps5, List.size_toArray, List.length_cons, List.length_nil, Nat.reduceAdd, Nat.reduceSub, Array.replicate_succ, Array.replicate_zero, List.push_toArray, List.append_toArray, List.nil_append, List.cons_append]
  rw [← HD.out]
  go_wp2_with fail
  rw [← HD.out, ← HW0.out]
  clear HW0
  refine (wakes_any W0).mono ?_
  rintro e w1 ⟨rfl, hb⟩
  have B1 := Lib.hid (HB0.out.trans (hb.mono (by omega))); have V1 := Lib.hid (HV0.out.keep hb)
  have hz1 : D + 1 ≤ w1.heap.size := V1.out.lt
  clear hb HB0 HV0 hz0 W0
  go_wp2_with fail
  refine (check_any a0 len0 cap0 z w1 (HZ.out _ B1.out) HL.out).mono ?_
  rintro e w2 ⟨rfl, hb⟩
  have B2 := Lib.hid (B1.out.trans (hb.mono (by omega))); have V2 := Lib.hid (V1.out.keep hb)
  have hz2 : D + 1 ≤ w2.heap.size := V2.out.lt
  clear hb B1 V1 hz1
  have HE : Hid ((checkS z).2 = 0 → 0 ≤ u → u < (len0 : Int) → foundB z u = true) := Lib.hid fun h1 h2 h3 => found_iff.2 ⟨h1, h2, by rw [HL.out]; exact h3⟩
  have HF : Hid ((checkS z).2 = 0 → 0 ≤ v → v < (len0 : Int) → foundB z v = true) := Lib.hid fun h1 h2 h3 => found_iff.2 ⟨h1, h2, by rw [HL.out]; exact h3⟩
  generalize (checkS z).1 = C1 at *
  generalize (checkS z).2 = E at *
  have vc := V2.out.cell
  by_cases h0 : E = 0
  rotate_left
  · have b0 : (E != 0) = true := by rw [bne_iff_ne]; exact h0
    clear h0
    go_wp2
    exact ret_tmp rfl rfl (marks_nil _) low_nil B2.out
  subst h0
  by_cases h1 : u < 0
  · go_wp2
    exact ret_tmp rfl rfl (marks_nil _) low_nil B2.out
  by_cases h2 : (len0 : Int) ≤ u
  · go_wp2
    exact ret_tmp rfl rfl (marks_nil _) low_nil B2.out
  by_cases h3 : v < 0
  · go_wp2
    exact ret_tmp rfl rfl (marks_nil _) low_nil B2.out
  by_cases h4 : (len0 : Int) ≤ v
  · go_wp2
    exact ret_tmp rfl rfl (marks_nil _) low_nil B2.out
  have hfu := HE.out rfl (by omega) (by omega)
  have hfv := HF.out rfl (by omega) (by omega)
  obtain ⟨m, rfl, hml, h16, _, hg⟩ := found_nat hfu
  obtain ⟨n, rfl, hnl, _, _, _⟩ := found_nat hfv
  have HU := Lib.hid (above_yes hfu); have HBU := Lib.hid (below_yes hfu); have HBV := Lib.hid (below_yes hfv); have HG := Lib.hid hg
  rw [HL.out] at hml hnl h16
  clear hfu hfv HE HF hg
  go_wp2_with fail
  obtain ⟨g, hgg⟩ : ∃ g, g = w2.heap.size := ⟨_, rfl⟩
  obtain ⟨W3, hW3⟩ : ∃ W3, W3 = w2.alloc (.cells #[.bool false] 4) := ⟨_, rfl⟩
  rw [← hgg, ← hW3]
  have b3 : Below w2.heap.size w2 W3 := by rw [hW3]; exact one_alloc _ _
  have X3 : Hid (Bx W3 g (.bool false) 4) := Lib.hid (by rw [hW3, hgg]; exact Bx.new w2 _ _)
  have B3 := Lib.hid (B2.out.trans (b3.mono (by omega))); have V3 := Lib.hid (V2.out.keep b3)
  have hDg : D < g := by omega
  have hz3 : g + 1 ≤ W3.heap.size := X3.out.lt
  clear b3 hW3 hgg B2 V2 hz2 vc
  refine (above_any a0 len0 cap0 z (m : Int) W3 (HZ.out _ B3.out) HL.out HN.out).mono ?_
  rintro e w4 ⟨o, rfl, hit, hxs, hb⟩
  rw [HU.out] at hxs
  have B4 := Lib.hid (B3.out.trans (hb.mono (by omega))); have V4 := Lib.hid (V3.out.keep hb); have X4 := Lib.hid (X3.out.keep hb)
  have IT4 := Lib.hid hit; have XS := Lib.hid hxs
  have hz4 : W3.heap.size ≤ w4.heap.size := hb.size
  clear hb hit hxs B3 V3 X3
  go_wp2_with fail
  refine wp_above W3.heap.size o rfl rfl (InBox w4 g 4 fun pre => .bool (decide ((n : Int) ∈ pre))) (fun _ _ _ => False) (InBox.stands (by omega)) (fun _ _ _ _ _ h _ _ => h) (fun pre A h => h.it IT4.out (by omega)) ⟨grown_refl _ _, ?_⟩ ?_ ?_ ?_
  · show Bx w4 g (.bool (decide ((n : Int) ∈ ([] : List Int)))) _
    rw [show decide ((n : Int) ∈ ([] : List Int)) = false by simp]
    exact X4.out
  · rintro l pre x W _ hpre Kr hKr
    gi_wp2
    rintro W' ⟨hi1, hi2⟩ hok hlt
    have v5 := (V4.out.gone hi1 (by simp; omega)).cell
    have HI2 := Lib.hid hi2; have HG2 := Lib.hid hi1
    have n1 := hi2.free
    have n0 := hi2.cell
    clear hi1 hi2 hok hpre
    by_cases hpm : (n : Int) ∈ pre
    · have HE : Hid (decide ((n : Int) ∈ pre ++ [x]) = true) := Lib.hid (decide_eq_true (List.mem_append_left _ hpm))
      simp only [decide_eq_true hpm] at n0
      clear hpm
      gi_wp2
      refine ⟨ends_box (by omega), trivial, grown_box HG2.out (set_grown _ _ _ _), ?_⟩
      show Bx _ g (.bool (decide ((n : Int) ∈ pre ++ [x]))) 4
      rw [HE.out]
      exact HI2.out.set _
    · have HE : Hid (decide ((n : Int) ∈ pre ++ [x]) = (x == (n : Int))) := Lib.hid (mem_snoc hpm)
      simp only [decide_eq_false hpm] at n0
      clear hpm
      gi_wp2
      refine ⟨ends_box (by omega), trivial, grown_box HG2.out (set_grown _ _ _ _), ?_⟩
      show Bx _ g (.bool (decide ((n : Int) ∈ pre ++ [x]))) 4
      rw [HE.out]
      exact HI2.out.set _
  rotate_left
  · rintro c pre W7 h _
    exact h.elim
  rintro W7 ⟨hi1, hi2⟩ hK
  rw [XS.out] at hi2
  have B7 := Lib.hid (grown_below B4.out (by omega) (by omega) hi1)
  have V7 := Lib.hid (V4.out.gone hi1 (by simp; omega)); have X7 : Hid (Bx W7 g (.bool (decide ((n : Int) ∈ pth z m))) 4) := Lib.hid hi2; have K7 := Lib.hid hK
  have hz7 : w4.heap.size ≤ W7.heap.size := hi1.size
  have HM := Lib.hid (marks_one hK); have HLO := Lib.hid (low_one (N := D) (D := w4.heap.size) (by omega))
  clear hi1 hi2 hK B4 V4 X4
  have vc := V7.out.cell
  go_wp2_with fail
  clear vc
  have hbel := below_any a0 len0 cap0 z (n : Int) W7 (HZ.out _ B7.out) HL.out
  unfold BelowIt at hbel
  rw [HBV.out, HL.out] at hbel
  refine hbel.mono ?_
  rintro e W8 ⟨u8, rfl, ho, hb⟩
  obtain ⟨a8, c8, rfl, hr8, _⟩ := ho.has
  have B8 := Lib.hid (B7.out.trans (hb.mono (by omega))); have V8 := Lib.hid (V7.out.keep hb); have X8 := Lib.hid (X7.out.keep hb); have R8 := Lib.hid hr8
  have M8 : Hid (Marks [{ target := .collected w4.heap.size, args := #[] }] W8) := Lib.hid (marks_one ((hb.block _ (Array.getElem?_eq_some_iff.1 K7.out).1).trans K7.out))
  have hz8 : W7.heap.size ≤ W8.heap.size := hb.size
  have hL16 := bel_len z n len0
  clear hb ho hr8 B7 V7 X7 K7 HM hbel
  have HBM : Hid (∀ W, Below D w W → Calls Try.prog 15 #[.slice a0 len0 cap0, .int .i64 (m : Int)] W (OwnIt (belN z m len0) W)) := Lib.hid fun W hb => by
    have := below_any a0 len0 cap0 z (m : Int) W (HZ.out _ hb) HL.out
    unfold BelowIt at this
    rw [HBU.out, HL.out] at this
    exact this
  have hM16 := bel_len z m len0
  have HAP : Hid (par z m = -1 → par z n = -1 → m ≠ n → ∀ x, x ∈ belN z n len0 → x ∉ belN z m len0) := Lib.hid fun e1 e2 e3 => by
    have := apart HG.out.dn e1 e2 e3
    rwa [HL.out] at this
  have HTW : Hid (decide ((n : Int) ∈ pth z m) = decide ((m : Int) ∈ belN z n len0)) := Lib.hid (by
    have := two_ways (v := n) (show m < z.length by rw [HL.out]; exact hml)
    rw [HL.out] at this
    exact decide_eq_decide.2 this)
  unfold OwnIt at HBM
  generalize belN z n len0 = L at *
  generalize belN z m len0 = M at *
  go_wp2_with fail
  go_loopg [11, 12, 60] L.length (fun m' dn sh i wr => ∃ (k : Nat) (d s : Bool), k + m' = L.length ∧ dn = .bool d ∧ sh = .bool s ∧ i = .int .i64 (k : Int) ∧ Hid (d = decide ((m : Int) ∈ L.take k)) ∧ Hid (s = true ↔ ∃ x, x ∈ L.take k ∧ x ∈ M) ∧ Hid (Below W8.heap.size W8 wr))
  case atStart => exact ⟨0, false, false, by omega, rfl, rfl, rfl, Lib.hid (by simp), Lib.hid (by simp), Lib.hid (Below.refl _ _)⟩
  case round =>
    obtain ⟨k, d, s, hk, rfl, rfl, rfl, HDn, HSh, HW⟩ := hrel
    have BW := Lib.hid (B8.out.trans (HW.out.mono (by omega)))
    by_cases hlt : k < L.length
    · obtain ⟨b8, off8, rfl, c0⟩ := (R8.out.keep HW.out).at hlt
      obtain ⟨d2, hd2⟩ : ∃ d2, d2 = decide ((m : Int) ∈ L.take (k + 1)) := ⟨_, rfl⟩
      have HD2 := Lib.hid hd2
      have hmk := mem_take (x := (m : Int)) hlt
      cases d with
      | true =>
          obtain rfl : d2 = true := by rw [hd2]; exact decide_eq_true (hmk.2 (.inl (of_decide_eq_true HDn.out.symm)))
          clear hd2 hmk
          go_wp2_with fail
          refine (HBM.out wr BW.out).mono ?_
          rintro e w9 ⟨u9, rfl, ho, hb⟩
          obtain ⟨a9, c9, rfl, hr9, _⟩ := ho.has
          have R9 := Lib.hid hr9; have HW9 := Lib.hid (below_next HW.out hb)
          clear ho hr9 hb
          go_wp2_with fail
          go_loopg [12, 74] M.length (fun m2 sh i2 wr2 => ∃ (j : Nat) (s2 : Bool), j + m2 = M.length ∧ sh = .bool s2 ∧ i2 = .int .i64 (j : Int) ∧ Hid (s2 = true ↔ s = true ∨ par L k ∈ M.take j) ∧ w9 = wr2)
          case atStart => exact ⟨0, s, by omega, rfl, rfl, Lib.hid (by simp), rfl⟩
          case round =>
            obtain ⟨j, s2, hj, rfl, rfl, HS2, rfl⟩ := hrel
            by_cases hlj : j < M.length
            · obtain ⟨b9, off9, rfl, c9'⟩ := R9.out.at hlj
              have hmt := mem_take (x := par L k) hlj
              cases s2 with
              | true =>
                have HS3 : Hid (s = true ∨ par L k ∈ M.take (j + 1)) := Lib.hid ((HS2.out.1 rfl).imp id fun h => hmt.2 (.inl h))
                generalize par L k = x at *
                generalize par M j = y at *
                clear hmt
                go_wp2
                go_roundg (M.length - (j + 1))
                case measure => omega
                case rel => exact ⟨j + 1, true, by omega, rfl, by go_num, Lib.hid ⟨fun _ => HS3.out, fun _ => rfl⟩, rfl⟩
              | false =>
                have HS3 : Hid ((par L k == par M j) = true ↔ s = true ∨ par L k ∈ M.take (j + 1)) := Lib.hid (by
                  rw [hmt, beq_iff_eq]
                  constructor
                  · intro h; exact .inr (.inr h.symm)
                  · rintro (h | h | h)
                    · exact absurd (HS2.out.2 (.inl h)) (by decide)
                    · exact absurd (HS2.out.2 (.inr h)) (by decide)
                    · exact h.symm)
                generalize par L k = x at *
                generalize par M j = y at *
                clear hmt
                go_wp2
                go_roundg (M.length - (j + 1))
                case measure => omega
                case rel => exact ⟨j + 1, _, by omega, rfl, by go_num, HS3, rfl⟩
            · have HS3 : Hid (s2 = true ↔ ∃ x, x ∈ L.take (k + 1) ∧ x ∈ M) := Lib.hid (by
                rw [HS2.out, List.take_of_length_le (by omega)]
                constructor
                · rintro (h | h)
                  · obtain ⟨x, h1, h2⟩ := HSh.out.1 h
                    exact ⟨x, (mem_take hlt).2 (.inl h1), h2⟩
                  · exact ⟨_, (mem_take hlt).2 (.inr rfl), h⟩
                · rintro ⟨x, h1, h2⟩
                  rcases (mem_take hlt).1 h1 with h3 | h3
                  · exact .inl (HSh.out.2 ⟨x, h3, h2⟩)
                  · exact .inr (by rw [h3]; exact h2))
              go_wp2
              go_roundg (L.length - (k + 1))
              case measure => omega
              case rel => exact ⟨k + 1, true, s2, by omega, rfl, rfl, by go_num, HD2, HS3, HW9⟩
      | false =>
          have hx : (par L k == (m : Int)) = d2 := by
            rw [hd2]
            have h1 : (m : Int) ∉ L.take k := of_decide_eq_false HDn.out.symm
            by_cases e : par L k = (m : Int)
            · rw [beq_iff_eq.2 e, decide_eq_true (hmk.2 (.inr e))]
            · rw [beq_eq_false_iff_ne.2 e, decide_eq_false fun h => (hmk.1 h).elim h1 e]
          clear hd2 hmk
          go_wp2_with fail
          refine (HBM.out wr BW.out).mono ?_
          rintro e w9 ⟨u9, rfl, ho, hb⟩
          obtain ⟨a9, c9, rfl, hr9, _⟩ := ho.has
          have R9 := Lib.hid hr9; have HW9 := Lib.hid (below_next HW.out hb)
          clear ho hr9 hb
          go_wp2_with fail
          go_loopg [12, 74] M.length (fun m2 sh i2 wr2 => ∃ (j : Nat) (s2 : Bool), j + m2 = M.length ∧ sh = .bool s2 ∧ i2 = .int .i64 (j : Int) ∧ Hid (s2 = true ↔ s = true ∨ par L k ∈ M.take j) ∧ w9 = wr2)
          case atStart => exact ⟨0, s, by omega, rfl, rfl, Lib.hid (by simp), rfl⟩
          case round =>
            obtain ⟨j, s2, hj, rfl, rfl, HS2, rfl⟩ := hrel
            by_cases hlj : j < M.length
            · obtain ⟨b9, off9, rfl, c9'⟩ := R9.out.at hlj
              have hmt := mem_take (x := par L k) hlj
              cases s2 with
              | true =>
                have HS3 : Hid (s = true ∨ par L k ∈ M.take (j + 1)) := Lib.hid ((HS2.out.1 rfl).imp id fun h => hmt.2 (.inl h))
                generalize par L k = x at *
                generalize par M j = y at *
                clear hmt
                go_wp2
                go_roundg (M.length - (j + 1))
                case measure => omega
                case rel => exact ⟨j + 1, true, by omega, rfl, by go_num, Lib.hid ⟨fun _ => HS3.out, fun _ => rfl⟩, rfl⟩
              | false =>
                have HS3 : Hid ((par L k == par M j) = true ↔ s = true ∨ par L k ∈ M.take (j + 1)) := Lib.hid (by
                  rw [hmt, beq_iff_eq]
                  constructor
                  · intro h; exact .inr (.inr h.symm)
                  · rintro (h | h | h)
                    · exact absurd (HS2.out.2 (.inl h)) (by decide)
                    · exact absurd (HS2.out.2 (.inr h)) (by decide)
                    · exact h.symm)
                generalize par L k = x at *
                generalize par M j = y at *
                clear hmt
                go_wp2
                go_roundg (M.length - (j + 1))
                case measure => omega
                case rel => exact ⟨j + 1, _, by omega, rfl, by go_num, HS3, rfl⟩
            · have HS3 : Hid (s2 = true ↔ ∃ x, x ∈ L.take (k + 1) ∧ x ∈ M) := Lib.hid (by
                rw [HS2.out, List.take_of_length_le (by omega)]
                constructor
                · rintro (h | h)
                  · obtain ⟨x, h1, h2⟩ := HSh.out.1 h
                    exact ⟨x, (mem_take hlt).2 (.inl h1), h2⟩
                  · exact ⟨_, (mem_take hlt).2 (.inr rfl), h⟩
                · rintro ⟨x, h1, h2⟩
                  rcases (mem_take hlt).1 h1 with h3 | h3
                  · exact .inl (HSh.out.2 ⟨x, h3, h2⟩)
                  · exact .inr (by rw [h3]; exact h2))
              go_wp2
              go_roundg (L.length - (k + 1))
              case measure => omega
              case rel => exact ⟨k + 1, d2, s2, by omega, rfl, rfl, by go_num, HD2, HS3, HW9⟩
    · have hkl : k = L.length := by omega
      have HUP : Hid (decide ((n : Int) ∈ pth z m) = d) := Lib.hid (by rw [HTW.out, HDn.out, hkl, List.take_length])
      have HSN : Hid (s = true → ∃ x, x ∈ L ∧ x ∈ M) := Lib.hid fun h => by
        have := HSh.out.1 h
        rwa [hkl, List.take_length] at this
      have XW : Hid (Bx wr g (.bool d) 4) := Lib.hid (by rw [← HUP.out]; exact X8.out.keep HW.out)
      have vc := (V8.out.keep HW.out).cell
      have uc := XW.out.cell
      obtain ⟨bz, oz, hz1, cm⟩ := (HZ.out _ BW.out).at (show m < z.length by rw [HL.out]; exact hml)
      obtain ⟨bz2, oz2, hz2, cn⟩ := (HZ.out _ BW.out).at (show n < z.length by rw [HL.out]; exact hnl)
      rw [hz1] at hz2
      obtain ⟨rfl, rfl⟩ : bz = bz2 ∧ oz = oz2 := by injection hz2 with e; injection e with e1 e2; exact ⟨e1, e2⟩
      subst hz1
      have e0 : (d != d) = false := bne_self_eq_false _
      have MW := marks_keepT M8.out HW.out
      have HMW := Lib.hid MW
      have HPM := Lib.hid (rfl : par z m = par z m)
      have hap := HAP.out
      clear hkl HUP hz2 MW HTW HDn HSh
      by_cases p1 : par z m = -1
      · rw [p1] at cm
        by_cases p2 : par z n = -1
        · rw [p2] at cn
          by_cases p3 : m = n
          · subst p3
            clear p1 p2 hap
            go_wp2
            exact ret_tmp rfl rfl HMW.out HLO.out BW.out
          · have hs : s = false := by
              cases s
              · rfl
              · obtain ⟨x, h1, h2⟩ := HSN.out rfl
                exact absurd h2 (hap p1 p2 p3 x h1)
            subst hs
            have p4 : ¬ ((m : Int) = (n : Int)) := by omega
            have p5 : ((m : Int) == (n : Int)) = false := beq_eq_false_iff_ne.2 p4
            clear p1 p2 hap p4
            go_wp2
            exact ret_tmp rfl rfl HMW.out HLO.out BW.out
        · have q2 : (par z n != -1) = true := by rw [bne_iff_ne]; exact p2
          generalize par z n = y at *
          clear p1 p2 hap
          go_wp2
          exact ret_tmp rfl rfl HMW.out HLO.out BW.out
      · have q1 : (par z m != -1) = true := by rw [bne_iff_ne]; exact p1
        generalize par z m = y at *
        clear p1 hap
        go_wp2
        exact ret_tmp rfl rfl HMW.out HLO.out BW.out
end Go.Proofs.Ytnhaoalndlgakaa.Tr

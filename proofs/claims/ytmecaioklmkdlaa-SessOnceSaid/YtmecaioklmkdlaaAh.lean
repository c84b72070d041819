/-
  Layer 8: the program's deliver, resent.
-/
import Derived.Test.YtmecaioklmkdlaaAg
import Derived.Deep.DeepMust
namespace Go.Proofs.Ytmecaioklmkdlaa.Ss
open Go.RowKit
set_option linter.unusedVariables false
set_option linter.unusedSimpArgs false

set_option maxRecDepth 100000 in
set_option maxHeartbeats 2000000 in
theorem deliver_any (a : Option Addr) (len cap : Nat) (t k : Int) (m : ByteArray) (w : World) (h0 : 0 ≤ t) (h1 : t < 1099511627776) :
    Calls Try.prog 28 #[.agg #[.slice a len cap, .int .i64 t, .int .i64 k], .string m] w fun e w' => e = .returned (.tuple #[.agg #[.slice a len cap, .int .i64 (t + 1), .int .i64 k], .string m, .slice none 0 0, .int .i64 0]) ∧ Below w.heap.size w w' := by
  obtain ⟨N, hN⟩ : ∃ N, N = w.heap.size := ⟨_, rfl⟩
  obtain ⟨x0, y0, b0⟩ := two_new w #[.slice a len cap, .int .i64 t, .int .i64 k] #[.slice none 0 0, .int .i64 0, .int .i64 0] 24 24
  obtain ⟨w0, hw0⟩ : ∃ w0, w0 = (w.alloc (.cells #[.slice a len cap, .int .i64 t, .int .i64 k] 24)).alloc (.cells #[.slice none 0 0, .int .i64 0, .int .i64 0] 24) := ⟨_, rfl⟩
  rw [← hw0] at x0 y0 b0
  rw [← hN] at x0 y0 b0
  have hq : (t == 1099511627776) = false := by rw [beq_eq_false_iff_ne]; omega
  have hi : IntKind.i64.wrap (t + 1) = t + 1 := IntWalk.i64_in _ (by omega)
  have HN := Lib.hid hN; have HW0 := Lib.hid hw0; have B0 := Lib.hid b0; have HX := Lib.hid x0; have HY := Lib.hid y0
  clear hN hw0 b0 x0 y0
  go_enter Try.func28, Try.ntmps28
  go_wp2
  have hN := HN.out
  subst hN
  refine bodyPost_ret (v := .tuple #[.agg #[.slice a len cap, .int .i64 (t + 1), .int .i64 k], .string m, .slice none 0 0, .int .i64 0]) (by simp [results, Try.results28, go_sem]) rfl ⟨rfl, ?_⟩
  exact ((Below.refl _ _).alloc (Nat.le_refl _) _).alloc (by simp) _
def ResIt (S : List ByteArray) (t : Int) (j : Nat) (w : World) (e : Ending) (w' : World) : Prop := ∃ v, e = .returned v ∧ OwnX w' w.heap.size v (resent S t j) ∧ Below w.heap.size w w'
set_option maxRecDepth 100000 in
set_option maxHeartbeats 2000000 in
theorem resent_any (a : Option Addr) (len cap j : Nat) (s : Sd) (w : World) (hS : HasS w a s.S) (hl : s.S.length = len) (hb : len ≤ 256) (hj : j ≤ 1099511627776) :
    Calls Try.prog 27 #[.agg #[.slice a len cap, .int .i64 s.t, .int .i64 s.k], .int .i64 ((j : Int) + 1)] w (ResIt s.S s.t j w) := by
  obtain ⟨S, t, k⟩ := s
  simp only at hS hl ⊢
  have hmsg := fun p w h hp => message_any a len cap p ⟨S, t, k⟩ w h hl hp
  simp only at hmsg
  have hat := fun q h => resL_snoc (S.drop j) t j q (by rw [List.length_drop]; exact h)
  have hln := fun q => resL_len (S.drop j) t j q
  rw [List.length_drop, hl] at hln
  rw [hl] at hat
  unfold ResIt resent
  have HMSG := Lib.hid hmsg; have HAT := Lib.hid hat; have HLN := Lib.hid hln
  clear hmsg hat hln
  obtain ⟨N, hN⟩ : ∃ N, N = w.heap.size := ⟨_, rfl⟩
  have x0 := Blk.new w #[.slice a len cap, .int .i64 t, .int .i64 k] 24
  have b0 : Below w.heap.size w (w.alloc (.cells #[.slice a len cap, .int .i64 t, .int .i64 k] 24)) := (Below.refl _ _).alloc (Nat.le_refl _) _
  obtain ⟨w0, hw0⟩ : ∃ w0, w0 = w.alloc (.cells #[.slice a len cap, .int .i64 t, .int .i64 k] 24) := ⟨_, rfl⟩
  rw [← hw0] at x0 b0
  rw [← hN] at x0 b0
  have HS := Lib.hid hS; have HN := Lib.hid hN; have HW0 := Lib.hid hw0; have B0 := Lib.hid b0; have HX := Lib.hid x0; have HL := Lib.hid hl
  have hz0 : N + 1 ≤ w0.heap.size := x0.lt
  clear hN hw0 b0 x0 hS hl
  obtain ⟨M, hM⟩ : ∃ M, M = min (len - j) 64 := ⟨_, rfl⟩
  have HM := Lib.hid hM; clear hM
  go_enter Try.func27, Try.ntmps27
  go_wp2
  rw [← HN.out, ← HW0.out]
  clear HW0
  go_loopg [5, 6] M (fun m v i wr => ∃ q p : Nat, q + m = M ∧ Hid (p = j + q) ∧ i = .int .i64 ((p : Int) + 1) ∧ Hid (OwnX wr (N + 1) v (resL (S.drop j) t j q)) ∧ Hid (Below N w wr) ∧ Hid (Blk wr N #[.slice a len cap, .int .i64 t, .int .i64 k] 24))
  case atStart => exact ⟨0, j, by omega, Lib.hid rfl, rfl, Lib.hid (by rw [resL_zero]; exact ownX_nil _ _), B0, HX⟩
  case round =>
    obtain ⟨q, p, hqm, HP, rfl, HO, HB, HXR⟩ := hrel
    obtain ⟨c0, c1, c2⟩ := agg_cells HXR.out
    have hz := HXR.out.lt
    by_cases hlt : q < M
    · have hm := HM.out
      have hp := HP.out
      have hqb : q < 64 := by omega
      have hpb : p < len := by omega
      obtain ⟨av, cv, rfl, -⟩ := HO.out.has
      have hlen : (resL (S.drop j) t j q).length = q := by rw [HLN.out]; omega
      rw [hlen]
      have HLEN := Lib.hid hlen
      have d1 : decide ((p : Int) + 1 ≤ (len : Int)) = true := by rw [decide_eq_true_eq]; omega
      have d2 : decide ((q : Int) < 64) = true := by rw [decide_eq_true_eq]; omega
      have i1 : (p : Int) + 1 ≤ (len : Int) := by omega
      have d3 : decide (p < len) = true := by rw [decide_eq_true_eq]; exact hpb
      have i2 : IntKind.i64.wrap ((p : Int) + 1 + 1) = (p : Int) + 1 + 1 := IntWalk.i64_in _ (by omega)
      rw [HLEN.out] at HO
      have hnx : S.getD p em = (S.drop j).getD q em := by rw [getD_drop, hp]
      have hmc := fun w h => HMSG.out p w h hpb
      have hsn0 := HAT.out q (by omega)
      rw [← hnx] at hsn0
      obtain ⟨m0, hm0⟩ : ∃ m0, m0 = S.getD p em := ⟨_, rfl⟩
      rw [← hm0] at hmc hsn0
      rw [show (j : Int) + (q : Int) = (p : Int) by omega] at hsn0
      have HMC := Lib.hid hmc; have HSN := Lib.hid hsn0
      have HSB : Hid (HasS wr a S) := Lib.hid (HS.out.keep (by rw [← HN.out]; exact HB.out))
      clear hm hp hlen hnx hmc hsn0 hm0
      go_wp2_with (first
        | (go_at_call 24; (with_reducible refine (HMC.out wr HSB.out).mono ?_); rintro e w1 ⟨rfl, hb1⟩; have HB1 := Lib.hid hb1; have hz1 := hb1.size; clear hb1)
        | (at_builtin; go_must (refine wp_apX rfl (.tmp 20) (.tmp 24) rfl (N + 1) _ _ rfl (OwnX.keep HO.out (HB1.out.alloc HB1.out.size _)) _ _ _ [⟨1, (p : Int) + 1, t, m0⟩] rfl (lit_oneX w1 ⟨1, (p : Int) + 1, t, m0⟩ _ _ rfl) rfl (fun h => by cases h) (by rw [HLEN.out]; omega) (by rw [World.size_alloc]; omega) ?_; intro v2 w2 ho2 hg2 hnb2; have HO2 := Lib.hid ho2; have HG2 := Lib.hid hg2; clear ho2 hg2 hnb2)))
      have hal := HB1.out.alloc HB1.out.size (.cells #[.int .i64 1, .int .i64 ((p : Int) + 1), .int .i64 t, .string m0] 27)
      have ho := HO.out.lt
      have hbn := ((HB.out.trans (hal.mono (by omega))).grown HG2.out (by rw [World.size_alloc]; omega) (fun r hr => by have := (ho r hr).1; omega))
      have hxn := (HXR.out.keep hal).gone HG2.out (fun e => by have := (ho N e).1; omega)
      have hon := HO2.out
      rw [← HSN.out] at hon
      have HBN := Lib.hid hbn; have HXN := Lib.hid hxn; have HON := Lib.hid hon
      clear hal ho hbn hxn hon
      go_roundg (M - (q + 1))
      case measure => omega
      case rel => exact ⟨q + 1, p + 1, by omega, Lib.hid (by have := HP.out; omega), by go_num, HON, HBN, HXN⟩
    · have hm := HM.out
      have hp := HP.out
      have hfin : resL (S.drop j) t j q = resL (S.drop j) t j 64 := by
        refine List.ext_getElem? fun i => ?_
        have hL := HL.out
        by_cases hi : i < min (len - j) q
        · rw [resL_at _ _ _ _ _ (by rw [List.length_drop, hL]; exact hi), resL_at _ _ _ _ _ (by rw [List.length_drop, hL]; omega)]
        · rw [List.getElem?_eq_none (by rw [HLN.out]; omega), List.getElem?_eq_none (by rw [HLN.out]; omega)]
      have HF := Lib.hid hfin
      obtain ⟨av, cv, rfl, -⟩ := HO.out.has
      have hlen : (resL (S.drop j) t j q).length = q := by rw [HLN.out]; omega
      rw [hlen]
      rw [hlen] at HO
      by_cases hpl : p < len
      · obtain rfl : q = 64 := by omega
        have d1 : decide ((p : Int) + 1 ≤ (len : Int)) = true := by rw [decide_eq_true_eq]; omega
        have i1 : (p : Int) + 1 ≤ (len : Int) := by omega
        clear hm hp hlen hfin
        go_wp2
        go_ret
        have hN := HN.out; subst hN
        exact ⟨_, rfl, HO.out.low (by omega), HB.out⟩
      · have d1 : decide ((p : Int) + 1 ≤ (len : Int)) = false := by rw [decide_eq_false_iff_not]; omega
        have i1 : ¬ (p : Int) + 1 ≤ (len : Int) := by omega
        clear hm hp hlen hfin
        go_wp2
        go_ret
        have hN := HN.out; subst hN
        exact ⟨_, rfl, by rw [← HF.out]; exact HO.out.low (by omega), HB.out⟩
end Go.Proofs.Ytmecaioklmkdlaa.Ss

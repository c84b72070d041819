/-
  Layer 8: once, in order: the law's walk.
-/
import Derived.Test.YtmecaioklmkdlaaAv
import Derived.Test.YtmecaioklmkdlaaAw
import Derived.Test.YtmecaioklmkdlaaAr
import Derived.Test.YtmecaioklmkdlaaBd
import Derived.Deep.DeepMust
import Derived.Deep.RegionLaw
import Derived.Laws.Bits128
namespace Go.Proofs.Ytmecaioklmkdlaa.Ss
open Go.RowKit
set_option linter.unusedVariables false
set_option linter.unusedSimpArgs false

theorem i64_and1 (n : Int) : bits .and .i64 n 1 = n % 2 := by
  have h1 : (BitVec.ofInt 64 1).toNat = 2 ^ 1 - 1 := by decide
  have key : (BitVec.ofInt 64 n &&& BitVec.ofInt 64 1).toNat = (n % ((2 ^ 64 : Nat) : Int)).toNat % 2 ^ 1 := by
    rw [BitVec.toNat_and, BitVec.toNat_ofInt, h1, Nat.and_two_pow_sub_one_eq_mod]
  show IntKind.i64.wrap ((BitVec.ofInt 64 n &&& BitVec.ofInt 64 1).toNat : Nat) = n % 2
  rw [key, IntKind.wrap_i64]
  omega
theorem me_of (n : Int) : ∃ m : Nat, m < 2 ∧ bits .and .i64 n 1 = (m : Int) := ⟨(n % 2).toNat, by omega, by rw [i64_and1]; omega⟩
theorem mem_start (w1 : World) (N : Nat) (hN : N ≤ w1.heap.size) : Mem (((w1.alloc (.cells #[.slice none 0 0, .int .i64 0, .int .i64 0, .slice none 0 0, .int .i64 0, .int .i64 0] 45)).alloc (.cells #[.slice none 0 0, .slice none 0 0] 46)).alloc (.cells #[.slice none 0 0, .slice none 0 0] 47))
    N w1.heap.size (w1.heap.size + 1) (w1.heap.size + 1 + 1) (fun _ => .slice none 0 0) line0 := by
  obtain ⟨h1, h2, h3, _⟩ := three_new w1 #[.slice none 0 0, .int .i64 0, .int .i64 0, .slice none 0 0, .int .i64 0, .int .i64 0] #[.slice none 0 0, .slice none 0 0] #[.slice none 0 0, .slice none 0 0] 45 46 47
  exact ⟨h1, h2, h3, fun _ _ => ownS_nil _ _, fun _ _ => ownX_nil _ _, fun _ _ => ownS_nil _ _, (fun i j _ _ _ k hk => by cases hk), (fun i _ k hk => by cases hk), by omega, by omega⟩
set_option maxRecDepth 100000 in
set_option maxHeartbeats 8000000 in
theorem once_walk (a : Option Addr) (len cap : Nat) (M : List Mv) (w : World) (hin : HasM w a M ∧ M.length = len) :
    Calls Try.prog 6 #[.slice a len cap] w fun e w' => e = .returned (.bool true) ∧ Below w.heap.size w w' := by
  obtain ⟨hM, hl⟩ := hin
  have HM := Lib.hid hM; have HL := Lib.hid hl
  have hlb : len ≤ 9223372036854775807 := by rw [← hl]; exact hM.1
  clear hM hl
  obtain ⟨N, hN⟩ : ∃ N, N = w.heap.size := ⟨_, rfl⟩
  have HN := Lib.hid hN
  clear hN
  go_enter Try.func6, Try.ntmps6
  go_wp2_with fail
  refine (wakes_any _).mono ?_
  rintro e w1 ⟨rfl, hb1⟩
  have HB1 := Lib.hid hb1
  have hz1 : N ≤ w1.heap.size := by have := hb1.size; rw [HN.out]; exact this
  clear hb1
  by_cases h256 : 256 < len
  · have t1 : decide ((256 : Int) < (len : Int)) = true := by rw [decide_eq_true_eq]; omega
    have t2 : decide (256 < len) = true := decide_eq_true h256
    go_wp2_with fail
    go_ret
    exact ⟨rfl, HB1.out⟩
  have t1 : decide ((256 : Int) < (len : Int)) = false := by rw [decide_eq_false_iff_not]; omega
  have t2 : decide (256 < len) = false := by rw [decide_eq_false_iff_not]; omega
  go_wp2_with fail
  clear t1 t2
  have hm0 := mem_start w1 N hz1
  have hb0 : Below N w (((w1.alloc (.cells #[.slice none 0 0, .int .i64 0, .int .i64 0, .slice none 0 0, .int .i64 0, .int .i64 0] 45)).alloc (.cells #[.slice none 0 0, .slice none 0 0] 46)).alloc (.cells #[.slice none 0 0, .slice none 0 0] 47)) := by
    have := HB1.out
    rw [← HN.out] at this
    exact this.trans ((three_new w1 _ _ _ _ _ _).2.2.2.mono hz1)
  obtain ⟨g3, hg3⟩ : ∃ g, g = w1.heap.size := ⟨_, rfl⟩
  rw [← hg3] at hm0 ⊢
  obtain ⟨g4, hg4⟩ : ∃ g, g = g3 + 1 := ⟨_, rfl⟩
  rw [← hg4] at hm0 ⊢
  obtain ⟨g5, hg5⟩ : ∃ g, g = g4 + 1 := ⟨_, rfl⟩
  rw [← hg5] at hm0 ⊢
  have HM0 := Lib.hid hm0; have HB0 := Lib.hid hb0
  clear hm0 hb0 hg3 hg4 hg5
  go_loopg [32] len (fun m i wr => ∃ (p : Nat) (v : Nat → Value) (L : Line), p + m = len ∧ i = .int .i64 (p : Int) ∧ Hid (Mem wr N g3 g4 g5 v L) ∧ Hid (Inv L p) ∧ Hid (Below N w wr))
  case atStart => exact ⟨0, _, _, by omega, rfl, HM0, Lib.hid inv_start, HB0⟩
  case round =>
    obtain ⟨p, v, L, hp, rfl, HR, HI, HB⟩ := hrel
    clear HM0 HB0
    by_cases hlt : p < len
    · obtain ⟨bb, off, rfl, c0, c1, c2⟩ := (HM.out.keep (by rw [← HN.out]; exact HB.out)).at (show p < M.length by rw [HL.out]; exact hlt)
      generalize M.getD p mv0 = mv at *
      obtain ⟨kd, who, ix⟩ := mv
      simp only at c0 c1 c2
      obtain ⟨me, hme, hmb⟩ := me_of who
      obtain ⟨it, hit⟩ : ∃ it, 1 - me = it := ⟨_, rfl⟩
      have hitb : it < 2 := by omega
      have hmi : IntKind.i64.wrap (1 - (me : Int)) = (it : Int) := (IntWalk.i64_in _ (by omega)).trans (by omega)
      have HIT := Lib.hid hit
      clear hit
      have i0 : (p : Int) < (len : Int) := by omega
      have i1 : (0 : Int) ≤ (p : Int) := by omega
      obtain ⟨x7, b7⟩ := box_new wr #[.int .i64 kd, .int .i64 who, .int .i64 ix] 49
      obtain ⟨w2, hw2⟩ : ∃ w2, w2 = wr.alloc (.cells #[.int .i64 kd, .int .i64 who, .int .i64 ix] 49) := ⟨_, rfl⟩
      rw [← hw2] at x7 b7
      have hzr : N ≤ wr.heap.size := by have := HR.out.size; have := HR.out.le; omega
      have H7 := Lib.hid x7; have HR2 := Lib.hid (HR.out.keep b7); have HB2 := Lib.hid (HB.out.trans (b7.mono hzr))
      obtain ⟨g7, hg7⟩ : ∃ g, g = wr.heap.size := ⟨_, rfl⟩
      rw [← hg7] at H7
      have NG7 : Hid (g4 ≠ g7) := Lib.hid (by have := HR.out.size; omega)
      have HG7 := Lib.hid hg7; have HW2 := Lib.hid hw2
      clear x7 b7 hw2 hg7 HR HB
      go_upto_block 2 with (fail)
      rw [← HG7.out, ← HW2.out]
      clear HG7 HW2 c0 c1 c2
      go_cut [43] (fun s wc => ∃ (v' : Nat → Value) (L' : Line), Hid (Mem wc N g3 g4 g5 v' L') ∧ Hid (Inv L' (p + 1)) ∧ Hid (Below N w wc))
      case first =>
        -- KINDS
        have j0 : (0 : Int) ≤ (me : Int) := by omega
        have j1 : (me : Int) < 2 := by omega
        have j2 : (0 : Int) ≤ (it : Int) := by omega
        have j3 : (it : Int) < 2 := by omega
        have hgd := (HI.out me hme).1.good
        obtain ⟨aM, cM, hvM, hSM, hnM, -⟩ := (HR2.out.oe me hme).has
        obtain ⟨d0, d1, d2⟩ := HR2.out.c3 hme
        rw [hvM] at d0
        obtain ⟨LM, hLM⟩ : ∃ n, (L.e me).S.length = n := ⟨_, rfl⟩
        rw [hLM] at d0 hvM
        have HGD := Lib.hid hgd; have HLM := Lib.hid hLM; have HVM := Lib.hid hvM; have HSM := Lib.hid hSM; have HNM := Lib.hid hnM
        clear hgd hLM hvM hSM hnM
        by_cases k0 : kd = 0
        · subst k0
          as_aux_lemma =>
            obtain ⟨x50, hx50⟩ : ∃ x : Nat, IntKind.i64.wrap (97 + (me : Int)) = (x : Int) := ⟨97 + me, (IntWalk.i64_in _ (by omega)).trans (by omega)⟩
            obtain ⟨b0, hb0⟩ : ∃ x : Nat, IntKind.u8.wrap (x50 : Int) = (x : Int) := u8_nat _
            obtain ⟨b1, hb1'⟩ : ∃ x : Nat, IntKind.u8.wrap (LM : Int) = (x : Int) := u8_nat _
            have hsd := fun w h => send_any aM LM cM (L.e me) (strOfNums [(b0 : Int), (b1 : Int)]) w h HLM.out HNM.out
            have hres := send_two HGD.out (strOfNums [(b0 : Int), (b1 : Int)]) (msg2 _ _)
            have hinv := fun h1 h2 => inv_send HI.out hme (b := strOfNums [(b0 : Int), (b1 : Int)]) h1 h2
            obtain ⟨tx, htx⟩ : ∃ tx, strOfNums [(b0 : Int), (b1 : Int)] = tx := ⟨_, rfl⟩
            rw [htx] at hres hinv
            simp only [htx] at hsd
            have HTX := Lib.hid htx
            clear htx
            generalize sendS (L.e me) tx = R1 at *
            obtain ⟨⟨S1, t1, k1⟩, ⟨f1, f2, f3, f4⟩, E1⟩ := R1
            unfold SendIt at hsd
            simp only at hsd hres
            obtain ⟨tM, htM⟩ : ∃ x, (L.e me).t = x := ⟨_, rfl⟩
            obtain ⟨kM, hkM⟩ : ∃ x, (L.e me).k = x := ⟨_, rfl⟩
            obtain ⟨L1, hL1⟩ : ∃ n, S1.length = n := ⟨_, rfl⟩
            rw [htM] at d1 hsd
            rw [hkM] at d2 hsd
            have HTM := Lib.hid htM; have HKM := Lib.hid hkM; have HL1 := Lib.hid hL1; have HRES := Lib.hid hres; have HINV := Lib.hid hinv
            have HSD : Hid (∀ wx, Below w2.heap.size w2 wx → Calls Try.prog 10 #[.agg #[.slice aM LM cM, .int .i64 tM, .int .i64 kM], .string tx] wx fun e w' => ∃ v, e = .returned (.tuple #[.agg #[v, .int .i64 t1, .int .i64 k1], .agg #[.int .i64 f1, .int .i64 f2, .int .i64 f3, .string f4], .int .i64 E1]) ∧ OwnS w' wx.heap.size v S1 ∧ Below wx.heap.size wx w') := Lib.hid fun wx hb => hsd wx (HSM.out.keep hb)
            clear htM hkM hL1 hres hinv hsd
            have KS : Hid (∀ wx, Below w2.heap.size w2 wx → wx.cell? ⟨g3, me * 3, none⟩ = some (.slice aM LM cM) ∧ wx.cell? ⟨g3, me * 3 + 1, none⟩ = some (.int .i64 tM) ∧ wx.cell? ⟨g3, me * 3 + 2, none⟩ = some (.int .i64 kM)) := Lib.hid fun wx hb => by
              have := (HR2.out.keep hb).c3 hme
              rw [HVM.out, HTM.out, HKM.out] at this
              exact this
            go_upto_region 15 with (fail)
            go_cut [10, 11, 12] from 45 to 63 (fun s10 s11 s12 wc => ∃ g10 g11 a1 cap1, s10 = .pointer (some ⟨g10, 0, none⟩) ∧ s11 = .pointer (some ⟨g11, 0, none⟩) ∧ s12 = .int .i64 E1 ∧ Hid (Blk wc g10 #[.slice a1 L1 cap1, .int .i64 t1, .int .i64 k1] 24) ∧ Hid (Blk wc g11 #[.int .i64 f1, .int .i64 f2, .int .i64 f3, .string f4] 27) ∧ Hid (OwnS wc w2.heap.size (.slice a1 L1 cap1) S1) ∧ Hid (Below w2.heap.size w2 wc) ∧ w2.heap.size ≤ g10 ∧ w2.heap.size ≤ g11 ∧ g10 ≠ g11 ∧ (∀ r, (Value.slice a1 L1 cap1).ownBlock = some r → r ≠ g10) ∧ (∀ r, (Value.slice a1 L1 cap1).ownBlock = some r → r ≠ g11))
            case first =>
              as_aux_lemma =>
                have hb_0 : Below w2.heap.size w2 w2.drew := below_drew w2
                refine wp_region_noPanic ?_
                refine wp_region_held_drew (S := fun wx => wx.cell? ⟨g3, me * 3, none⟩ = some (.slice aM LM cM) ∧ wx.cell? ⟨g3, me * 3 + 1, none⟩ = some (.int .i64 tM) ∧ wx.cell? ⟨g3, me * 3 + 2, none⟩ = some (.int .i64 kM)) (by kernel_rfl) (KS.out _ hb_0) (fun hHeld => ?_)
                generalize w2.drew = wq0 at hb_0 hHeld ⊢
                refine takeL (i := 0) (v := .int .i64 (me : Int)) rfl (Or.inl ⟨by rfl, ?_⟩) hHeld ?_
                · intro w hSw; (try dsimp only at hSw); go_simp
                (try simp only [Act.put, List.setIfInBounds_toArray, List.set_cons_zero, List.set_cons_succ])
                refine takeL (i := 1) (v := .pointer (some ⟨g3, me * 3, none⟩)) rfl (Or.inl ⟨by rfl, ?_⟩) hHeld ?_
                · intro w hSw; (try dsimp only at hSw); go_simp
                (try simp only [Act.put, List.setIfInBounds_toArray, List.set_cons_zero, List.set_cons_succ])
                refine takeL (i := 2) (v := .agg #[.slice aM LM cM, .int .i64 tM, .int .i64 kM]) rfl (Or.inl ⟨by rfl, ?_⟩) hHeld ?_
                · intro w hSw; (try dsimp only at hSw); go_simp
                (try simp only [Act.put, List.setIfInBounds_toArray, List.set_cons_zero, List.set_cons_succ])
                refine takeL (i := 3) (v := .int .i64 (me : Int)) rfl (Or.inl ⟨by rfl, ?_⟩) hHeld ?_
                · intro w hSw; (try dsimp only at hSw); go_simp
                (try simp only [Act.put, List.setIfInBounds_toArray, List.set_cons_zero, List.set_cons_succ])
                refine takeL (i := 4) (v := .int .i64 (x50 : Int)) rfl (Or.inl ⟨by rfl, ?_⟩) hHeld ?_
                · intro w hSw; (try dsimp only at hSw); go_simp
                (try simp only [Act.put, List.setIfInBounds_toArray, List.set_cons_zero, List.set_cons_succ])
                refine takeL (i := 5) (v := .int .u8 (b0 : Int)) rfl (Or.inl ⟨by rfl, ?_⟩) hHeld ?_
                · intro w hSw; (try dsimp only at hSw); go_simp
                (try simp only [Act.put, List.setIfInBounds_toArray, List.set_cons_zero, List.set_cons_succ])
                refine takeL (i := 6) (v := .int .i64 (me : Int)) rfl (Or.inl ⟨by rfl, ?_⟩) hHeld ?_
                · intro w hSw; (try dsimp only at hSw); go_simp
                (try simp only [Act.put, List.setIfInBounds_toArray, List.set_cons_zero, List.set_cons_succ])
                refine takeL (i := 7) (v := .pointer (some ⟨g3, me * 3, none⟩)) rfl (Or.inl ⟨by rfl, ?_⟩) hHeld ?_
                · intro w hSw; (try dsimp only at hSw); go_simp
                (try simp only [Act.put, List.setIfInBounds_toArray, List.set_cons_zero, List.set_cons_succ])
                refine takeL (i := 8) (v := .pointer (some ⟨g3, me * 3, none⟩)) rfl (Or.inl ⟨by rfl, ?_⟩) hHeld ?_
                · intro w hSw; (try dsimp only at hSw); go_simp
                (try simp only [Act.put, List.setIfInBounds_toArray, List.set_cons_zero, List.set_cons_succ])
                refine takeL (i := 9) (v := .slice aM LM cM) rfl (Or.inl ⟨by rfl, ?_⟩) hHeld ?_
                · intro w hSw; (try dsimp only at hSw); go_simp
                (try simp only [Act.put, List.setIfInBounds_toArray, List.set_cons_zero, List.set_cons_succ])
                refine takeL (i := 10) (v := .int .i64 (LM : Int)) rfl (Or.inl ⟨by rfl, ?_⟩) hHeld ?_
                · intro w hSw; (try dsimp only at hSw); go_simp
                (try simp only [Act.put, List.setIfInBounds_toArray, List.set_cons_zero, List.set_cons_succ])
                refine takeL (i := 11) (v := .int .u8 (b1 : Int)) rfl (Or.inl ⟨by rfl, ?_⟩) hHeld ?_
                · intro w hSw; (try dsimp only at hSw); go_simp
                (try simp only [Act.put, List.setIfInBounds_toArray, List.set_cons_zero, List.set_cons_succ])
                refine wpAnyH_ready (rs := [12, 19, 20]) (by kernel_rfl) (by simp) ?_
                refine consL rfl (fun K hK => ?_) ?_
                ·
                 go_simp
                 obtain ⟨xp_1, hc⟩ := box_new wq0 #[.int .u8 (b0 : Int), .int .u8 (b1 : Int)] 5
                 obtain ⟨gb, hg⟩ : ∃ g, g = wq0.heap.size := ⟨_, rfl⟩
                 obtain ⟨wq1, hw⟩ : ∃ w', w' = wq0.alloc (.cells #[.int .u8 (b0 : Int), .int .u8 (b1 : Int)] 5) := ⟨_, rfl⟩
                 rw [← hw] at xp_1 hc ⊢
                 have hb_1 := hb_0.trans (hc.mono hb_0.size)
                 rw [← hg] at xp_1 ⊢
                 clear hw hg hc
                 refine hK.out _ _ (KS.out _ hb_1) (fun hHeld => ?_)
                 clear hK K
                 (try simp only [Act.put, List.setIfInBounds_toArray, List.set_cons_zero, List.set_cons_succ])
                 refine wpAnyH_ready (rs := [13, 19, 20]) (by kernel_rfl) (by simp) ?_
                 refine consL rfl (fun K hK => ?_) ?_
                 ·
                  have kc := conv2 xp_1
                  rw [HTX.out] at kc
                  go_simp
                  clear kc
                  refine hK.out _ _ (KS.out _ hb_1) (fun hHeld => ?_)
                  clear hK K xp_1
                  (try simp only [Act.put, List.setIfInBounds_toArray, List.set_cons_zero, List.set_cons_succ])
                  refine wpAnyH_ready (rs := [14, 19, 20]) (by kernel_rfl) (by simp) ?_
                  refine consL rfl (fun K hK => ?_) ?_
                  ·
                   go_simp
                   go_at_call 10
                   refine (HSD.out wq1 hb_1).mono ?_
                   rintro e wq2 ⟨v1, rfl, o_2, hc⟩
                   obtain ⟨a1, cap1, rfl, -⟩ := o_2.has
                   rw [HL1.out] at o_2 ⊢
                   have hb_2 := hb_1.trans (hc.mono hb_1.size)
                   replace o_2 := o_2.low hb_1.size
                   clear hc
                   refine hK.out _ _ (KS.out _ hb_2) (fun hHeld => ?_)
                   clear hK K
                   (try simp only [Act.put, List.setIfInBounds_toArray, List.set_cons_zero, List.set_cons_succ])
                   refine takeL (i := 15) (v := .tuple #[.agg #[.slice a1 L1 cap1, .int .i64 t1, .int .i64 k1], .agg #[.int .i64 f1, .int .i64 f2, .int .i64 f3, .string f4], .int .i64 E1]) rfl (Or.inl ⟨by rfl, ?_⟩) hHeld ?_
                   · intro w hSw; (try dsimp only at hSw); go_simp
                   (try simp only [Act.put, List.setIfInBounds_toArray, List.set_cons_zero, List.set_cons_succ])
                   refine takeL (i := 16) (v := .agg #[.slice a1 L1 cap1, .int .i64 t1, .int .i64 k1]) rfl (Or.inl ⟨by rfl, ?_⟩) hHeld ?_
                   · intro w hSw; (try dsimp only at hSw); go_simp
                   (try simp only [Act.put, List.setIfInBounds_toArray, List.set_cons_zero, List.set_cons_succ])
                   refine takeL (i := 17) (v := .agg #[.int .i64 f1, .int .i64 f2, .int .i64 f3, .string f4]) rfl (Or.inl ⟨by rfl, ?_⟩) hHeld ?_
                   · intro w hSw; (try dsimp only at hSw); go_simp
                   (try simp only [Act.put, List.setIfInBounds_toArray, List.set_cons_zero, List.set_cons_succ])
                   refine takeL (i := 18) (v := .int .i64 E1) rfl (Or.inl ⟨by rfl, ?_⟩) hHeld ?_
                   · intro w hSw; (try dsimp only at hSw); go_simp
                   (try simp only [Act.put, List.setIfInBounds_toArray, List.set_cons_zero, List.set_cons_succ])
                   refine wpAnyH_ready (rs := [19, 20]) (by kernel_rfl) (by simp) ?_
                   refine consL rfl (fun K hK => ?_) ?_
                   ·
                    go_simp
                    obtain ⟨x10_3, hc⟩ := box_new wq2 #[.slice none 0 0, .int .i64 0, .int .i64 0] 24
                    obtain ⟨g10, hg⟩ : ∃ g, g = wq2.heap.size := ⟨_, rfl⟩
                    obtain ⟨wq3, hw⟩ : ∃ w', w' = wq2.alloc (.cells #[.slice none 0 0, .int .i64 0, .int .i64 0] 24) := ⟨_, rfl⟩
                    rw [← hw] at x10_3 hc ⊢
                    have hb_3 := hb_2.trans (hc.mono hb_2.size)
                    have o_3 := o_2.keep hc
                    have le10 : w2.heap.size ≤ g10 := by rw [hg]; exact hb_2.size
                    have n10 : ∀ r, (Value.slice a1 L1 cap1).ownBlock = some r → r ≠ g10 := fun r hr => by have := (o_2.lt r hr).2; omega
                    rw [← hg] at x10_3 ⊢
                    clear hw hg hc
                    refine hK.out _ _ (KS.out _ hb_3) (fun hHeld => ?_)
                    clear hK K
                    (try simp only [Act.put, List.setIfInBounds_toArray, List.set_cons_zero, List.set_cons_succ])
                    refine wpAnyH_ready (rs := [20]) (by kernel_rfl) (by simp) ?_
                    refine consL rfl (fun K hK => ?_) ?_
                    ·
                     go_simp
                     obtain ⟨x11_4, hc⟩ := box_new wq3 #[.int .i64 0, .int .i64 0, .int .i64 0, .string em] 27
                     obtain ⟨g11, hg⟩ : ∃ g, g = wq3.heap.size := ⟨_, rfl⟩
                     obtain ⟨wq4, hw⟩ : ∃ w', w' = wq3.alloc (.cells #[.int .i64 0, .int .i64 0, .int .i64 0, .string em] 27) := ⟨_, rfl⟩
                     rw [← hw] at x11_4 hc ⊢
                     have hb_4 := hb_3.trans (hc.mono hb_3.size)
                     have o_4 := o_3.keep hc
                     have x10_4 := x10_3.keep hc
                     have le11 : w2.heap.size ≤ g11 := by rw [hg]; exact hb_3.size
                     have n11 : ∀ r, (Value.slice a1 L1 cap1).ownBlock = some r → r ≠ g11 := fun r hr => by have := (o_3.lt r hr).2; omega
                     have ne1 : g10 ≠ g11 := by have := x10_3.lt; omega
                     rw [← hg] at x11_4 ⊢
                     clear hw hg hc
                     refine hK.out _ _ (KS.out _ hb_4) (fun hHeld => ?_)
                     clear hK K
                     (try simp only [Act.put, List.setIfInBounds_toArray, List.set_cons_zero, List.set_cons_succ])
                     refine wpAnyH_ready (rs := [21]) (by kernel_rfl) (by simp) ?_
                     refine consL rfl (fun K hK => ?_) ?_
                     ·
                      obtain ⟨c0, c1, c2⟩ := agg_cells x10_4
                      have z0 := x10_4.free 0; have z1 := x10_4.free 1; have z2 := x10_4.free 2
                      go_simp
                      obtain ⟨wq5, hw⟩ : ∃ w', w' = ((wq4.setCell ⟨g10, 0, none⟩ (.slice a1 L1 cap1)).setCell ⟨g10, 1, none⟩ (.int .i64 t1)).setCell ⟨g10, 2, none⟩ (.int .i64 k1) := ⟨_, rfl⟩
                      have x10_5 := x10_4.set3 (.slice a1 L1 cap1) (.int .i64 t1) (.int .i64 k1)
                      have x11_5 := blk_set3 x11_4 ne1 (.slice a1 L1 cap1) (.int .i64 t1) (.int .i64 k1)
                      have o_5 := Go.Proofs.Ytmecaioklmkdlaa.Ss.OwnS.setN (Go.Proofs.Ytmecaioklmkdlaa.Ss.OwnS.setN (Go.Proofs.Ytmecaioklmkdlaa.Ss.OwnS.setN o_4 (i := 0) (u := .slice a1 L1 cap1) n10) (i := 1) (u := .int .i64 t1) n10) (i := 2) (u := .int .i64 k1) n10
                      have hb_5 := below_set3 hb_4 le10 (.slice a1 L1 cap1) (.int .i64 t1) (.int .i64 k1)
                      rw [← hw] at x10_5 x11_5 o_5 hb_5 ⊢
                      clear hw c0 c1 c2 z0 z1 z2
                      refine hK.out _ _ (KS.out _ hb_5) (fun hHeld => ?_)
                      clear hK K
                      (try simp only [Act.put, List.setIfInBounds_toArray, List.set_cons_zero, List.set_cons_succ])
                      refine wpAnyH_ready (rs := [22]) (by kernel_rfl) (by simp) ?_
                      refine consL rfl (fun K hK => ?_) ?_
                      ·
                       obtain ⟨c0, c1, c2, c3⟩ := fm_cells x11_5
                       have z0 := x11_5.free 0; have z1 := x11_5.free 1; have z2 := x11_5.free 2; have z3 := x11_5.free 3
                       go_simp
                       obtain ⟨wq6, hw⟩ : ∃ w', w' = (((wq5.setCell ⟨g11, 0, none⟩ (.int .i64 f1)).setCell ⟨g11, 1, none⟩ (.int .i64 f2)).setCell ⟨g11, 2, none⟩ (.int .i64 f3)).setCell ⟨g11, 3, none⟩ (.string f4) := ⟨_, rfl⟩
                       have x10_6 := blk_set4 x10_5 (fun e => ne1 e.symm) (.int .i64 f1) (.int .i64 f2) (.int .i64 f3) (.string f4)
                       have x11_6 := x11_5.set4 (.int .i64 f1) (.int .i64 f2) (.int .i64 f3) (.string f4)
                       have o_6 := Go.Proofs.Ytmecaioklmkdlaa.Ss.OwnS.setN (Go.Proofs.Ytmecaioklmkdlaa.Ss.OwnS.setN (Go.Proofs.Ytmecaioklmkdlaa.Ss.OwnS.setN (Go.Proofs.Ytmecaioklmkdlaa.Ss.OwnS.setN o_5 (i := 0) (u := .int .i64 f1) n11) (i := 1) (u := .int .i64 f2) n11) (i := 2) (u := .int .i64 f3) n11) (i := 3) (u := .string f4) n11
                       have hb_6 := below_set4 hb_5 le11 (.int .i64 f1) (.int .i64 f2) (.int .i64 f3) (.string f4)
                       rw [← hw] at x10_6 x11_6 o_6 hb_6 ⊢
                       clear hw c0 c1 c2 c3 z0 z1 z2 z3
                       refine hK.out _ _ (KS.out _ hb_6) (fun hHeld => ?_)
                       clear hK K
                       (try simp only [Act.put, List.setIfInBounds_toArray, List.set_cons_zero, List.set_cons_succ])
                       refine takeL (i := 23) (v := .int .i64 E1) rfl (Or.inl ⟨by rfl, ?_⟩) hHeld ?_
                       · intro w hSw; (try dsimp only at hSw); go_simp
                       (try simp only [Act.put, List.setIfInBounds_toArray, List.set_cons_zero, List.set_cons_succ])
                       refine wpAnyH_done (by kernel_rfl) ?_ _
                       refine NoPanic.normal ?_
                       go_wp2_with fail
                       go_meet
                       case rel => exact ⟨g10, g11, a1, cap1, rfl, rfl, rfl, Lib.hid x10_6, Lib.hid x11_6, Lib.hid o_6, Lib.hid hb_6, le10, le11, ne1, n10, n11⟩
                      exact AllReadyH.nil
                     exact AllReadyH.nil
                    exact AllReadyH.nil
                   refine consL rfl (fun K hK => ?_) ?_
                   ·
                    go_simp
                    obtain ⟨x11_3, hc⟩ := box_new wq2 #[.int .i64 0, .int .i64 0, .int .i64 0, .string em] 27
                    obtain ⟨g11, hg⟩ : ∃ g, g = wq2.heap.size := ⟨_, rfl⟩
                    obtain ⟨wq3, hw⟩ : ∃ w', w' = wq2.alloc (.cells #[.int .i64 0, .int .i64 0, .int .i64 0, .string em] 27) := ⟨_, rfl⟩
                    rw [← hw] at x11_3 hc ⊢
                    have hb_3 := hb_2.trans (hc.mono hb_2.size)
                    have o_3 := o_2.keep hc
                    have le11 : w2.heap.size ≤ g11 := by rw [hg]; exact hb_2.size
                    have n11 : ∀ r, (Value.slice a1 L1 cap1).ownBlock = some r → r ≠ g11 := fun r hr => by have := (o_2.lt r hr).2; omega
                    rw [← hg] at x11_3 ⊢
                    clear hw hg hc
                    refine hK.out _ _ (KS.out _ hb_3) (fun hHeld => ?_)
                    clear hK K
                    (try simp only [Act.put, List.setIfInBounds_toArray, List.set_cons_zero, List.set_cons_succ])
                    refine wpAnyH_ready (rs := [19]) (by kernel_rfl) (by simp) ?_
                    refine consL rfl (fun K hK => ?_) ?_
                    ·
                     go_simp
                     obtain ⟨x10_4, hc⟩ := box_new wq3 #[.slice none 0 0, .int .i64 0, .int .i64 0] 24
                     obtain ⟨g10, hg⟩ : ∃ g, g = wq3.heap.size := ⟨_, rfl⟩
                     obtain ⟨wq4, hw⟩ : ∃ w', w' = wq3.alloc (.cells #[.slice none 0 0, .int .i64 0, .int .i64 0] 24) := ⟨_, rfl⟩
                     rw [← hw] at x10_4 hc ⊢
                     have hb_4 := hb_3.trans (hc.mono hb_3.size)
                     have o_4 := o_3.keep hc
                     have x11_4 := x11_3.keep hc
                     have le10 : w2.heap.size ≤ g10 := by rw [hg]; exact hb_3.size
                     have n10 : ∀ r, (Value.slice a1 L1 cap1).ownBlock = some r → r ≠ g10 := fun r hr => by have := (o_3.lt r hr).2; omega
                     have ne1 : g10 ≠ g11 := by have := x11_3.lt; omega
                     rw [← hg] at x10_4 ⊢
                     clear hw hg hc
                     refine hK.out _ _ (KS.out _ hb_4) (fun hHeld => ?_)
                     clear hK K
                     (try simp only [Act.put, List.setIfInBounds_toArray, List.set_cons_zero, List.set_cons_succ])
                     refine wpAnyH_ready (rs := [21]) (by kernel_rfl) (by simp) ?_
                     refine consL rfl (fun K hK => ?_) ?_
                     ·
                      obtain ⟨c0, c1, c2⟩ := agg_cells x10_4
                      have z0 := x10_4.free 0; have z1 := x10_4.free 1; have z2 := x10_4.free 2
                      go_simp
                      obtain ⟨wq5, hw⟩ : ∃ w', w' = ((wq4.setCell ⟨g10, 0, none⟩ (.slice a1 L1 cap1)).setCell ⟨g10, 1, none⟩ (.int .i64 t1)).setCell ⟨g10, 2, none⟩ (.int .i64 k1) := ⟨_, rfl⟩
                      have x10_5 := x10_4.set3 (.slice a1 L1 cap1) (.int .i64 t1) (.int .i64 k1)
                      have x11_5 := blk_set3 x11_4 ne1 (.slice a1 L1 cap1) (.int .i64 t1) (.int .i64 k1)
                      have o_5 := Go.Proofs.Ytmecaioklmkdlaa.Ss.OwnS.setN (Go.Proofs.Ytmecaioklmkdlaa.Ss.OwnS.setN (Go.Proofs.Ytmecaioklmkdlaa.Ss.OwnS.setN o_4 (i := 0) (u := .slice a1 L1 cap1) n10) (i := 1) (u := .int .i64 t1) n10) (i := 2) (u := .int .i64 k1) n10
                      have hb_5 := below_set3 hb_4 le10 (.slice a1 L1 cap1) (.int .i64 t1) (.int .i64 k1)
                      rw [← hw] at x10_5 x11_5 o_5 hb_5 ⊢
                      clear hw c0 c1 c2 z0 z1 z2
                      refine hK.out _ _ (KS.out _ hb_5) (fun hHeld => ?_)
                      clear hK K
                      (try simp only [Act.put, List.setIfInBounds_toArray, List.set_cons_zero, List.set_cons_succ])
                      refine wpAnyH_ready (rs := [22]) (by kernel_rfl) (by simp) ?_
                      refine consL rfl (fun K hK => ?_) ?_
                      ·
                       obtain ⟨c0, c1, c2, c3⟩ := fm_cells x11_5
                       have z0 := x11_5.free 0; have z1 := x11_5.free 1; have z2 := x11_5.free 2; have z3 := x11_5.free 3
                       go_simp
                       obtain ⟨wq6, hw⟩ : ∃ w', w' = (((wq5.setCell ⟨g11, 0, none⟩ (.int .i64 f1)).setCell ⟨g11, 1, none⟩ (.int .i64 f2)).setCell ⟨g11, 2, none⟩ (.int .i64 f3)).setCell ⟨g11, 3, none⟩ (.string f4) := ⟨_, rfl⟩
                       have x10_6 := blk_set4 x10_5 (fun e => ne1 e.symm) (.int .i64 f1) (.int .i64 f2) (.int .i64 f3) (.string f4)
                       have x11_6 := x11_5.set4 (.int .i64 f1) (.int .i64 f2) (.int .i64 f3) (.string f4)
                       have o_6 := Go.Proofs.Ytmecaioklmkdlaa.Ss.OwnS.setN (Go.Proofs.Ytmecaioklmkdlaa.Ss.OwnS.setN (Go.Proofs.Ytmecaioklmkdlaa.Ss.OwnS.setN (Go.Proofs.Ytmecaioklmkdlaa.Ss.OwnS.setN o_5 (i := 0) (u := .int .i64 f1) n11) (i := 1) (u := .int .i64 f2) n11) (i := 2) (u := .int .i64 f3) n11) (i := 3) (u := .string f4) n11
                       have hb_6 := below_set4 hb_5 le11 (.int .i64 f1) (.int .i64 f2) (.int .i64 f3) (.string f4)
                       rw [← hw] at x10_6 x11_6 o_6 hb_6 ⊢
                       clear hw c0 c1 c2 c3 z0 z1 z2 z3
                       refine hK.out _ _ (KS.out _ hb_6) (fun hHeld => ?_)
                       clear hK K
                       (try simp only [Act.put, List.setIfInBounds_toArray, List.set_cons_zero, List.set_cons_succ])
                       refine takeL (i := 23) (v := .int .i64 E1) rfl (Or.inl ⟨by rfl, ?_⟩) hHeld ?_
                       · intro w hSw; (try dsimp only at hSw); go_simp
                       (try simp only [Act.put, List.setIfInBounds_toArray, List.set_cons_zero, List.set_cons_succ])
                       refine wpAnyH_done (by kernel_rfl) ?_ _
                       refine NoPanic.normal ?_
                       go_wp2_with fail
                       go_meet
                       case rel => exact ⟨g10, g11, a1, cap1, rfl, rfl, rfl, Lib.hid x10_6, Lib.hid x11_6, Lib.hid o_6, Lib.hid hb_6, le10, le11, ne1, n10, n11⟩
                      exact AllReadyH.nil
                     exact AllReadyH.nil
                    exact AllReadyH.nil
                   exact AllReadyH.nil
                  refine consL rfl (fun K hK => ?_) ?_
                  ·
                   go_simp
                   obtain ⟨x10_2, hc⟩ := box_new wq1 #[.slice none 0 0, .int .i64 0, .int .i64 0] 24
                   obtain ⟨g10, hg⟩ : ∃ g, g = wq1.heap.size := ⟨_, rfl⟩
                   obtain ⟨wq2, hw⟩ : ∃ w', w' = wq1.alloc (.cells #[.slice none 0 0, .int .i64 0, .int .i64 0] 24) := ⟨_, rfl⟩
                   rw [← hw] at x10_2 hc ⊢
                   have hb_2 := hb_1.trans (hc.mono hb_1.size)
                   have le10 : w2.heap.size ≤ g10 := by rw [hg]; exact hb_1.size
                   rw [← hg] at x10_2 ⊢
                   clear hw hg hc
                   refine hK.out _ _ (KS.out _ hb_2) (fun hHeld => ?_)
                   clear hK K
                   (try simp only [Act.put, List.setIfInBounds_toArray, List.set_cons_zero, List.set_cons_succ])
                   refine wpAnyH_ready (rs := [14, 20]) (by kernel_rfl) (by simp) ?_
                   refine consL rfl (fun K hK => ?_) ?_
                   ·
                    go_simp
                    go_at_call 10
                    refine (HSD.out wq2 hb_2).mono ?_
                    rintro e wq3 ⟨v1, rfl, o_3, hc⟩
                    obtain ⟨a1, cap1, rfl, -⟩ := o_3.has
                    rw [HL1.out] at o_3 ⊢
                    have hb_3 := hb_2.trans (hc.mono hb_2.size)
                    have x10_3 := x10_2.keep hc
                    have n10 : ∀ r, (Value.slice a1 L1 cap1).ownBlock = some r → r ≠ g10 := fun r hr => by have := (o_3.lt r hr).1; have := x10_2.lt; omega
                    replace o_3 := o_3.low hb_2.size
                    clear hc
                    refine hK.out _ _ (KS.out _ hb_3) (fun hHeld => ?_)
                    clear hK K
                    (try simp only [Act.put, List.setIfInBounds_toArray, List.set_cons_zero, List.set_cons_succ])
                    refine takeL (i := 15) (v := .tuple #[.agg #[.slice a1 L1 cap1, .int .i64 t1, .int .i64 k1], .agg #[.int .i64 f1, .int .i64 f2, .int .i64 f3, .string f4], .int .i64 E1]) rfl (Or.inl ⟨by rfl, ?_⟩) hHeld ?_
                    · intro w hSw; (try dsimp only at hSw); go_simp
                    (try simp only [Act.put, List.setIfInBounds_toArray, List.set_cons_zero, List.set_cons_succ])
                    refine takeL (i := 16) (v := .agg #[.slice a1 L1 cap1, .int .i64 t1, .int .i64 k1]) rfl (Or.inl ⟨by rfl, ?_⟩) hHeld ?_
                    · intro w hSw; (try dsimp only at hSw); go_simp
                    (try simp only [Act.put, List.setIfInBounds_toArray, List.set_cons_zero, List.set_cons_succ])
                    refine takeL (i := 17) (v := .agg #[.int .i64 f1, .int .i64 f2, .int .i64 f3, .string f4]) rfl (Or.inl ⟨by rfl, ?_⟩) hHeld ?_
                    · intro w hSw; (try dsimp only at hSw); go_simp
                    (try simp only [Act.put, List.setIfInBounds_toArray, List.set_cons_zero, List.set_cons_succ])
                    refine takeL (i := 18) (v := .int .i64 E1) rfl (Or.inl ⟨by rfl, ?_⟩) hHeld ?_
                    · intro w hSw; (try dsimp only at hSw); go_simp
                    (try simp only [Act.put, List.setIfInBounds_toArray, List.set_cons_zero, List.set_cons_succ])
                    refine wpAnyH_ready (rs := [20]) (by kernel_rfl) (by simp) ?_
                    refine consL rfl (fun K hK => ?_) ?_
                    ·
                     go_simp
                     obtain ⟨x11_4, hc⟩ := box_new wq3 #[.int .i64 0, .int .i64 0, .int .i64 0, .string em] 27
                     obtain ⟨g11, hg⟩ : ∃ g, g = wq3.heap.size := ⟨_, rfl⟩
                     obtain ⟨wq4, hw⟩ : ∃ w', w' = wq3.alloc (.cells #[.int .i64 0, .int .i64 0, .int .i64 0, .string em] 27) := ⟨_, rfl⟩
                     rw [← hw] at x11_4 hc ⊢
                     have hb_4 := hb_3.trans (hc.mono hb_3.size)
                     have x10_4 := x10_3.keep hc
                     have o_4 := o_3.keep hc
                     have le11 : w2.heap.size ≤ g11 := by rw [hg]; exact hb_3.size
                     have n11 : ∀ r, (Value.slice a1 L1 cap1).ownBlock = some r → r ≠ g11 := fun r hr => by have := (o_3.lt r hr).2; omega
                     have ne1 : g10 ≠ g11 := by have := x10_3.lt; omega
                     rw [← hg] at x11_4 ⊢
                     clear hw hg hc
                     refine hK.out _ _ (KS.out _ hb_4) (fun hHeld => ?_)
                     clear hK K
                     (try simp only [Act.put, List.setIfInBounds_toArray, List.set_cons_zero, List.set_cons_succ])
                     refine wpAnyH_ready (rs := [21]) (by kernel_rfl) (by simp) ?_
                     refine consL rfl (fun K hK => ?_) ?_
                     ·
                      obtain ⟨c0, c1, c2⟩ := agg_cells x10_4
                      have z0 := x10_4.free 0; have z1 := x10_4.free 1; have z2 := x10_4.free 2
                      go_simp
                      obtain ⟨wq5, hw⟩ : ∃ w', w' = ((wq4.setCell ⟨g10, 0, none⟩ (.slice a1 L1 cap1)).setCell ⟨g10, 1, none⟩ (.int .i64 t1)).setCell ⟨g10, 2, none⟩ (.int .i64 k1) := ⟨_, rfl⟩
                      have x10_5 := x10_4.set3 (.slice a1 L1 cap1) (.int .i64 t1) (.int .i64 k1)
                      have x11_5 := blk_set3 x11_4 ne1 (.slice a1 L1 cap1) (.int .i64 t1) (.int .i64 k1)
                      have o_5 := Go.Proofs.Ytmecaioklmkdlaa.Ss.OwnS.setN (Go.Proofs.Ytmecaioklmkdlaa.Ss.OwnS.setN (Go.Proofs.Ytmecaioklmkdlaa.Ss.OwnS.setN o_4 (i := 0) (u := .slice a1 L1 cap1) n10) (i := 1) (u := .int .i64 t1) n10) (i := 2) (u := .int .i64 k1) n10
                      have hb_5 := below_set3 hb_4 le10 (.slice a1 L1 cap1) (.int .i64 t1) (.int .i64 k1)
                      rw [← hw] at x10_5 x11_5 o_5 hb_5 ⊢
                      clear hw c0 c1 c2 z0 z1 z2
                      refine hK.out _ _ (KS.out _ hb_5) (fun hHeld => ?_)
                      clear hK K
                      (try simp only [Act.put, List.setIfInBounds_toArray, List.set_cons_zero, List.set_cons_succ])
                      refine wpAnyH_ready (rs := [22]) (by kernel_rfl) (by simp) ?_
                      refine consL rfl (fun K hK => ?_) ?_
                      ·
                       obtain ⟨c0, c1, c2, c3⟩ := fm_cells x11_5
                       have z0 := x11_5.free 0; have z1 := x11_5.free 1; have z2 := x11_5.free 2; have z3 := x11_5.free 3
                       go_simp
                       obtain ⟨wq6, hw⟩ : ∃ w', w' = (((wq5.setCell ⟨g11, 0, none⟩ (.int .i64 f1)).setCell ⟨g11, 1, none⟩ (.int .i64 f2)).setCell ⟨g11, 2, none⟩ (.int .i64 f3)).setCell ⟨g11, 3, none⟩ (.string f4) := ⟨_, rfl⟩
                       have x10_6 := blk_set4 x10_5 (fun e => ne1 e.symm) (.int .i64 f1) (.int .i64 f2) (.int .i64 f3) (.string f4)
                       have x11_6 := x11_5.set4 (.int .i64 f1) (.int .i64 f2) (.int .i64 f3) (.string f4)
                       have o_6 := Go.Proofs.Ytmecaioklmkdlaa.Ss.OwnS.setN (Go.Proofs.Ytmecaioklmkdlaa.Ss.OwnS.setN (Go.Proofs.Ytmecaioklmkdlaa.Ss.OwnS.setN (Go.Proofs.Ytmecaioklmkdlaa.Ss.OwnS.setN o_5 (i := 0) (u := .int .i64 f1) n11) (i := 1) (u := .int .i64 f2) n11) (i := 2) (u := .int .i64 f3) n11) (i := 3) (u := .string f4) n11
                       have hb_6 := below_set4 hb_5 le11 (.int .i64 f1) (.int .i64 f2) (.int .i64 f3) (.string f4)
                       rw [← hw] at x10_6 x11_6 o_6 hb_6 ⊢
                       clear hw c0 c1 c2 c3 z0 z1 z2 z3
                       refine hK.out _ _ (KS.out _ hb_6) (fun hHeld => ?_)
                       clear hK K
                       (try simp only [Act.put, List.setIfInBounds_toArray, List.set_cons_zero, List.set_cons_succ])
                       refine takeL (i := 23) (v := .int .i64 E1) rfl (Or.inl ⟨by rfl, ?_⟩) hHeld ?_
                       · intro w hSw; (try dsimp only at hSw); go_simp
                       (try simp only [Act.put, List.setIfInBounds_toArray, List.set_cons_zero, List.set_cons_succ])
                       refine wpAnyH_done (by kernel_rfl) ?_ _
                       refine NoPanic.normal ?_
                       go_wp2_with fail
                       go_meet
                       case rel => exact ⟨g10, g11, a1, cap1, rfl, rfl, rfl, Lib.hid x10_6, Lib.hid x11_6, Lib.hid o_6, Lib.hid hb_6, le10, le11, ne1, n10, n11⟩
                      exact AllReadyH.nil
                     exact AllReadyH.nil
                    exact AllReadyH.nil
                   refine consL rfl (fun K hK => ?_) ?_
                   ·
                    go_simp
                    obtain ⟨x11_3, hc⟩ := box_new wq2 #[.int .i64 0, .int .i64 0, .int .i64 0, .string em] 27
                    obtain ⟨g11, hg⟩ : ∃ g, g = wq2.heap.size := ⟨_, rfl⟩
                    obtain ⟨wq3, hw⟩ : ∃ w', w' = wq2.alloc (.cells #[.int .i64 0, .int .i64 0, .int .i64 0, .string em] 27) := ⟨_, rfl⟩
                    rw [← hw] at x11_3 hc ⊢
                    have hb_3 := hb_2.trans (hc.mono hb_2.size)
                    have x10_3 := x10_2.keep hc
                    have le11 : w2.heap.size ≤ g11 := by rw [hg]; exact hb_2.size
                    have ne1 : g10 ≠ g11 := by have := x10_2.lt; omega
                    rw [← hg] at x11_3 ⊢
                    clear hw hg hc
                    refine hK.out _ _ (KS.out _ hb_3) (fun hHeld => ?_)
                    clear hK K
                    (try simp only [Act.put, List.setIfInBounds_toArray, List.set_cons_zero, List.set_cons_succ])
                    refine wpAnyH_ready (rs := [14]) (by kernel_rfl) (by simp) ?_
                    refine consL rfl (fun K hK => ?_) ?_
                    ·
                     go_simp
                     go_at_call 10
                     refine (HSD.out wq3 hb_3).mono ?_
                     rintro e wq4 ⟨v1, rfl, o_4, hc⟩
                     obtain ⟨a1, cap1, rfl, -⟩ := o_4.has
                     rw [HL1.out] at o_4 ⊢
                     have hb_4 := hb_3.trans (hc.mono hb_3.size)
                     have x10_4 := x10_3.keep hc
                     have x11_4 := x11_3.keep hc
                     have n10 : ∀ r, (Value.slice a1 L1 cap1).ownBlock = some r → r ≠ g10 := fun r hr => by have := (o_4.lt r hr).1; have := x10_3.lt; omega
                     have n11 : ∀ r, (Value.slice a1 L1 cap1).ownBlock = some r → r ≠ g11 := fun r hr => by have := (o_4.lt r hr).1; have := x11_3.lt; omega
                     replace o_4 := o_4.low hb_3.size
                     clear hc
                     refine hK.out _ _ (KS.out _ hb_4) (fun hHeld => ?_)
                     clear hK K
                     (try simp only [Act.put, List.setIfInBounds_toArray, List.set_cons_zero, List.set_cons_succ])
                     refine takeL (i := 15) (v := .tuple #[.agg #[.slice a1 L1 cap1, .int .i64 t1, .int .i64 k1], .agg #[.int .i64 f1, .int .i64 f2, .int .i64 f3, .string f4], .int .i64 E1]) rfl (Or.inl ⟨by rfl, ?_⟩) hHeld ?_
                     · intro w hSw; (try dsimp only at hSw); go_simp
                     (try simp only [Act.put, List.setIfInBounds_toArray, List.set_cons_zero, List.set_cons_succ])
                     refine takeL (i := 16) (v := .agg #[.slice a1 L1 cap1, .int .i64 t1, .int .i64 k1]) rfl (Or.inl ⟨by rfl, ?_⟩) hHeld ?_
                     · intro w hSw; (try dsimp only at hSw); go_simp
                     (try simp only [Act.put, List.setIfInBounds_toArray, List.set_cons_zero, List.set_cons_succ])
                     refine takeL (i := 17) (v := .agg #[.int .i64 f1, .int .i64 f2, .int .i64 f3, .string f4]) rfl (Or.inl ⟨by rfl, ?_⟩) hHeld ?_
                     · intro w hSw; (try dsimp only at hSw); go_simp
                     (try simp only [Act.put, List.setIfInBounds_toArray, List.set_cons_zero, List.set_cons_succ])
                     refine takeL (i := 18) (v := .int .i64 E1) rfl (Or.inl ⟨by rfl, ?_⟩) hHeld ?_
                     · intro w hSw; (try dsimp only at hSw); go_simp
                     (try simp only [Act.put, List.setIfInBounds_toArray, List.set_cons_zero, List.set_cons_succ])
                     refine wpAnyH_ready (rs := [21]) (by kernel_rfl) (by simp) ?_
                     refine consL rfl (fun K hK => ?_) ?_
                     ·
                      obtain ⟨c0, c1, c2⟩ := agg_cells x10_4
                      have z0 := x10_4.free 0; have z1 := x10_4.free 1; have z2 := x10_4.free 2
                      go_simp
                      obtain ⟨wq5, hw⟩ : ∃ w', w' = ((wq4.setCell ⟨g10, 0, none⟩ (.slice a1 L1 cap1)).setCell ⟨g10, 1, none⟩ (.int .i64 t1)).setCell ⟨g10, 2, none⟩ (.int .i64 k1) := ⟨_, rfl⟩
                      have x10_5 := x10_4.set3 (.slice a1 L1 cap1) (.int .i64 t1) (.int .i64 k1)
                      have x11_5 := blk_set3 x11_4 ne1 (.slice a1 L1 cap1) (.int .i64 t1) (.int .i64 k1)
                      have o_5 := Go.Proofs.Ytmecaioklmkdlaa.Ss.OwnS.setN (Go.Proofs.Ytmecaioklmkdlaa.Ss.OwnS.setN (Go.Proofs.Ytmecaioklmkdlaa.Ss.OwnS.setN o_4 (i := 0) (u := .slice a1 L1 cap1) n10) (i := 1) (u := .int .i64 t1) n10) (i := 2) (u := .int .i64 k1) n10
                      have hb_5 := below_set3 hb_4 le10 (.slice a1 L1 cap1) (.int .i64 t1) (.int .i64 k1)
                      rw [← hw] at x10_5 x11_5 o_5 hb_5 ⊢
                      clear hw c0 c1 c2 z0 z1 z2
                      refine hK.out _ _ (KS.out _ hb_5) (fun hHeld => ?_)
                      clear hK K
                      (try simp only [Act.put, List.setIfInBounds_toArray, List.set_cons_zero, List.set_cons_succ])
                      refine wpAnyH_ready (rs := [22]) (by kernel_rfl) (by simp) ?_
                      refine consL rfl (fun K hK => ?_) ?_
                      ·
                       obtain ⟨c0, c1, c2, c3⟩ := fm_cells x11_5
                       have z0 := x11_5.free 0; have z1 := x11_5.free 1; have z2 := x11_5.free 2; have z3 := x11_5.free 3
                       go_simp
                       obtain ⟨wq6, hw⟩ : ∃ w', w' = (((wq5.setCell ⟨g11, 0, none⟩ (.int .i64 f1)).setCell ⟨g11, 1, none⟩ (.int .i64 f2)).setCell ⟨g11, 2, none⟩ (.int .i64 f3)).setCell ⟨g11, 3, none⟩ (.string f4) := ⟨_, rfl⟩
                       have x10_6 := blk_set4 x10_5 (fun e => ne1 e.symm) (.int .i64 f1) (.int .i64 f2) (.int .i64 f3) (.string f4)
                       have x11_6 := x11_5.set4 (.int .i64 f1) (.int .i64 f2) (.int .i64 f3) (.string f4)
                       have o_6 := Go.Proofs.Ytmecaioklmkdlaa.Ss.OwnS.setN (Go.Proofs.Ytmecaioklmkdlaa.Ss.OwnS.setN (Go.Proofs.Ytmecaioklmkdlaa.Ss.OwnS.setN (Go.Proofs.Ytmecaioklmkdlaa.Ss.OwnS.setN o_5 (i := 0) (u := .int .i64 f1) n11) (i := 1) (u := .int .i64 f2) n11) (i := 2) (u := .int .i64 f3) n11) (i := 3) (u := .string f4) n11
                       have hb_6 := below_set4 hb_5 le11 (.int .i64 f1) (.int .i64 f2) (.int .i64 f3) (.string f4)
                       rw [← hw] at x10_6 x11_6 o_6 hb_6 ⊢
                       clear hw c0 c1 c2 c3 z0 z1 z2 z3
                       refine hK.out _ _ (KS.out _ hb_6) (fun hHeld => ?_)
                       clear hK K
                       (try simp only [Act.put, List.setIfInBounds_toArray, List.set_cons_zero, List.set_cons_succ])
                       refine takeL (i := 23) (v := .int .i64 E1) rfl (Or.inl ⟨by rfl, ?_⟩) hHeld ?_
                       · intro w hSw; (try dsimp only at hSw); go_simp
                       (try simp only [Act.put, List.setIfInBounds_toArray, List.set_cons_zero, List.set_cons_succ])
                       refine wpAnyH_done (by kernel_rfl) ?_ _
                       refine NoPanic.normal ?_
                       go_wp2_with fail
                       go_meet
                       case rel => exact ⟨g10, g11, a1, cap1, rfl, rfl, rfl, Lib.hid x10_6, Lib.hid x11_6, Lib.hid o_6, Lib.hid hb_6, le10, le11, ne1, n10, n11⟩
                      exact AllReadyH.nil
                     exact AllReadyH.nil
                    exact AllReadyH.nil
                   exact AllReadyH.nil
                  refine consL rfl (fun K hK => ?_) ?_
                  ·
                   go_simp
                   obtain ⟨x11_2, hc⟩ := box_new wq1 #[.int .i64 0, .int .i64 0, .int .i64 0, .string em] 27
                   obtain ⟨g11, hg⟩ : ∃ g, g = wq1.heap.size := ⟨_, rfl⟩
                   obtain ⟨wq2, hw⟩ : ∃ w', w' = wq1.alloc (.cells #[.int .i64 0, .int .i64 0, .int .i64 0, .string em] 27) := ⟨_, rfl⟩
                   rw [← hw] at x11_2 hc ⊢
                   have hb_2 := hb_1.trans (hc.mono hb_1.size)
                   have le11 : w2.heap.size ≤ g11 := by rw [hg]; exact hb_1.size
                   rw [← hg] at x11_2 ⊢
                   clear hw hg hc
                   refine hK.out _ _ (KS.out _ hb_2) (fun hHeld => ?_)
                   clear hK K
                   (try simp only [Act.put, List.setIfInBounds_toArray, List.set_cons_zero, List.set_cons_succ])
                   refine wpAnyH_ready (rs := [14, 19]) (by kernel_rfl) (by simp) ?_
                   refine consL rfl (fun K hK => ?_) ?_
                   ·
                    go_simp
                    go_at_call 10
                    refine (HSD.out wq2 hb_2).mono ?_
                    rintro e wq3 ⟨v1, rfl, o_3, hc⟩
                    obtain ⟨a1, cap1, rfl, -⟩ := o_3.has
                    rw [HL1.out] at o_3 ⊢
                    have hb_3 := hb_2.trans (hc.mono hb_2.size)
                    have x11_3 := x11_2.keep hc
                    have n11 : ∀ r, (Value.slice a1 L1 cap1).ownBlock = some r → r ≠ g11 := fun r hr => by have := (o_3.lt r hr).1; have := x11_2.lt; omega
                    replace o_3 := o_3.low hb_2.size
                    clear hc
                    refine hK.out _ _ (KS.out _ hb_3) (fun hHeld => ?_)
                    clear hK K
                    (try simp only [Act.put, List.setIfInBounds_toArray, List.set_cons_zero, List.set_cons_succ])
                    refine takeL (i := 15) (v := .tuple #[.agg #[.slice a1 L1 cap1, .int .i64 t1, .int .i64 k1], .agg #[.int .i64 f1, .int .i64 f2, .int .i64 f3, .string f4], .int .i64 E1]) rfl (Or.inl ⟨by rfl, ?_⟩) hHeld ?_
                    · intro w hSw; (try dsimp only at hSw); go_simp
                    (try simp only [Act.put, List.setIfInBounds_toArray, List.set_cons_zero, List.set_cons_succ])
                    refine takeL (i := 16) (v := .agg #[.slice a1 L1 cap1, .int .i64 t1, .int .i64 k1]) rfl (Or.inl ⟨by rfl, ?_⟩) hHeld ?_
                    · intro w hSw; (try dsimp only at hSw); go_simp
                    (try simp only [Act.put, List.setIfInBounds_toArray, List.set_cons_zero, List.set_cons_succ])
                    refine takeL (i := 17) (v := .agg #[.int .i64 f1, .int .i64 f2, .int .i64 f3, .string f4]) rfl (Or.inl ⟨by rfl, ?_⟩) hHeld ?_
                    · intro w hSw; (try dsimp only at hSw); go_simp
                    (try simp only [Act.put, List.setIfInBounds_toArray, List.set_cons_zero, List.set_cons_succ])
                    refine takeL (i := 18) (v := .int .i64 E1) rfl (Or.inl ⟨by rfl, ?_⟩) hHeld ?_
                    · intro w hSw; (try dsimp only at hSw); go_simp
                    (try simp only [Act.put, List.setIfInBounds_toArray, List.set_cons_zero, List.set_cons_succ])
                    refine wpAnyH_ready (rs := [19]) (by kernel_rfl) (by simp) ?_
                    refine consL rfl (fun K hK => ?_) ?_
                    ·
                     go_simp
                     obtain ⟨x10_4, hc⟩ := box_new wq3 #[.slice none 0 0, .int .i64 0, .int .i64 0] 24
                     obtain ⟨g10, hg⟩ : ∃ g, g = wq3.heap.size := ⟨_, rfl⟩
                     obtain ⟨wq4, hw⟩ : ∃ w', w' = wq3.alloc (.cells #[.slice none 0 0, .int .i64 0, .int .i64 0] 24) := ⟨_, rfl⟩
                     rw [← hw] at x10_4 hc ⊢
                     have hb_4 := hb_3.trans (hc.mono hb_3.size)
                     have x11_4 := x11_3.keep hc
                     have o_4 := o_3.keep hc
                     have le10 : w2.heap.size ≤ g10 := by rw [hg]; exact hb_3.size
                     have n10 : ∀ r, (Value.slice a1 L1 cap1).ownBlock = some r → r ≠ g10 := fun r hr => by have := (o_3.lt r hr).2; omega
                     have ne1 : g10 ≠ g11 := by have := x11_3.lt; omega
                     rw [← hg] at x10_4 ⊢
                     clear hw hg hc
                     refine hK.out _ _ (KS.out _ hb_4) (fun hHeld => ?_)
                     clear hK K
                     (try simp only [Act.put, List.setIfInBounds_toArray, List.set_cons_zero, List.set_cons_succ])
                     refine wpAnyH_ready (rs := [21]) (by kernel_rfl) (by simp) ?_
                     refine consL rfl (fun K hK => ?_) ?_
                     ·
                      obtain ⟨c0, c1, c2⟩ := agg_cells x10_4
                      have z0 := x10_4.free 0; have z1 := x10_4.free 1; have z2 := x10_4.free 2
                      go_simp
                      obtain ⟨wq5, hw⟩ : ∃ w', w' = ((wq4.setCell ⟨g10, 0, none⟩ (.slice a1 L1 cap1)).setCell ⟨g10, 1, none⟩ (.int .i64 t1)).setCell ⟨g10, 2, none⟩ (.int .i64 k1) := ⟨_, rfl⟩
                      have x10_5 := x10_4.set3 (.slice a1 L1 cap1) (.int .i64 t1) (.int .i64 k1)
                      have x11_5 := blk_set3 x11_4 ne1 (.slice a1 L1 cap1) (.int .i64 t1) (.int .i64 k1)
                      have o_5 := Go.Proofs.Ytmecaioklmkdlaa.Ss.OwnS.setN (Go.Proofs.Ytmecaioklmkdlaa.Ss.OwnS.setN (Go.Proofs.Ytmecaioklmkdlaa.Ss.OwnS.setN o_4 (i := 0) (u := .slice a1 L1 cap1) n10) (i := 1) (u := .int .i64 t1) n10) (i := 2) (u := .int .i64 k1) n10
                      have hb_5 := below_set3 hb_4 le10 (.slice a1 L1 cap1) (.int .i64 t1) (.int .i64 k1)
                      rw [← hw] at x10_5 x11_5 o_5 hb_5 ⊢
                      clear hw c0 c1 c2 z0 z1 z2
                      refine hK.out _ _ (KS.out _ hb_5) (fun hHeld => ?_)
                      clear hK K
                      (try simp only [Act.put, List.setIfInBounds_toArray, List.set_cons_zero, List.set_cons_succ])
                      refine wpAnyH_ready (rs := [22]) (by kernel_rfl) (by simp) ?_
                      refine consL rfl (fun K hK => ?_) ?_
                      ·
                       obtain ⟨c0, c1, c2, c3⟩ := fm_cells x11_5
                       have z0 := x11_5.free 0; have z1 := x11_5.free 1; have z2 := x11_5.free 2; have z3 := x11_5.free 3
                       go_simp
                       obtain ⟨wq6, hw⟩ : ∃ w', w' = (((wq5.setCell ⟨g11, 0, none⟩ (.int .i64 f1)).setCell ⟨g11, 1, none⟩ (.int .i64 f2)).setCell ⟨g11, 2, none⟩ (.int .i64 f3)).setCell ⟨g11, 3, none⟩ (.string f4) := ⟨_, rfl⟩
                       have x10_6 := blk_set4 x10_5 (fun e => ne1 e.symm) (.int .i64 f1) (.int .i64 f2) (.int .i64 f3) (.string f4)
                       have x11_6 := x11_5.set4 (.int .i64 f1) (.int .i64 f2) (.int .i64 f3) (.string f4)
                       have o_6 := Go.Proofs.Ytmecaioklmkdlaa.Ss.OwnS.setN (Go.Proofs.Ytmecaioklmkdlaa.Ss.OwnS.setN (Go.Proofs.Ytmecaioklmkdlaa.Ss.OwnS.setN (Go.Proofs.Ytmecaioklmkdlaa.Ss.OwnS.setN o_5 (i := 0) (u := .int .i64 f1) n11) (i := 1) (u := .int .i64 f2) n11) (i := 2) (u := .int .i64 f3) n11) (i := 3) (u := .string f4) n11
                       have hb_6 := below_set4 hb_5 le11 (.int .i64 f1) (.int .i64 f2) (.int .i64 f3) (.string f4)
                       rw [← hw] at x10_6 x11_6 o_6 hb_6 ⊢
                       clear hw c0 c1 c2 c3 z0 z1 z2 z3
                       refine hK.out _ _ (KS.out _ hb_6) (fun hHeld => ?_)
                       clear hK K
                       (try simp only [Act.put, List.setIfInBounds_toArray, List.set_cons_zero, List.set_cons_succ])
                       refine takeL (i := 23) (v := .int .i64 E1) rfl (Or.inl ⟨by rfl, ?_⟩) hHeld ?_
                       · intro w hSw; (try dsimp only at hSw); go_simp
                       (try simp only [Act.put, List.setIfInBounds_toArray, List.set_cons_zero, List.set_cons_succ])
                       refine wpAnyH_done (by kernel_rfl) ?_ _
                       refine NoPanic.normal ?_
                       go_wp2_with fail
                       go_meet
                       case rel => exact ⟨g10, g11, a1, cap1, rfl, rfl, rfl, Lib.hid x10_6, Lib.hid x11_6, Lib.hid o_6, Lib.hid hb_6, le10, le11, ne1, n10, n11⟩
                      exact AllReadyH.nil
                     exact AllReadyH.nil
                    exact AllReadyH.nil
                   refine consL rfl (fun K hK => ?_) ?_
                   ·
                    go_simp
                    obtain ⟨x10_3, hc⟩ := box_new wq2 #[.slice none 0 0, .int .i64 0, .int .i64 0] 24
                    obtain ⟨g10, hg⟩ : ∃ g, g = wq2.heap.size := ⟨_, rfl⟩
                    obtain ⟨wq3, hw⟩ : ∃ w', w' = wq2.alloc (.cells #[.slice none 0 0, .int .i64 0, .int .i64 0] 24) := ⟨_, rfl⟩
                    rw [← hw] at x10_3 hc ⊢
                    have hb_3 := hb_2.trans (hc.mono hb_2.size)
                    have x11_3 := x11_2.keep hc
                    have le10 : w2.heap.size ≤ g10 := by rw [hg]; exact hb_2.size
                    have ne1 : g10 ≠ g11 := by have := x11_2.lt; omega
                    rw [← hg] at x10_3 ⊢
                    clear hw hg hc
                    refine hK.out _ _ (KS.out _ hb_3) (fun hHeld => ?_)
                    clear hK K
                    (try simp only [Act.put, List.setIfInBounds_toArray, List.set_cons_zero, List.set_cons_succ])
                    refine wpAnyH_ready (rs := [14]) (by kernel_rfl) (by simp) ?_
                    refine consL rfl (fun K hK => ?_) ?_
                    ·
                     go_simp
                     go_at_call 10
                     refine (HSD.out wq3 hb_3).mono ?_
                     rintro e wq4 ⟨v1, rfl, o_4, hc⟩
                     obtain ⟨a1, cap1, rfl, -⟩ := o_4.has
                     rw [HL1.out] at o_4 ⊢
                     have hb_4 := hb_3.trans (hc.mono hb_3.size)
                     have x11_4 := x11_3.keep hc
                     have x10_4 := x10_3.keep hc
                     have n10 : ∀ r, (Value.slice a1 L1 cap1).ownBlock = some r → r ≠ g10 := fun r hr => by have := (o_4.lt r hr).1; have := x10_3.lt; omega
                     have n11 : ∀ r, (Value.slice a1 L1 cap1).ownBlock = some r → r ≠ g11 := fun r hr => by have := (o_4.lt r hr).1; have := x11_3.lt; omega
                     replace o_4 := o_4.low hb_3.size
                     clear hc
                     refine hK.out _ _ (KS.out _ hb_4) (fun hHeld => ?_)
                     clear hK K
                     (try simp only [Act.put, List.setIfInBounds_toArray, List.set_cons_zero, List.set_cons_succ])
                     refine takeL (i := 15) (v := .tuple #[.agg #[.slice a1 L1 cap1, .int .i64 t1, .int .i64 k1], .agg #[.int .i64 f1, .int .i64 f2, .int .i64 f3, .string f4], .int .i64 E1]) rfl (Or.inl ⟨by rfl, ?_⟩) hHeld ?_
                     · intro w hSw; (try dsimp only at hSw); go_simp
                     (try simp only [Act.put, List.setIfInBounds_toArray, List.set_cons_zero, List.set_cons_succ])
                     refine takeL (i := 16) (v := .agg #[.slice a1 L1 cap1, .int .i64 t1, .int .i64 k1]) rfl (Or.inl ⟨by rfl, ?_⟩) hHeld ?_
                     · intro w hSw; (try dsimp only at hSw); go_simp
                     (try simp only [Act.put, List.setIfInBounds_toArray, List.set_cons_zero, List.set_cons_succ])
                     refine takeL (i := 17) (v := .agg #[.int .i64 f1, .int .i64 f2, .int .i64 f3, .string f4]) rfl (Or.inl ⟨by rfl, ?_⟩) hHeld ?_
                     · intro w hSw; (try dsimp only at hSw); go_simp
                     (try simp only [Act.put, List.setIfInBounds_toArray, List.set_cons_zero, List.set_cons_succ])
                     refine takeL (i := 18) (v := .int .i64 E1) rfl (Or.inl ⟨by rfl, ?_⟩) hHeld ?_
                     · intro w hSw; (try dsimp only at hSw); go_simp
                     (try simp only [Act.put, List.setIfInBounds_toArray, List.set_cons_zero, List.set_cons_succ])
                     refine wpAnyH_ready (rs := [21]) (by kernel_rfl) (by simp) ?_
                     refine consL rfl (fun K hK => ?_) ?_
                     ·
                      obtain ⟨c0, c1, c2⟩ := agg_cells x10_4
                      have z0 := x10_4.free 0; have z1 := x10_4.free 1; have z2 := x10_4.free 2
                      go_simp
                      obtain ⟨wq5, hw⟩ : ∃ w', w' = ((wq4.setCell ⟨g10, 0, none⟩ (.slice a1 L1 cap1)).setCell ⟨g10, 1, none⟩ (.int .i64 t1)).setCell ⟨g10, 2, none⟩ (.int .i64 k1) := ⟨_, rfl⟩
                      have x10_5 := x10_4.set3 (.slice a1 L1 cap1) (.int .i64 t1) (.int .i64 k1)
                      have x11_5 := blk_set3 x11_4 ne1 (.slice a1 L1 cap1) (.int .i64 t1) (.int .i64 k1)
                      have o_5 := Go.Proofs.Ytmecaioklmkdlaa.Ss.OwnS.setN (Go.Proofs.Ytmecaioklmkdlaa.Ss.OwnS.setN (Go.Proofs.Ytmecaioklmkdlaa.Ss.OwnS.setN o_4 (i := 0) (u := .slice a1 L1 cap1) n10) (i := 1) (u := .int .i64 t1) n10) (i := 2) (u := .int .i64 k1) n10
                      have hb_5 := below_set3 hb_4 le10 (.slice a1 L1 cap1) (.int .i64 t1) (.int .i64 k1)
                      rw [← hw] at x10_5 x11_5 o_5 hb_5 ⊢
                      clear hw c0 c1 c2 z0 z1 z2
                      refine hK.out _ _ (KS.out _ hb_5) (fun hHeld => ?_)
                      clear hK K
                      (try simp only [Act.put, List.setIfInBounds_toArray, List.set_cons_zero, List.set_cons_succ])
                      refine wpAnyH_ready (rs := [22]) (by kernel_rfl) (by simp) ?_
                      refine consL rfl (fun K hK => ?_) ?_
                      ·
                       obtain ⟨c0, c1, c2, c3⟩ := fm_cells x11_5
                       have z0 := x11_5.free 0; have z1 := x11_5.free 1; have z2 := x11_5.free 2; have z3 := x11_5.free 3
                       go_simp
                       obtain ⟨wq6, hw⟩ : ∃ w', w' = (((wq5.setCell ⟨g11, 0, none⟩ (.int .i64 f1)).setCell ⟨g11, 1, none⟩ (.int .i64 f2)).setCell ⟨g11, 2, none⟩ (.int .i64 f3)).setCell ⟨g11, 3, none⟩ (.string f4) := ⟨_, rfl⟩
                       have x10_6 := blk_set4 x10_5 (fun e => ne1 e.symm) (.int .i64 f1) (.int .i64 f2) (.int .i64 f3) (.string f4)
                       have x11_6 := x11_5.set4 (.int .i64 f1) (.int .i64 f2) (.int .i64 f3) (.string f4)
                       have o_6 := Go.Proofs.Ytmecaioklmkdlaa.Ss.OwnS.setN (Go.Proofs.Ytmecaioklmkdlaa.Ss.OwnS.setN (Go.Proofs.Ytmecaioklmkdlaa.Ss.OwnS.setN (Go.Proofs.Ytmecaioklmkdlaa.Ss.OwnS.setN o_5 (i := 0) (u := .int .i64 f1) n11) (i := 1) (u := .int .i64 f2) n11) (i := 2) (u := .int .i64 f3) n11) (i := 3) (u := .string f4) n11
                       have hb_6 := below_set4 hb_5 le11 (.int .i64 f1) (.int .i64 f2) (.int .i64 f3) (.string f4)
                       rw [← hw] at x10_6 x11_6 o_6 hb_6 ⊢
                       clear hw c0 c1 c2 c3 z0 z1 z2 z3
                       refine hK.out _ _ (KS.out _ hb_6) (fun hHeld => ?_)
                       clear hK K
                       (try simp only [Act.put, List.setIfInBounds_toArray, List.set_cons_zero, List.set_cons_succ])
                       refine takeL (i := 23) (v := .int .i64 E1) rfl (Or.inl ⟨by rfl, ?_⟩) hHeld ?_
                       · intro w hSw; (try dsimp only at hSw); go_simp
                       (try simp only [Act.put, List.setIfInBounds_toArray, List.set_cons_zero, List.set_cons_succ])
                       refine wpAnyH_done (by kernel_rfl) ?_ _
                       refine NoPanic.normal ?_
                       go_wp2_with fail
                       go_meet
                       case rel => exact ⟨g10, g11, a1, cap1, rfl, rfl, rfl, Lib.hid x10_6, Lib.hid x11_6, Lib.hid o_6, Lib.hid hb_6, le10, le11, ne1, n10, n11⟩
                      exact AllReadyH.nil
                     exact AllReadyH.nil
                    exact AllReadyH.nil
                   exact AllReadyH.nil
                  exact AllReadyH.nil
                 refine consL rfl (fun K hK => ?_) ?_
                 ·
                  go_simp
                  obtain ⟨x10_2, hc⟩ := box_new wq1 #[.slice none 0 0, .int .i64 0, .int .i64 0] 24
                  obtain ⟨g10, hg⟩ : ∃ g, g = wq1.heap.size := ⟨_, rfl⟩
                  obtain ⟨wq2, hw⟩ : ∃ w', w' = wq1.alloc (.cells #[.slice none 0 0, .int .i64 0, .int .i64 0] 24) := ⟨_, rfl⟩
                  rw [← hw] at x10_2 hc ⊢
                  have hb_2 := hb_1.trans (hc.mono hb_1.size)
                  have xp_2 := xp_1.keep hc
                  have le10 : w2.heap.size ≤ g10 := by rw [hg]; exact hb_1.size
                  rw [← hg] at x10_2 ⊢
                  clear hw hg hc
                  refine hK.out _ _ (KS.out _ hb_2) (fun hHeld => ?_)
                  clear hK K
                  (try simp only [Act.put, List.setIfInBounds_toArray, List.set_cons_zero, List.set_cons_succ])
                  refine wpAnyH_ready (rs := [13, 20]) (by kernel_rfl) (by simp) ?_
                  refine consL rfl (fun K hK => ?_) ?_
                  ·
                   have kc := conv2 xp_2
                   rw [HTX.out] at kc
                   go_simp
                   clear kc
                   refine hK.out _ _ (KS.out _ hb_2) (fun hHeld => ?_)
                   clear hK K xp_2
                   (try simp only [Act.put, List.setIfInBounds_toArray, List.set_cons_zero, List.set_cons_succ])
                   refine wpAnyH_ready (rs := [14, 20]) (by kernel_rfl) (by simp) ?_
                   refine consL rfl (fun K hK => ?_) ?_
                   ·
                    go_simp
                    go_at_call 10
                    refine (HSD.out wq2 hb_2).mono ?_
                    rintro e wq3 ⟨v1, rfl, o_3, hc⟩
                    obtain ⟨a1, cap1, rfl, -⟩ := o_3.has
                    rw [HL1.out] at o_3 ⊢
                    have hb_3 := hb_2.trans (hc.mono hb_2.size)
                    have x10_3 := x10_2.keep hc
                    have n10 : ∀ r, (Value.slice a1 L1 cap1).ownBlock = some r → r ≠ g10 := fun r hr => by have := (o_3.lt r hr).1; have := x10_2.lt; omega
                    replace o_3 := o_3.low hb_2.size
                    clear hc
                    refine hK.out _ _ (KS.out _ hb_3) (fun hHeld => ?_)
                    clear hK K
                    (try simp only [Act.put, List.setIfInBounds_toArray, List.set_cons_zero, List.set_cons_succ])
                    refine takeL (i := 15) (v := .tuple #[.agg #[.slice a1 L1 cap1, .int .i64 t1, .int .i64 k1], .agg #[.int .i64 f1, .int .i64 f2, .int .i64 f3, .string f4], .int .i64 E1]) rfl (Or.inl ⟨by rfl, ?_⟩) hHeld ?_
                    · intro w hSw; (try dsimp only at hSw); go_simp
                    (try simp only [Act.put, List.setIfInBounds_toArray, List.set_cons_zero, List.set_cons_succ])
                    refine takeL (i := 16) (v := .agg #[.slice a1 L1 cap1, .int .i64 t1, .int .i64 k1]) rfl (Or.inl ⟨by rfl, ?_⟩) hHeld ?_
                    · intro w hSw; (try dsimp only at hSw); go_simp
                    (try simp only [Act.put, List.setIfInBounds_toArray, List.set_cons_zero, List.set_cons_succ])
                    refine takeL (i := 17) (v := .agg #[.int .i64 f1, .int .i64 f2, .int .i64 f3, .string f4]) rfl (Or.inl ⟨by rfl, ?_⟩) hHeld ?_
                    · intro w hSw; (try dsimp only at hSw); go_simp
                    (try simp only [Act.put, List.setIfInBounds_toArray, List.set_cons_zero, List.set_cons_succ])
                    refine takeL (i := 18) (v := .int .i64 E1) rfl (Or.inl ⟨by rfl, ?_⟩) hHeld ?_
                    · intro w hSw; (try dsimp only at hSw); go_simp
                    (try simp only [Act.put, List.setIfInBounds_toArray, List.set_cons_zero, List.set_cons_succ])
                    refine wpAnyH_ready (rs := [20]) (by kernel_rfl) (by simp) ?_
                    refine consL rfl (fun K hK => ?_) ?_
                    ·
                     go_simp
                     obtain ⟨x11_4, hc⟩ := box_new wq3 #[.int .i64 0, .int .i64 0, .int .i64 0, .string em] 27
                     obtain ⟨g11, hg⟩ : ∃ g, g = wq3.heap.size := ⟨_, rfl⟩
                     obtain ⟨wq4, hw⟩ : ∃ w', w' = wq3.alloc (.cells #[.int .i64 0, .int .i64 0, .int .i64 0, .string em] 27) := ⟨_, rfl⟩
                     rw [← hw] at x11_4 hc ⊢
                     have hb_4 := hb_3.trans (hc.mono hb_3.size)
                     have x10_4 := x10_3.keep hc
                     have o_4 := o_3.keep hc
                     have le11 : w2.heap.size ≤ g11 := by rw [hg]; exact hb_3.size
                     have n11 : ∀ r, (Value.slice a1 L1 cap1).ownBlock = some r → r ≠ g11 := fun r hr => by have := (o_3.lt r hr).2; omega
                     have ne1 : g10 ≠ g11 := by have := x10_3.lt; omega
                     rw [← hg] at x11_4 ⊢
                     clear hw hg hc
                     refine hK.out _ _ (KS.out _ hb_4) (fun hHeld => ?_)
                     clear hK K
                     (try simp only [Act.put, List.setIfInBounds_toArray, List.set_cons_zero, List.set_cons_succ])
                     refine wpAnyH_ready (rs := [21]) (by kernel_rfl) (by simp) ?_
                     refine consL rfl (fun K hK => ?_) ?_
                     ·
                      obtain ⟨c0, c1, c2⟩ := agg_cells x10_4
                      have z0 := x10_4.free 0; have z1 := x10_4.free 1; have z2 := x10_4.free 2
                      go_simp
                      obtain ⟨wq5, hw⟩ : ∃ w', w' = ((wq4.setCell ⟨g10, 0, none⟩ (.slice a1 L1 cap1)).setCell ⟨g10, 1, none⟩ (.int .i64 t1)).setCell ⟨g10, 2, none⟩ (.int .i64 k1) := ⟨_, rfl⟩
                      have x10_5 := x10_4.set3 (.slice a1 L1 cap1) (.int .i64 t1) (.int .i64 k1)
                      have x11_5 := blk_set3 x11_4 ne1 (.slice a1 L1 cap1) (.int .i64 t1) (.int .i64 k1)
                      have o_5 := Go.Proofs.Ytmecaioklmkdlaa.Ss.OwnS.setN (Go.Proofs.Ytmecaioklmkdlaa.Ss.OwnS.setN (Go.Proofs.Ytmecaioklmkdlaa.Ss.OwnS.setN o_4 (i := 0) (u := .slice a1 L1 cap1) n10) (i := 1) (u := .int .i64 t1) n10) (i := 2) (u := .int .i64 k1) n10
                      have hb_5 := below_set3 hb_4 le10 (.slice a1 L1 cap1) (.int .i64 t1) (.int .i64 k1)
                      rw [← hw] at x10_5 x11_5 o_5 hb_5 ⊢
                      clear hw c0 c1 c2 z0 z1 z2
                      refine hK.out _ _ (KS.out _ hb_5) (fun hHeld => ?_)
                      clear hK K
                      (try simp only [Act.put, List.setIfInBounds_toArray, List.set_cons_zero, List.set_cons_succ])
                      refine wpAnyH_ready (rs := [22]) (by kernel_rfl) (by simp) ?_
                      refine consL rfl (fun K hK => ?_) ?_
                      ·
                       obtain ⟨c0, c1, c2, c3⟩ := fm_cells x11_5
                       have z0 := x11_5.free 0; have z1 := x11_5.free 1; have z2 := x11_5.free 2; have z3 := x11_5.free 3
                       go_simp
                       obtain ⟨wq6, hw⟩ : ∃ w', w' = (((wq5.setCell ⟨g11, 0, none⟩ (.int .i64 f1)).setCell ⟨g11, 1, none⟩ (.int .i64 f2)).setCell ⟨g11, 2, none⟩ (.int .i64 f3)).setCell ⟨g11, 3, none⟩ (.string f4) := ⟨_, rfl⟩
                       have x10_6 := blk_set4 x10_5 (fun e => ne1 e.symm) (.int .i64 f1) (.int .i64 f2) (.int .i64 f3) (.string f4)
                       have x11_6 := x11_5.set4 (.int .i64 f1) (.int .i64 f2) (.int .i64 f3) (.string f4)
                       have o_6 := Go.Proofs.Ytmecaioklmkdlaa.Ss.OwnS.setN (Go.Proofs.Ytmecaioklmkdlaa.Ss.OwnS.setN (Go.Proofs.Ytmecaioklmkdlaa.Ss.OwnS.setN (Go.Proofs.Ytmecaioklmkdlaa.Ss.OwnS.setN o_5 (i := 0) (u := .int .i64 f1) n11) (i := 1) (u := .int .i64 f2) n11) (i := 2) (u := .int .i64 f3) n11) (i := 3) (u := .string f4) n11
                       have hb_6 := below_set4 hb_5 le11 (.int .i64 f1) (.int .i64 f2) (.int .i64 f3) (.string f4)
                       rw [← hw] at x10_6 x11_6 o_6 hb_6 ⊢
                       clear hw c0 c1 c2 c3 z0 z1 z2 z3
                       refine hK.out _ _ (KS.out _ hb_6) (fun hHeld => ?_)
                       clear hK K
                       (try simp only [Act.put, List.setIfInBounds_toArray, List.set_cons_zero, List.set_cons_succ])
                       refine takeL (i := 23) (v := .int .i64 E1) rfl (Or.inl ⟨by rfl, ?_⟩) hHeld ?_
                       · intro w hSw; (try dsimp only at hSw); go_simp
                       (try simp only [Act.put, List.setIfInBounds_toArray, List.set_cons_zero, List.set_cons_succ])
                       refine wpAnyH_done (by kernel_rfl) ?_ _
                       refine NoPanic.normal ?_
                       go_wp2_with fail
                       go_meet
                       case rel => exact ⟨g10, g11, a1, cap1, rfl, rfl, rfl, Lib.hid x10_6, Lib.hid x11_6, Lib.hid o_6, Lib.hid hb_6, le10, le11, ne1, n10, n11⟩
                      exact AllReadyH.nil
                     exact AllReadyH.nil
                    exact AllReadyH.nil
                   refine consL rfl (fun K hK => ?_) ?_
                   ·
                    go_simp
                    obtain ⟨x11_3, hc⟩ := box_new wq2 #[.int .i64 0, .int .i64 0, .int .i64 0, .string em] 27
                    obtain ⟨g11, hg⟩ : ∃ g, g = wq2.heap.size := ⟨_, rfl⟩
                    obtain ⟨wq3, hw⟩ : ∃ w', w' = wq2.alloc (.cells #[.int .i64 0, .int .i64 0, .int .i64 0, .string em] 27) := ⟨_, rfl⟩
                    rw [← hw] at x11_3 hc ⊢
                    have hb_3 := hb_2.trans (hc.mono hb_2.size)
                    have x10_3 := x10_2.keep hc
                    have le11 : w2.heap.size ≤ g11 := by rw [hg]; exact hb_2.size
                    have ne1 : g10 ≠ g11 := by have := x10_2.lt; omega
                    rw [← hg] at x11_3 ⊢
                    clear hw hg hc
                    refine hK.out _ _ (KS.out _ hb_3) (fun hHeld => ?_)
                    clear hK K
                    (try simp only [Act.put, List.setIfInBounds_toArray, List.set_cons_zero, List.set_cons_succ])
                    refine wpAnyH_ready (rs := [14]) (by kernel_rfl) (by simp) ?_
                    refine consL rfl (fun K hK => ?_) ?_
                    ·
                     go_simp
                     go_at_call 10
                     refine (HSD.out wq3 hb_3).mono ?_
                     rintro e wq4 ⟨v1, rfl, o_4, hc⟩
                     obtain ⟨a1, cap1, rfl, -⟩ := o_4.has
                     rw [HL1.out] at o_4 ⊢
                     have hb_4 := hb_3.trans (hc.mono hb_3.size)
                     have x10_4 := x10_3.keep hc
                     have x11_4 := x11_3.keep hc
                     have n10 : ∀ r, (Value.slice a1 L1 cap1).ownBlock = some r → r ≠ g10 := fun r hr => by have := (o_4.lt r hr).1; have := x10_3.lt; omega
                     have n11 : ∀ r, (Value.slice a1 L1 cap1).ownBlock = some r → r ≠ g11 := fun r hr => by have := (o_4.lt r hr).1; have := x11_3.lt; omega
                     replace o_4 := o_4.low hb_3.size
                     clear hc
                     refine hK.out _ _ (KS.out _ hb_4) (fun hHeld => ?_)
                     clear hK K
                     (try simp only [Act.put, List.setIfInBounds_toArray, List.set_cons_zero, List.set_cons_succ])
                     refine takeL (i := 15) (v := .tuple #[.agg #[.slice a1 L1 cap1, .int .i64 t1, .int .i64 k1], .agg #[.int .i64 f1, .int .i64 f2, .int .i64 f3, .string f4], .int .i64 E1]) rfl (Or.inl ⟨by rfl, ?_⟩) hHeld ?_
                     · intro w hSw; (try dsimp only at hSw); go_simp
                     (try simp only [Act.put, List.setIfInBounds_toArray, List.set_cons_zero, List.set_cons_succ])
                     refine takeL (i := 16) (v := .agg #[.slice a1 L1 cap1, .int .i64 t1, .int .i64 k1]) rfl (Or.inl ⟨by rfl, ?_⟩) hHeld ?_
                     · intro w hSw; (try dsimp only at hSw); go_simp
                     (try simp only [Act.put, List.setIfInBounds_toArray, List.set_cons_zero, List.set_cons_succ])
                     refine takeL (i := 17) (v := .agg #[.int .i64 f1, .int .i64 f2, .int .i64 f3, .string f4]) rfl (Or.inl ⟨by rfl, ?_⟩) hHeld ?_
                     · intro w hSw; (try dsimp only at hSw); go_simp
                     (try simp only [Act.put, List.setIfInBounds_toArray, List.set_cons_zero, List.set_cons_succ])
                     refine takeL (i := 18) (v := .int .i64 E1) rfl (Or.inl ⟨by rfl, ?_⟩) hHeld ?_
                     · intro w hSw; (try dsimp only at hSw); go_simp
                     (try simp only [Act.put, List.setIfInBounds_toArray, List.set_cons_zero, List.set_cons_succ])
                     refine wpAnyH_ready (rs := [21]) (by kernel_rfl) (by simp) ?_
                     refine consL rfl (fun K hK => ?_) ?_
                     ·
                      obtain ⟨c0, c1, c2⟩ := agg_cells x10_4
                      have z0 := x10_4.free 0; have z1 := x10_4.free 1; have z2 := x10_4.free 2
                      go_simp
                      obtain ⟨wq5, hw⟩ : ∃ w', w' = ((wq4.setCell ⟨g10, 0, none⟩ (.slice a1 L1 cap1)).setCell ⟨g10, 1, none⟩ (.int .i64 t1)).setCell ⟨g10, 2, none⟩ (.int .i64 k1) := ⟨_, rfl⟩
                      have x10_5 := x10_4.set3 (.slice a1 L1 cap1) (.int .i64 t1) (.int .i64 k1)
                      have x11_5 := blk_set3 x11_4 ne1 (.slice a1 L1 cap1) (.int .i64 t1) (.int .i64 k1)
                      have o_5 := Go.Proofs.Ytmecaioklmkdlaa.Ss.OwnS.setN (Go.Proofs.Ytmecaioklmkdlaa.Ss.OwnS.setN (Go.Proofs.Ytmecaioklmkdlaa.Ss.OwnS.setN o_4 (i := 0) (u := .slice a1 L1 cap1) n10) (i := 1) (u := .int .i64 t1) n10) (i := 2) (u := .int .i64 k1) n10
                      have hb_5 := below_set3 hb_4 le10 (.slice a1 L1 cap1) (.int .i64 t1) (.int .i64 k1)
                      rw [← hw] at x10_5 x11_5 o_5 hb_5 ⊢
                      clear hw c0 c1 c2 z0 z1 z2
                      refine hK.out _ _ (KS.out _ hb_5) (fun hHeld => ?_)
                      clear hK K
                      (try simp only [Act.put, List.setIfInBounds_toArray, List.set_cons_zero, List.set_cons_succ])
                      refine wpAnyH_ready (rs := [22]) (by kernel_rfl) (by simp) ?_
                      refine consL rfl (fun K hK => ?_) ?_
                      ·
                       obtain ⟨c0, c1, c2, c3⟩ := fm_cells x11_5
                       have z0 := x11_5.free 0; have z1 := x11_5.free 1; have z2 := x11_5.free 2; have z3 := x11_5.free 3
                       go_simp
                       obtain ⟨wq6, hw⟩ : ∃ w', w' = (((wq5.setCell ⟨g11, 0, none⟩ (.int .i64 f1)).setCell ⟨g11, 1, none⟩ (.int .i64 f2)).setCell ⟨g11, 2, none⟩ (.int .i64 f3)).setCell ⟨g11, 3, none⟩ (.string f4) := ⟨_, rfl⟩
                       have x10_6 := blk_set4 x10_5 (fun e => ne1 e.symm) (.int .i64 f1) (.int .i64 f2) (.int .i64 f3) (.string f4)
                       have x11_6 := x11_5.set4 (.int .i64 f1) (.int .i64 f2) (.int .i64 f3) (.string f4)
                       have o_6 := Go.Proofs.Ytmecaioklmkdlaa.Ss.OwnS.setN (Go.Proofs.Ytmecaioklmkdlaa.Ss.OwnS.setN (Go.Proofs.Ytmecaioklmkdlaa.Ss.OwnS.setN (Go.Proofs.Ytmecaioklmkdlaa.Ss.OwnS.setN o_5 (i := 0) (u := .int .i64 f1) n11) (i := 1) (u := .int .i64 f2) n11) (i := 2) (u := .int .i64 f3) n11) (i := 3) (u := .string f4) n11
                       have hb_6 := below_set4 hb_5 le11 (.int .i64 f1) (.int .i64 f2) (.int .i64 f3) (.string f4)
                       rw [← hw] at x10_6 x11_6 o_6 hb_6 ⊢
                       clear hw c0 c1 c2 c3 z0 z1 z2 z3
                       refine hK.out _ _ (KS.out _ hb_6) (fun hHeld => ?_)
                       clear hK K
                       (try simp only [Act.put, List.setIfInBounds_toArray, List.set_cons_zero, List.set_cons_succ])
                       refine takeL (i := 23) (v := .int .i64 E1) rfl (Or.inl ⟨by rfl, ?_⟩) hHeld ?_
                       · intro w hSw; (try dsimp only at hSw); go_simp
                       (try simp only [Act.put, List.setIfInBounds_toArray, List.set_cons_zero, List.set_cons_succ])
                       refine wpAnyH_done (by kernel_rfl) ?_ _
                       refine NoPanic.normal ?_
                       go_wp2_with fail
                       go_meet
                       case rel => exact ⟨g10, g11, a1, cap1, rfl, rfl, rfl, Lib.hid x10_6, Lib.hid x11_6, Lib.hid o_6, Lib.hid hb_6, le10, le11, ne1, n10, n11⟩
                      exact AllReadyH.nil
                     exact AllReadyH.nil
                    exact AllReadyH.nil
                   exact AllReadyH.nil
                  refine consL rfl (fun K hK => ?_) ?_
                  ·
                   go_simp
                   obtain ⟨x11_3, hc⟩ := box_new wq2 #[.int .i64 0, .int .i64 0, .int .i64 0, .string em] 27
                   obtain ⟨g11, hg⟩ : ∃ g, g = wq2.heap.size := ⟨_, rfl⟩
                   obtain ⟨wq3, hw⟩ : ∃ w', w' = wq2.alloc (.cells #[.int .i64 0, .int .i64 0, .int .i64 0, .string em] 27) := ⟨_, rfl⟩
                   rw [← hw] at x11_3 hc ⊢
                   have hb_3 := hb_2.trans (hc.mono hb_2.size)
                   have xp_3 := xp_2.keep hc
                   have x10_3 := x10_2.keep hc
                   have le11 : w2.heap.size ≤ g11 := by rw [hg]; exact hb_2.size
                   have ne1 : g10 ≠ g11 := by have := x10_2.lt; omega
                   rw [← hg] at x11_3 ⊢
                   clear hw hg hc
                   refine hK.out _ _ (KS.out _ hb_3) (fun hHeld => ?_)
                   clear hK K
                   (try simp only [Act.put, List.setIfInBounds_toArray, List.set_cons_zero, List.set_cons_succ])
                   refine wpAnyH_ready (rs := [13]) (by kernel_rfl) (by simp) ?_
                   refine consL rfl (fun K hK => ?_) ?_
                   ·
                    have kc := conv2 xp_3
                    rw [HTX.out] at kc
                    go_simp
                    clear kc
                    refine hK.out _ _ (KS.out _ hb_3) (fun hHeld => ?_)
                    clear hK K xp_3
                    (try simp only [Act.put, List.setIfInBounds_toArray, List.set_cons_zero, List.set_cons_succ])
                    refine wpAnyH_ready (rs := [14]) (by kernel_rfl) (by simp) ?_
                    refine consL rfl (fun K hK => ?_) ?_
                    ·
                     go_simp
                     go_at_call 10
                     refine (HSD.out wq3 hb_3).mono ?_
                     rintro e wq4 ⟨v1, rfl, o_4, hc⟩
                     obtain ⟨a1, cap1, rfl, -⟩ := o_4.has
                     rw [HL1.out] at o_4 ⊢
                     have hb_4 := hb_3.trans (hc.mono hb_3.size)
                     have x10_4 := x10_3.keep hc
                     have x11_4 := x11_3.keep hc
                     have n10 : ∀ r, (Value.slice a1 L1 cap1).ownBlock = some r → r ≠ g10 := fun r hr => by have := (o_4.lt r hr).1; have := x10_3.lt; omega
                     have n11 : ∀ r, (Value.slice a1 L1 cap1).ownBlock = some r → r ≠ g11 := fun r hr => by have := (o_4.lt r hr).1; have := x11_3.lt; omega
                     replace o_4 := o_4.low hb_3.size
                     clear hc
                     refine hK.out _ _ (KS.out _ hb_4) (fun hHeld => ?_)
                     clear hK K
                     (try simp only [Act.put, List.setIfInBounds_toArray, List.set_cons_zero, List.set_cons_succ])
                     refine takeL (i := 15) (v := .tuple #[.agg #[.slice a1 L1 cap1, .int .i64 t1, .int .i64 k1], .agg #[.int .i64 f1, .int .i64 f2, .int .i64 f3, .string f4], .int .i64 E1]) rfl (Or.inl ⟨by rfl, ?_⟩) hHeld ?_
                     · intro w hSw; (try dsimp only at hSw); go_simp
                     (try simp only [Act.put, List.setIfInBounds_toArray, List.set_cons_zero, List.set_cons_succ])
                     refine takeL (i := 16) (v := .agg #[.slice a1 L1 cap1, .int .i64 t1, .int .i64 k1]) rfl (Or.inl ⟨by rfl, ?_⟩) hHeld ?_
                     · intro w hSw; (try dsimp only at hSw); go_simp
                     (try simp only [Act.put, List.setIfInBounds_toArray, List.set_cons_zero, List.set_cons_succ])
                     refine takeL (i := 17) (v := .agg #[.int .i64 f1, .int .i64 f2, .int .i64 f3, .string f4]) rfl (Or.inl ⟨by rfl, ?_⟩) hHeld ?_
                     · intro w hSw; (try dsimp only at hSw); go_simp
                     (try simp only [Act.put, List.setIfInBounds_toArray, List.set_cons_zero, List.set_cons_succ])
                     refine takeL (i := 18) (v := .int .i64 E1) rfl (Or.inl ⟨by rfl, ?_⟩) hHeld ?_
                     · intro w hSw; (try dsimp only at hSw); go_simp
                     (try simp only [Act.put, List.setIfInBounds_toArray, List.set_cons_zero, List.set_cons_succ])
                     refine wpAnyH_ready (rs := [21]) (by kernel_rfl) (by simp) ?_
                     refine consL rfl (fun K hK => ?_) ?_
                     ·
                      obtain ⟨c0, c1, c2⟩ := agg_cells x10_4
                      have z0 := x10_4.free 0; have z1 := x10_4.free 1; have z2 := x10_4.free 2
                      go_simp
                      obtain ⟨wq5, hw⟩ : ∃ w', w' = ((wq4.setCell ⟨g10, 0, none⟩ (.slice a1 L1 cap1)).setCell ⟨g10, 1, none⟩ (.int .i64 t1)).setCell ⟨g10, 2, none⟩ (.int .i64 k1) := ⟨_, rfl⟩
                      have x10_5 := x10_4.set3 (.slice a1 L1 cap1) (.int .i64 t1) (.int .i64 k1)
                      have x11_5 := blk_set3 x11_4 ne1 (.slice a1 L1 cap1) (.int .i64 t1) (.int .i64 k1)
                      have o_5 := Go.Proofs.Ytmecaioklmkdlaa.Ss.OwnS.setN (Go.Proofs.Ytmecaioklmkdlaa.Ss.OwnS.setN (Go.Proofs.Ytmecaioklmkdlaa.Ss.OwnS.setN o_4 (i := 0) (u := .slice a1 L1 cap1) n10) (i := 1) (u := .int .i64 t1) n10) (i := 2) (u := .int .i64 k1) n10
                      have hb_5 := below_set3 hb_4 le10 (.slice a1 L1 cap1) (.int .i64 t1) (.int .i64 k1)
                      rw [← hw] at x10_5 x11_5 o_5 hb_5 ⊢
                      clear hw c0 c1 c2 z0 z1 z2
                      refine hK.out _ _ (KS.out _ hb_5) (fun hHeld => ?_)
                      clear hK K
                      (try simp only [Act.put, List.setIfInBounds_toArray, List.set_cons_zero, List.set_cons_succ])
                      refine wpAnyH_ready (rs := [22]) (by kernel_rfl) (by simp) ?_
                      refine consL rfl (fun K hK => ?_) ?_
                      ·
                       obtain ⟨c0, c1, c2, c3⟩ := fm_cells x11_5
                       have z0 := x11_5.free 0; have z1 := x11_5.free 1; have z2 := x11_5.free 2; have z3 := x11_5.free 3
                       go_simp
                       obtain ⟨wq6, hw⟩ : ∃ w', w' = (((wq5.setCell ⟨g11, 0, none⟩ (.int .i64 f1)).setCell ⟨g11, 1, none⟩ (.int .i64 f2)).setCell ⟨g11, 2, none⟩ (.int .i64 f3)).setCell ⟨g11, 3, none⟩ (.string f4) := ⟨_, rfl⟩
                       have x10_6 := blk_set4 x10_5 (fun e => ne1 e.symm) (.int .i64 f1) (.int .i64 f2) (.int .i64 f3) (.string f4)
                       have x11_6 := x11_5.set4 (.int .i64 f1) (.int .i64 f2) (.int .i64 f3) (.string f4)
                       have o_6 := Go.Proofs.Ytmecaioklmkdlaa.Ss.OwnS.setN (Go.Proofs.Ytmecaioklmkdlaa.Ss.OwnS.setN (Go.Proofs.Ytmecaioklmkdlaa.Ss.OwnS.setN (Go.Proofs.Ytmecaioklmkdlaa.Ss.OwnS.setN o_5 (i := 0) (u := .int .i64 f1) n11) (i := 1) (u := .int .i64 f2) n11) (i := 2) (u := .int .i64 f3) n11) (i := 3) (u := .string f4) n11
                       have hb_6 := below_set4 hb_5 le11 (.int .i64 f1) (.int .i64 f2) (.int .i64 f3) (.string f4)
                       rw [← hw] at x10_6 x11_6 o_6 hb_6 ⊢
                       clear hw c0 c1 c2 c3 z0 z1 z2 z3
                       refine hK.out _ _ (KS.out _ hb_6) (fun hHeld => ?_)
                       clear hK K
                       (try simp only [Act.put, List.setIfInBounds_toArray, List.set_cons_zero, List.set_cons_succ])
                       refine takeL (i := 23) (v := .int .i64 E1) rfl (Or.inl ⟨by rfl, ?_⟩) hHeld ?_
                       · intro w hSw; (try dsimp only at hSw); go_simp
                       (try simp only [Act.put, List.setIfInBounds_toArray, List.set_cons_zero, List.set_cons_succ])
                       refine wpAnyH_done (by kernel_rfl) ?_ _
                       refine NoPanic.normal ?_
                       go_wp2_with fail
                       go_meet
                       case rel => exact ⟨g10, g11, a1, cap1, rfl, rfl, rfl, Lib.hid x10_6, Lib.hid x11_6, Lib.hid o_6, Lib.hid hb_6, le10, le11, ne1, n10, n11⟩
                      exact AllReadyH.nil
                     exact AllReadyH.nil
                    exact AllReadyH.nil
                   exact AllReadyH.nil
                  exact AllReadyH.nil
                 refine consL rfl (fun K hK => ?_) ?_
                 ·
                  go_simp
                  obtain ⟨x11_2, hc⟩ := box_new wq1 #[.int .i64 0, .int .i64 0, .int .i64 0, .string em] 27
                  obtain ⟨g11, hg⟩ : ∃ g, g = wq1.heap.size := ⟨_, rfl⟩
                  obtain ⟨wq2, hw⟩ : ∃ w', w' = wq1.alloc (.cells #[.int .i64 0, .int .i64 0, .int .i64 0, .string em] 27) := ⟨_, rfl⟩
                  rw [← hw] at x11_2 hc ⊢
                  have hb_2 := hb_1.trans (hc.mono hb_1.size)
                  have xp_2 := xp_1.keep hc
                  have le11 : w2.heap.size ≤ g11 := by rw [hg]; exact hb_1.size
                  rw [← hg] at x11_2 ⊢
                  clear hw hg hc
                  refine hK.out _ _ (KS.out _ hb_2) (fun hHeld => ?_)
                  clear hK K
                  (try simp only [Act.put, List.setIfInBounds_toArray, List.set_cons_zero, List.set_cons_succ])
                  refine wpAnyH_ready (rs := [13, 19]) (by kernel_rfl) (by simp) ?_
                  refine consL rfl (fun K hK => ?_) ?_
                  ·
                   have kc := conv2 xp_2
                   rw [HTX.out] at kc
                   go_simp
                   clear kc
                   refine hK.out _ _ (KS.out _ hb_2) (fun hHeld => ?_)
                   clear hK K xp_2
                   (try simp only [Act.put, List.setIfInBounds_toArray, List.set_cons_zero, List.set_cons_succ])
                   refine wpAnyH_ready (rs := [14, 19]) (by kernel_rfl) (by simp) ?_
                   refine consL rfl (fun K hK => ?_) ?_
                   ·
                    go_simp
                    go_at_call 10
                    refine (HSD.out wq2 hb_2).mono ?_
                    rintro e wq3 ⟨v1, rfl, o_3, hc⟩
                    obtain ⟨a1, cap1, rfl, -⟩ := o_3.has
                    rw [HL1.out] at o_3 ⊢
                    have hb_3 := hb_2.trans (hc.mono hb_2.size)
                    have x11_3 := x11_2.keep hc
                    have n11 : ∀ r, (Value.slice a1 L1 cap1).ownBlock = some r → r ≠ g11 := fun r hr => by have := (o_3.lt r hr).1; have := x11_2.lt; omega
                    replace o_3 := o_3.low hb_2.size
                    clear hc
                    refine hK.out _ _ (KS.out _ hb_3) (fun hHeld => ?_)
                    clear hK K
                    (try simp only [Act.put, List.setIfInBounds_toArray, List.set_cons_zero, List.set_cons_succ])
                    refine takeL (i := 15) (v := .tuple #[.agg #[.slice a1 L1 cap1, .int .i64 t1, .int .i64 k1], .agg #[.int .i64 f1, .int .i64 f2, .int .i64 f3, .string f4], .int .i64 E1]) rfl (Or.inl ⟨by rfl, ?_⟩) hHeld ?_
                    · intro w hSw; (try dsimp only at hSw); go_simp
                    (try simp only [Act.put, List.setIfInBounds_toArray, List.set_cons_zero, List.set_cons_succ])
                    refine takeL (i := 16) (v := .agg #[.slice a1 L1 cap1, .int .i64 t1, .int .i64 k1]) rfl (Or.inl ⟨by rfl, ?_⟩) hHeld ?_
                    · intro w hSw; (try dsimp only at hSw); go_simp
                    (try simp only [Act.put, List.setIfInBounds_toArray, List.set_cons_zero, List.set_cons_succ])
                    refine takeL (i := 17) (v := .agg #[.int .i64 f1, .int .i64 f2, .int .i64 f3, .string f4]) rfl (Or.inl ⟨by rfl, ?_⟩) hHeld ?_
                    · intro w hSw; (try dsimp only at hSw); go_simp
                    (try simp only [Act.put, List.setIfInBounds_toArray, List.set_cons_zero, List.set_cons_succ])
                    refine takeL (i := 18) (v := .int .i64 E1) rfl (Or.inl ⟨by rfl, ?_⟩) hHeld ?_
                    · intro w hSw; (try dsimp only at hSw); go_simp
                    (try simp only [Act.put, List.setIfInBounds_toArray, List.set_cons_zero, List.set_cons_succ])
                    refine wpAnyH_ready (rs := [19]) (by kernel_rfl) (by simp) ?_
                    refine consL rfl (fun K hK => ?_) ?_
                    ·
                     go_simp
                     obtain ⟨x10_4, hc⟩ := box_new wq3 #[.slice none 0 0, .int .i64 0, .int .i64 0] 24
                     obtain ⟨g10, hg⟩ : ∃ g, g = wq3.heap.size := ⟨_, rfl⟩
                     obtain ⟨wq4, hw⟩ : ∃ w', w' = wq3.alloc (.cells #[.slice none 0 0, .int .i64 0, .int .i64 0] 24) := ⟨_, rfl⟩
                     rw [← hw] at x10_4 hc ⊢
                     have hb_4 := hb_3.trans (hc.mono hb_3.size)
                     have x11_4 := x11_3.keep hc
                     have o_4 := o_3.keep hc
                     have le10 : w2.heap.size ≤ g10 := by rw [hg]; exact hb_3.size
                     have n10 : ∀ r, (Value.slice a1 L1 cap1).ownBlock = some r → r ≠ g10 := fun r hr => by have := (o_3.lt r hr).2; omega
                     have ne1 : g10 ≠ g11 := by have := x11_3.lt; omega
                     rw [← hg] at x10_4 ⊢
                     clear hw hg hc
                     refine hK.out _ _ (KS.out _ hb_4) (fun hHeld => ?_)
                     clear hK K
                     (try simp only [Act.put, List.setIfInBounds_toArray, List.set_cons_zero, List.set_cons_succ])
                     refine wpAnyH_ready (rs := [21]) (by kernel_rfl) (by simp) ?_
                     refine consL rfl (fun K hK => ?_) ?_
                     ·
                      obtain ⟨c0, c1, c2⟩ := agg_cells x10_4
                      have z0 := x10_4.free 0; have z1 := x10_4.free 1; have z2 := x10_4.free 2
                      go_simp
                      obtain ⟨wq5, hw⟩ : ∃ w', w' = ((wq4.setCell ⟨g10, 0, none⟩ (.slice a1 L1 cap1)).setCell ⟨g10, 1, none⟩ (.int .i64 t1)).setCell ⟨g10, 2, none⟩ (.int .i64 k1) := ⟨_, rfl⟩
                      have x10_5 := x10_4.set3 (.slice a1 L1 cap1) (.int .i64 t1) (.int .i64 k1)
                      have x11_5 := blk_set3 x11_4 ne1 (.slice a1 L1 cap1) (.int .i64 t1) (.int .i64 k1)
                      have o_5 := Go.Proofs.Ytmecaioklmkdlaa.Ss.OwnS.setN (Go.Proofs.Ytmecaioklmkdlaa.Ss.OwnS.setN (Go.Proofs.Ytmecaioklmkdlaa.Ss.OwnS.setN o_4 (i := 0) (u := .slice a1 L1 cap1) n10) (i := 1) (u := .int .i64 t1) n10) (i := 2) (u := .int .i64 k1) n10
                      have hb_5 := below_set3 hb_4 le10 (.slice a1 L1 cap1) (.int .i64 t1) (.int .i64 k1)
                      rw [← hw] at x10_5 x11_5 o_5 hb_5 ⊢
                      clear hw c0 c1 c2 z0 z1 z2
                      refine hK.out _ _ (KS.out _ hb_5) (fun hHeld => ?_)
                      clear hK K
                      (try simp only [Act.put, List.setIfInBounds_toArray, List.set_cons_zero, List.set_cons_succ])
                      refine wpAnyH_ready (rs := [22]) (by kernel_rfl) (by simp) ?_
                      refine consL rfl (fun K hK => ?_) ?_
                      ·
                       obtain ⟨c0, c1, c2, c3⟩ := fm_cells x11_5
                       have z0 := x11_5.free 0; have z1 := x11_5.free 1; have z2 := x11_5.free 2; have z3 := x11_5.free 3
                       go_simp
                       obtain ⟨wq6, hw⟩ : ∃ w', w' = (((wq5.setCell ⟨g11, 0, none⟩ (.int .i64 f1)).setCell ⟨g11, 1, none⟩ (.int .i64 f2)).setCell ⟨g11, 2, none⟩ (.int .i64 f3)).setCell ⟨g11, 3, none⟩ (.string f4) := ⟨_, rfl⟩
                       have x10_6 := blk_set4 x10_5 (fun e => ne1 e.symm) (.int .i64 f1) (.int .i64 f2) (.int .i64 f3) (.string f4)
                       have x11_6 := x11_5.set4 (.int .i64 f1) (.int .i64 f2) (.int .i64 f3) (.string f4)
                       have o_6 := Go.Proofs.Ytmecaioklmkdlaa.Ss.OwnS.setN (Go.Proofs.Ytmecaioklmkdlaa.Ss.OwnS.setN (Go.Proofs.Ytmecaioklmkdlaa.Ss.OwnS.setN (Go.Proofs.Ytmecaioklmkdlaa.Ss.OwnS.setN o_5 (i := 0) (u := .int .i64 f1) n11) (i := 1) (u := .int .i64 f2) n11) (i := 2) (u := .int .i64 f3) n11) (i := 3) (u := .string f4) n11
                       have hb_6 := below_set4 hb_5 le11 (.int .i64 f1) (.int .i64 f2) (.int .i64 f3) (.string f4)
                       rw [← hw] at x10_6 x11_6 o_6 hb_6 ⊢
                       clear hw c0 c1 c2 c3 z0 z1 z2 z3
                       refine hK.out _ _ (KS.out _ hb_6) (fun hHeld => ?_)
                       clear hK K
                       (try simp only [Act.put, List.setIfInBounds_toArray, List.set_cons_zero, List.set_cons_succ])
                       refine takeL (i := 23) (v := .int .i64 E1) rfl (Or.inl ⟨by rfl, ?_⟩) hHeld ?_
                       · intro w hSw; (try dsimp only at hSw); go_simp
                       (try simp only [Act.put, List.setIfInBounds_toArray, List.set_cons_zero, List.set_cons_succ])
                       refine wpAnyH_done (by kernel_rfl) ?_ _
                       refine NoPanic.normal ?_
                       go_wp2_with fail
                       go_meet
                       case rel => exact ⟨g10, g11, a1, cap1, rfl, rfl, rfl, Lib.hid x10_6, Lib.hid x11_6, Lib.hid o_6, Lib.hid hb_6, le10, le11, ne1, n10, n11⟩
                      exact AllReadyH.nil
                     exact AllReadyH.nil
                    exact AllReadyH.nil
                   refine consL rfl (fun K hK => ?_) ?_
                   ·
                    go_simp
                    obtain ⟨x10_3, hc⟩ := box_new wq2 #[.slice none 0 0, .int .i64 0, .int .i64 0] 24
                    obtain ⟨g10, hg⟩ : ∃ g, g = wq2.heap.size := ⟨_, rfl⟩
                    obtain ⟨wq3, hw⟩ : ∃ w', w' = wq2.alloc (.cells #[.slice none 0 0, .int .i64 0, .int .i64 0] 24) := ⟨_, rfl⟩
                    rw [← hw] at x10_3 hc ⊢
                    have hb_3 := hb_2.trans (hc.mono hb_2.size)
                    have x11_3 := x11_2.keep hc
                    have le10 : w2.heap.size ≤ g10 := by rw [hg]; exact hb_2.size
                    have ne1 : g10 ≠ g11 := by have := x11_2.lt; omega
                    rw [← hg] at x10_3 ⊢
                    clear hw hg hc
                    refine hK.out _ _ (KS.out _ hb_3) (fun hHeld => ?_)
                    clear hK K
                    (try simp only [Act.put, List.setIfInBounds_toArray, List.set_cons_zero, List.set_cons_succ])
                    refine wpAnyH_ready (rs := [14]) (by kernel_rfl) (by simp) ?_
                    refine consL rfl (fun K hK => ?_) ?_
                    ·
                     go_simp
                     go_at_call 10
                     refine (HSD.out wq3 hb_3).mono ?_
                     rintro e wq4 ⟨v1, rfl, o_4, hc⟩
                     obtain ⟨a1, cap1, rfl, -⟩ := o_4.has
                     rw [HL1.out] at o_4 ⊢
                     have hb_4 := hb_3.trans (hc.mono hb_3.size)
                     have x11_4 := x11_3.keep hc
                     have x10_4 := x10_3.keep hc
                     have n10 : ∀ r, (Value.slice a1 L1 cap1).ownBlock = some r → r ≠ g10 := fun r hr => by have := (o_4.lt r hr).1; have := x10_3.lt; omega
                     have n11 : ∀ r, (Value.slice a1 L1 cap1).ownBlock = some r → r ≠ g11 := fun r hr => by have := (o_4.lt r hr).1; have := x11_3.lt; omega
                     replace o_4 := o_4.low hb_3.size
                     clear hc
                     refine hK.out _ _ (KS.out _ hb_4) (fun hHeld => ?_)
                     clear hK K
                     (try simp only [Act.put, List.setIfInBounds_toArray, List.set_cons_zero, List.set_cons_succ])
                     refine takeL (i := 15) (v := .tuple #[.agg #[.slice a1 L1 cap1, .int .i64 t1, .int .i64 k1], .agg #[.int .i64 f1, .int .i64 f2, .int .i64 f3, .string f4], .int .i64 E1]) rfl (Or.inl ⟨by rfl, ?_⟩) hHeld ?_
                     · intro w hSw; (try dsimp only at hSw); go_simp
                     (try simp only [Act.put, List.setIfInBounds_toArray, List.set_cons_zero, List.set_cons_succ])
                     refine takeL (i := 16) (v := .agg #[.slice a1 L1 cap1, .int .i64 t1, .int .i64 k1]) rfl (Or.inl ⟨by rfl, ?_⟩) hHeld ?_
                     · intro w hSw; (try dsimp only at hSw); go_simp
                     (try simp only [Act.put, List.setIfInBounds_toArray, List.set_cons_zero, List.set_cons_succ])
                     refine takeL (i := 17) (v := .agg #[.int .i64 f1, .int .i64 f2, .int .i64 f3, .string f4]) rfl (Or.inl ⟨by rfl, ?_⟩) hHeld ?_
                     · intro w hSw; (try dsimp only at hSw); go_simp
                     (try simp only [Act.put, List.setIfInBounds_toArray, List.set_cons_zero, List.set_cons_succ])
                     refine takeL (i := 18) (v := .int .i64 E1) rfl (Or.inl ⟨by rfl, ?_⟩) hHeld ?_
                     · intro w hSw; (try dsimp only at hSw); go_simp
                     (try simp only [Act.put, List.setIfInBounds_toArray, List.set_cons_zero, List.set_cons_succ])
                     refine wpAnyH_ready (rs := [21]) (by kernel_rfl) (by simp) ?_
                     refine consL rfl (fun K hK => ?_) ?_
                     ·
                      obtain ⟨c0, c1, c2⟩ := agg_cells x10_4
                      have z0 := x10_4.free 0; have z1 := x10_4.free 1; have z2 := x10_4.free 2
                      go_simp
                      obtain ⟨wq5, hw⟩ : ∃ w', w' = ((wq4.setCell ⟨g10, 0, none⟩ (.slice a1 L1 cap1)).setCell ⟨g10, 1, none⟩ (.int .i64 t1)).setCell ⟨g10, 2, none⟩ (.int .i64 k1) := ⟨_, rfl⟩
                      have x10_5 := x10_4.set3 (.slice a1 L1 cap1) (.int .i64 t1) (.int .i64 k1)
                      have x11_5 := blk_set3 x11_4 ne1 (.slice a1 L1 cap1) (.int .i64 t1) (.int .i64 k1)
                      have o_5 := Go.Proofs.Ytmecaioklmkdlaa.Ss.OwnS.setN (Go.Proofs.Ytmecaioklmkdlaa.Ss.OwnS.setN (Go.Proofs.Ytmecaioklmkdlaa.Ss.OwnS.setN o_4 (i := 0) (u := .slice a1 L1 cap1) n10) (i := 1) (u := .int .i64 t1) n10) (i := 2) (u := .int .i64 k1) n10
                      have hb_5 := below_set3 hb_4 le10 (.slice a1 L1 cap1) (.int .i64 t1) (.int .i64 k1)
                      rw [← hw] at x10_5 x11_5 o_5 hb_5 ⊢
                      clear hw c0 c1 c2 z0 z1 z2
                      refine hK.out _ _ (KS.out _ hb_5) (fun hHeld => ?_)
                      clear hK K
                      (try simp only [Act.put, List.setIfInBounds_toArray, List.set_cons_zero, List.set_cons_succ])
                      refine wpAnyH_ready (rs := [22]) (by kernel_rfl) (by simp) ?_
                      refine consL rfl (fun K hK => ?_) ?_
                      ·
                       obtain ⟨c0, c1, c2, c3⟩ := fm_cells x11_5
                       have z0 := x11_5.free 0; have z1 := x11_5.free 1; have z2 := x11_5.free 2; have z3 := x11_5.free 3
                       go_simp
                       obtain ⟨wq6, hw⟩ : ∃ w', w' = (((wq5.setCell ⟨g11, 0, none⟩ (.int .i64 f1)).setCell ⟨g11, 1, none⟩ (.int .i64 f2)).setCell ⟨g11, 2, none⟩ (.int .i64 f3)).setCell ⟨g11, 3, none⟩ (.string f4) := ⟨_, rfl⟩
                       have x10_6 := blk_set4 x10_5 (fun e => ne1 e.symm) (.int .i64 f1) (.int .i64 f2) (.int .i64 f3) (.string f4)
                       have x11_6 := x11_5.set4 (.int .i64 f1) (.int .i64 f2) (.int .i64 f3) (.string f4)
                       have o_6 := Go.Proofs.Ytmecaioklmkdlaa.Ss.OwnS.setN (Go.Proofs.Ytmecaioklmkdlaa.Ss.OwnS.setN (Go.Proofs.Ytmecaioklmkdlaa.Ss.OwnS.setN (Go.Proofs.Ytmecaioklmkdlaa.Ss.OwnS.setN o_5 (i := 0) (u := .int .i64 f1) n11) (i := 1) (u := .int .i64 f2) n11) (i := 2) (u := .int .i64 f3) n11) (i := 3) (u := .string f4) n11
                       have hb_6 := below_set4 hb_5 le11 (.int .i64 f1) (.int .i64 f2) (.int .i64 f3) (.string f4)
                       rw [← hw] at x10_6 x11_6 o_6 hb_6 ⊢
                       clear hw c0 c1 c2 c3 z0 z1 z2 z3
                       refine hK.out _ _ (KS.out _ hb_6) (fun hHeld => ?_)
                       clear hK K
                       (try simp only [Act.put, List.setIfInBounds_toArray, List.set_cons_zero, List.set_cons_succ])
                       refine takeL (i := 23) (v := .int .i64 E1) rfl (Or.inl ⟨by rfl, ?_⟩) hHeld ?_
                       · intro w hSw; (try dsimp only at hSw); go_simp
                       (try simp only [Act.put, List.setIfInBounds_toArray, List.set_cons_zero, List.set_cons_succ])
                       refine wpAnyH_done (by kernel_rfl) ?_ _
                       refine NoPanic.normal ?_
                       go_wp2_with fail
                       go_meet
                       case rel => exact ⟨g10, g11, a1, cap1, rfl, rfl, rfl, Lib.hid x10_6, Lib.hid x11_6, Lib.hid o_6, Lib.hid hb_6, le10, le11, ne1, n10, n11⟩
                      exact AllReadyH.nil
                     exact AllReadyH.nil
                    exact AllReadyH.nil
                   exact AllReadyH.nil
                  refine consL rfl (fun K hK => ?_) ?_
                  ·
                   go_simp
                   obtain ⟨x10_3, hc⟩ := box_new wq2 #[.slice none 0 0, .int .i64 0, .int .i64 0] 24
                   obtain ⟨g10, hg⟩ : ∃ g, g = wq2.heap.size := ⟨_, rfl⟩
                   obtain ⟨wq3, hw⟩ : ∃ w', w' = wq2.alloc (.cells #[.slice none 0 0, .int .i64 0, .int .i64 0] 24) := ⟨_, rfl⟩
                   rw [← hw] at x10_3 hc ⊢
                   have hb_3 := hb_2.trans (hc.mono hb_2.size)
                   have xp_3 := xp_2.keep hc
                   have x11_3 := x11_2.keep hc
                   have le10 : w2.heap.size ≤ g10 := by rw [hg]; exact hb_2.size
                   have ne1 : g10 ≠ g11 := by have := x11_2.lt; omega
                   rw [← hg] at x10_3 ⊢
                   clear hw hg hc
                   refine hK.out _ _ (KS.out _ hb_3) (fun hHeld => ?_)
                   clear hK K
                   (try simp only [Act.put, List.setIfInBounds_toArray, List.set_cons_zero, List.set_cons_succ])
                   refine wpAnyH_ready (rs := [13]) (by kernel_rfl) (by simp) ?_
                   refine consL rfl (fun K hK => ?_) ?_
                   ·
                    have kc := conv2 xp_3
                    rw [HTX.out] at kc
                    go_simp
                    clear kc
                    refine hK.out _ _ (KS.out _ hb_3) (fun hHeld => ?_)
                    clear hK K xp_3
                    (try simp only [Act.put, List.setIfInBounds_toArray, List.set_cons_zero, List.set_cons_succ])
                    refine wpAnyH_ready (rs := [14]) (by kernel_rfl) (by simp) ?_
                    refine consL rfl (fun K hK => ?_) ?_
                    ·
                     go_simp
                     go_at_call 10
                     refine (HSD.out wq3 hb_3).mono ?_
                     rintro e wq4 ⟨v1, rfl, o_4, hc⟩
                     obtain ⟨a1, cap1, rfl, -⟩ := o_4.has
                     rw [HL1.out] at o_4 ⊢
                     have hb_4 := hb_3.trans (hc.mono hb_3.size)
                     have x11_4 := x11_3.keep hc
                     have x10_4 := x10_3.keep hc
                     have n10 : ∀ r, (Value.slice a1 L1 cap1).ownBlock = some r → r ≠ g10 := fun r hr => by have := (o_4.lt r hr).1; have := x10_3.lt; omega
                     have n11 : ∀ r, (Value.slice a1 L1 cap1).ownBlock = some r → r ≠ g11 := fun r hr => by have := (o_4.lt r hr).1; have := x11_3.lt; omega
                     replace o_4 := o_4.low hb_3.size
                     clear hc
                     refine hK.out _ _ (KS.out _ hb_4) (fun hHeld => ?_)
                     clear hK K
                     (try simp only [Act.put, List.setIfInBounds_toArray, List.set_cons_zero, List.set_cons_succ])
                     refine takeL (i := 15) (v := .tuple #[.agg #[.slice a1 L1 cap1, .int .i64 t1, .int .i64 k1], .agg #[.int .i64 f1, .int .i64 f2, .int .i64 f3, .string f4], .int .i64 E1]) rfl (Or.inl ⟨by rfl, ?_⟩) hHeld ?_
                     · intro w hSw; (try dsimp only at hSw); go_simp
                     (try simp only [Act.put, List.setIfInBounds_toArray, List.set_cons_zero, List.set_cons_succ])
                     refine takeL (i := 16) (v := .agg #[.slice a1 L1 cap1, .int .i64 t1, .int .i64 k1]) rfl (Or.inl ⟨by rfl, ?_⟩) hHeld ?_
                     · intro w hSw; (try dsimp only at hSw); go_simp
                     (try simp only [Act.put, List.setIfInBounds_toArray, List.set_cons_zero, List.set_cons_succ])
                     refine takeL (i := 17) (v := .agg #[.int .i64 f1, .int .i64 f2, .int .i64 f3, .string f4]) rfl (Or.inl ⟨by rfl, ?_⟩) hHeld ?_
                     · intro w hSw; (try dsimp only at hSw); go_simp
                     (try simp only [Act.put, List.setIfInBounds_toArray, List.set_cons_zero, List.set_cons_succ])
                     refine takeL (i := 18) (v := .int .i64 E1) rfl (Or.inl ⟨by rfl, ?_⟩) hHeld ?_
                     · intro w hSw; (try dsimp only at hSw); go_simp
                     (try simp only [Act.put, List.setIfInBounds_toArray, List.set_cons_zero, List.set_cons_succ])
                     refine wpAnyH_ready (rs := [21]) (by kernel_rfl) (by simp) ?_
                     refine consL rfl (fun K hK => ?_) ?_
                     ·
                      obtain ⟨c0, c1, c2⟩ := agg_cells x10_4
                      have z0 := x10_4.free 0; have z1 := x10_4.free 1; have z2 := x10_4.free 2
                      go_simp
                      obtain ⟨wq5, hw⟩ : ∃ w', w' = ((wq4.setCell ⟨g10, 0, none⟩ (.slice a1 L1 cap1)).setCell ⟨g10, 1, none⟩ (.int .i64 t1)).setCell ⟨g10, 2, none⟩ (.int .i64 k1) := ⟨_, rfl⟩
                      have x10_5 := x10_4.set3 (.slice a1 L1 cap1) (.int .i64 t1) (.int .i64 k1)
                      have x11_5 := blk_set3 x11_4 ne1 (.slice a1 L1 cap1) (.int .i64 t1) (.int .i64 k1)
                      have o_5 := Go.Proofs.Ytmecaioklmkdlaa.Ss.OwnS.setN (Go.Proofs.Ytmecaioklmkdlaa.Ss.OwnS.setN (Go.Proofs.Ytmecaioklmkdlaa.Ss.OwnS.setN o_4 (i := 0) (u := .slice a1 L1 cap1) n10) (i := 1) (u := .int .i64 t1) n10) (i := 2) (u := .int .i64 k1) n10
                      have hb_5 := below_set3 hb_4 le10 (.slice a1 L1 cap1) (.int .i64 t1) (.int .i64 k1)
                      rw [← hw] at x10_5 x11_5 o_5 hb_5 ⊢
                      clear hw c0 c1 c2 z0 z1 z2
                      refine hK.out _ _ (KS.out _ hb_5) (fun hHeld => ?_)
                      clear hK K
                      (try simp only [Act.put, List.setIfInBounds_toArray, List.set_cons_zero, List.set_cons_succ])
                      refine wpAnyH_ready (rs := [22]) (by kernel_rfl) (by simp) ?_
                      refine consL rfl (fun K hK => ?_) ?_
                      ·
                       obtain ⟨c0, c1, c2, c3⟩ := fm_cells x11_5
                       have z0 := x11_5.free 0; have z1 := x11_5.free 1; have z2 := x11_5.free 2; have z3 := x11_5.free 3
                       go_simp
                       obtain ⟨wq6, hw⟩ : ∃ w', w' = (((wq5.setCell ⟨g11, 0, none⟩ (.int .i64 f1)).setCell ⟨g11, 1, none⟩ (.int .i64 f2)).setCell ⟨g11, 2, none⟩ (.int .i64 f3)).setCell ⟨g11, 3, none⟩ (.string f4) := ⟨_, rfl⟩
                       have x10_6 := blk_set4 x10_5 (fun e => ne1 e.symm) (.int .i64 f1) (.int .i64 f2) (.int .i64 f3) (.string f4)
                       have x11_6 := x11_5.set4 (.int .i64 f1) (.int .i64 f2) (.int .i64 f3) (.string f4)
                       have o_6 := Go.Proofs.Ytmecaioklmkdlaa.Ss.OwnS.setN (Go.Proofs.Ytmecaioklmkdlaa.Ss.OwnS.setN (Go.Proofs.Ytmecaioklmkdlaa.Ss.OwnS.setN (Go.Proofs.Ytmecaioklmkdlaa.Ss.OwnS.setN o_5 (i := 0) (u := .int .i64 f1) n11) (i := 1) (u := .int .i64 f2) n11) (i := 2) (u := .int .i64 f3) n11) (i := 3) (u := .string f4) n11
                       have hb_6 := below_set4 hb_5 le11 (.int .i64 f1) (.int .i64 f2) (.int .i64 f3) (.string f4)
                       rw [← hw] at x10_6 x11_6 o_6 hb_6 ⊢
                       clear hw c0 c1 c2 c3 z0 z1 z2 z3
                       refine hK.out _ _ (KS.out _ hb_6) (fun hHeld => ?_)
                       clear hK K
                       (try simp only [Act.put, List.setIfInBounds_toArray, List.set_cons_zero, List.set_cons_succ])
                       refine takeL (i := 23) (v := .int .i64 E1) rfl (Or.inl ⟨by rfl, ?_⟩) hHeld ?_
                       · intro w hSw; (try dsimp only at hSw); go_simp
                       (try simp only [Act.put, List.setIfInBounds_toArray, List.set_cons_zero, List.set_cons_succ])
                       refine wpAnyH_done (by kernel_rfl) ?_ _
                       refine NoPanic.normal ?_
                       go_wp2_with fail
                       go_meet
                       case rel => exact ⟨g10, g11, a1, cap1, rfl, rfl, rfl, Lib.hid x10_6, Lib.hid x11_6, Lib.hid o_6, Lib.hid hb_6, le10, le11, ne1, n10, n11⟩
                      exact AllReadyH.nil
                     exact AllReadyH.nil
                    exact AllReadyH.nil
                   exact AllReadyH.nil
                  exact AllReadyH.nil
                 exact AllReadyH.nil
                refine consL rfl (fun K hK => ?_) ?_
                ·
                 go_simp
                 obtain ⟨x10_1, hc⟩ := box_new wq0 #[.slice none 0 0, .int .i64 0, .int .i64 0] 24
                 obtain ⟨g10, hg⟩ : ∃ g, g = wq0.heap.size := ⟨_, rfl⟩
                 obtain ⟨wq1, hw⟩ : ∃ w', w' = wq0.alloc (.cells #[.slice none 0 0, .int .i64 0, .int .i64 0] 24) := ⟨_, rfl⟩
                 rw [← hw] at x10_1 hc ⊢
                 have hb_1 := hb_0.trans (hc.mono hb_0.size)
                 have le10 : w2.heap.size ≤ g10 := by rw [hg]; exact hb_0.size
                 rw [← hg] at x10_1 ⊢
                 clear hw hg hc
                 refine hK.out _ _ (KS.out _ hb_1) (fun hHeld => ?_)
                 clear hK K
                 (try simp only [Act.put, List.setIfInBounds_toArray, List.set_cons_zero, List.set_cons_succ])
                 refine wpAnyH_ready (rs := [12, 20]) (by kernel_rfl) (by simp) ?_
                 refine consL rfl (fun K hK => ?_) ?_
                 ·
                  go_simp
                  obtain ⟨xp_2, hc⟩ := box_new wq1 #[.int .u8 (b0 : Int), .int .u8 (b1 : Int)] 5
                  obtain ⟨gb, hg⟩ : ∃ g, g = wq1.heap.size := ⟨_, rfl⟩
                  obtain ⟨wq2, hw⟩ : ∃ w', w' = wq1.alloc (.cells #[.int .u8 (b0 : Int), .int .u8 (b1 : Int)] 5) := ⟨_, rfl⟩
                  rw [← hw] at xp_2 hc ⊢
                  have hb_2 := hb_1.trans (hc.mono hb_1.size)
                  have x10_2 := x10_1.keep hc
                  rw [← hg] at xp_2 ⊢
                  clear hw hg hc
                  refine hK.out _ _ (KS.out _ hb_2) (fun hHeld => ?_)
                  clear hK K
                  (try simp only [Act.put, List.setIfInBounds_toArray, List.set_cons_zero, List.set_cons_succ])
                  refine wpAnyH_ready (rs := [13, 20]) (by kernel_rfl) (by simp) ?_
                  refine consL rfl (fun K hK => ?_) ?_
                  ·
                   have kc := conv2 xp_2
                   rw [HTX.out] at kc
                   go_simp
                   clear kc
                   refine hK.out _ _ (KS.out _ hb_2) (fun hHeld => ?_)
                   clear hK K xp_2
                   (try simp only [Act.put, List.setIfInBounds_toArray, List.set_cons_zero, List.set_cons_succ])
                   refine wpAnyH_ready (rs := [14, 20]) (by kernel_rfl) (by simp) ?_
                   refine consL rfl (fun K hK => ?_) ?_
                   ·
                    go_simp
                    go_at_call 10
                    refine (HSD.out wq2 hb_2).mono ?_
                    rintro e wq3 ⟨v1, rfl, o_3, hc⟩
                    obtain ⟨a1, cap1, rfl, -⟩ := o_3.has
                    rw [HL1.out] at o_3 ⊢
                    have hb_3 := hb_2.trans (hc.mono hb_2.size)
                    have x10_3 := x10_2.keep hc
                    have n10 : ∀ r, (Value.slice a1 L1 cap1).ownBlock = some r → r ≠ g10 := fun r hr => by have := (o_3.lt r hr).1; have := x10_2.lt; omega
                    replace o_3 := o_3.low hb_2.size
                    clear hc
                    refine hK.out _ _ (KS.out _ hb_3) (fun hHeld => ?_)
                    clear hK K
                    (try simp only [Act.put, List.setIfInBounds_toArray, List.set_cons_zero, List.set_cons_succ])
                    refine takeL (i := 15) (v := .tuple #[.agg #[.slice a1 L1 cap1, .int .i64 t1, .int .i64 k1], .agg #[.int .i64 f1, .int .i64 f2, .int .i64 f3, .string f4], .int .i64 E1]) rfl (Or.inl ⟨by rfl, ?_⟩) hHeld ?_
                    · intro w hSw; (try dsimp only at hSw); go_simp
                    (try simp only [Act.put, List.setIfInBounds_toArray, List.set_cons_zero, List.set_cons_succ])
                    refine takeL (i := 16) (v := .agg #[.slice a1 L1 cap1, .int .i64 t1, .int .i64 k1]) rfl (Or.inl ⟨by rfl, ?_⟩) hHeld ?_
                    · intro w hSw; (try dsimp only at hSw); go_simp
                    (try simp only [Act.put, List.setIfInBounds_toArray, List.set_cons_zero, List.set_cons_succ])
                    refine takeL (i := 17) (v := .agg #[.int .i64 f1, .int .i64 f2, .int .i64 f3, .string f4]) rfl (Or.inl ⟨by rfl, ?_⟩) hHeld ?_
                    · intro w hSw; (try dsimp only at hSw); go_simp
                    (try simp only [Act.put, List.setIfInBounds_toArray, List.set_cons_zero, List.set_cons_succ])
                    refine takeL (i := 18) (v := .int .i64 E1) rfl (Or.inl ⟨by rfl, ?_⟩) hHeld ?_
                    · intro w hSw; (try dsimp only at hSw); go_simp
                    (try simp only [Act.put, List.setIfInBounds_toArray, List.set_cons_zero, List.set_cons_succ])
                    refine wpAnyH_ready (rs := [20]) (by kernel_rfl) (by simp) ?_
                    refine consL rfl (fun K hK => ?_) ?_
                    ·
                     go_simp
                     obtain ⟨x11_4, hc⟩ := box_new wq3 #[.int .i64 0, .int .i64 0, .int .i64 0, .string em] 27
                     obtain ⟨g11, hg⟩ : ∃ g, g = wq3.heap.size := ⟨_, rfl⟩
                     obtain ⟨wq4, hw⟩ : ∃ w', w' = wq3.alloc (.cells #[.int .i64 0, .int .i64 0, .int .i64 0, .string em] 27) := ⟨_, rfl⟩
                     rw [← hw] at x11_4 hc ⊢
                     have hb_4 := hb_3.trans (hc.mono hb_3.size)
                     have x10_4 := x10_3.keep hc
                     have o_4 := o_3.keep hc
                     have le11 : w2.heap.size ≤ g11 := by rw [hg]; exact hb_3.size
                     have n11 : ∀ r, (Value.slice a1 L1 cap1).ownBlock = some r → r ≠ g11 := fun r hr => by have := (o_3.lt r hr).2; omega
                     have ne1 : g10 ≠ g11 := by have := x10_3.lt; omega
                     rw [← hg] at x11_4 ⊢
                     clear hw hg hc
                     refine hK.out _ _ (KS.out _ hb_4) (fun hHeld => ?_)
                     clear hK K
                     (try simp only [Act.put, List.setIfInBounds_toArray, List.set_cons_zero, List.set_cons_succ])
                     refine wpAnyH_ready (rs := [21]) (by kernel_rfl) (by simp) ?_
                     refine consL rfl (fun K hK => ?_) ?_
                     ·
                      obtain ⟨c0, c1, c2⟩ := agg_cells x10_4
                      have z0 := x10_4.free 0; have z1 := x10_4.free 1; have z2 := x10_4.free 2
                      go_simp
                      obtain ⟨wq5, hw⟩ : ∃ w', w' = ((wq4.setCell ⟨g10, 0, none⟩ (.slice a1 L1 cap1)).setCell ⟨g10, 1, none⟩ (.int .i64 t1)).setCell ⟨g10, 2, none⟩ (.int .i64 k1) := ⟨_, rfl⟩
                      have x10_5 := x10_4.set3 (.slice a1 L1 cap1) (.int .i64 t1) (.int .i64 k1)
                      have x11_5 := blk_set3 x11_4 ne1 (.slice a1 L1 cap1) (.int .i64 t1) (.int .i64 k1)
                      have o_5 := Go.Proofs.Ytmecaioklmkdlaa.Ss.OwnS.setN (Go.Proofs.Ytmecaioklmkdlaa.Ss.OwnS.setN (Go.Proofs.Ytmecaioklmkdlaa.Ss.OwnS.setN o_4 (i := 0) (u := .slice a1 L1 cap1) n10) (i := 1) (u := .int .i64 t1) n10) (i := 2) (u := .int .i64 k1) n10
                      have hb_5 := below_set3 hb_4 le10 (.slice a1 L1 cap1) (.int .i64 t1) (.int .i64 k1)
                      rw [← hw] at x10_5 x11_5 o_5 hb_5 ⊢
                      clear hw c0 c1 c2 z0 z1 z2
                      refine hK.out _ _ (KS.out _ hb_5) (fun hHeld => ?_)
                      clear hK K
                      (try simp only [Act.put, List.setIfInBounds_toArray, List.set_cons_zero, List.set_cons_succ])
                      refine wpAnyH_ready (rs := [22]) (by kernel_rfl) (by simp) ?_
                      refine consL rfl (fun K hK => ?_) ?_
                      ·
                       obtain ⟨c0, c1, c2, c3⟩ := fm_cells x11_5
                       have z0 := x11_5.free 0; have z1 := x11_5.free 1; have z2 := x11_5.free 2; have z3 := x11_5.free 3
                       go_simp
                       obtain ⟨wq6, hw⟩ : ∃ w', w' = (((wq5.setCell ⟨g11, 0, none⟩ (.int .i64 f1)).setCell ⟨g11, 1, none⟩ (.int .i64 f2)).setCell ⟨g11, 2, none⟩ (.int .i64 f3)).setCell ⟨g11, 3, none⟩ (.string f4) := ⟨_, rfl⟩
                       have x10_6 := blk_set4 x10_5 (fun e => ne1 e.symm) (.int .i64 f1) (.int .i64 f2) (.int .i64 f3) (.string f4)
                       have x11_6 := x11_5.set4 (.int .i64 f1) (.int .i64 f2) (.int .i64 f3) (.string f4)
                       have o_6 := Go.Proofs.Ytmecaioklmkdlaa.Ss.OwnS.setN (Go.Proofs.Ytmecaioklmkdlaa.Ss.OwnS.setN (Go.Proofs.Ytmecaioklmkdlaa.Ss.OwnS.setN (Go.Proofs.Ytmecaioklmkdlaa.Ss.OwnS.setN o_5 (i := 0) (u := .int .i64 f1) n11) (i := 1) (u := .int .i64 f2) n11) (i := 2) (u := .int .i64 f3) n11) (i := 3) (u := .string f4) n11
                       have hb_6 := below_set4 hb_5 le11 (.int .i64 f1) (.int .i64 f2) (.int .i64 f3) (.string f4)
                       rw [← hw] at x10_6 x11_6 o_6 hb_6 ⊢
                       clear hw c0 c1 c2 c3 z0 z1 z2 z3
                       refine hK.out _ _ (KS.out _ hb_6) (fun hHeld => ?_)
                       clear hK K
                       (try simp only [Act.put, List.setIfInBounds_toArray, List.set_cons_zero, List.set_cons_succ])
                       refine takeL (i := 23) (v := .int .i64 E1) rfl (Or.inl ⟨by rfl, ?_⟩) hHeld ?_
                       · intro w hSw; (try dsimp only at hSw); go_simp
                       (try simp only [Act.put, List.setIfInBounds_toArray, List.set_cons_zero, List.set_cons_succ])
                       refine wpAnyH_done (by kernel_rfl) ?_ _
                       refine NoPanic.normal ?_
                       go_wp2_with fail
                       go_meet
                       case rel => exact ⟨g10, g11, a1, cap1, rfl, rfl, rfl, Lib.hid x10_6, Lib.hid x11_6, Lib.hid o_6, Lib.hid hb_6, le10, le11, ne1, n10, n11⟩
                      exact AllReadyH.nil
                     exact AllReadyH.nil
                    exact AllReadyH.nil
                   refine consL rfl (fun K hK => ?_) ?_
                   ·
                    go_simp
                    obtain ⟨x11_3, hc⟩ := box_new wq2 #[.int .i64 0, .int .i64 0, .int .i64 0, .string em] 27
                    obtain ⟨g11, hg⟩ : ∃ g, g = wq2.heap.size := ⟨_, rfl⟩
                    obtain ⟨wq3, hw⟩ : ∃ w', w' = wq2.alloc (.cells #[.int .i64 0, .int .i64 0, .int .i64 0, .string em] 27) := ⟨_, rfl⟩
                    rw [← hw] at x11_3 hc ⊢
                    have hb_3 := hb_2.trans (hc.mono hb_2.size)
                    have x10_3 := x10_2.keep hc
                    have le11 : w2.heap.size ≤ g11 := by rw [hg]; exact hb_2.size
                    have ne1 : g10 ≠ g11 := by have := x10_2.lt; omega
                    rw [← hg] at x11_3 ⊢
                    clear hw hg hc
                    refine hK.out _ _ (KS.out _ hb_3) (fun hHeld => ?_)
                    clear hK K
                    (try simp only [Act.put, List.setIfInBounds_toArray, List.set_cons_zero, List.set_cons_succ])
                    refine wpAnyH_ready (rs := [14]) (by kernel_rfl) (by simp) ?_
                    refine consL rfl (fun K hK => ?_) ?_
                    ·
                     go_simp
                     go_at_call 10
                     refine (HSD.out wq3 hb_3).mono ?_
                     rintro e wq4 ⟨v1, rfl, o_4, hc⟩
                     obtain ⟨a1, cap1, rfl, -⟩ := o_4.has
                     rw [HL1.out] at o_4 ⊢
                     have hb_4 := hb_3.trans (hc.mono hb_3.size)
                     have x10_4 := x10_3.keep hc
                     have x11_4 := x11_3.keep hc
                     have n10 : ∀ r, (Value.slice a1 L1 cap1).ownBlock = some r → r ≠ g10 := fun r hr => by have := (o_4.lt r hr).1; have := x10_3.lt; omega
                     have n11 : ∀ r, (Value.slice a1 L1 cap1).ownBlock = some r → r ≠ g11 := fun r hr => by have := (o_4.lt r hr).1; have := x11_3.lt; omega
                     replace o_4 := o_4.low hb_3.size
                     clear hc
                     refine hK.out _ _ (KS.out _ hb_4) (fun hHeld => ?_)
                     clear hK K
                     (try simp only [Act.put, List.setIfInBounds_toArray, List.set_cons_zero, List.set_cons_succ])
                     refine takeL (i := 15) (v := .tuple #[.agg #[.slice a1 L1 cap1, .int .i64 t1, .int .i64 k1], .agg #[.int .i64 f1, .int .i64 f2, .int .i64 f3, .string f4], .int .i64 E1]) rfl (Or.inl ⟨by rfl, ?_⟩) hHeld ?_
                     · intro w hSw; (try dsimp only at hSw); go_simp
                     (try simp only [Act.put, List.setIfInBounds_toArray, List.set_cons_zero, List.set_cons_succ])
                     refine takeL (i := 16) (v := .agg #[.slice a1 L1 cap1, .int .i64 t1, .int .i64 k1]) rfl (Or.inl ⟨by rfl, ?_⟩) hHeld ?_
                     · intro w hSw; (try dsimp only at hSw); go_simp
                     (try simp only [Act.put, List.setIfInBounds_toArray, List.set_cons_zero, List.set_cons_succ])
                     refine takeL (i := 17) (v := .agg #[.int .i64 f1, .int .i64 f2, .int .i64 f3, .string f4]) rfl (Or.inl ⟨by rfl, ?_⟩) hHeld ?_
                     · intro w hSw; (try dsimp only at hSw); go_simp
                     (try simp only [Act.put, List.setIfInBounds_toArray, List.set_cons_zero, List.set_cons_succ])
                     refine takeL (i := 18) (v := .int .i64 E1) rfl (Or.inl ⟨by rfl, ?_⟩) hHeld ?_
                     · intro w hSw; (try dsimp only at hSw); go_simp
                     (try simp only [Act.put, List.setIfInBounds_toArray, List.set_cons_zero, List.set_cons_succ])
                     refine wpAnyH_ready (rs := [21]) (by kernel_rfl) (by simp) ?_
                     refine consL rfl (fun K hK => ?_) ?_
                     ·
                      obtain ⟨c0, c1, c2⟩ := agg_cells x10_4
                      have z0 := x10_4.free 0; have z1 := x10_4.free 1; have z2 := x10_4.free 2
                      go_simp
                      obtain ⟨wq5, hw⟩ : ∃ w', w' = ((wq4.setCell ⟨g10, 0, none⟩ (.slice a1 L1 cap1)).setCell ⟨g10, 1, none⟩ (.int .i64 t1)).setCell ⟨g10, 2, none⟩ (.int .i64 k1) := ⟨_, rfl⟩
                      have x10_5 := x10_4.set3 (.slice a1 L1 cap1) (.int .i64 t1) (.int .i64 k1)
                      have x11_5 := blk_set3 x11_4 ne1 (.slice a1 L1 cap1) (.int .i64 t1) (.int .i64 k1)
                      have o_5 := Go.Proofs.Ytmecaioklmkdlaa.Ss.OwnS.setN (Go.Proofs.Ytmecaioklmkdlaa.Ss.OwnS.setN (Go.Proofs.Ytmecaioklmkdlaa.Ss.OwnS.setN o_4 (i := 0) (u := .slice a1 L1 cap1) n10) (i := 1) (u := .int .i64 t1) n10) (i := 2) (u := .int .i64 k1) n10
                      have hb_5 := below_set3 hb_4 le10 (.slice a1 L1 cap1) (.int .i64 t1) (.int .i64 k1)
                      rw [← hw] at x10_5 x11_5 o_5 hb_5 ⊢
                      clear hw c0 c1 c2 z0 z1 z2
                      refine hK.out _ _ (KS.out _ hb_5) (fun hHeld => ?_)
                      clear hK K
                      (try simp only [Act.put, List.setIfInBounds_toArray, List.set_cons_zero, List.set_cons_succ])
                      refine wpAnyH_ready (rs := [22]) (by kernel_rfl) (by simp) ?_
                      refine consL rfl (fun K hK => ?_) ?_
                      ·
                       obtain ⟨c0, c1, c2, c3⟩ := fm_cells x11_5
                       have z0 := x11_5.free 0; have z1 := x11_5.free 1; have z2 := x11_5.free 2; have z3 := x11_5.free 3
                       go_simp
                       obtain ⟨wq6, hw⟩ : ∃ w', w' = (((wq5.setCell ⟨g11, 0, none⟩ (.int .i64 f1)).setCell ⟨g11, 1, none⟩ (.int .i64 f2)).setCell ⟨g11, 2, none⟩ (.int .i64 f3)).setCell ⟨g11, 3, none⟩ (.string f4) := ⟨_, rfl⟩
                       have x10_6 := blk_set4 x10_5 (fun e => ne1 e.symm) (.int .i64 f1) (.int .i64 f2) (.int .i64 f3) (.string f4)
                       have x11_6 := x11_5.set4 (.int .i64 f1) (.int .i64 f2) (.int .i64 f3) (.string f4)
                       have o_6 := Go.Proofs.Ytmecaioklmkdlaa.Ss.OwnS.setN (Go.Proofs.Ytmecaioklmkdlaa.Ss.OwnS.setN (Go.Proofs.Ytmecaioklmkdlaa.Ss.OwnS.setN (Go.Proofs.Ytmecaioklmkdlaa.Ss.OwnS.setN o_5 (i := 0) (u := .int .i64 f1) n11) (i := 1) (u := .int .i64 f2) n11) (i := 2) (u := .int .i64 f3) n11) (i := 3) (u := .string f4) n11
                       have hb_6 := below_set4 hb_5 le11 (.int .i64 f1) (.int .i64 f2) (.int .i64 f3) (.string f4)
                       rw [← hw] at x10_6 x11_6 o_6 hb_6 ⊢
                       clear hw c0 c1 c2 c3 z0 z1 z2 z3
                       refine hK.out _ _ (KS.out _ hb_6) (fun hHeld => ?_)
                       clear hK K
                       (try simp only [Act.put, List.setIfInBounds_toArray, List.set_cons_zero, List.set_cons_succ])
                       refine takeL (i := 23) (v := .int .i64 E1) rfl (Or.inl ⟨by rfl, ?_⟩) hHeld ?_
                       · intro w hSw; (try dsimp only at hSw); go_simp
                       (try simp only [Act.put, List.setIfInBounds_toArray, List.set_cons_zero, List.set_cons_succ])
                       refine wpAnyH_done (by kernel_rfl) ?_ _
                       refine NoPanic.normal ?_
                       go_wp2_with fail
                       go_meet
                       case rel => exact ⟨g10, g11, a1, cap1, rfl, rfl, rfl, Lib.hid x10_6, Lib.hid x11_6, Lib.hid o_6, Lib.hid hb_6, le10, le11, ne1, n10, n11⟩
                      exact AllReadyH.nil
                     exact AllReadyH.nil
                    exact AllReadyH.nil
                   exact AllReadyH.nil
                  refine consL rfl (fun K hK => ?_) ?_
                  ·
                   go_simp
                   obtain ⟨x11_3, hc⟩ := box_new wq2 #[.int .i64 0, .int .i64 0, .int .i64 0, .string em] 27
                   obtain ⟨g11, hg⟩ : ∃ g, g = wq2.heap.size := ⟨_, rfl⟩
                   obtain ⟨wq3, hw⟩ : ∃ w', w' = wq2.alloc (.cells #[.int .i64 0, .int .i64 0, .int .i64 0, .string em] 27) := ⟨_, rfl⟩
                   rw [← hw] at x11_3 hc ⊢
                   have hb_3 := hb_2.trans (hc.mono hb_2.size)
                   have x10_3 := x10_2.keep hc
                   have xp_3 := xp_2.keep hc
                   have le11 : w2.heap.size ≤ g11 := by rw [hg]; exact hb_2.size
                   have ne1 : g10 ≠ g11 := by have := x10_2.lt; omega
                   rw [← hg] at x11_3 ⊢
                   clear hw hg hc
                   refine hK.out _ _ (KS.out _ hb_3) (fun hHeld => ?_)
                   clear hK K
                   (try simp only [Act.put, List.setIfInBounds_toArray, List.set_cons_zero, List.set_cons_succ])
                   refine wpAnyH_ready (rs := [13]) (by kernel_rfl) (by simp) ?_
                   refine consL rfl (fun K hK => ?_) ?_
                   ·
                    have kc := conv2 xp_3
                    rw [HTX.out] at kc
                    go_simp
                    clear kc
                    refine hK.out _ _ (KS.out _ hb_3) (fun hHeld => ?_)
                    clear hK K xp_3
                    (try simp only [Act.put, List.setIfInBounds_toArray, List.set_cons_zero, List.set_cons_succ])
                    refine wpAnyH_ready (rs := [14]) (by kernel_rfl) (by simp) ?_
                    refine consL rfl (fun K hK => ?_) ?_
                    ·
                     go_simp
                     go_at_call 10
                     refine (HSD.out wq3 hb_3).mono ?_
                     rintro e wq4 ⟨v1, rfl, o_4, hc⟩
                     obtain ⟨a1, cap1, rfl, -⟩ := o_4.has
                     rw [HL1.out] at o_4 ⊢
                     have hb_4 := hb_3.trans (hc.mono hb_3.size)
                     have x10_4 := x10_3.keep hc
                     have x11_4 := x11_3.keep hc
                     have n10 : ∀ r, (Value.slice a1 L1 cap1).ownBlock = some r → r ≠ g10 := fun r hr => by have := (o_4.lt r hr).1; have := x10_3.lt; omega
                     have n11 : ∀ r, (Value.slice a1 L1 cap1).ownBlock = some r → r ≠ g11 := fun r hr => by have := (o_4.lt r hr).1; have := x11_3.lt; omega
                     replace o_4 := o_4.low hb_3.size
                     clear hc
                     refine hK.out _ _ (KS.out _ hb_4) (fun hHeld => ?_)
                     clear hK K
                     (try simp only [Act.put, List.setIfInBounds_toArray, List.set_cons_zero, List.set_cons_succ])
                     refine takeL (i := 15) (v := .tuple #[.agg #[.slice a1 L1 cap1, .int .i64 t1, .int .i64 k1], .agg #[.int .i64 f1, .int .i64 f2, .int .i64 f3, .string f4], .int .i64 E1]) rfl (Or.inl ⟨by rfl, ?_⟩) hHeld ?_
                     · intro w hSw; (try dsimp only at hSw); go_simp
                     (try simp only [Act.put, List.setIfInBounds_toArray, List.set_cons_zero, List.set_cons_succ])
                     refine takeL (i := 16) (v := .agg #[.slice a1 L1 cap1, .int .i64 t1, .int .i64 k1]) rfl (Or.inl ⟨by rfl, ?_⟩) hHeld ?_
                     · intro w hSw; (try dsimp only at hSw); go_simp
                     (try simp only [Act.put, List.setIfInBounds_toArray, List.set_cons_zero, List.set_cons_succ])
                     refine takeL (i := 17) (v := .agg #[.int .i64 f1, .int .i64 f2, .int .i64 f3, .string f4]) rfl (Or.inl ⟨by rfl, ?_⟩) hHeld ?_
                     · intro w hSw; (try dsimp only at hSw); go_simp
                     (try simp only [Act.put, List.setIfInBounds_toArray, List.set_cons_zero, List.set_cons_succ])
                     refine takeL (i := 18) (v := .int .i64 E1) rfl (Or.inl ⟨by rfl, ?_⟩) hHeld ?_
                     · intro w hSw; (try dsimp only at hSw); go_simp
                     (try simp only [Act.put, List.setIfInBounds_toArray, List.set_cons_zero, List.set_cons_succ])
                     refine wpAnyH_ready (rs := [21]) (by kernel_rfl) (by simp) ?_
                     refine consL rfl (fun K hK => ?_) ?_
                     ·
                      obtain ⟨c0, c1, c2⟩ := agg_cells x10_4
                      have z0 := x10_4.free 0; have z1 := x10_4.free 1; have z2 := x10_4.free 2
                      go_simp
                      obtain ⟨wq5, hw⟩ : ∃ w', w' = ((wq4.setCell ⟨g10, 0, none⟩ (.slice a1 L1 cap1)).setCell ⟨g10, 1, none⟩ (.int .i64 t1)).setCell ⟨g10, 2, none⟩ (.int .i64 k1) := ⟨_, rfl⟩
                      have x10_5 := x10_4.set3 (.slice a1 L1 cap1) (.int .i64 t1) (.int .i64 k1)
                      have x11_5 := blk_set3 x11_4 ne1 (.slice a1 L1 cap1) (.int .i64 t1) (.int .i64 k1)
                      have o_5 := Go.Proofs.Ytmecaioklmkdlaa.Ss.OwnS.setN (Go.Proofs.Ytmecaioklmkdlaa.Ss.OwnS.setN (Go.Proofs.Ytmecaioklmkdlaa.Ss.OwnS.setN o_4 (i := 0) (u := .slice a1 L1 cap1) n10) (i := 1) (u := .int .i64 t1) n10) (i := 2) (u := .int .i64 k1) n10
                      have hb_5 := below_set3 hb_4 le10 (.slice a1 L1 cap1) (.int .i64 t1) (.int .i64 k1)
                      rw [← hw] at x10_5 x11_5 o_5 hb_5 ⊢
                      clear hw c0 c1 c2 z0 z1 z2
                      refine hK.out _ _ (KS.out _ hb_5) (fun hHeld => ?_)
                      clear hK K
                      (try simp only [Act.put, List.setIfInBounds_toArray, List.set_cons_zero, List.set_cons_succ])
                      refine wpAnyH_ready (rs := [22]) (by kernel_rfl) (by simp) ?_
                      refine consL rfl (fun K hK => ?_) ?_
                      ·
                       obtain ⟨c0, c1, c2, c3⟩ := fm_cells x11_5
                       have z0 := x11_5.free 0; have z1 := x11_5.free 1; have z2 := x11_5.free 2; have z3 := x11_5.free 3
                       go_simp
                       obtain ⟨wq6, hw⟩ : ∃ w', w' = (((wq5.setCell ⟨g11, 0, none⟩ (.int .i64 f1)).setCell ⟨g11, 1, none⟩ (.int .i64 f2)).setCell ⟨g11, 2, none⟩ (.int .i64 f3)).setCell ⟨g11, 3, none⟩ (.string f4) := ⟨_, rfl⟩
                       have x10_6 := blk_set4 x10_5 (fun e => ne1 e.symm) (.int .i64 f1) (.int .i64 f2) (.int .i64 f3) (.string f4)
                       have x11_6 := x11_5.set4 (.int .i64 f1) (.int .i64 f2) (.int .i64 f3) (.string f4)
                       have o_6 := Go.Proofs.Ytmecaioklmkdlaa.Ss.OwnS.setN (Go.Proofs.Ytmecaioklmkdlaa.Ss.OwnS.setN (Go.Proofs.Ytmecaioklmkdlaa.Ss.OwnS.setN (Go.Proofs.Ytmecaioklmkdlaa.Ss.OwnS.setN o_5 (i := 0) (u := .int .i64 f1) n11) (i := 1) (u := .int .i64 f2) n11) (i := 2) (u := .int .i64 f3) n11) (i := 3) (u := .string f4) n11
                       have hb_6 := below_set4 hb_5 le11 (.int .i64 f1) (.int .i64 f2) (.int .i64 f3) (.string f4)
                       rw [← hw] at x10_6 x11_6 o_6 hb_6 ⊢
                       clear hw c0 c1 c2 c3 z0 z1 z2 z3
                       refine hK.out _ _ (KS.out _ hb_6) (fun hHeld => ?_)
                       clear hK K
                       (try simp only [Act.put, List.setIfInBounds_toArray, List.set_cons_zero, List.set_cons_succ])
                       refine takeL (i := 23) (v := .int .i64 E1) rfl (Or.inl ⟨by rfl, ?_⟩) hHeld ?_
                       · intro w hSw; (try dsimp only at hSw); go_simp
                       (try simp only [Act.put, List.setIfInBounds_toArray, List.set_cons_zero, List.set_cons_succ])
                       refine wpAnyH_done (by kernel_rfl) ?_ _
                       refine NoPanic.normal ?_
                       go_wp2_with fail
                       go_meet
                       case rel => exact ⟨g10, g11, a1, cap1, rfl, rfl, rfl, Lib.hid x10_6, Lib.hid x11_6, Lib.hid o_6, Lib.hid hb_6, le10, le11, ne1, n10, n11⟩
                      exact AllReadyH.nil
                     exact AllReadyH.nil
                    exact AllReadyH.nil
                   exact AllReadyH.nil
                  exact AllReadyH.nil
                 refine consL rfl (fun K hK => ?_) ?_
                 ·
                  go_simp
                  obtain ⟨x11_2, hc⟩ := box_new wq1 #[.int .i64 0, .int .i64 0, .int .i64 0, .string em] 27
                  obtain ⟨g11, hg⟩ : ∃ g, g = wq1.heap.size := ⟨_, rfl⟩
                  obtain ⟨wq2, hw⟩ : ∃ w', w' = wq1.alloc (.cells #[.int .i64 0, .int .i64 0, .int .i64 0, .string em] 27) := ⟨_, rfl⟩
                  rw [← hw] at x11_2 hc ⊢
                  have hb_2 := hb_1.trans (hc.mono hb_1.size)
                  have x10_2 := x10_1.keep hc
                  have le11 : w2.heap.size ≤ g11 := by rw [hg]; exact hb_1.size
                  have ne1 : g10 ≠ g11 := by have := x10_1.lt; omega
                  rw [← hg] at x11_2 ⊢
                  clear hw hg hc
                  refine hK.out _ _ (KS.out _ hb_2) (fun hHeld => ?_)
                  clear hK K
                  (try simp only [Act.put, List.setIfInBounds_toArray, List.set_cons_zero, List.set_cons_succ])
                  refine wpAnyH_ready (rs := [12]) (by kernel_rfl) (by simp) ?_
                  refine consL rfl (fun K hK => ?_) ?_
                  ·
                   go_simp
                   obtain ⟨xp_3, hc⟩ := box_new wq2 #[.int .u8 (b0 : Int), .int .u8 (b1 : Int)] 5
                   obtain ⟨gb, hg⟩ : ∃ g, g = wq2.heap.size := ⟨_, rfl⟩
                   obtain ⟨wq3, hw⟩ : ∃ w', w' = wq2.alloc (.cells #[.int .u8 (b0 : Int), .int .u8 (b1 : Int)] 5) := ⟨_, rfl⟩
                   rw [← hw] at xp_3 hc ⊢
                   have hb_3 := hb_2.trans (hc.mono hb_2.size)
                   have x10_3 := x10_2.keep hc
                   have x11_3 := x11_2.keep hc
                   rw [← hg] at xp_3 ⊢
                   clear hw hg hc
                   refine hK.out _ _ (KS.out _ hb_3) (fun hHeld => ?_)
                   clear hK K
                   (try simp only [Act.put, List.setIfInBounds_toArray, List.set_cons_zero, List.set_cons_succ])
                   refine wpAnyH_ready (rs := [13]) (by kernel_rfl) (by simp) ?_
                   refine consL rfl (fun K hK => ?_) ?_
                   ·
                    have kc := conv2 xp_3
                    rw [HTX.out] at kc
                    go_simp
                    clear kc
                    refine hK.out _ _ (KS.out _ hb_3) (fun hHeld => ?_)
                    clear hK K xp_3
                    (try simp only [Act.put, List.setIfInBounds_toArray, List.set_cons_zero, List.set_cons_succ])
                    refine wpAnyH_ready (rs := [14]) (by kernel_rfl) (by simp) ?_
                    refine consL rfl (fun K hK => ?_) ?_
                    ·
                     go_simp
                     go_at_call 10
                     refine (HSD.out wq3 hb_3).mono ?_
                     rintro e wq4 ⟨v1, rfl, o_4, hc⟩
                     obtain ⟨a1, cap1, rfl, -⟩ := o_4.has
                     rw [HL1.out] at o_4 ⊢
                     have hb_4 := hb_3.trans (hc.mono hb_3.size)
                     have x10_4 := x10_3.keep hc
                     have x11_4 := x11_3.keep hc
                     have n10 : ∀ r, (Value.slice a1 L1 cap1).ownBlock = some r → r ≠ g10 := fun r hr => by have := (o_4.lt r hr).1; have := x10_3.lt; omega
                     have n11 : ∀ r, (Value.slice a1 L1 cap1).ownBlock = some r → r ≠ g11 := fun r hr => by have := (o_4.lt r hr).1; have := x11_3.lt; omega
                     replace o_4 := o_4.low hb_3.size
                     clear hc
                     refine hK.out _ _ (KS.out _ hb_4) (fun hHeld => ?_)
                     clear hK K
                     (try simp only [Act.put, List.setIfInBounds_toArray, List.set_cons_zero, List.set_cons_succ])
                     refine takeL (i := 15) (v := .tuple #[.agg #[.slice a1 L1 cap1, .int .i64 t1, .int .i64 k1], .agg #[.int .i64 f1, .int .i64 f2, .int .i64 f3, .string f4], .int .i64 E1]) rfl (Or.inl ⟨by rfl, ?_⟩) hHeld ?_
                     · intro w hSw; (try dsimp only at hSw); go_simp
                     (try simp only [Act.put, List.setIfInBounds_toArray, List.set_cons_zero, List.set_cons_succ])
                     refine takeL (i := 16) (v := .agg #[.slice a1 L1 cap1, .int .i64 t1, .int .i64 k1]) rfl (Or.inl ⟨by rfl, ?_⟩) hHeld ?_
                     · intro w hSw; (try dsimp only at hSw); go_simp
                     (try simp only [Act.put, List.setIfInBounds_toArray, List.set_cons_zero, List.set_cons_succ])
                     refine takeL (i := 17) (v := .agg #[.int .i64 f1, .int .i64 f2, .int .i64 f3, .string f4]) rfl (Or.inl ⟨by rfl, ?_⟩) hHeld ?_
                     · intro w hSw; (try dsimp only at hSw); go_simp
                     (try simp only [Act.put, List.setIfInBounds_toArray, List.set_cons_zero, List.set_cons_succ])
                     refine takeL (i := 18) (v := .int .i64 E1) rfl (Or.inl ⟨by rfl, ?_⟩) hHeld ?_
                     · intro w hSw; (try dsimp only at hSw); go_simp
                     (try simp only [Act.put, List.setIfInBounds_toArray, List.set_cons_zero, List.set_cons_succ])
                     refine wpAnyH_ready (rs := [21]) (by kernel_rfl) (by simp) ?_
                     refine consL rfl (fun K hK => ?_) ?_
                     ·
                      obtain ⟨c0, c1, c2⟩ := agg_cells x10_4
                      have z0 := x10_4.free 0; have z1 := x10_4.free 1; have z2 := x10_4.free 2
                      go_simp
                      obtain ⟨wq5, hw⟩ : ∃ w', w' = ((wq4.setCell ⟨g10, 0, none⟩ (.slice a1 L1 cap1)).setCell ⟨g10, 1, none⟩ (.int .i64 t1)).setCell ⟨g10, 2, none⟩ (.int .i64 k1) := ⟨_, rfl⟩
                      have x10_5 := x10_4.set3 (.slice a1 L1 cap1) (.int .i64 t1) (.int .i64 k1)
                      have x11_5 := blk_set3 x11_4 ne1 (.slice a1 L1 cap1) (.int .i64 t1) (.int .i64 k1)
                      have o_5 := Go.Proofs.Ytmecaioklmkdlaa.Ss.OwnS.setN (Go.Proofs.Ytmecaioklmkdlaa.Ss.OwnS.setN (Go.Proofs.Ytmecaioklmkdlaa.Ss.OwnS.setN o_4 (i := 0) (u := .slice a1 L1 cap1) n10) (i := 1) (u := .int .i64 t1) n10) (i := 2) (u := .int .i64 k1) n10
                      have hb_5 := below_set3 hb_4 le10 (.slice a1 L1 cap1) (.int .i64 t1) (.int .i64 k1)
                      rw [← hw] at x10_5 x11_5 o_5 hb_5 ⊢
                      clear hw c0 c1 c2 z0 z1 z2
                      refine hK.out _ _ (KS.out _ hb_5) (fun hHeld => ?_)
                      clear hK K
                      (try simp only [Act.put, List.setIfInBounds_toArray, List.set_cons_zero, List.set_cons_succ])
                      refine wpAnyH_ready (rs := [22]) (by kernel_rfl) (by simp) ?_
                      refine consL rfl (fun K hK => ?_) ?_
                      ·
                       obtain ⟨c0, c1, c2, c3⟩ := fm_cells x11_5
                       have z0 := x11_5.free 0; have z1 := x11_5.free 1; have z2 := x11_5.free 2; have z3 := x11_5.free 3
                       go_simp
                       obtain ⟨wq6, hw⟩ : ∃ w', w' = (((wq5.setCell ⟨g11, 0, none⟩ (.int .i64 f1)).setCell ⟨g11, 1, none⟩ (.int .i64 f2)).setCell ⟨g11, 2, none⟩ (.int .i64 f3)).setCell ⟨g11, 3, none⟩ (.string f4) := ⟨_, rfl⟩
                       have x10_6 := blk_set4 x10_5 (fun e => ne1 e.symm) (.int .i64 f1) (.int .i64 f2) (.int .i64 f3) (.string f4)
                       have x11_6 := x11_5.set4 (.int .i64 f1) (.int .i64 f2) (.int .i64 f3) (.string f4)
                       have o_6 := Go.Proofs.Ytmecaioklmkdlaa.Ss.OwnS.setN (Go.Proofs.Ytmecaioklmkdlaa.Ss.OwnS.setN (Go.Proofs.Ytmecaioklmkdlaa.Ss.OwnS.setN (Go.Proofs.Ytmecaioklmkdlaa.Ss.OwnS.setN o_5 (i := 0) (u := .int .i64 f1) n11) (i := 1) (u := .int .i64 f2) n11) (i := 2) (u := .int .i64 f3) n11) (i := 3) (u := .string f4) n11
                       have hb_6 := below_set4 hb_5 le11 (.int .i64 f1) (.int .i64 f2) (.int .i64 f3) (.string f4)
                       rw [← hw] at x10_6 x11_6 o_6 hb_6 ⊢
                       clear hw c0 c1 c2 c3 z0 z1 z2 z3
                       refine hK.out _ _ (KS.out _ hb_6) (fun hHeld => ?_)
                       clear hK K
                       (try simp only [Act.put, List.setIfInBounds_toArray, List.set_cons_zero, List.set_cons_succ])
                       refine takeL (i := 23) (v := .int .i64 E1) rfl (Or.inl ⟨by rfl, ?_⟩) hHeld ?_
                       · intro w hSw; (try dsimp only at hSw); go_simp
                       (try simp only [Act.put, List.setIfInBounds_toArray, List.set_cons_zero, List.set_cons_succ])
                       refine wpAnyH_done (by kernel_rfl) ?_ _
                       refine NoPanic.normal ?_
                       go_wp2_with fail
                       go_meet
                       case rel => exact ⟨g10, g11, a1, cap1, rfl, rfl, rfl, Lib.hid x10_6, Lib.hid x11_6, Lib.hid o_6, Lib.hid hb_6, le10, le11, ne1, n10, n11⟩
                      exact AllReadyH.nil
                     exact AllReadyH.nil
                    exact AllReadyH.nil
                   exact AllReadyH.nil
                  exact AllReadyH.nil
                 exact AllReadyH.nil
                refine consL rfl (fun K hK => ?_) ?_
                ·
                 go_simp
                 obtain ⟨x11_1, hc⟩ := box_new wq0 #[.int .i64 0, .int .i64 0, .int .i64 0, .string em] 27
                 obtain ⟨g11, hg⟩ : ∃ g, g = wq0.heap.size := ⟨_, rfl⟩
                 obtain ⟨wq1, hw⟩ : ∃ w', w' = wq0.alloc (.cells #[.int .i64 0, .int .i64 0, .int .i64 0, .string em] 27) := ⟨_, rfl⟩
                 rw [← hw] at x11_1 hc ⊢
                 have hb_1 := hb_0.trans (hc.mono hb_0.size)
                 have le11 : w2.heap.size ≤ g11 := by rw [hg]; exact hb_0.size
                 rw [← hg] at x11_1 ⊢
                 clear hw hg hc
                 refine hK.out _ _ (KS.out _ hb_1) (fun hHeld => ?_)
                 clear hK K
                 (try simp only [Act.put, List.setIfInBounds_toArray, List.set_cons_zero, List.set_cons_succ])
                 refine wpAnyH_ready (rs := [12, 19]) (by kernel_rfl) (by simp) ?_
                 refine consL rfl (fun K hK => ?_) ?_
                 ·
                  go_simp
                  obtain ⟨xp_2, hc⟩ := box_new wq1 #[.int .u8 (b0 : Int), .int .u8 (b1 : Int)] 5
                  obtain ⟨gb, hg⟩ : ∃ g, g = wq1.heap.size := ⟨_, rfl⟩
                  obtain ⟨wq2, hw⟩ : ∃ w', w' = wq1.alloc (.cells #[.int .u8 (b0 : Int), .int .u8 (b1 : Int)] 5) := ⟨_, rfl⟩
                  rw [← hw] at xp_2 hc ⊢
                  have hb_2 := hb_1.trans (hc.mono hb_1.size)
                  have x11_2 := x11_1.keep hc
                  rw [← hg] at xp_2 ⊢
                  clear hw hg hc
                  refine hK.out _ _ (KS.out _ hb_2) (fun hHeld => ?_)
                  clear hK K
                  (try simp only [Act.put, List.setIfInBounds_toArray, List.set_cons_zero, List.set_cons_succ])
                  refine wpAnyH_ready (rs := [13, 19]) (by kernel_rfl) (by simp) ?_
                  refine consL rfl (fun K hK => ?_) ?_
                  ·
                   have kc := conv2 xp_2
                   rw [HTX.out] at kc
                   go_simp
                   clear kc
                   refine hK.out _ _ (KS.out _ hb_2) (fun hHeld => ?_)
                   clear hK K xp_2
                   (try simp only [Act.put, List.setIfInBounds_toArray, List.set_cons_zero, List.set_cons_succ])
                   refine wpAnyH_ready (rs := [14, 19]) (by kernel_rfl) (by simp) ?_
                   refine consL rfl (fun K hK => ?_) ?_
                   ·
                    go_simp
                    go_at_call 10
                    refine (HSD.out wq2 hb_2).mono ?_
                    rintro e wq3 ⟨v1, rfl, o_3, hc⟩
                    obtain ⟨a1, cap1, rfl, -⟩ := o_3.has
                    rw [HL1.out] at o_3 ⊢
                    have hb_3 := hb_2.trans (hc.mono hb_2.size)
                    have x11_3 := x11_2.keep hc
                    have n11 : ∀ r, (Value.slice a1 L1 cap1).ownBlock = some r → r ≠ g11 := fun r hr => by have := (o_3.lt r hr).1; have := x11_2.lt; omega
                    replace o_3 := o_3.low hb_2.size
                    clear hc
                    refine hK.out _ _ (KS.out _ hb_3) (fun hHeld => ?_)
                    clear hK K
                    (try simp only [Act.put, List.setIfInBounds_toArray, List.set_cons_zero, List.set_cons_succ])
                    refine takeL (i := 15) (v := .tuple #[.agg #[.slice a1 L1 cap1, .int .i64 t1, .int .i64 k1], .agg #[.int .i64 f1, .int .i64 f2, .int .i64 f3, .string f4], .int .i64 E1]) rfl (Or.inl ⟨by rfl, ?_⟩) hHeld ?_
                    · intro w hSw; (try dsimp only at hSw); go_simp
                    (try simp only [Act.put, List.setIfInBounds_toArray, List.set_cons_zero, List.set_cons_succ])
                    refine takeL (i := 16) (v := .agg #[.slice a1 L1 cap1, .int .i64 t1, .int .i64 k1]) rfl (Or.inl ⟨by rfl, ?_⟩) hHeld ?_
                    · intro w hSw; (try dsimp only at hSw); go_simp
                    (try simp only [Act.put, List.setIfInBounds_toArray, List.set_cons_zero, List.set_cons_succ])
                    refine takeL (i := 17) (v := .agg #[.int .i64 f1, .int .i64 f2, .int .i64 f3, .string f4]) rfl (Or.inl ⟨by rfl, ?_⟩) hHeld ?_
                    · intro w hSw; (try dsimp only at hSw); go_simp
                    (try simp only [Act.put, List.setIfInBounds_toArray, List.set_cons_zero, List.set_cons_succ])
                    refine takeL (i := 18) (v := .int .i64 E1) rfl (Or.inl ⟨by rfl, ?_⟩) hHeld ?_
                    · intro w hSw; (try dsimp only at hSw); go_simp
                    (try simp only [Act.put, List.setIfInBounds_toArray, List.set_cons_zero, List.set_cons_succ])
                    refine wpAnyH_ready (rs := [19]) (by kernel_rfl) (by simp) ?_
                    refine consL rfl (fun K hK => ?_) ?_
                    ·
                     go_simp
                     obtain ⟨x10_4, hc⟩ := box_new wq3 #[.slice none 0 0, .int .i64 0, .int .i64 0] 24
                     obtain ⟨g10, hg⟩ : ∃ g, g = wq3.heap.size := ⟨_, rfl⟩
                     obtain ⟨wq4, hw⟩ : ∃ w', w' = wq3.alloc (.cells #[.slice none 0 0, .int .i64 0, .int .i64 0] 24) := ⟨_, rfl⟩
                     rw [← hw] at x10_4 hc ⊢
                     have hb_4 := hb_3.trans (hc.mono hb_3.size)
                     have x11_4 := x11_3.keep hc
                     have o_4 := o_3.keep hc
                     have le10 : w2.heap.size ≤ g10 := by rw [hg]; exact hb_3.size
                     have n10 : ∀ r, (Value.slice a1 L1 cap1).ownBlock = some r → r ≠ g10 := fun r hr => by have := (o_3.lt r hr).2; omega
                     have ne1 : g10 ≠ g11 := by have := x11_3.lt; omega
                     rw [← hg] at x10_4 ⊢
                     clear hw hg hc
                     refine hK.out _ _ (KS.out _ hb_4) (fun hHeld => ?_)
                     clear hK K
                     (try simp only [Act.put, List.setIfInBounds_toArray, List.set_cons_zero, List.set_cons_succ])
                     refine wpAnyH_ready (rs := [21]) (by kernel_rfl) (by simp) ?_
                     refine consL rfl (fun K hK => ?_) ?_
                     ·
                      obtain ⟨c0, c1, c2⟩ := agg_cells x10_4
                      have z0 := x10_4.free 0; have z1 := x10_4.free 1; have z2 := x10_4.free 2
                      go_simp
                      obtain ⟨wq5, hw⟩ : ∃ w', w' = ((wq4.setCell ⟨g10, 0, none⟩ (.slice a1 L1 cap1)).setCell ⟨g10, 1, none⟩ (.int .i64 t1)).setCell ⟨g10, 2, none⟩ (.int .i64 k1) := ⟨_, rfl⟩
                      have x10_5 := x10_4.set3 (.slice a1 L1 cap1) (.int .i64 t1) (.int .i64 k1)
                      have x11_5 := blk_set3 x11_4 ne1 (.slice a1 L1 cap1) (.int .i64 t1) (.int .i64 k1)
                      have o_5 := Go.Proofs.Ytmecaioklmkdlaa.Ss.OwnS.setN (Go.Proofs.Ytmecaioklmkdlaa.Ss.OwnS.setN (Go.Proofs.Ytmecaioklmkdlaa.Ss.OwnS.setN o_4 (i := 0) (u := .slice a1 L1 cap1) n10) (i := 1) (u := .int .i64 t1) n10) (i := 2) (u := .int .i64 k1) n10
                      have hb_5 := below_set3 hb_4 le10 (.slice a1 L1 cap1) (.int .i64 t1) (.int .i64 k1)
                      rw [← hw] at x10_5 x11_5 o_5 hb_5 ⊢
                      clear hw c0 c1 c2 z0 z1 z2
                      refine hK.out _ _ (KS.out _ hb_5) (fun hHeld => ?_)
                      clear hK K
                      (try simp only [Act.put, List.setIfInBounds_toArray, List.set_cons_zero, List.set_cons_succ])
                      refine wpAnyH_ready (rs := [22]) (by kernel_rfl) (by simp) ?_
                      refine consL rfl (fun K hK => ?_) ?_
                      ·
                       obtain ⟨c0, c1, c2, c3⟩ := fm_cells x11_5
                       have z0 := x11_5.free 0; have z1 := x11_5.free 1; have z2 := x11_5.free 2; have z3 := x11_5.free 3
                       go_simp
                       obtain ⟨wq6, hw⟩ : ∃ w', w' = (((wq5.setCell ⟨g11, 0, none⟩ (.int .i64 f1)).setCell ⟨g11, 1, none⟩ (.int .i64 f2)).setCell ⟨g11, 2, none⟩ (.int .i64 f3)).setCell ⟨g11, 3, none⟩ (.string f4) := ⟨_, rfl⟩
                       have x10_6 := blk_set4 x10_5 (fun e => ne1 e.symm) (.int .i64 f1) (.int .i64 f2) (.int .i64 f3) (.string f4)
                       have x11_6 := x11_5.set4 (.int .i64 f1) (.int .i64 f2) (.int .i64 f3) (.string f4)
                       have o_6 := Go.Proofs.Ytmecaioklmkdlaa.Ss.OwnS.setN (Go.Proofs.Ytmecaioklmkdlaa.Ss.OwnS.setN (Go.Proofs.Ytmecaioklmkdlaa.Ss.OwnS.setN (Go.Proofs.Ytmecaioklmkdlaa.Ss.OwnS.setN o_5 (i := 0) (u := .int .i64 f1) n11) (i := 1) (u := .int .i64 f2) n11) (i := 2) (u := .int .i64 f3) n11) (i := 3) (u := .string f4) n11
                       have hb_6 := below_set4 hb_5 le11 (.int .i64 f1) (.int .i64 f2) (.int .i64 f3) (.string f4)
                       rw [← hw] at x10_6 x11_6 o_6 hb_6 ⊢
                       clear hw c0 c1 c2 c3 z0 z1 z2 z3
                       refine hK.out _ _ (KS.out _ hb_6) (fun hHeld => ?_)
                       clear hK K
                       (try simp only [Act.put, List.setIfInBounds_toArray, List.set_cons_zero, List.set_cons_succ])
                       refine takeL (i := 23) (v := .int .i64 E1) rfl (Or.inl ⟨by rfl, ?_⟩) hHeld ?_
                       · intro w hSw; (try dsimp only at hSw); go_simp
                       (try simp only [Act.put, List.setIfInBounds_toArray, List.set_cons_zero, List.set_cons_succ])
                       refine wpAnyH_done (by kernel_rfl) ?_ _
                       refine NoPanic.normal ?_
                       go_wp2_with fail
                       go_meet
                       case rel => exact ⟨g10, g11, a1, cap1, rfl, rfl, rfl, Lib.hid x10_6, Lib.hid x11_6, Lib.hid o_6, Lib.hid hb_6, le10, le11, ne1, n10, n11⟩
                      exact AllReadyH.nil
                     exact AllReadyH.nil
                    exact AllReadyH.nil
                   refine consL rfl (fun K hK => ?_) ?_
                   ·
                    go_simp
                    obtain ⟨x10_3, hc⟩ := box_new wq2 #[.slice none 0 0, .int .i64 0, .int .i64 0] 24
                    obtain ⟨g10, hg⟩ : ∃ g, g = wq2.heap.size := ⟨_, rfl⟩
                    obtain ⟨wq3, hw⟩ : ∃ w', w' = wq2.alloc (.cells #[.slice none 0 0, .int .i64 0, .int .i64 0] 24) := ⟨_, rfl⟩
                    rw [← hw] at x10_3 hc ⊢
                    have hb_3 := hb_2.trans (hc.mono hb_2.size)
                    have x11_3 := x11_2.keep hc
                    have le10 : w2.heap.size ≤ g10 := by rw [hg]; exact hb_2.size
                    have ne1 : g10 ≠ g11 := by have := x11_2.lt; omega
                    rw [← hg] at x10_3 ⊢
                    clear hw hg hc
                    refine hK.out _ _ (KS.out _ hb_3) (fun hHeld => ?_)
                    clear hK K
                    (try simp only [Act.put, List.setIfInBounds_toArray, List.set_cons_zero, List.set_cons_succ])
                    refine wpAnyH_ready (rs := [14]) (by kernel_rfl) (by simp) ?_
                    refine consL rfl (fun K hK => ?_) ?_
                    ·
                     go_simp
                     go_at_call 10
                     refine (HSD.out wq3 hb_3).mono ?_
                     rintro e wq4 ⟨v1, rfl, o_4, hc⟩
                     obtain ⟨a1, cap1, rfl, -⟩ := o_4.has
                     rw [HL1.out] at o_4 ⊢
                     have hb_4 := hb_3.trans (hc.mono hb_3.size)
                     have x11_4 := x11_3.keep hc
                     have x10_4 := x10_3.keep hc
                     have n10 : ∀ r, (Value.slice a1 L1 cap1).ownBlock = some r → r ≠ g10 := fun r hr => by have := (o_4.lt r hr).1; have := x10_3.lt; omega
                     have n11 : ∀ r, (Value.slice a1 L1 cap1).ownBlock = some r → r ≠ g11 := fun r hr => by have := (o_4.lt r hr).1; have := x11_3.lt; omega
                     replace o_4 := o_4.low hb_3.size
                     clear hc
                     refine hK.out _ _ (KS.out _ hb_4) (fun hHeld => ?_)
                     clear hK K
                     (try simp only [Act.put, List.setIfInBounds_toArray, List.set_cons_zero, List.set_cons_succ])
                     refine takeL (i := 15) (v := .tuple #[.agg #[.slice a1 L1 cap1, .int .i64 t1, .int .i64 k1], .agg #[.int .i64 f1, .int .i64 f2, .int .i64 f3, .string f4], .int .i64 E1]) rfl (Or.inl ⟨by rfl, ?_⟩) hHeld ?_
                     · intro w hSw; (try dsimp only at hSw); go_simp
                     (try simp only [Act.put, List.setIfInBounds_toArray, List.set_cons_zero, List.set_cons_succ])
                     refine takeL (i := 16) (v := .agg #[.slice a1 L1 cap1, .int .i64 t1, .int .i64 k1]) rfl (Or.inl ⟨by rfl, ?_⟩) hHeld ?_
                     · intro w hSw; (try dsimp only at hSw); go_simp
                     (try simp only [Act.put, List.setIfInBounds_toArray, List.set_cons_zero, List.set_cons_succ])
                     refine takeL (i := 17) (v := .agg #[.int .i64 f1, .int .i64 f2, .int .i64 f3, .string f4]) rfl (Or.inl ⟨by rfl, ?_⟩) hHeld ?_
                     · intro w hSw; (try dsimp only at hSw); go_simp
                     (try simp only [Act.put, List.setIfInBounds_toArray, List.set_cons_zero, List.set_cons_succ])
                     refine takeL (i := 18) (v := .int .i64 E1) rfl (Or.inl ⟨by rfl, ?_⟩) hHeld ?_
                     · intro w hSw; (try dsimp only at hSw); go_simp
                     (try simp only [Act.put, List.setIfInBounds_toArray, List.set_cons_zero, List.set_cons_succ])
                     refine wpAnyH_ready (rs := [21]) (by kernel_rfl) (by simp) ?_
                     refine consL rfl (fun K hK => ?_) ?_
                     ·
                      obtain ⟨c0, c1, c2⟩ := agg_cells x10_4
                      have z0 := x10_4.free 0; have z1 := x10_4.free 1; have z2 := x10_4.free 2
                      go_simp
                      obtain ⟨wq5, hw⟩ : ∃ w', w' = ((wq4.setCell ⟨g10, 0, none⟩ (.slice a1 L1 cap1)).setCell ⟨g10, 1, none⟩ (.int .i64 t1)).setCell ⟨g10, 2, none⟩ (.int .i64 k1) := ⟨_, rfl⟩
                      have x10_5 := x10_4.set3 (.slice a1 L1 cap1) (.int .i64 t1) (.int .i64 k1)
                      have x11_5 := blk_set3 x11_4 ne1 (.slice a1 L1 cap1) (.int .i64 t1) (.int .i64 k1)
                      have o_5 := Go.Proofs.Ytmecaioklmkdlaa.Ss.OwnS.setN (Go.Proofs.Ytmecaioklmkdlaa.Ss.OwnS.setN (Go.Proofs.Ytmecaioklmkdlaa.Ss.OwnS.setN o_4 (i := 0) (u := .slice a1 L1 cap1) n10) (i := 1) (u := .int .i64 t1) n10) (i := 2) (u := .int .i64 k1) n10
                      have hb_5 := below_set3 hb_4 le10 (.slice a1 L1 cap1) (.int .i64 t1) (.int .i64 k1)
                      rw [← hw] at x10_5 x11_5 o_5 hb_5 ⊢
                      clear hw c0 c1 c2 z0 z1 z2
                      refine hK.out _ _ (KS.out _ hb_5) (fun hHeld => ?_)
                      clear hK K
                      (try simp only [Act.put, List.setIfInBounds_toArray, List.set_cons_zero, List.set_cons_succ])
                      refine wpAnyH_ready (rs := [22]) (by kernel_rfl) (by simp) ?_
                      refine consL rfl (fun K hK => ?_) ?_
                      ·
                       obtain ⟨c0, c1, c2, c3⟩ := fm_cells x11_5
                       have z0 := x11_5.free 0; have z1 := x11_5.free 1; have z2 := x11_5.free 2; have z3 := x11_5.free 3
                       go_simp
                       obtain ⟨wq6, hw⟩ : ∃ w', w' = (((wq5.setCell ⟨g11, 0, none⟩ (.int .i64 f1)).setCell ⟨g11, 1, none⟩ (.int .i64 f2)).setCell ⟨g11, 2, none⟩ (.int .i64 f3)).setCell ⟨g11, 3, none⟩ (.string f4) := ⟨_, rfl⟩
                       have x10_6 := blk_set4 x10_5 (fun e => ne1 e.symm) (.int .i64 f1) (.int .i64 f2) (.int .i64 f3) (.string f4)
                       have x11_6 := x11_5.set4 (.int .i64 f1) (.int .i64 f2) (.int .i64 f3) (.string f4)
                       have o_6 := Go.Proofs.Ytmecaioklmkdlaa.Ss.OwnS.setN (Go.Proofs.Ytmecaioklmkdlaa.Ss.OwnS.setN (Go.Proofs.Ytmecaioklmkdlaa.Ss.OwnS.setN (Go.Proofs.Ytmecaioklmkdlaa.Ss.OwnS.setN o_5 (i := 0) (u := .int .i64 f1) n11) (i := 1) (u := .int .i64 f2) n11) (i := 2) (u := .int .i64 f3) n11) (i := 3) (u := .string f4) n11
                       have hb_6 := below_set4 hb_5 le11 (.int .i64 f1) (.int .i64 f2) (.int .i64 f3) (.string f4)
                       rw [← hw] at x10_6 x11_6 o_6 hb_6 ⊢
                       clear hw c0 c1 c2 c3 z0 z1 z2 z3
                       refine hK.out _ _ (KS.out _ hb_6) (fun hHeld => ?_)
                       clear hK K
                       (try simp only [Act.put, List.setIfInBounds_toArray, List.set_cons_zero, List.set_cons_succ])
                       refine takeL (i := 23) (v := .int .i64 E1) rfl (Or.inl ⟨by rfl, ?_⟩) hHeld ?_
                       · intro w hSw; (try dsimp only at hSw); go_simp
                       (try simp only [Act.put, List.setIfInBounds_toArray, List.set_cons_zero, List.set_cons_succ])
                       refine wpAnyH_done (by kernel_rfl) ?_ _
                       refine NoPanic.normal ?_
                       go_wp2_with fail
                       go_meet
                       case rel => exact ⟨g10, g11, a1, cap1, rfl, rfl, rfl, Lib.hid x10_6, Lib.hid x11_6, Lib.hid o_6, Lib.hid hb_6, le10, le11, ne1, n10, n11⟩
                      exact AllReadyH.nil
                     exact AllReadyH.nil
                    exact AllReadyH.nil
                   exact AllReadyH.nil
                  refine consL rfl (fun K hK => ?_) ?_
                  ·
                   go_simp
                   obtain ⟨x10_3, hc⟩ := box_new wq2 #[.slice none 0 0, .int .i64 0, .int .i64 0] 24
                   obtain ⟨g10, hg⟩ : ∃ g, g = wq2.heap.size := ⟨_, rfl⟩
                   obtain ⟨wq3, hw⟩ : ∃ w', w' = wq2.alloc (.cells #[.slice none 0 0, .int .i64 0, .int .i64 0] 24) := ⟨_, rfl⟩
                   rw [← hw] at x10_3 hc ⊢
                   have hb_3 := hb_2.trans (hc.mono hb_2.size)
                   have x11_3 := x11_2.keep hc
                   have xp_3 := xp_2.keep hc
                   have le10 : w2.heap.size ≤ g10 := by rw [hg]; exact hb_2.size
                   have ne1 : g10 ≠ g11 := by have := x11_2.lt; omega
                   rw [← hg] at x10_3 ⊢
                   clear hw hg hc
                   refine hK.out _ _ (KS.out _ hb_3) (fun hHeld => ?_)
                   clear hK K
                   (try simp only [Act.put, List.setIfInBounds_toArray, List.set_cons_zero, List.set_cons_succ])
                   refine wpAnyH_ready (rs := [13]) (by kernel_rfl) (by simp) ?_
                   refine consL rfl (fun K hK => ?_) ?_
                   ·
                    have kc := conv2 xp_3
                    rw [HTX.out] at kc
                    go_simp
                    clear kc
                    refine hK.out _ _ (KS.out _ hb_3) (fun hHeld => ?_)
                    clear hK K xp_3
                    (try simp only [Act.put, List.setIfInBounds_toArray, List.set_cons_zero, List.set_cons_succ])
                    refine wpAnyH_ready (rs := [14]) (by kernel_rfl) (by simp) ?_
                    refine consL rfl (fun K hK => ?_) ?_
                    ·
                     go_simp
                     go_at_call 10
                     refine (HSD.out wq3 hb_3).mono ?_
                     rintro e wq4 ⟨v1, rfl, o_4, hc⟩
                     obtain ⟨a1, cap1, rfl, -⟩ := o_4.has
                     rw [HL1.out] at o_4 ⊢
                     have hb_4 := hb_3.trans (hc.mono hb_3.size)
                     have x11_4 := x11_3.keep hc
                     have x10_4 := x10_3.keep hc
                     have n10 : ∀ r, (Value.slice a1 L1 cap1).ownBlock = some r → r ≠ g10 := fun r hr => by have := (o_4.lt r hr).1; have := x10_3.lt; omega
                     have n11 : ∀ r, (Value.slice a1 L1 cap1).ownBlock = some r → r ≠ g11 := fun r hr => by have := (o_4.lt r hr).1; have := x11_3.lt; omega
                     replace o_4 := o_4.low hb_3.size
                     clear hc
                     refine hK.out _ _ (KS.out _ hb_4) (fun hHeld => ?_)
                     clear hK K
                     (try simp only [Act.put, List.setIfInBounds_toArray, List.set_cons_zero, List.set_cons_succ])
                     refine takeL (i := 15) (v := .tuple #[.agg #[.slice a1 L1 cap1, .int .i64 t1, .int .i64 k1], .agg #[.int .i64 f1, .int .i64 f2, .int .i64 f3, .string f4], .int .i64 E1]) rfl (Or.inl ⟨by rfl, ?_⟩) hHeld ?_
                     · intro w hSw; (try dsimp only at hSw); go_simp
                     (try simp only [Act.put, List.setIfInBounds_toArray, List.set_cons_zero, List.set_cons_succ])
                     refine takeL (i := 16) (v := .agg #[.slice a1 L1 cap1, .int .i64 t1, .int .i64 k1]) rfl (Or.inl ⟨by rfl, ?_⟩) hHeld ?_
                     · intro w hSw; (try dsimp only at hSw); go_simp
                     (try simp only [Act.put, List.setIfInBounds_toArray, List.set_cons_zero, List.set_cons_succ])
                     refine takeL (i := 17) (v := .agg #[.int .i64 f1, .int .i64 f2, .int .i64 f3, .string f4]) rfl (Or.inl ⟨by rfl, ?_⟩) hHeld ?_
                     · intro w hSw; (try dsimp only at hSw); go_simp
                     (try simp only [Act.put, List.setIfInBounds_toArray, List.set_cons_zero, List.set_cons_succ])
                     refine takeL (i := 18) (v := .int .i64 E1) rfl (Or.inl ⟨by rfl, ?_⟩) hHeld ?_
                     · intro w hSw; (try dsimp only at hSw); go_simp
                     (try simp only [Act.put, List.setIfInBounds_toArray, List.set_cons_zero, List.set_cons_succ])
                     refine wpAnyH_ready (rs := [21]) (by kernel_rfl) (by simp) ?_
                     refine consL rfl (fun K hK => ?_) ?_
                     ·
                      obtain ⟨c0, c1, c2⟩ := agg_cells x10_4
                      have z0 := x10_4.free 0; have z1 := x10_4.free 1; have z2 := x10_4.free 2
                      go_simp
                      obtain ⟨wq5, hw⟩ : ∃ w', w' = ((wq4.setCell ⟨g10, 0, none⟩ (.slice a1 L1 cap1)).setCell ⟨g10, 1, none⟩ (.int .i64 t1)).setCell ⟨g10, 2, none⟩ (.int .i64 k1) := ⟨_, rfl⟩
                      have x10_5 := x10_4.set3 (.slice a1 L1 cap1) (.int .i64 t1) (.int .i64 k1)
                      have x11_5 := blk_set3 x11_4 ne1 (.slice a1 L1 cap1) (.int .i64 t1) (.int .i64 k1)
                      have o_5 := Go.Proofs.Ytmecaioklmkdlaa.Ss.OwnS.setN (Go.Proofs.Ytmecaioklmkdlaa.Ss.OwnS.setN (Go.Proofs.Ytmecaioklmkdlaa.Ss.OwnS.setN o_4 (i := 0) (u := .slice a1 L1 cap1) n10) (i := 1) (u := .int .i64 t1) n10) (i := 2) (u := .int .i64 k1) n10
                      have hb_5 := below_set3 hb_4 le10 (.slice a1 L1 cap1) (.int .i64 t1) (.int .i64 k1)
                      rw [← hw] at x10_5 x11_5 o_5 hb_5 ⊢
                      clear hw c0 c1 c2 z0 z1 z2
                      refine hK.out _ _ (KS.out _ hb_5) (fun hHeld => ?_)
                      clear hK K
                      (try simp only [Act.put, List.setIfInBounds_toArray, List.set_cons_zero, List.set_cons_succ])
                      refine wpAnyH_ready (rs := [22]) (by kernel_rfl) (by simp) ?_
                      refine consL rfl (fun K hK => ?_) ?_
                      ·
                       obtain ⟨c0, c1, c2, c3⟩ := fm_cells x11_5
                       have z0 := x11_5.free 0; have z1 := x11_5.free 1; have z2 := x11_5.free 2; have z3 := x11_5.free 3
                       go_simp
                       obtain ⟨wq6, hw⟩ : ∃ w', w' = (((wq5.setCell ⟨g11, 0, none⟩ (.int .i64 f1)).setCell ⟨g11, 1, none⟩ (.int .i64 f2)).setCell ⟨g11, 2, none⟩ (.int .i64 f3)).setCell ⟨g11, 3, none⟩ (.string f4) := ⟨_, rfl⟩
                       have x10_6 := blk_set4 x10_5 (fun e => ne1 e.symm) (.int .i64 f1) (.int .i64 f2) (.int .i64 f3) (.string f4)
                       have x11_6 := x11_5.set4 (.int .i64 f1) (.int .i64 f2) (.int .i64 f3) (.string f4)
                       have o_6 := Go.Proofs.Ytmecaioklmkdlaa.Ss.OwnS.setN (Go.Proofs.Ytmecaioklmkdlaa.Ss.OwnS.setN (Go.Proofs.Ytmecaioklmkdlaa.Ss.OwnS.setN (Go.Proofs.Ytmecaioklmkdlaa.Ss.OwnS.setN o_5 (i := 0) (u := .int .i64 f1) n11) (i := 1) (u := .int .i64 f2) n11) (i := 2) (u := .int .i64 f3) n11) (i := 3) (u := .string f4) n11
                       have hb_6 := below_set4 hb_5 le11 (.int .i64 f1) (.int .i64 f2) (.int .i64 f3) (.string f4)
                       rw [← hw] at x10_6 x11_6 o_6 hb_6 ⊢
                       clear hw c0 c1 c2 c3 z0 z1 z2 z3
                       refine hK.out _ _ (KS.out _ hb_6) (fun hHeld => ?_)
                       clear hK K
                       (try simp only [Act.put, List.setIfInBounds_toArray, List.set_cons_zero, List.set_cons_succ])
                       refine takeL (i := 23) (v := .int .i64 E1) rfl (Or.inl ⟨by rfl, ?_⟩) hHeld ?_
                       · intro w hSw; (try dsimp only at hSw); go_simp
                       (try simp only [Act.put, List.setIfInBounds_toArray, List.set_cons_zero, List.set_cons_succ])
                       refine wpAnyH_done (by kernel_rfl) ?_ _
                       refine NoPanic.normal ?_
                       go_wp2_with fail
                       go_meet
                       case rel => exact ⟨g10, g11, a1, cap1, rfl, rfl, rfl, Lib.hid x10_6, Lib.hid x11_6, Lib.hid o_6, Lib.hid hb_6, le10, le11, ne1, n10, n11⟩
                      exact AllReadyH.nil
                     exact AllReadyH.nil
                    exact AllReadyH.nil
                   exact AllReadyH.nil
                  exact AllReadyH.nil
                 refine consL rfl (fun K hK => ?_) ?_
                 ·
                  go_simp
                  obtain ⟨x10_2, hc⟩ := box_new wq1 #[.slice none 0 0, .int .i64 0, .int .i64 0] 24
                  obtain ⟨g10, hg⟩ : ∃ g, g = wq1.heap.size := ⟨_, rfl⟩
                  obtain ⟨wq2, hw⟩ : ∃ w', w' = wq1.alloc (.cells #[.slice none 0 0, .int .i64 0, .int .i64 0] 24) := ⟨_, rfl⟩
                  rw [← hw] at x10_2 hc ⊢
                  have hb_2 := hb_1.trans (hc.mono hb_1.size)
                  have x11_2 := x11_1.keep hc
                  have le10 : w2.heap.size ≤ g10 := by rw [hg]; exact hb_1.size
                  have ne1 : g10 ≠ g11 := by have := x11_1.lt; omega
                  rw [← hg] at x10_2 ⊢
                  clear hw hg hc
                  refine hK.out _ _ (KS.out _ hb_2) (fun hHeld => ?_)
                  clear hK K
                  (try simp only [Act.put, List.setIfInBounds_toArray, List.set_cons_zero, List.set_cons_succ])
                  refine wpAnyH_ready (rs := [12]) (by kernel_rfl) (by simp) ?_
                  refine consL rfl (fun K hK => ?_) ?_
                  ·
                   go_simp
                   obtain ⟨xp_3, hc⟩ := box_new wq2 #[.int .u8 (b0 : Int), .int .u8 (b1 : Int)] 5
                   obtain ⟨gb, hg⟩ : ∃ g, g = wq2.heap.size := ⟨_, rfl⟩
                   obtain ⟨wq3, hw⟩ : ∃ w', w' = wq2.alloc (.cells #[.int .u8 (b0 : Int), .int .u8 (b1 : Int)] 5) := ⟨_, rfl⟩
                   rw [← hw] at xp_3 hc ⊢
                   have hb_3 := hb_2.trans (hc.mono hb_2.size)
                   have x11_3 := x11_2.keep hc
                   have x10_3 := x10_2.keep hc
                   rw [← hg] at xp_3 ⊢
                   clear hw hg hc
                   refine hK.out _ _ (KS.out _ hb_3) (fun hHeld => ?_)
                   clear hK K
                   (try simp only [Act.put, List.setIfInBounds_toArray, List.set_cons_zero, List.set_cons_succ])
                   refine wpAnyH_ready (rs := [13]) (by kernel_rfl) (by simp) ?_
                   refine consL rfl (fun K hK => ?_) ?_
                   ·
                    have kc := conv2 xp_3
                    rw [HTX.out] at kc
                    go_simp
                    clear kc
                    refine hK.out _ _ (KS.out _ hb_3) (fun hHeld => ?_)
                    clear hK K xp_3
                    (try simp only [Act.put, List.setIfInBounds_toArray, List.set_cons_zero, List.set_cons_succ])
                    refine wpAnyH_ready (rs := [14]) (by kernel_rfl) (by simp) ?_
                    refine consL rfl (fun K hK => ?_) ?_
                    ·
                     go_simp
                     go_at_call 10
                     refine (HSD.out wq3 hb_3).mono ?_
                     rintro e wq4 ⟨v1, rfl, o_4, hc⟩
                     obtain ⟨a1, cap1, rfl, -⟩ := o_4.has
                     rw [HL1.out] at o_4 ⊢
                     have hb_4 := hb_3.trans (hc.mono hb_3.size)
                     have x11_4 := x11_3.keep hc
                     have x10_4 := x10_3.keep hc
                     have n10 : ∀ r, (Value.slice a1 L1 cap1).ownBlock = some r → r ≠ g10 := fun r hr => by have := (o_4.lt r hr).1; have := x10_3.lt; omega
                     have n11 : ∀ r, (Value.slice a1 L1 cap1).ownBlock = some r → r ≠ g11 := fun r hr => by have := (o_4.lt r hr).1; have := x11_3.lt; omega
                     replace o_4 := o_4.low hb_3.size
                     clear hc
                     refine hK.out _ _ (KS.out _ hb_4) (fun hHeld => ?_)
                     clear hK K
                     (try simp only [Act.put, List.setIfInBounds_toArray, List.set_cons_zero, List.set_cons_succ])
                     refine takeL (i := 15) (v := .tuple #[.agg #[.slice a1 L1 cap1, .int .i64 t1, .int .i64 k1], .agg #[.int .i64 f1, .int .i64 f2, .int .i64 f3, .string f4], .int .i64 E1]) rfl (Or.inl ⟨by rfl, ?_⟩) hHeld ?_
                     · intro w hSw; (try dsimp only at hSw); go_simp
                     (try simp only [Act.put, List.setIfInBounds_toArray, List.set_cons_zero, List.set_cons_succ])
                     refine takeL (i := 16) (v := .agg #[.slice a1 L1 cap1, .int .i64 t1, .int .i64 k1]) rfl (Or.inl ⟨by rfl, ?_⟩) hHeld ?_
                     · intro w hSw; (try dsimp only at hSw); go_simp
                     (try simp only [Act.put, List.setIfInBounds_toArray, List.set_cons_zero, List.set_cons_succ])
                     refine takeL (i := 17) (v := .agg #[.int .i64 f1, .int .i64 f2, .int .i64 f3, .string f4]) rfl (Or.inl ⟨by rfl, ?_⟩) hHeld ?_
                     · intro w hSw; (try dsimp only at hSw); go_simp
                     (try simp only [Act.put, List.setIfInBounds_toArray, List.set_cons_zero, List.set_cons_succ])
                     refine takeL (i := 18) (v := .int .i64 E1) rfl (Or.inl ⟨by rfl, ?_⟩) hHeld ?_
                     · intro w hSw; (try dsimp only at hSw); go_simp
                     (try simp only [Act.put, List.setIfInBounds_toArray, List.set_cons_zero, List.set_cons_succ])
                     refine wpAnyH_ready (rs := [21]) (by kernel_rfl) (by simp) ?_
                     refine consL rfl (fun K hK => ?_) ?_
                     ·
                      obtain ⟨c0, c1, c2⟩ := agg_cells x10_4
                      have z0 := x10_4.free 0; have z1 := x10_4.free 1; have z2 := x10_4.free 2
                      go_simp
                      obtain ⟨wq5, hw⟩ : ∃ w', w' = ((wq4.setCell ⟨g10, 0, none⟩ (.slice a1 L1 cap1)).setCell ⟨g10, 1, none⟩ (.int .i64 t1)).setCell ⟨g10, 2, none⟩ (.int .i64 k1) := ⟨_, rfl⟩
                      have x10_5 := x10_4.set3 (.slice a1 L1 cap1) (.int .i64 t1) (.int .i64 k1)
                      have x11_5 := blk_set3 x11_4 ne1 (.slice a1 L1 cap1) (.int .i64 t1) (.int .i64 k1)
                      have o_5 := Go.Proofs.Ytmecaioklmkdlaa.Ss.OwnS.setN (Go.Proofs.Ytmecaioklmkdlaa.Ss.OwnS.setN (Go.Proofs.Ytmecaioklmkdlaa.Ss.OwnS.setN o_4 (i := 0) (u := .slice a1 L1 cap1) n10) (i := 1) (u := .int .i64 t1) n10) (i := 2) (u := .int .i64 k1) n10
                      have hb_5 := below_set3 hb_4 le10 (.slice a1 L1 cap1) (.int .i64 t1) (.int .i64 k1)
                      rw [← hw] at x10_5 x11_5 o_5 hb_5 ⊢
                      clear hw c0 c1 c2 z0 z1 z2
                      refine hK.out _ _ (KS.out _ hb_5) (fun hHeld => ?_)
                      clear hK K
                      (try simp only [Act.put, List.setIfInBounds_toArray, List.set_cons_zero, List.set_cons_succ])
                      refine wpAnyH_ready (rs := [22]) (by kernel_rfl) (by simp) ?_
                      refine consL rfl (fun K hK => ?_) ?_
                      ·
                       obtain ⟨c0, c1, c2, c3⟩ := fm_cells x11_5
                       have z0 := x11_5.free 0; have z1 := x11_5.free 1; have z2 := x11_5.free 2; have z3 := x11_5.free 3
                       go_simp
                       obtain ⟨wq6, hw⟩ : ∃ w', w' = (((wq5.setCell ⟨g11, 0, none⟩ (.int .i64 f1)).setCell ⟨g11, 1, none⟩ (.int .i64 f2)).setCell ⟨g11, 2, none⟩ (.int .i64 f3)).setCell ⟨g11, 3, none⟩ (.string f4) := ⟨_, rfl⟩
                       have x10_6 := blk_set4 x10_5 (fun e => ne1 e.symm) (.int .i64 f1) (.int .i64 f2) (.int .i64 f3) (.string f4)
                       have x11_6 := x11_5.set4 (.int .i64 f1) (.int .i64 f2) (.int .i64 f3) (.string f4)
                       have o_6 := Go.Proofs.Ytmecaioklmkdlaa.Ss.OwnS.setN (Go.Proofs.Ytmecaioklmkdlaa.Ss.OwnS.setN (Go.Proofs.Ytmecaioklmkdlaa.Ss.OwnS.setN (Go.Proofs.Ytmecaioklmkdlaa.Ss.OwnS.setN o_5 (i := 0) (u := .int .i64 f1) n11) (i := 1) (u := .int .i64 f2) n11) (i := 2) (u := .int .i64 f3) n11) (i := 3) (u := .string f4) n11
                       have hb_6 := below_set4 hb_5 le11 (.int .i64 f1) (.int .i64 f2) (.int .i64 f3) (.string f4)
                       rw [← hw] at x10_6 x11_6 o_6 hb_6 ⊢
                       clear hw c0 c1 c2 c3 z0 z1 z2 z3
                       refine hK.out _ _ (KS.out _ hb_6) (fun hHeld => ?_)
                       clear hK K
                       (try simp only [Act.put, List.setIfInBounds_toArray, List.set_cons_zero, List.set_cons_succ])
                       refine takeL (i := 23) (v := .int .i64 E1) rfl (Or.inl ⟨by rfl, ?_⟩) hHeld ?_
                       · intro w hSw; (try dsimp only at hSw); go_simp
                       (try simp only [Act.put, List.setIfInBounds_toArray, List.set_cons_zero, List.set_cons_succ])
                       refine wpAnyH_done (by kernel_rfl) ?_ _
                       refine NoPanic.normal ?_
                       go_wp2_with fail
                       go_meet
                       case rel => exact ⟨g10, g11, a1, cap1, rfl, rfl, rfl, Lib.hid x10_6, Lib.hid x11_6, Lib.hid o_6, Lib.hid hb_6, le10, le11, ne1, n10, n11⟩
                      exact AllReadyH.nil
                     exact AllReadyH.nil
                    exact AllReadyH.nil
                   exact AllReadyH.nil
                  exact AllReadyH.nil
                 exact AllReadyH.nil
                exact AllReadyH.nil
            obtain ⟨g10, g11, a1, cap1, rfl, rfl, rfl, X10, X11, O1, BC, le10, le11, ne1, n10, n11⟩ := hcut
            have hz2 : N ≤ w2.heap.size := by have := HR2.out.size; have := HR2.out.le; omega
            have HRC := Lib.hid (HR2.out.keep BC.out); have HBC := Lib.hid (HB2.out.trans (BC.out.mono hz2))
            have NA := Lib.hid (new_apart HR2.out (Nat.le_refl _) (fun j hj => (O1.out.lt j hj).1))
            have NG : Hid (g10 ≠ g3 ∧ g10 ≠ g4 ∧ g10 ≠ g5 ∧ g11 ≠ g3 ∧ g11 ≠ g4 ∧ g11 ≠ g5) := Lib.hid (by have := HR2.out.size; omega)
            clear HSD KS HTX hx50 hb0 hb1' d0 d1 d2
            rcases HRES.out with hq | ⟨hq, hgS, hvF⟩
            · -- no room
              simp only [sd0, fm0, Prod.mk.injEq, Sd.mk.injEq, Fm.mk.injEq] at hq
              obtain ⟨⟨rfl, rfl, rfl⟩, ⟨rfl, rfl, rfl, rfl⟩, rfl⟩ := hq
              have HIM := Lib.hid HI.out.more
              clear HRES HINV X10 X11 O1 BC NA NG
              go_wp2_with fail
              go_roundg (len - (p + 1))
              case measure => omega
              case rel => exact ⟨p + 1, v, L, by omega, by go_num, HRC, HIM, HBC⟩
            · have hinv := HINV.out hgS hvF
              rw [HLM.out, HTM.out, HKM.out, HIT.out] at hinv
              rw [HLM.out, HTM.out, HKM.out] at hq
              simp only [Prod.mk.injEq, Sd.mk.injEq, Fm.mk.injEq] at hq
              obtain ⟨⟨hS1, e1, e2⟩, ⟨e3, e4, e5, e6⟩, e7⟩ := hq
              obtain rfl : tM = t1 := e1.symm
              obtain rfl : kM = k1 := e2.symm
              obtain rfl : tM = f3 := e5.symm
              obtain rfl : tx = f4 := e6.symm
              subst e3 e4 e7
              rw [← hS1] at hinv
              have HIN2 := Lib.hid hinv
              clear HRES HINV hgS hvF hinv hS1
              obtain ⟨c0, c1, c2⟩ := agg_cells X10.out
              obtain ⟨d0, d1, d2⟩ := HRC.out.c3 hme
              have z0 := HRC.out.f3 (me * 3); have z1 := HRC.out.f3 (me * 3 + 1); have z2 := HRC.out.f3 (me * 3 + 2)
              obtain ⟨w3, hw3⟩ : ∃ w3, w3 = ((wc.setCell ⟨g3, me * 3, none⟩ (.slice a1 L1 cap1)).setCell ⟨g3, me * 3 + 1, none⟩ (.int .i64 tM)).setCell ⟨g3, me * 3 + 2, none⟩ (.int .i64 kM) := ⟨_, rfl⟩
              obtain ⟨m3, bl3⟩ := end_set HRC.out HBC.out hme (t := tM) (k := kM) (O1.out.low hz2) NA.out
              have x3 : Blk w3 g11 #[.int .i64 1, .int .i64 ((LM : Int) + 1), .int .i64 tM, .string tx] 27 := by
                rw [hw3]
                exact ((X11.out.other _ _ (fun e => NG.out.2.2.2.1 e.symm)).other _ _ (fun e => NG.out.2.2.2.1 e.symm)).other _ _ (fun e => NG.out.2.2.2.1 e.symm)
              rw [← hw3] at m3 bl3
              have HR3 := Lib.hid m3; have HB3 := Lib.hid bl3; have H11 := Lib.hid x3; have HW3 := Lib.hid hw3
              clear m3 bl3 x3 hw3
              go_upto_region 20 with (fail)
              rw [← HW3.out]
              clear HW3 c0 c1 c2 d0 d1 d2 z0 z1 z2 X10 X11 O1 BC NA NG HRC HBC
              obtain ⟨p0, p1, p2, p3⟩ := fm_cells H11.out
              obtain ⟨aU, cU, hvU, hXU, hnU, -⟩ := (HR3.out.ou it hitb).has
              have e4 := HR3.out.c4 hitb
              rw [hvU] at e4
              have hlU := (HI.out it hitb).2
              have hUb : (L.u it).length ≤ 16384 := by omega
              simp only at e4 hvU
              obtain ⟨LU, hLU⟩ : ∃ n, (L.u it).length = n := ⟨_, rfl⟩
              rw [hLU] at e4 hvU hUb
              have hba : Below w3.heap.size w3 (w3.alloc (.cells #[.int .i64 1, .int .i64 ((LM : Int) + 1), .int .i64 tM, .string tx] 27)).drew := below_alloc1_drew w3 (.cells #[.int .i64 1, .int .i64 ((LM : Int) + 1), .int .i64 tM, .string tx] 27)
              have hz3 : N ≤ w3.heap.size := by have := HR3.out.size; have := HR3.out.le; omega
              have HRA := Lib.hid (HR3.out.keep hba); have HBA := Lib.hid (HB3.out.trans (hba.mono hz3))
              have HOA := Lib.hid (HRA.out.ou it hitb)
              rw [hvU] at HOA
              have HLU := Lib.hid hLU; have HVU := Lib.hid hvU
              have e4a := (HR3.out.keep (below_alloc1 w3 (.cells #[.int .i64 1, .int .i64 ((LM : Int) + 1), .int .i64 tM, .string tx] 27))).c4 hitb
              rw [hvU] at e4a
              have hza : N ≤ (w3.alloc (.cells #[.int .i64 1, .int .i64 ((LM : Int) + 1), .int .i64 tM, .string tx] 27)).drew.heap.size := Nat.le_trans hz3 hba.size
              clear hlU hXU hnU hLU hvU hba
              go_region_law (first
                | (refine step_apX (by rfl) (.tmp 74) (.tmp 76) (by rfl) N (.slice aU LU cU) (L.u it) (by rfl) HOA.out (some ⟨_, 0, none⟩) 1 1 [⟨1, (LM : Int) + 1, tM, tx⟩] (by rfl) (lit_oneX _ ⟨1, (LM : Int) + 1, tM, tx⟩ _ _ rfl) rfl (fun h => by cases h) (by rw [HLU.out]; omega) hza ?_
                   intro v8 w8 ho8 hg8 hnb8
                   obtain ⟨q1, q2, q3, q4⟩ := und_set HRA.out HBA.out hitb HVU.out ho8 hg8 hnb8.from
                   obtain ⟨a8, c8, e8, -⟩ := ho8.has
                   obtain ⟨n8, hn8⟩ : ∃ n, (L.u it ++ [(⟨1, (LM : Int) + 1, tM, tx⟩ : Fm)]).length = n := ⟨_, rfl⟩
                   rw [hn8] at e8
                   subst e8
                   have Q3 := Lib.hid q3; have Q4 := Lib.hid q4
                   clear q3 q4 ho8 hg8 hnb8 hn8))
              all_goals
                go_wp2_with fail
                go_meet
                case rel => exact ⟨_, _, Q3, HIN2, Q4⟩
        by_cases k1 : kd = 1
        · subst k1
          as_aux_lemma =>
            have htk := tick_any aM LM cM (L.e me) w2 HSM.out HLM.out
            rw [show tickS (L.e me) = (⟨3, (L.e me).S.length, (L.e me).t, em⟩, 0) by unfold tickS; rw [if_neg (by simp [HGD.out])], HLM.out] at htk
            have HTK := Lib.hid htk
            clear htk
            go_wp2_with fail
            refine HTK.out.mono ?_
            rintro e w6 ⟨rfl, hb6⟩
            clear d0 d1 d2
            obtain ⟨x13, b13⟩ := box_new w6 #[.int .i64 3, .int .i64 (LM : Int), .int .i64 (L.e me).t, .string em] 27
            obtain ⟨w7, hw7⟩ : ∃ w7, w7 = w6.alloc (.cells #[.int .i64 3, .int .i64 (LM : Int), .int .i64 (L.e me).t, .string em] 27) := ⟨_, rfl⟩
            rw [← hw7] at x13 b13
            have hb7 := hb6.trans (b13.mono hb6.size)
            have hz2 : N ≤ w2.heap.size := by have := HR2.out.size; have := HR2.out.le; omega
            have HR7 := Lib.hid (HR2.out.keep hb7); have HB7 := Lib.hid (HB2.out.trans (hb7.mono hz2)); have H13 := Lib.hid x13
            obtain ⟨g13, hg13⟩ : ∃ g, g = w6.heap.size := ⟨_, rfl⟩
            rw [← hg13] at H13
            have HG13 := Lib.hid hg13; have HW7 := Lib.hid hw7
            clear hb6 x13 b13 hw7 hb7 hg13
            go_upto_region 25 with (fail)
            rw [← HG13.out, ← HW7.out]
            clear HW7 HG13
            obtain ⟨p0, p1, p2, p3⟩ := fm_cells H13.out
            obtain ⟨aU, cU, hvU, hXU, hnU, -⟩ := (HR7.out.ou it hitb).has
            have e4 := HR7.out.c4 hitb
            rw [hvU] at e4
            have hlU := (HI.out it hitb).2
            have hUb : (L.u it).length ≤ 16384 := by omega
            obtain ⟨LU, hLU⟩ : ∃ n, (L.u it).length = n := ⟨_, rfl⟩
            rw [hLU] at e4 hvU hUb
            have hba : Below w7.heap.size w7 (w7.alloc (.cells #[.int .i64 3, .int .i64 (LM : Int), .int .i64 (L.e me).t, .string em] 27)).drew := below_alloc1_drew w7 (.cells #[.int .i64 3, .int .i64 (LM : Int), .int .i64 (L.e me).t, .string em] 27)
            have hz7 : N ≤ w7.heap.size := by have := HR7.out.size; have := HR7.out.le; omega
            have HRA := Lib.hid (HR7.out.keep hba); have HBA := Lib.hid (HB7.out.trans (hba.mono hz7))
            have HOA := Lib.hid (HRA.out.ou it hitb)
            rw [hvU] at HOA
            have HLU := Lib.hid hLU; have HVU := Lib.hid hvU
            have e4a := (HR7.out.keep (below_alloc1 w7 (.cells #[.int .i64 3, .int .i64 (LM : Int), .int .i64 (L.e me).t, .string em] 27))).c4 hitb
            rw [hvU] at e4a
            have hza : N ≤ (w7.alloc (.cells #[.int .i64 3, .int .i64 (LM : Int), .int .i64 (L.e me).t, .string em] 27)).drew.heap.size := Nat.le_trans hz7 hba.size
            have HINV := Lib.hid (inv_tick HI.out hme)
            rw [HIT.out, HLM.out] at HINV
            clear hlU hXU hnU hLU hvU hba
            go_region_law (first
              | (refine step_apX (by rfl) (.tmp 93) (.tmp 95) (by rfl) N (.slice aU LU cU) (L.u it) (by rfl) HOA.out (some ⟨_, 0, none⟩) 1 1 [⟨3, (LM : Int), (L.e me).t, em⟩] (by rfl) (lit_oneX _ ⟨3, (LM : Int), (L.e me).t, em⟩ _ _ rfl) rfl (fun h => by cases h) (by rw [HLU.out]; omega) hza ?_
                 intro v8 w8 ho8 hg8 hnb8
                 obtain ⟨q1, q2, q3, q4⟩ := und_set HRA.out HBA.out hitb HVU.out ho8 hg8 hnb8.from
                 obtain ⟨a8, c8, e8, -⟩ := ho8.has
                 obtain ⟨n8, hn8⟩ : ∃ n, (L.u it ++ [(⟨3, (LM : Int), (L.e me).t, em⟩ : Fm)]).length = n := ⟨_, rfl⟩
                 rw [hn8] at e8
                 subst e8
                 have Q3 := Lib.hid q3; have Q4 := Lib.hid q4
                 clear q3 q4 ho8 hg8 hnb8 hn8))
            all_goals
              go_wp2_with fail
              go_meet
              case rel => exact ⟨_, _, Q3, HINV, Q4⟩
        by_cases k2 : kd = 2
        · subst k2
          as_aux_lemma =>
            clear d0 d1 d2
            obtain ⟨aU, cU, hvU, hXU, hnU, hlU, hcU⟩ := (HR2.out.ou me hme).has
            obtain ⟨aT, cT, hvT, -, -, -⟩ := (HR2.out.ou it hitb).has
            have e4 := HR2.out.c4 hme
            have e5 := HR2.out.c4 hitb
            rw [hvU] at e4
            rw [hvT] at e5
            obtain ⟨LU, hLU⟩ : ∃ n, (L.u me).length = n := ⟨_, rfl⟩
            obtain ⟨LT, hLT⟩ : ∃ n, (L.u it).length = n := ⟨_, rfl⟩
            rw [hLU] at e4 hvU hlU
            rw [hLT] at e5 hvT
            obtain ⟨m0, m1, m2⟩ := agg_cells H7.out
            have hz2 : N ≤ w2.heap.size := by have := HR2.out.size; have := HR2.out.le; omega
            have hUb : LU ≤ 16384 := by have := (HI.out me hme).2; omega
            have hTb : LT ≤ 16384 := by have := (HI.out it hitb).2; omega
            have HIM := Lib.hid HI.out.more
            have HLU := Lib.hid hLU; have HLT := Lib.hid hLT; have HVU := Lib.hid hvU; have HVT := Lib.hid hvT; have HXU := Lib.hid hXU; have HNU := Lib.hid hnU
            clear hLU hLT hvU hvT hXU hnU
            obtain ⟨B1, q1⟩ : ∃ B, decide (ix < 0) = B := ⟨_, rfl⟩
            obtain ⟨B2, q2⟩ : ∃ B, decide ((LU : Int) ≤ ix) = B := ⟨_, rfl⟩
            obtain ⟨B3, q3⟩ : ∃ B, decide ((4096 : Int) < (LT : Int)) = B := ⟨_, rfl⟩
            have q3' : decide (4096 < LT) = B3 := by rw [← q3]; exact decide_eq_decide.2 (by omega)
            have bd : Hid (∀ n, Below w2.heap.size w2 (w2.drewN n)) := Lib.hid fun n => ⟨rfl, rfl, rfl, Nat.le_refl _, fun _ _ => rfl⟩
            cases B1 with
            | true =>
              as_aux_lemma =>
                go_upto_region 28 with (fail)
                go_quiet (fail)
                go_wp2_with fail
                go_roundg (len - (p + 1))
                case measure => omega
                case rel => exact ⟨p + 1, v, L, by omega, by go_num, Lib.hid (HR2.out.keep (bd.out _)), HIM, Lib.hid (HB2.out.trans ((bd.out _).mono hz2))⟩
            | false =>
            cases B2 with
            | true =>
              as_aux_lemma =>
                go_upto_region 28 with (fail)
                go_quiet (fail)
                go_wp2_with fail
                go_roundg (len - (p + 1))
                case measure => omega
                case rel => exact ⟨p + 1, v, L, by omega, by go_num, Lib.hid (HR2.out.keep (bd.out _)), HIM, Lib.hid (HB2.out.trans ((bd.out _).mono hz2))⟩
            | false =>
            cases B3 with
            | true =>
              as_aux_lemma =>
                go_upto_region 28 with (fail)
                go_quiet (fail)
                go_wp2_with fail
                go_roundg (len - (p + 1))
                case measure => omega
                case rel => exact ⟨p + 1, v, L, by omega, by go_num, Lib.hid (HR2.out.keep (bd.out _)), HIM, Lib.hid (HB2.out.trans ((bd.out _).mono hz2))⟩
            | false =>
              have i2 : ¬ ix < 0 := of_decide_eq_false q1
              have i3 : ¬ (LU : Int) ≤ ix := of_decide_eq_false q2
              obtain ⟨j, hj⟩ : ∃ j : Nat, ix = (j : Int) := ⟨ix.toNat, by omega⟩
              subst hj
              have hjU : j < LU := by omega
              have q2n : decide (LU ≤ j) = false := by rw [decide_eq_false_iff_not]; omega
              clear i2 i3
              go_upto_region 28 with (fail)
              go_quiet (fail)
              go_wp2_with fail
              obtain ⟨w4, hw4⟩ : ∃ w4, w4 = w2.drewN nq := ⟨_, rfl⟩
              have b4 := bd.out nq
              rw [← hw4] at b4 ⊢
              have HR4 := Lib.hid (HR2.out.keep b4); have HB4 := Lib.hid (HB2.out.trans (b4.mono hz2)); have H74 := Lib.hid (H7.out.keep b4); have HX4 := Lib.hid (HXU.out.keep b4)
              have hz4 : N ≤ w4.heap.size := Nat.le_trans hz2 b4.size
              clear hw4 b4 bd e4 e5 m0 m1 m2 q1 q2 q3 q3' q2n HR2 HB2 H7 HXU
              have hjl : j < (L.u me).length := by rw [HLU.out]; exact hjU
              obtain ⟨bU, oU, rfl, f0, f1, f2, f3⟩ := HX4.out.at hjl
              have hmem : (L.u me).getD j fm0 ∈ L.u me := by
                have : (L.u me).getD j fm0 = (L.u me)[j] := by simp [List.getD, hjl]
                rw [this]; exact List.getElem_mem hjl
              obtain ⟨F, hF⟩ : ∃ F, (L.u me).getD j fm0 = F := ⟨_, rfl⟩
              rw [hF] at f0 f1 f2 f3 hmem
              have HMEM := Lib.hid hmem
              clear hF hmem hjl
              obtain ⟨F1, F2, F3, F4⟩ := F
              simp only at f0 f1 f2 f3
              have e4 := HR4.out.c4 hme
              rw [HVU.out] at e4
              obtain ⟨m0, m1, m2⟩ := agg_cells H74.out
              have i2 : (0 : Int) ≤ (j : Int) := by omega
              have i3 : (j : Int) < (LU : Int) := by omega
              have KS9 : Hid (∀ wx, Below w4.heap.size w4 wx → wx.cell? ⟨g4, me, none⟩ = some (.slice (some ⟨bU, oU, none⟩) LU cU) ∧ wx.cell? ⟨g7, 2, none⟩ = some (.int .i64 (j : Int)) ∧ wx.cell? ⟨bU, oU + j * 4, none⟩ = some (.int .i64 F1) ∧ wx.cell? ⟨bU, oU + j * 4 + 1, none⟩ = some (.int .i64 F2) ∧ wx.cell? ⟨bU, oU + j * 4 + 2, none⟩ = some (.int .i64 F3) ∧ wx.cell? ⟨bU, oU + j * 4 + 3, none⟩ = some (.string F4)) := Lib.hid fun wx hb =>
                ⟨(hb.cell (p := ⟨g4, me, none⟩) (Fr.lt_of_cell e4)).trans e4, (hb.cell (p := ⟨g7, 2, none⟩) (Fr.lt_of_cell m2)).trans m2, (hb.cell (p := ⟨bU, oU + j * 4, none⟩) (Fr.lt_of_cell f0)).trans f0, (hb.cell (p := ⟨bU, oU + j * 4 + 1, none⟩) (Fr.lt_of_cell f1)).trans f1, (hb.cell (p := ⟨bU, oU + j * 4 + 2, none⟩) (Fr.lt_of_cell f2)).trans f2, (hb.cell (p := ⟨bU, oU + j * 4 + 3, none⟩) (Fr.lt_of_cell f3)).trans f3⟩
              clear e4 m0 m1 m2 f0 f1 f2 f3
              go_region_held3 (fun wx => wx.cell? ⟨g4, me, none⟩ = some (.slice (some ⟨bU, oU, none⟩) LU cU) ∧ wx.cell? ⟨g7, 2, none⟩ = some (.int .i64 (j : Int)) ∧ wx.cell? ⟨bU, oU + j * 4, none⟩ = some (.int .i64 F1) ∧ wx.cell? ⟨bU, oU + j * 4 + 1, none⟩ = some (.int .i64 F2) ∧ wx.cell? ⟨bU, oU + j * 4 + 2, none⟩ = some (.int .i64 F3) ∧ wx.cell? ⟨bU, oU + j * 4 + 3, none⟩ = some (.string F4))
                (first | (with_reducible exact KS9.out _ (below_drew _)) | (with_reducible exact KS9.out _ (below_alloc1 _ _)) | (with_reducible exact KS9.out _ (below_alloc1_drew _ _)) | (with_reducible exact KS9.out _ (Below.refl _ _)))
                (fail)
              have b5 : Below w4.heap.size w4 (w4.alloc (.cells #[.int .i64 F1, .int .i64 F2, .int .i64 F3, .string F4] 27)).drew := below_alloc1_drew w4 _
              have x15 := blk_drew (Blk.new w4 #[.int .i64 F1, .int .i64 F2, .int .i64 F3, .string F4] 27)
              obtain ⟨w5, hw5⟩ : ∃ w5, w5 = (w4.alloc (.cells #[.int .i64 F1, .int .i64 F2, .int .i64 F3, .string F4] 27)).drew := ⟨_, rfl⟩
              rw [← hw5] at b5 x15 ⊢
              obtain ⟨g15, hg15⟩ : ∃ g, g = w4.heap.size := ⟨_, rfl⟩
              have HR5 := Lib.hid (HR4.out.keep b5); have HB5 := Lib.hid (HB4.out.trans (b5.mono hz4)); have H75 := Lib.hid (H74.out.keep b5); have HX5 := Lib.hid (HX4.out.keep b5)
              have hz5 : N ≤ w5.heap.size := Nat.le_trans hz4 b5.size
              have N15 : Hid (g15 ≠ g3 ∧ g15 ≠ g4 ∧ g15 ≠ g5) := Lib.hid (by have := HR4.out.size; omega)
              rw [← hg15] at x15 ⊢
              have X15 := Lib.hid x15
              clear hw5 hg15 x15 b5 HR4 HB4 H74 HX4 KS9
              obtain ⟨m0, m1, m2⟩ := agg_cells H75.out
              obtain ⟨tM, htM⟩ : ∃ x, (L.e me).t = x := ⟨_, rfl⟩
              obtain ⟨kM, hkM⟩ : ∃ x, (L.e me).k = x := ⟨_, rfl⟩
              have htk := fun w h => take_any aM LM cM (L.e me) ⟨F1, F2, F3, F4⟩ w h HLM.out HNM.out
              obtain ⟨hE, hX64, hinv⟩ := inv_take HI.out hme HMEM.out
              rw [htM, hkM] at htk
              rw [HIT.out] at hinv
              generalize takeS (L.e me) ⟨F1, F2, F3, F4⟩ = R at *
              obtain ⟨⟨S1, t1, k1⟩, mm, X, E⟩ := R
              unfold TakeIt at htk
              simp only at htk hE hX64 hinv
              subst hE
              obtain ⟨L1, hL1⟩ : ∃ n, S1.length = n := ⟨_, rfl⟩
              obtain ⟨LX, hLX⟩ : ∃ n, X.length = n := ⟨_, rfl⟩
              rw [hLX] at hX64
              have HTM := Lib.hid htM; have HKM := Lib.hid hkM; have HL1 := Lib.hid hL1; have HLX := Lib.hid hLX; have HINV := Lib.hid hinv
              have HSM5 : Hid (∀ wx, Below w5.heap.size w5 wx → HasS wx aM (L.e me).S) := Lib.hid fun wx hb => by
                have := (HR5.out.keep hb).oe me hme
                rw [HVM.out] at this
                obtain ⟨a', c', e', h', -⟩ := this.has
                injection e' with e1 e2 e3
                rw [e1]
                exact h'
              have HTK : Hid (∀ wx, Below w5.heap.size w5 wx → Calls Try.prog 17 #[.agg #[.slice aM LM cM, .int .i64 tM, .int .i64 kM], .agg #[.int .i64 F1, .int .i64 F2, .int .i64 F3, .string F4]] wx fun e w' => ∃ v v2, e = .returned (.tuple #[.agg #[v, .int .i64 t1, .int .i64 k1], .string mm, v2, .int .i64 0]) ∧ OwnS w' wx.heap.size v S1 ∧ OwnX w' wx.heap.size v2 X ∧ Apart v v2 ∧ Below wx.heap.size wx w') := Lib.hid fun wx hb => htk wx (HSM5.out wx hb)
              clear htM hkM htk hinv hL1 hLX
              have KS : Hid (∀ wx, Below w5.heap.size w5 wx → (wx.cell? ⟨g3, me * 3, none⟩ = some (.slice aM LM cM) ∧ wx.cell? ⟨g3, me * 3 + 1, none⟩ = some (.int .i64 tM) ∧ wx.cell? ⟨g3, me * 3 + 2, none⟩ = some (.int .i64 kM)) ∧ wx.cell? ⟨g15, 0, none⟩ = some (.int .i64 F1) ∧ wx.cell? ⟨g15, 1, none⟩ = some (.int .i64 F2) ∧ wx.cell? ⟨g15, 2, none⟩ = some (.int .i64 F3) ∧ wx.cell? ⟨g15, 3, none⟩ = some (.string F4)) := Lib.hid fun wx hb => by
                have h1 := (HR5.out.keep hb).c3 hme
                rw [HVM.out, HTM.out, HKM.out] at h1
                exact ⟨h1, fm_cells (X15.out.keep hb)⟩
              go_upto_region 32 with (fail)
              clear m0 m1 m2
              go_cut [16, 17, 18, 19] from 148 to 157 (fun s16 s17 s18 s19 wc => ∃ g16 a1 cap1 a2 cap2, s16 = .pointer (some ⟨g16, 0, none⟩) ∧ s17 = .string mm ∧ s18 = .slice a2 LX cap2 ∧ s19 = .int .i64 0 ∧ Hid (Blk wc g16 #[.slice a1 L1 cap1, .int .i64 t1, .int .i64 k1] 24) ∧ Hid (OwnS wc w5.heap.size (.slice a1 L1 cap1) S1) ∧ Hid (OwnX wc w5.heap.size (.slice a2 LX cap2) X) ∧ Hid (Below w5.heap.size w5 wc) ∧ w5.heap.size ≤ g16 ∧ Hid (Apart (.slice a1 L1 cap1) (.slice a2 LX cap2)))
              case first =>
                as_aux_lemma =>
                  have hb_0 : Below w5.heap.size w5 w5.drew := below_drew w5
                  refine wp_region_noPanic ?_
                  refine wp_region_held_drew (S := fun wx => (wx.cell? ⟨g3, me * 3, none⟩ = some (.slice aM LM cM) ∧ wx.cell? ⟨g3, me * 3 + 1, none⟩ = some (.int .i64 tM) ∧ wx.cell? ⟨g3, me * 3 + 2, none⟩ = some (.int .i64 kM)) ∧ wx.cell? ⟨g15, 0, none⟩ = some (.int .i64 F1) ∧ wx.cell? ⟨g15, 1, none⟩ = some (.int .i64 F2) ∧ wx.cell? ⟨g15, 2, none⟩ = some (.int .i64 F3) ∧ wx.cell? ⟨g15, 3, none⟩ = some (.string F4)) (by kernel_rfl) (KS.out _ hb_0) (fun hHeld => ?_)
                  generalize w5.drew = wq0 at hb_0 hHeld ⊢
                  refine takeL (i := 0) (v := .int .i64 (me : Int)) rfl (Or.inl ⟨by rfl, ?_⟩) hHeld ?_
                  · intro w hSw; (try dsimp only at hSw); go_simp
                  (try simp only [Act.put, List.setIfInBounds_toArray, List.set_cons_zero, List.set_cons_succ])
                  refine takeL (i := 1) (v := .pointer (some ⟨g3, me * 3, none⟩)) rfl (Or.inl ⟨by rfl, ?_⟩) hHeld ?_
                  · intro w hSw; (try dsimp only at hSw); go_simp
                  (try simp only [Act.put, List.setIfInBounds_toArray, List.set_cons_zero, List.set_cons_succ])
                  refine takeL (i := 2) (v := .agg #[.slice aM LM cM, .int .i64 tM, .int .i64 kM]) rfl (Or.inl ⟨by rfl, ?_⟩) hHeld ?_
                  · intro w hSw; (try dsimp only at hSw); go_simp
                  (try simp only [Act.put, List.setIfInBounds_toArray, List.set_cons_zero, List.set_cons_succ])
                  refine takeL (i := 3) (v := .agg #[.int .i64 F1, .int .i64 F2, .int .i64 F3, .string F4]) rfl (Or.inl ⟨by rfl, ?_⟩) hHeld ?_
                  · intro w hSw; (try dsimp only at hSw); go_simp
                  (try simp only [Act.put, List.setIfInBounds_toArray, List.set_cons_zero, List.set_cons_succ])
                  refine wpAnyH_ready (rs := [4, 10]) (by kernel_rfl) (by simp) ?_
                  refine consL rfl (fun K hK => ?_) ?_
                  ·
                   go_simp
                   go_at_call 17
                   refine (HTK.out wq0 hb_0).mono ?_
                   rintro e wq1 ⟨v1, v2, rfl, o_1, q_1, hap, hc⟩
                   obtain ⟨a1, cap1, rfl, -⟩ := o_1.has
                   obtain ⟨a2, cap2, rfl, -⟩ := q_1.has
                   rw [HL1.out] at o_1 hap ⊢
                   rw [HLX.out] at q_1 hap ⊢
                   have AP := Lib.hid hap
                   have hb_1 := hb_0.trans (hc.mono hb_0.size)
                   replace o_1 := o_1.low hb_0.size
                   replace q_1 := q_1.low hb_0.size
                   clear hc hap
                   refine hK.out _ _ (KS.out _ hb_1) (fun hHeld => ?_)
                   clear hK K
                   (try simp only [Act.put, List.setIfInBounds_toArray, List.set_cons_zero, List.set_cons_succ])
                   refine takeL (i := 5) (v := .tuple #[.agg #[.slice a1 L1 cap1, .int .i64 t1, .int .i64 k1], .string mm, .slice a2 LX cap2, .int .i64 0]) rfl (Or.inl ⟨by rfl, ?_⟩) hHeld ?_
                   · intro w hSw; (try dsimp only at hSw); go_simp
                   (try simp only [Act.put, List.setIfInBounds_toArray, List.set_cons_zero, List.set_cons_succ])
                   refine takeL (i := 6) (v := .agg #[.slice a1 L1 cap1, .int .i64 t1, .int .i64 k1]) rfl (Or.inl ⟨by rfl, ?_⟩) hHeld ?_
                   · intro w hSw; (try dsimp only at hSw); go_simp
                   (try simp only [Act.put, List.setIfInBounds_toArray, List.set_cons_zero, List.set_cons_succ])
                   refine takeL (i := 7) (v := .string mm) rfl (Or.inl ⟨by rfl, ?_⟩) hHeld ?_
                   · intro w hSw; (try dsimp only at hSw); go_simp
                   (try simp only [Act.put, List.setIfInBounds_toArray, List.set_cons_zero, List.set_cons_succ])
                   refine takeL (i := 8) (v := .slice a2 LX cap2) rfl (Or.inl ⟨by rfl, ?_⟩) hHeld ?_
                   · intro w hSw; (try dsimp only at hSw); go_simp
                   (try simp only [Act.put, List.setIfInBounds_toArray, List.set_cons_zero, List.set_cons_succ])
                   refine takeL (i := 9) (v := .int .i64 0) rfl (Or.inl ⟨by rfl, ?_⟩) hHeld ?_
                   · intro w hSw; (try dsimp only at hSw); go_simp
                   (try simp only [Act.put, List.setIfInBounds_toArray, List.set_cons_zero, List.set_cons_succ])
                   refine wpAnyH_ready (rs := [10]) (by kernel_rfl) (by simp) ?_
                   refine consL rfl (fun K hK => ?_) ?_
                   ·
                    go_simp
                    obtain ⟨x16_2, hc⟩ := box_new wq1 #[.slice none 0 0, .int .i64 0, .int .i64 0] 24
                    obtain ⟨g16, hg⟩ : ∃ g, g = wq1.heap.size := ⟨_, rfl⟩
                    obtain ⟨wq2, hw⟩ : ∃ w', w' = wq1.alloc (.cells #[.slice none 0 0, .int .i64 0, .int .i64 0] 24) := ⟨_, rfl⟩
                    rw [← hw] at x16_2 hc ⊢
                    have hb_2 := hb_1.trans (hc.mono hb_1.size)
                    have le16 : w5.heap.size ≤ g16 := by rw [hg]; exact hb_1.size
                    have o_2 := o_1.keep hc
                    have q_2 := q_1.keep hc
                    have n1 : ∀ r, (Value.slice a1 L1 cap1).ownBlock = some r → r ≠ g16 := fun r hr => by have := (o_1.lt r hr).2; omega
                    have n2 : ∀ r, (Value.slice a2 LX cap2).ownBlock = some r → r ≠ g16 := fun r hr => by have := (q_1.lt r hr).2; omega
                    rw [← hg] at x16_2 ⊢
                    clear hw hg hc
                    refine hK.out _ _ (KS.out _ hb_2) (fun hHeld => ?_)
                    clear hK K
                    (try simp only [Act.put, List.setIfInBounds_toArray, List.set_cons_zero, List.set_cons_succ])
                    refine wpAnyH_ready (rs := [11]) (by kernel_rfl) (by simp) ?_
                    refine consL rfl (fun K hK => ?_) ?_
                    ·
                     obtain ⟨c0, c1, c2⟩ := agg_cells x16_2
                     have z0 := x16_2.free 0; have z1 := x16_2.free 1; have z2 := x16_2.free 2
                     go_simp
                     obtain ⟨wq3, hw⟩ : ∃ w', w' = ((wq2.setCell ⟨g16, 0, none⟩ (.slice a1 L1 cap1)).setCell ⟨g16, 1, none⟩ (.int .i64 t1)).setCell ⟨g16, 2, none⟩ (.int .i64 k1) := ⟨_, rfl⟩
                     have x16_3 := x16_2.set3 (.slice a1 L1 cap1) (.int .i64 t1) (.int .i64 k1)
                     have o_3 := (Go.Proofs.Ytmecaioklmkdlaa.Ss.OwnS.setN (Go.Proofs.Ytmecaioklmkdlaa.Ss.OwnS.setN (Go.Proofs.Ytmecaioklmkdlaa.Ss.OwnS.setN o_2 (i := 0) (u := .slice a1 L1 cap1) n1) (i := 1) (u := .int .i64 t1) n1) (i := 2) (u := .int .i64 k1) n1)
                     have q_3 := (Go.Proofs.Ytmecaioklmkdlaa.Ss.OwnX.setN (Go.Proofs.Ytmecaioklmkdlaa.Ss.OwnX.setN (Go.Proofs.Ytmecaioklmkdlaa.Ss.OwnX.setN q_2 (i := 0) (u := .slice a1 L1 cap1) n2) (i := 1) (u := .int .i64 t1) n2) (i := 2) (u := .int .i64 k1) n2)
                     have hb_3 := below_set3 hb_2 le16 (.slice a1 L1 cap1) (.int .i64 t1) (.int .i64 k1)
                     rw [← hw] at x16_3 o_3 q_3 hb_3 ⊢
                     clear hw c0 c1 c2 z0 z1 z2
                     refine hK.out _ _ (KS.out _ hb_3) (fun hHeld => ?_)
                     clear hK K
                     (try simp only [Act.put, List.setIfInBounds_toArray, List.set_cons_zero, List.set_cons_succ])
                     refine takeL (i := 12) (v := .string mm) rfl (Or.inl ⟨by rfl, ?_⟩) hHeld ?_
                     · intro w hSw; (try dsimp only at hSw); go_simp
                     (try simp only [Act.put, List.setIfInBounds_toArray, List.set_cons_zero, List.set_cons_succ])
                     refine takeL (i := 13) (v := .slice a2 LX cap2) rfl (Or.inl ⟨by rfl, ?_⟩) hHeld ?_
                     · intro w hSw; (try dsimp only at hSw); go_simp
                     (try simp only [Act.put, List.setIfInBounds_toArray, List.set_cons_zero, List.set_cons_succ])
                     refine takeL (i := 14) (v := .int .i64 0) rfl (Or.inl ⟨by rfl, ?_⟩) hHeld ?_
                     · intro w hSw; (try dsimp only at hSw); go_simp
                     (try simp only [Act.put, List.setIfInBounds_toArray, List.set_cons_zero, List.set_cons_succ])
                     refine wpAnyH_done (by kernel_rfl) ?_ _
                     refine NoPanic.normal ?_
                     go_wp2_with fail
                     go_meet
                     case rel => exact ⟨g16, a1, cap1, a2, cap2, rfl, rfl, rfl, rfl, Lib.hid x16_3, Lib.hid o_3, Lib.hid q_3, Lib.hid hb_3, le16, AP⟩
                    exact AllReadyH.nil
                   exact AllReadyH.nil
                  refine consL rfl (fun K hK => ?_) ?_
                  ·
                   go_simp
                   obtain ⟨x16_1, hc⟩ := box_new wq0 #[.slice none 0 0, .int .i64 0, .int .i64 0] 24
                   obtain ⟨g16, hg⟩ : ∃ g, g = wq0.heap.size := ⟨_, rfl⟩
                   obtain ⟨wq1, hw⟩ : ∃ w', w' = wq0.alloc (.cells #[.slice none 0 0, .int .i64 0, .int .i64 0] 24) := ⟨_, rfl⟩
                   rw [← hw] at x16_1 hc ⊢
                   have hb_1 := hb_0.trans (hc.mono hb_0.size)
                   have le16 : w5.heap.size ≤ g16 := by rw [hg]; exact hb_0.size
                   rw [← hg] at x16_1 ⊢
                   clear hw hg hc
                   refine hK.out _ _ (KS.out _ hb_1) (fun hHeld => ?_)
                   clear hK K
                   (try simp only [Act.put, List.setIfInBounds_toArray, List.set_cons_zero, List.set_cons_succ])
                   refine wpAnyH_ready (rs := [4]) (by kernel_rfl) (by simp) ?_
                   refine consL rfl (fun K hK => ?_) ?_
                   ·
                    go_simp
                    go_at_call 17
                    refine (HTK.out wq1 hb_1).mono ?_
                    rintro e wq2 ⟨v1, v2, rfl, o_2, q_2, hap, hc⟩
                    obtain ⟨a1, cap1, rfl, -⟩ := o_2.has
                    obtain ⟨a2, cap2, rfl, -⟩ := q_2.has
                    rw [HL1.out] at o_2 hap ⊢
                    rw [HLX.out] at q_2 hap ⊢
                    have AP := Lib.hid hap
                    have hb_2 := hb_1.trans (hc.mono hb_1.size)
                    have x16_2 := x16_1.keep hc
                    have n1 : ∀ r, (Value.slice a1 L1 cap1).ownBlock = some r → r ≠ g16 := fun r hr => by have := (o_2.lt r hr).1; have := x16_1.lt; omega
                    have n2 : ∀ r, (Value.slice a2 LX cap2).ownBlock = some r → r ≠ g16 := fun r hr => by have := (q_2.lt r hr).1; have := x16_1.lt; omega
                    replace o_2 := o_2.low hb_1.size
                    replace q_2 := q_2.low hb_1.size
                    clear hc hap
                    refine hK.out _ _ (KS.out _ hb_2) (fun hHeld => ?_)
                    clear hK K
                    (try simp only [Act.put, List.setIfInBounds_toArray, List.set_cons_zero, List.set_cons_succ])
                    refine takeL (i := 5) (v := .tuple #[.agg #[.slice a1 L1 cap1, .int .i64 t1, .int .i64 k1], .string mm, .slice a2 LX cap2, .int .i64 0]) rfl (Or.inl ⟨by rfl, ?_⟩) hHeld ?_
                    · intro w hSw; (try dsimp only at hSw); go_simp
                    (try simp only [Act.put, List.setIfInBounds_toArray, List.set_cons_zero, List.set_cons_succ])
                    refine takeL (i := 6) (v := .agg #[.slice a1 L1 cap1, .int .i64 t1, .int .i64 k1]) rfl (Or.inl ⟨by rfl, ?_⟩) hHeld ?_
                    · intro w hSw; (try dsimp only at hSw); go_simp
                    (try simp only [Act.put, List.setIfInBounds_toArray, List.set_cons_zero, List.set_cons_succ])
                    refine takeL (i := 7) (v := .string mm) rfl (Or.inl ⟨by rfl, ?_⟩) hHeld ?_
                    · intro w hSw; (try dsimp only at hSw); go_simp
                    (try simp only [Act.put, List.setIfInBounds_toArray, List.set_cons_zero, List.set_cons_succ])
                    refine takeL (i := 8) (v := .slice a2 LX cap2) rfl (Or.inl ⟨by rfl, ?_⟩) hHeld ?_
                    · intro w hSw; (try dsimp only at hSw); go_simp
                    (try simp only [Act.put, List.setIfInBounds_toArray, List.set_cons_zero, List.set_cons_succ])
                    refine takeL (i := 9) (v := .int .i64 0) rfl (Or.inl ⟨by rfl, ?_⟩) hHeld ?_
                    · intro w hSw; (try dsimp only at hSw); go_simp
                    (try simp only [Act.put, List.setIfInBounds_toArray, List.set_cons_zero, List.set_cons_succ])
                    refine wpAnyH_ready (rs := [11]) (by kernel_rfl) (by simp) ?_
                    refine consL rfl (fun K hK => ?_) ?_
                    ·
                     obtain ⟨c0, c1, c2⟩ := agg_cells x16_2
                     have z0 := x16_2.free 0; have z1 := x16_2.free 1; have z2 := x16_2.free 2
                     go_simp
                     obtain ⟨wq3, hw⟩ : ∃ w', w' = ((wq2.setCell ⟨g16, 0, none⟩ (.slice a1 L1 cap1)).setCell ⟨g16, 1, none⟩ (.int .i64 t1)).setCell ⟨g16, 2, none⟩ (.int .i64 k1) := ⟨_, rfl⟩
                     have x16_3 := x16_2.set3 (.slice a1 L1 cap1) (.int .i64 t1) (.int .i64 k1)
                     have o_3 := (Go.Proofs.Ytmecaioklmkdlaa.Ss.OwnS.setN (Go.Proofs.Ytmecaioklmkdlaa.Ss.OwnS.setN (Go.Proofs.Ytmecaioklmkdlaa.Ss.OwnS.setN o_2 (i := 0) (u := .slice a1 L1 cap1) n1) (i := 1) (u := .int .i64 t1) n1) (i := 2) (u := .int .i64 k1) n1)
                     have q_3 := (Go.Proofs.Ytmecaioklmkdlaa.Ss.OwnX.setN (Go.Proofs.Ytmecaioklmkdlaa.Ss.OwnX.setN (Go.Proofs.Ytmecaioklmkdlaa.Ss.OwnX.setN q_2 (i := 0) (u := .slice a1 L1 cap1) n2) (i := 1) (u := .int .i64 t1) n2) (i := 2) (u := .int .i64 k1) n2)
                     have hb_3 := below_set3 hb_2 le16 (.slice a1 L1 cap1) (.int .i64 t1) (.int .i64 k1)
                     rw [← hw] at x16_3 o_3 q_3 hb_3 ⊢
                     clear hw c0 c1 c2 z0 z1 z2
                     refine hK.out _ _ (KS.out _ hb_3) (fun hHeld => ?_)
                     clear hK K
                     (try simp only [Act.put, List.setIfInBounds_toArray, List.set_cons_zero, List.set_cons_succ])
                     refine takeL (i := 12) (v := .string mm) rfl (Or.inl ⟨by rfl, ?_⟩) hHeld ?_
                     · intro w hSw; (try dsimp only at hSw); go_simp
                     (try simp only [Act.put, List.setIfInBounds_toArray, List.set_cons_zero, List.set_cons_succ])
                     refine takeL (i := 13) (v := .slice a2 LX cap2) rfl (Or.inl ⟨by rfl, ?_⟩) hHeld ?_
                     · intro w hSw; (try dsimp only at hSw); go_simp
                     (try simp only [Act.put, List.setIfInBounds_toArray, List.set_cons_zero, List.set_cons_succ])
                     refine takeL (i := 14) (v := .int .i64 0) rfl (Or.inl ⟨by rfl, ?_⟩) hHeld ?_
                     · intro w hSw; (try dsimp only at hSw); go_simp
                     (try simp only [Act.put, List.setIfInBounds_toArray, List.set_cons_zero, List.set_cons_succ])
                     refine wpAnyH_done (by kernel_rfl) ?_ _
                     refine NoPanic.normal ?_
                     go_wp2_with fail
                     go_meet
                     case rel => exact ⟨g16, a1, cap1, a2, cap2, rfl, rfl, rfl, rfl, Lib.hid x16_3, Lib.hid o_3, Lib.hid q_3, Lib.hid hb_3, le16, AP⟩
                    exact AllReadyH.nil
                   exact AllReadyH.nil
                  exact AllReadyH.nil
              obtain ⟨g16, a1, cap1, a2, cap2, rfl, rfl, rfl, rfl, X16, O1, OX, BC, le16, AP⟩ := hcut
              have HRC := Lib.hid (HR5.out.keep BC.out); have HBC := Lib.hid (HB5.out.trans (BC.out.mono hz5))
              have NA := Lib.hid (new_apart HR5.out (Nat.le_refl _) (fun j hj => (O1.out.lt j hj).1))
              have NX := Lib.hid (new_apart HR5.out (Nat.le_refl _) (fun j hj => (OX.out.lt j hj).1))
              clear HTK KS HSM5
              obtain ⟨c0, c1, c2⟩ := agg_cells X16.out
              obtain ⟨d0, d1, d2⟩ := HRC.out.c3 hme
              have z0 := HRC.out.f3 (me * 3); have z1 := HRC.out.f3 (me * 3 + 1); have z2 := HRC.out.f3 (me * 3 + 2)
              obtain ⟨w6, hw6⟩ : ∃ w6, w6 = ((wc.setCell ⟨g3, me * 3, none⟩ (.slice a1 L1 cap1)).setCell ⟨g3, me * 3 + 1, none⟩ (.int .i64 t1)).setCell ⟨g3, me * 3 + 2, none⟩ (.int .i64 k1) := ⟨_, rfl⟩
              obtain ⟨m6, bl6⟩ := end_set HRC.out HBC.out hme (t := t1) (k := k1) (O1.out.low hz5) NA.out
              have ox6 : OwnX w6 N (.slice a2 LX cap2) X := by
                rw [hw6]
                have n3 := fun j hj => (NX.out j hj).2.1
                exact Go.Proofs.Ytmecaioklmkdlaa.Ss.OwnX.setN (Go.Proofs.Ytmecaioklmkdlaa.Ss.OwnX.setN (Go.Proofs.Ytmecaioklmkdlaa.Ss.OwnX.setN (OX.out.low hz5) n3) n3) n3
              rw [← hw6] at m6 bl6
              have HR6 := Lib.hid m6; have HB6 := Lib.hid bl6; have OX6 := Lib.hid ox6; have HW6 := Lib.hid hw6
              clear m6 bl6 ox6 hw6
              go_upto_region 36 with (fail)
              rw [← HW6.out]
              clear HW6 c0 c1 c2 d0 d1 d2 z0 z1 z2 X16 O1 OX BC HRC HBC
              obtain ⟨aT', cT', hvT', -, -, -⟩ := (HR6.out.ou it hitb).has
              have e4 := HR6.out.c4 hitb
              have HOT := HR6.out.ou it hitb
              rw [hvT'] at e4 HOT
              simp only at e4 hvT' HOT
              rw [HLT.out] at e4 hvT' HOT
              have HVT' := Lib.hid hvT'; have HOT6 := Lib.hid HOT
              obtain ⟨a', c', e', hX6, hn6, -⟩ := OX6.out.has
              rw [HLX.out] at e'
              injection e' with e1 e2 e3
              subst e1 e3
              have HX6 := Lib.hid hX6; have HN6 := Lib.hid hn6
              have hz6 : N ≤ w6.heap.size := by have := HR6.out.size; have := HR6.out.le; omega
              clear hvT' HOT hX6 hn6 e2
              go_upto_region 37 with (at_builtin; go_must (refine wp_apX rfl (.tmp 166) (.tmp 167) rfl N (.slice aT' LT cT') (L.u it) rfl HOT6.out a2 LX cap2 X rfl HX6.out HLX.out HN6.out (by rw [HLT.out]; omega) hz6 ?_; intro v8 w8 ho8 hg8 hnb8; obtain ⟨q1, q2, q3, q4⟩ := und_set HR6.out HB6.out hitb HVT'.out ho8 hg8 hnb8.from; obtain ⟨a8, c8, e8, -⟩ := ho8.has; obtain ⟨n8, hn8⟩ : ∃ n, (L.u it ++ X).length = n := ⟨_, rfl⟩; rw [hn8] at e8; subst e8; have Q3 := Lib.hid q3; have Q4 := Lib.hid q4; clear q3 q4 ho8 hg8 hnb8 hn8 e4))
              obtain ⟨w9, hw9⟩ : ∃ w9, w9 = w8.setCell ⟨g4, it, none⟩ (.slice a8 n8 c8) := ⟨_, rfl⟩
              rw [← hw9] at Q3 Q4 ⊢
              clear hw9 q1 q2
              have hinv := HINV.out
              by_cases hmm : mm = em
              · rw [if_pos hmm] at hinv
                have HIN2 := Lib.hid hinv
                have s1 := em_beq hmm; have s2 := em_isE hmm
                clear hinv HINV hmm
                go_wp2_with fail
                go_meet
                case rel => exact ⟨_, _, Q3, HIN2, Q4⟩
              · rw [if_neg hmm] at hinv
                have HIN2 := Lib.hid hinv
                have s1 := ne_beq hmm; have s2 := ne_isE hmm
                clear hinv HINV hmm
                obtain ⟨aC, cC, hvC, -, -, -⟩ := (Q3.out.oc me hme).has
                have e5 := Q3.out.c5 hme
                rw [hvC] at e5
                simp only at e5 hvC
                obtain ⟨LC, hLC⟩ : ∃ n, (L.c me).length = n := ⟨_, rfl⟩
                rw [hLC] at e5 hvC
                have hba := below_alloc1 w9 (.cells #[.string mm] 9)
                have hz9 : N ≤ w9.heap.size := by have := Q3.out.size; have := Q3.out.le; omega
                have HRA := Lib.hid (Q3.out.keep hba); have HBA := Lib.hid (Q4.out.trans (hba.mono hz9))
                have hoc := HRA.out.oc me hme
                rw [hvC] at hoc
                have hCb : LC ≤ 256 := by
                  have h1 := (HI.out me hme).1
                  have h2 := (HI.out (1 - me) (by omega)).1.good
                  have := (goodB_iff.1 h2).1
                  have := h1.le
                  omega
                have HOC := Lib.hid hoc; have HVC := Lib.hid hvC; have HLC := Lib.hid hLC
                have hza : N ≤ (w9.alloc (.cells #[.string mm] 9)).heap.size := Nat.le_trans hz9 hba.size
                clear hba hoc hvC hLC
                go_wp2_with (at_builtin; go_must (refine wp_apS rfl (.tmp 175) (.tmp 177) rfl N (.slice aC LC cC) (L.c me) rfl HOC.out _ 1 1 [mm] rfl (lit_oneS w9 mm _ _ rfl) rfl (fun h => by cases h) (by rw [HLC.out]; omega) hza ?_; intro v10 w10 ho10 hg10 hnb10; obtain ⟨q1, q2, q3, q4⟩ := cnt_set HRA.out HBA.out hme HVC.out ho10 hg10 hnb10.from; obtain ⟨a10, c10, e10, -⟩ := ho10.has; obtain ⟨n10, hn10⟩ : ∃ n, (L.c me ++ [mm]).length = n := ⟨_, rfl⟩; rw [hn10] at e10; subst e10; have Q5 := Lib.hid q3; have Q6 := Lib.hid q4; clear q3 q4 ho10 hg10 hnb10 hn10 e5))
                go_meet
                case rel => exact ⟨_, _, Q5, HIN2, Q6⟩
        by_cases k3 : kd = 3
        · subst k3
          as_aux_lemma =>
            clear d0 d1 d2
            obtain ⟨aU, cU, hvU, hXU, hnU, hlU, hcU⟩ := (HR2.out.ou me hme).has
            obtain ⟨aT, cT, hvT, -, -, -⟩ := (HR2.out.ou it hitb).has
            have e4 := HR2.out.c4 hme
            have e5 := HR2.out.c4 hitb
            rw [hvU] at e4
            rw [hvT] at e5
            obtain ⟨LU, hLU⟩ : ∃ n, (L.u me).length = n := ⟨_, rfl⟩
            obtain ⟨LT, hLT⟩ : ∃ n, (L.u it).length = n := ⟨_, rfl⟩
            rw [hLU] at e4 hvU hlU
            rw [hLT] at e5 hvT
            obtain ⟨m0, m1, m2⟩ := agg_cells H7.out
            have hz2 : N ≤ w2.heap.size := by have := HR2.out.size; have := HR2.out.le; omega
            have hUb : LU ≤ 16384 := by have := (HI.out me hme).2; omega
            have hTb : LT ≤ 16384 := by have := (HI.out it hitb).2; omega
            have HIM := Lib.hid HI.out.more
            have HLU := Lib.hid hLU; have HLT := Lib.hid hLT; have HVU := Lib.hid hvU; have HVT := Lib.hid hvT; have HXU := Lib.hid hXU; have HNU := Lib.hid hnU
            clear hLU hLT hvU hvT hXU hnU
            obtain ⟨B1, q1⟩ : ∃ B, decide (ix < 0) = B := ⟨_, rfl⟩
            obtain ⟨B2, q2⟩ : ∃ B, decide ((LU : Int) ≤ ix) = B := ⟨_, rfl⟩
            obtain ⟨B3, q3⟩ : ∃ B, decide ((4096 : Int) < (LT : Int)) = B := ⟨_, rfl⟩
            have q3' : decide (4096 < LT) = B3 := by rw [← q3]; exact decide_eq_decide.2 (by omega)
            have bd : Hid (∀ n, Below w2.heap.size w2 (w2.drewN n)) := Lib.hid fun n => ⟨rfl, rfl, rfl, Nat.le_refl _, fun _ _ => rfl⟩
            cases B1 with
            | true =>
              as_aux_lemma =>
                go_upto_region 28 with (fail)
                go_quiet (fail)
                go_wp2_with fail
                go_roundg (len - (p + 1))
                case measure => omega
                case rel => exact ⟨p + 1, v, L, by omega, by go_num, Lib.hid (HR2.out.keep (bd.out _)), HIM, Lib.hid (HB2.out.trans ((bd.out _).mono hz2))⟩
            | false =>
            cases B2 with
            | true =>
              as_aux_lemma =>
                go_upto_region 28 with (fail)
                go_quiet (fail)
                go_wp2_with fail
                go_roundg (len - (p + 1))
                case measure => omega
                case rel => exact ⟨p + 1, v, L, by omega, by go_num, Lib.hid (HR2.out.keep (bd.out _)), HIM, Lib.hid (HB2.out.trans ((bd.out _).mono hz2))⟩
            | false =>
            cases B3 with
            | true =>
              as_aux_lemma =>
                go_upto_region 28 with (fail)
                go_quiet (fail)
                go_wp2_with fail
                go_roundg (len - (p + 1))
                case measure => omega
                case rel => exact ⟨p + 1, v, L, by omega, by go_num, Lib.hid (HR2.out.keep (bd.out _)), HIM, Lib.hid (HB2.out.trans ((bd.out _).mono hz2))⟩
            | false =>
              have i2 : ¬ ix < 0 := of_decide_eq_false q1
              have i3 : ¬ (LU : Int) ≤ ix := of_decide_eq_false q2
              obtain ⟨j, hj⟩ : ∃ j : Nat, ix = (j : Int) := ⟨ix.toNat, by omega⟩
              subst hj
              have hjU : j < LU := by omega
              have q2n : decide (LU ≤ j) = false := by rw [decide_eq_false_iff_not]; omega
              clear i2 i3
              go_upto_region 28 with (fail)
              go_quiet (fail)
              go_wp2_with fail
              obtain ⟨w4, hw4⟩ : ∃ w4, w4 = w2.drewN nq := ⟨_, rfl⟩
              have b4 := bd.out nq
              rw [← hw4] at b4 ⊢
              have HR4 := Lib.hid (HR2.out.keep b4); have HB4 := Lib.hid (HB2.out.trans (b4.mono hz2)); have H74 := Lib.hid (H7.out.keep b4); have HX4 := Lib.hid (HXU.out.keep b4)
              have hz4 : N ≤ w4.heap.size := Nat.le_trans hz2 b4.size
              clear hw4 b4 bd e4 e5 m0 m1 m2 q1 q2 q3 q3' q2n HR2 HB2 H7 HXU
              have hjl : j < (L.u me).length := by rw [HLU.out]; exact hjU
              obtain ⟨bU, oU, rfl, f0, f1, f2, f3⟩ := HX4.out.at hjl
              have hmem : (L.u me).getD j fm0 ∈ L.u me := by
                have : (L.u me).getD j fm0 = (L.u me)[j] := by simp [List.getD, hjl]
                rw [this]; exact List.getElem_mem hjl
              obtain ⟨F, hF⟩ : ∃ F, (L.u me).getD j fm0 = F := ⟨_, rfl⟩
              rw [hF] at f0 f1 f2 f3 hmem
              have HMEM := Lib.hid hmem
              clear hF hmem hjl
              obtain ⟨F1, F2, F3, F4⟩ := F
              simp only at f0 f1 f2 f3
              have e4 := HR4.out.c4 hme
              rw [HVU.out] at e4
              obtain ⟨m0, m1, m2⟩ := agg_cells H74.out
              have i2 : (0 : Int) ≤ (j : Int) := by omega
              have i3 : (j : Int) < (LU : Int) := by omega
              have KS9 : Hid (∀ wx, Below w4.heap.size w4 wx → wx.cell? ⟨g4, me, none⟩ = some (.slice (some ⟨bU, oU, none⟩) LU cU) ∧ wx.cell? ⟨g7, 2, none⟩ = some (.int .i64 (j : Int)) ∧ wx.cell? ⟨bU, oU + j * 4, none⟩ = some (.int .i64 F1) ∧ wx.cell? ⟨bU, oU + j * 4 + 1, none⟩ = some (.int .i64 F2) ∧ wx.cell? ⟨bU, oU + j * 4 + 2, none⟩ = some (.int .i64 F3) ∧ wx.cell? ⟨bU, oU + j * 4 + 3, none⟩ = some (.string F4)) := Lib.hid fun wx hb =>
                ⟨(hb.cell (p := ⟨g4, me, none⟩) (Fr.lt_of_cell e4)).trans e4, (hb.cell (p := ⟨g7, 2, none⟩) (Fr.lt_of_cell m2)).trans m2, (hb.cell (p := ⟨bU, oU + j * 4, none⟩) (Fr.lt_of_cell f0)).trans f0, (hb.cell (p := ⟨bU, oU + j * 4 + 1, none⟩) (Fr.lt_of_cell f1)).trans f1, (hb.cell (p := ⟨bU, oU + j * 4 + 2, none⟩) (Fr.lt_of_cell f2)).trans f2, (hb.cell (p := ⟨bU, oU + j * 4 + 3, none⟩) (Fr.lt_of_cell f3)).trans f3⟩
              clear e4 m0 m1 m2 f0 f1 f2 f3
              go_region_held3 (fun wx => wx.cell? ⟨g4, me, none⟩ = some (.slice (some ⟨bU, oU, none⟩) LU cU) ∧ wx.cell? ⟨g7, 2, none⟩ = some (.int .i64 (j : Int)) ∧ wx.cell? ⟨bU, oU + j * 4, none⟩ = some (.int .i64 F1) ∧ wx.cell? ⟨bU, oU + j * 4 + 1, none⟩ = some (.int .i64 F2) ∧ wx.cell? ⟨bU, oU + j * 4 + 2, none⟩ = some (.int .i64 F3) ∧ wx.cell? ⟨bU, oU + j * 4 + 3, none⟩ = some (.string F4))
                (first | (with_reducible exact KS9.out _ (below_drew _)) | (with_reducible exact KS9.out _ (below_alloc1 _ _)) | (with_reducible exact KS9.out _ (below_alloc1_drew _ _)) | (with_reducible exact KS9.out _ (Below.refl _ _)))
                (fail)
              have b5 : Below w4.heap.size w4 (w4.alloc (.cells #[.int .i64 F1, .int .i64 F2, .int .i64 F3, .string F4] 27)).drew := below_alloc1_drew w4 _
              have x15 := blk_drew (Blk.new w4 #[.int .i64 F1, .int .i64 F2, .int .i64 F3, .string F4] 27)
              obtain ⟨w5, hw5⟩ : ∃ w5, w5 = (w4.alloc (.cells #[.int .i64 F1, .int .i64 F2, .int .i64 F3, .string F4] 27)).drew := ⟨_, rfl⟩
              rw [← hw5] at b5 x15 ⊢
              obtain ⟨g15, hg15⟩ : ∃ g, g = w4.heap.size := ⟨_, rfl⟩
              have HR5 := Lib.hid (HR4.out.keep b5); have HB5 := Lib.hid (HB4.out.trans (b5.mono hz4)); have H75 := Lib.hid (H74.out.keep b5); have HX5 := Lib.hid (HX4.out.keep b5)
              have hz5 : N ≤ w5.heap.size := Nat.le_trans hz4 b5.size
              have N15 : Hid (g15 ≠ g3 ∧ g15 ≠ g4 ∧ g15 ≠ g5) := Lib.hid (by have := HR4.out.size; omega)
              rw [← hg15] at x15 ⊢
              have X15 := Lib.hid x15
              clear hw5 hg15 x15 b5 HR4 HB4 H74 HX4 KS9
              obtain ⟨m0, m1, m2⟩ := agg_cells H75.out
              go_upto_region 31 with (fail)
              have HTJ : Hid (((L.u me).take j).length = j) := Lib.hid (by rw [List.length_take, HLU.out]; omega)
              have HDJ : Hid (((L.u me).drop (j + 1)).length = LU - (j + 1)) := Lib.hid (by rw [List.length_drop, HLU.out])
              obtain ⟨LX, hLX⟩ : ∃ n, ((L.u me).take j ++ (L.u me).drop (j + 1)).length = n := ⟨_, rfl⟩
              have hLXb : LX ≤ LU := by rw [← hLX, List.length_append, HTJ.out, HDJ.out]; omega
              have HINV := Lib.hid (inv_lose HI.out hme (V := (L.u me).take j ++ (L.u me).drop (j + 1)) (fun f hf => by
                rcases List.mem_append.1 hf with h | h
                · exact List.mem_of_mem_take h
                · exact List.mem_of_mem_drop h) (by rw [hLX, HLU.out]; exact hLXb))
              have HLX := Lib.hid hLX
              clear hLX
              have KS : Hid (∀ wx, Below w5.heap.size w5 wx → wx.cell? ⟨g7, 2, none⟩ = some (.int .i64 (j : Int))) := Lib.hid fun wx hb => (agg_cells (H75.out.keep hb)).2.2
              have w1j : IntKind.i64.wrap ((j : Int) + 1) = (j : Int) + 1 := IntWalk.i64_in _ (by omega)
              have k5 : (j : Int) ≤ (LU : Int) := by omega
              have k6 : (0 : Int) ≤ (j : Int) + 1 := by omega
              have k7 : (j : Int) + 1 ≤ (LU : Int) := by omega
              have k8 : (j : Int) ≤ (cU : Int) := by omega
              have k9 : (LU : Int) ≤ (cU : Int) := by omega
              clear m0 m1 m2
              go_cut [130] from 131 to 147 (fun s wc => ∃ v', Hid (Mem wc N g3 g4 g5 v' ⟨L.e, up L.u me ((L.u me).take j ++ (L.u me).drop (j + 1)), L.c⟩) ∧ Hid (Below N w wc))
              case first =>
                as_aux_lemma =>
                  have hb_0 : Below w5.heap.size w5 w5.drew := below_drew w5
                  refine wp_region_noPanic ?_
                  refine wp_region_held_drew (S := fun wx => wx.cell? ⟨g7, 2, none⟩ = some (.int .i64 (j : Int))) (by kernel_rfl) (KS.out _ hb_0) (fun hHeld => ?_)
                  generalize w5.drew = wq0 at hb_0 hHeld ⊢
                  obtain ⟨AR, hAR⟩ : ∃ AR : Addr, (if cU = j + 1 then some (⟨bU, oU, none⟩ : Addr) else some ⟨bU, oU + (j + 1) * 4, none⟩) = some AR := by split <;> exact ⟨_, rfl⟩
                  have HRR : Hid (∀ wx, Below w5.heap.size w5 wx → HasX wx (some AR) ((L.u me).drop (j + 1))) := Lib.hid fun wx hb => by
                    by_cases hcc : cU = j + 1
                    · rw [List.eq_nil_of_length_eq_zero (l := (L.u me).drop (j + 1)) (by rw [HDJ.out]; omega)]
                      exact HasX.nil _ _
                    · rw [if_neg hcc] at hAR
                      rw [← hAR]
                      exact (HX5.out.keep hb).back (j + 1)
                  refine takeL (i := 0) (v := .int .i64 (me : Int)) rfl (Or.inl ⟨by rfl, ?_⟩) hHeld ?_
                  · intro w hSw; (try dsimp only at hSw); go_simp
                  (try simp only [Act.put, List.setIfInBounds_toArray, List.set_cons_zero, List.set_cons_succ])
                  refine takeL (i := 2) (v := .int .i64 (me : Int)) rfl (Or.inl ⟨by rfl, ?_⟩) hHeld ?_
                  · intro w hSw; (try dsimp only at hSw); go_simp
                  (try simp only [Act.put, List.setIfInBounds_toArray, List.set_cons_zero, List.set_cons_succ])
                  refine takeL (i := 3) (v := .pointer (some ⟨g4, me, none⟩)) rfl (Or.inl ⟨by rfl, ?_⟩) hHeld ?_
                  · intro w hSw; (try dsimp only at hSw); go_simp
                  (try simp only [Act.put, List.setIfInBounds_toArray, List.set_cons_zero, List.set_cons_succ])
                  refine takeL (i := 5) (v := .pointer (some ⟨g7, 2, none⟩)) rfl (Or.inl ⟨by rfl, ?_⟩) hHeld ?_
                  · intro w hSw; (try dsimp only at hSw); go_simp
                  (try simp only [Act.put, List.setIfInBounds_toArray, List.set_cons_zero, List.set_cons_succ])
                  refine takeL (i := 6) (v := .int .i64 (j : Int)) rfl (Or.inl ⟨by rfl, ?_⟩) hHeld ?_
                  · intro w hSw; (try dsimp only at hSw); go_simp
                  (try simp only [Act.put, List.setIfInBounds_toArray, List.set_cons_zero, List.set_cons_succ])
                  refine takeL (i := 9) (v := .int .i64 (me : Int)) rfl (Or.inl ⟨by rfl, ?_⟩) hHeld ?_
                  · intro w hSw; (try dsimp only at hSw); go_simp
                  (try simp only [Act.put, List.setIfInBounds_toArray, List.set_cons_zero, List.set_cons_succ])
                  refine takeL (i := 10) (v := .pointer (some ⟨g4, me, none⟩)) rfl (Or.inl ⟨by rfl, ?_⟩) hHeld ?_
                  · intro w hSw; (try dsimp only at hSw); go_simp
                  (try simp only [Act.put, List.setIfInBounds_toArray, List.set_cons_zero, List.set_cons_succ])
                  refine takeL (i := 12) (v := .pointer (some ⟨g7, 2, none⟩)) rfl (Or.inl ⟨by rfl, ?_⟩) hHeld ?_
                  · intro w hSw; (try dsimp only at hSw); go_simp
                  (try simp only [Act.put, List.setIfInBounds_toArray, List.set_cons_zero, List.set_cons_succ])
                  refine takeL (i := 13) (v := .int .i64 (j : Int)) rfl (Or.inl ⟨by rfl, ?_⟩) hHeld ?_
                  · intro w hSw; (try dsimp only at hSw); go_simp
                  (try simp only [Act.put, List.setIfInBounds_toArray, List.set_cons_zero, List.set_cons_succ])
                  refine takeL (i := 14) (v := .int .i64 ((j : Int) + 1)) rfl (Or.inl ⟨by rfl, ?_⟩) hHeld ?_
                  · intro w hSw; (try dsimp only at hSw); go_simp
                  (try simp only [Act.put, List.setIfInBounds_toArray, List.set_cons_zero, List.set_cons_succ])
                  refine wpAnyH_ready (rs := [1, 4, 11]) (by kernel_rfl) (by simp) ?_
                  refine consL rfl (fun K hK => ?_) ?_
                  ·
                   go_simp
                   have hc := below_alloc1 wq0 (.cells #[] 27)
                   have E_1 := ownX_lit wq0 hb_0.size
                   obtain ⟨gE, hg⟩ : ∃ g, g = wq0.heap.size := ⟨_, rfl⟩
                   obtain ⟨wq1, hw⟩ : ∃ w', w' = wq0.alloc (.cells #[] 27) := ⟨_, rfl⟩
                   rw [← hw] at E_1 hc ⊢
                   have hb_1 := hb_0.trans (hc.mono hb_0.size)
                   rw [← hg] at E_1 ⊢
                   clear hw hg hc
                   refine hK.out _ _ (KS.out _ hb_1) (fun hHeld => ?_)
                   clear hK K
                   (try simp only [Act.put, List.setIfInBounds_toArray, List.set_cons_zero, List.set_cons_succ])
                   refine wpAnyH_ready (rs := [4, 11]) (by kernel_rfl) (by simp) ?_
                   refine consL rfl (fun K hK => ?_) ?_
                   ·
                    have e4 := (HR5.out.keep hb_1).c4 hme
                    rw [HVU.out] at e4
                    go_simp
                    clear e4
                    refine hK.out _ _ (KS.out _ hb_1) (fun hHeld => ?_)
                    clear hK K
                    (try simp only [Act.put, List.setIfInBounds_toArray, List.set_cons_zero, List.set_cons_succ])
                    refine takeL (i := 7) (v := ?v11) rfl (Or.inl ⟨by rfl, ?_⟩) hHeld ?_
                    rotate_left
                    · intro w hSw; (try dsimp only at hSw); go_simp
                      (try with_reducible rfl)
                    (try simp only [Act.put, List.setIfInBounds_toArray, List.set_cons_zero, List.set_cons_succ])
                    refine wpAnyH_ready (rs := [8, 11]) (by kernel_rfl) (by simp) ?_
                    refine consL rfl (fun K hK => ?_) ?_
                    ·
                     refine step_apX (by rfl) (.tmp 131) (.tmp 137) (by rfl) w5.heap.size _ [] (by rfl) E_1 _ _ _ ((L.u me).take j) (by rfl) ((HX5.out.keep hb_1).front j) HTJ.out (fun h => by cases h) (by simp; omega) hb_1.size ?_
                     intro v1 wq2 A_2 hg hnb
                     rw [List.nil_append] at A_2
                     have hb_2 := hb_1.grown hg hb_1.size (fun r hr => (E_1.lt r hr).1)
                     obtain ⟨a1, c1, e1, -⟩ := A_2.has
                     rw [HTJ.out] at e1
                     subst e1
                     clear hg hnb
                     refine hK.out _ _ (KS.out _ hb_2) (fun hHeld => ?_)
                     clear hK K
                     (try simp only [Act.put, List.setIfInBounds_toArray, List.set_cons_zero, List.set_cons_succ])
                     refine wpAnyH_ready (rs := [11]) (by kernel_rfl) (by simp) ?_
                     refine consL rfl (fun K hK => ?_) ?_
                     ·
                      have e4 := (HR5.out.keep hb_2).c4 hme
                      rw [HVU.out] at e4
                      go_simp
                      clear e4
                      refine hK.out _ _ (KS.out _ hb_2) (fun hHeld => ?_)
                      clear hK K
                      (try simp only [Act.put, List.setIfInBounds_toArray, List.set_cons_zero, List.set_cons_succ])
                      refine takeL (i := 15) (v := ?v12) rfl (Or.inl ⟨by rfl, ?_⟩) hHeld ?_
                      rotate_left
                      · intro w hSw; (try dsimp only at hSw); go_simp
                        (try with_reducible rfl)
                      (try simp only [Act.put, List.setIfInBounds_toArray, List.set_cons_zero, List.set_cons_succ])
                      refine wpAnyH_ready (rs := [16]) (by kernel_rfl) (by simp) ?_
                      refine consL rfl (fun K hK => ?_) ?_
                      ·
                       refine step_apX (by rfl) (.tmp 138) (.tmp 145) (by rfl) w5.heap.size _ ((L.u me).take j) (by rfl) A_2 _ _ _ ((L.u me).drop (j + 1)) (by rfl) (HRR.out _ hb_2) HDJ.out (fun h => by cases h) (by rw [HTJ.out]; omega) hb_2.size ?_
                       intro v2 wq3 ho2 hg hnb
                       have hb_3 := hb_2.grown hg hb_2.size (fun r hr => (A_2.lt r hr).1)
                       obtain ⟨a2, c2, e2, -⟩ := ho2.has
                       rw [HLX.out] at e2
                       subst e2
                       obtain ⟨z1, z2, q3, q4⟩ := und_set HR5.out HB5.out hme HVU.out (ho2.low hz5) (grown_of_below hb_3 _) (fun k hk => .inr (ho2.lt k hk).1)
                       have Q3 := Lib.hid q3; have Q4 := Lib.hid q4
                       clear hg hnb q3 q4 ho2
                       refine hK.out _ _ (KS.out _ hb_3) (fun hHeld => ?_)
                       clear hK K
                       (try simp only [Act.put, List.setIfInBounds_toArray, List.set_cons_zero, List.set_cons_succ])
                       refine takeL (i := 17) (v := .pointer (some ⟨g4, me, none⟩)) rfl (Or.inl ⟨by rfl, ?_⟩) hHeld ?_
                       · intro w hSw; (try dsimp only at hSw); go_simp
                       (try simp only [Act.put, List.setIfInBounds_toArray, List.set_cons_zero, List.set_cons_succ])
                       refine wpAnyH_ready (rs := [18]) (by kernel_rfl) (by simp) ?_
                       refine consL rfl (fun K hK => ?_) ?_
                       ·
                        go_simp
                        have hS18 := Blk.cell (Blk.other (Blk.keep H75.out hb_3) me (.slice a2 LX c2) NG7.out) 2
                        refine hK.out _ _ hS18 (fun hHeld => ?_)
                        clear hK K
                        (try simp only [Act.put, List.setIfInBounds_toArray, List.set_cons_zero, List.set_cons_succ])
                        refine wpAnyH_done (by kernel_rfl) ?_ _
                        refine NoPanic.normal ?_
                        go_wp2_with fail
                        go_meet
                        case rel => exact ⟨_, Q3, Q4⟩
                       exact AllReadyH.nil
                      exact AllReadyH.nil
                     exact AllReadyH.nil
                    refine consL rfl (fun K hK => ?_) ?_
                    ·
                     have e4 := (HR5.out.keep hb_1).c4 hme
                     rw [HVU.out] at e4
                     go_simp
                     clear e4
                     refine hK.out _ _ (KS.out _ hb_1) (fun hHeld => ?_)
                     clear hK K
                     (try simp only [Act.put, List.setIfInBounds_toArray, List.set_cons_zero, List.set_cons_succ])
                     refine takeL (i := 15) (v := ?v14) rfl (Or.inl ⟨by rfl, ?_⟩) hHeld ?_
                     rotate_left
                     · intro w hSw; (try dsimp only at hSw); go_simp
                       (try with_reducible rfl)
                     (try simp only [Act.put, List.setIfInBounds_toArray, List.set_cons_zero, List.set_cons_succ])
                     refine wpAnyH_ready (rs := [8]) (by kernel_rfl) (by simp) ?_
                     refine consL rfl (fun K hK => ?_) ?_
                     ·
                      refine step_apX (by rfl) (.tmp 131) (.tmp 137) (by rfl) w5.heap.size _ [] (by rfl) E_1 _ _ _ ((L.u me).take j) (by rfl) ((HX5.out.keep hb_1).front j) HTJ.out (fun h => by cases h) (by simp; omega) hb_1.size ?_
                      intro v1 wq2 A_2 hg hnb
                      rw [List.nil_append] at A_2
                      have hb_2 := hb_1.grown hg hb_1.size (fun r hr => (E_1.lt r hr).1)
                      obtain ⟨a1, c1, e1, -⟩ := A_2.has
                      rw [HTJ.out] at e1
                      subst e1
                      clear hg hnb
                      refine hK.out _ _ (KS.out _ hb_2) (fun hHeld => ?_)
                      clear hK K
                      (try simp only [Act.put, List.setIfInBounds_toArray, List.set_cons_zero, List.set_cons_succ])
                      refine wpAnyH_ready (rs := [16]) (by kernel_rfl) (by simp) ?_
                      refine consL rfl (fun K hK => ?_) ?_
                      ·
                       refine step_apX (by rfl) (.tmp 138) (.tmp 145) (by rfl) w5.heap.size _ ((L.u me).take j) (by rfl) A_2 _ _ _ ((L.u me).drop (j + 1)) (by rfl) (HRR.out _ hb_2) HDJ.out (fun h => by cases h) (by rw [HTJ.out]; omega) hb_2.size ?_
                       intro v2 wq3 ho2 hg hnb
                       have hb_3 := hb_2.grown hg hb_2.size (fun r hr => (A_2.lt r hr).1)
                       obtain ⟨a2, c2, e2, -⟩ := ho2.has
                       rw [HLX.out] at e2
                       subst e2
                       obtain ⟨z1, z2, q3, q4⟩ := und_set HR5.out HB5.out hme HVU.out (ho2.low hz5) (grown_of_below hb_3 _) (fun k hk => .inr (ho2.lt k hk).1)
                       have Q3 := Lib.hid q3; have Q4 := Lib.hid q4
                       clear hg hnb q3 q4 ho2
                       refine hK.out _ _ (KS.out _ hb_3) (fun hHeld => ?_)
                       clear hK K
                       (try simp only [Act.put, List.setIfInBounds_toArray, List.set_cons_zero, List.set_cons_succ])
                       refine takeL (i := 17) (v := .pointer (some ⟨g4, me, none⟩)) rfl (Or.inl ⟨by rfl, ?_⟩) hHeld ?_
                       · intro w hSw; (try dsimp only at hSw); go_simp
                       (try simp only [Act.put, List.setIfInBounds_toArray, List.set_cons_zero, List.set_cons_succ])
                       refine wpAnyH_ready (rs := [18]) (by kernel_rfl) (by simp) ?_
                       refine consL rfl (fun K hK => ?_) ?_
                       ·
                        go_simp
                        have hS18 := Blk.cell (Blk.other (Blk.keep H75.out hb_3) me (.slice a2 LX c2) NG7.out) 2
                        refine hK.out _ _ hS18 (fun hHeld => ?_)
                        clear hK K
                        (try simp only [Act.put, List.setIfInBounds_toArray, List.set_cons_zero, List.set_cons_succ])
                        refine wpAnyH_done (by kernel_rfl) ?_ _
                        refine NoPanic.normal ?_
                        go_wp2_with fail
                        go_meet
                        case rel => exact ⟨_, Q3, Q4⟩
                       exact AllReadyH.nil
                      exact AllReadyH.nil
                     exact AllReadyH.nil
                    exact AllReadyH.nil
                   refine consL rfl (fun K hK => ?_) ?_
                   ·
                    have e4 := (HR5.out.keep hb_1).c4 hme
                    rw [HVU.out] at e4
                    go_simp
                    clear e4
                    refine hK.out _ _ (KS.out _ hb_1) (fun hHeld => ?_)
                    clear hK K
                    (try simp only [Act.put, List.setIfInBounds_toArray, List.set_cons_zero, List.set_cons_succ])
                    refine takeL (i := 15) (v := ?v16) rfl (Or.inl ⟨by rfl, ?_⟩) hHeld ?_
                    rotate_left
                    · intro w hSw; (try dsimp only at hSw); go_simp
                      (try with_reducible rfl)
                    (try simp only [Act.put, List.setIfInBounds_toArray, List.set_cons_zero, List.set_cons_succ])
                    refine wpAnyH_ready (rs := [4]) (by kernel_rfl) (by simp) ?_
                    refine consL rfl (fun K hK => ?_) ?_
                    ·
                     have e4 := (HR5.out.keep hb_1).c4 hme
                     rw [HVU.out] at e4
                     go_simp
                     clear e4
                     refine hK.out _ _ (KS.out _ hb_1) (fun hHeld => ?_)
                     clear hK K
                     (try simp only [Act.put, List.setIfInBounds_toArray, List.set_cons_zero, List.set_cons_succ])
                     refine takeL (i := 7) (v := ?v17) rfl (Or.inl ⟨by rfl, ?_⟩) hHeld ?_
                     rotate_left
                     · intro w hSw; (try dsimp only at hSw); go_simp
                       (try with_reducible rfl)
                     (try simp only [Act.put, List.setIfInBounds_toArray, List.set_cons_zero, List.set_cons_succ])
                     refine wpAnyH_ready (rs := [8]) (by kernel_rfl) (by simp) ?_
                     refine consL rfl (fun K hK => ?_) ?_
                     ·
                      refine step_apX (by rfl) (.tmp 131) (.tmp 137) (by rfl) w5.heap.size _ [] (by rfl) E_1 _ _ _ ((L.u me).take j) (by rfl) ((HX5.out.keep hb_1).front j) HTJ.out (fun h => by cases h) (by simp; omega) hb_1.size ?_
                      intro v1 wq2 A_2 hg hnb
                      rw [List.nil_append] at A_2
                      have hb_2 := hb_1.grown hg hb_1.size (fun r hr => (E_1.lt r hr).1)
                      obtain ⟨a1, c1, e1, -⟩ := A_2.has
                      rw [HTJ.out] at e1
                      subst e1
                      clear hg hnb
                      refine hK.out _ _ (KS.out _ hb_2) (fun hHeld => ?_)
                      clear hK K
                      (try simp only [Act.put, List.setIfInBounds_toArray, List.set_cons_zero, List.set_cons_succ])
                      refine wpAnyH_ready (rs := [16]) (by kernel_rfl) (by simp) ?_
                      refine consL rfl (fun K hK => ?_) ?_
                      ·
                       refine step_apX (by rfl) (.tmp 138) (.tmp 145) (by rfl) w5.heap.size _ ((L.u me).take j) (by rfl) A_2 _ _ _ ((L.u me).drop (j + 1)) (by rfl) (HRR.out _ hb_2) HDJ.out (fun h => by cases h) (by rw [HTJ.out]; omega) hb_2.size ?_
                       intro v2 wq3 ho2 hg hnb
                       have hb_3 := hb_2.grown hg hb_2.size (fun r hr => (A_2.lt r hr).1)
                       obtain ⟨a2, c2, e2, -⟩ := ho2.has
                       rw [HLX.out] at e2
                       subst e2
                       obtain ⟨z1, z2, q3, q4⟩ := und_set HR5.out HB5.out hme HVU.out (ho2.low hz5) (grown_of_below hb_3 _) (fun k hk => .inr (ho2.lt k hk).1)
                       have Q3 := Lib.hid q3; have Q4 := Lib.hid q4
                       clear hg hnb q3 q4 ho2
                       refine hK.out _ _ (KS.out _ hb_3) (fun hHeld => ?_)
                       clear hK K
                       (try simp only [Act.put, List.setIfInBounds_toArray, List.set_cons_zero, List.set_cons_succ])
                       refine takeL (i := 17) (v := .pointer (some ⟨g4, me, none⟩)) rfl (Or.inl ⟨by rfl, ?_⟩) hHeld ?_
                       · intro w hSw; (try dsimp only at hSw); go_simp
                       (try simp only [Act.put, List.setIfInBounds_toArray, List.set_cons_zero, List.set_cons_succ])
                       refine wpAnyH_ready (rs := [18]) (by kernel_rfl) (by simp) ?_
                       refine consL rfl (fun K hK => ?_) ?_
                       ·
                        go_simp
                        have hS18 := Blk.cell (Blk.other (Blk.keep H75.out hb_3) me (.slice a2 LX c2) NG7.out) 2
                        refine hK.out _ _ hS18 (fun hHeld => ?_)
                        clear hK K
                        (try simp only [Act.put, List.setIfInBounds_toArray, List.set_cons_zero, List.set_cons_succ])
                        refine wpAnyH_done (by kernel_rfl) ?_ _
                        refine NoPanic.normal ?_
                        go_wp2_with fail
                        go_meet
                        case rel => exact ⟨_, Q3, Q4⟩
                       exact AllReadyH.nil
                      exact AllReadyH.nil
                     exact AllReadyH.nil
                    exact AllReadyH.nil
                   exact AllReadyH.nil
                  refine consL rfl (fun K hK => ?_) ?_
                  ·
                   have e4 := (HR5.out.keep hb_0).c4 hme
                   rw [HVU.out] at e4
                   go_simp
                   clear e4
                   refine hK.out _ _ (KS.out _ hb_0) (fun hHeld => ?_)
                   clear hK K
                   (try simp only [Act.put, List.setIfInBounds_toArray, List.set_cons_zero, List.set_cons_succ])
                   refine takeL (i := 7) (v := ?v19) rfl (Or.inl ⟨by rfl, ?_⟩) hHeld ?_
                   rotate_left
                   · intro w hSw; (try dsimp only at hSw); go_simp
                     (try with_reducible rfl)
                   (try simp only [Act.put, List.setIfInBounds_toArray, List.set_cons_zero, List.set_cons_succ])
                   refine wpAnyH_ready (rs := [1, 11]) (by kernel_rfl) (by simp) ?_
                   refine consL rfl (fun K hK => ?_) ?_
                   ·
                    go_simp
                    have hc := below_alloc1 wq0 (.cells #[] 27)
                    have E_1 := ownX_lit wq0 hb_0.size
                    obtain ⟨gE, hg⟩ : ∃ g, g = wq0.heap.size := ⟨_, rfl⟩
                    obtain ⟨wq1, hw⟩ : ∃ w', w' = wq0.alloc (.cells #[] 27) := ⟨_, rfl⟩
                    rw [← hw] at E_1 hc ⊢
                    have hb_1 := hb_0.trans (hc.mono hb_0.size)
                    rw [← hg] at E_1 ⊢
                    clear hw hg hc
                    refine hK.out _ _ (KS.out _ hb_1) (fun hHeld => ?_)
                    clear hK K
                    (try simp only [Act.put, List.setIfInBounds_toArray, List.set_cons_zero, List.set_cons_succ])
                    refine wpAnyH_ready (rs := [8, 11]) (by kernel_rfl) (by simp) ?_
                    refine consL rfl (fun K hK => ?_) ?_
                    ·
                     refine step_apX (by rfl) (.tmp 131) (.tmp 137) (by rfl) w5.heap.size _ [] (by rfl) E_1 _ _ _ ((L.u me).take j) (by rfl) ((HX5.out.keep hb_1).front j) HTJ.out (fun h => by cases h) (by simp; omega) hb_1.size ?_
                     intro v1 wq2 A_2 hg hnb
                     rw [List.nil_append] at A_2
                     have hb_2 := hb_1.grown hg hb_1.size (fun r hr => (E_1.lt r hr).1)
                     obtain ⟨a1, c1, e1, -⟩ := A_2.has
                     rw [HTJ.out] at e1
                     subst e1
                     clear hg hnb
                     refine hK.out _ _ (KS.out _ hb_2) (fun hHeld => ?_)
                     clear hK K
                     (try simp only [Act.put, List.setIfInBounds_toArray, List.set_cons_zero, List.set_cons_succ])
                     refine wpAnyH_ready (rs := [11]) (by kernel_rfl) (by simp) ?_
                     refine consL rfl (fun K hK => ?_) ?_
                     ·
                      have e4 := (HR5.out.keep hb_2).c4 hme
                      rw [HVU.out] at e4
                      go_simp
                      clear e4
                      refine hK.out _ _ (KS.out _ hb_2) (fun hHeld => ?_)
                      clear hK K
                      (try simp only [Act.put, List.setIfInBounds_toArray, List.set_cons_zero, List.set_cons_succ])
                      refine takeL (i := 15) (v := ?v20) rfl (Or.inl ⟨by rfl, ?_⟩) hHeld ?_
                      rotate_left
                      · intro w hSw; (try dsimp only at hSw); go_simp
                        (try with_reducible rfl)
                      (try simp only [Act.put, List.setIfInBounds_toArray, List.set_cons_zero, List.set_cons_succ])
                      refine wpAnyH_ready (rs := [16]) (by kernel_rfl) (by simp) ?_
                      refine consL rfl (fun K hK => ?_) ?_
                      ·
                       refine step_apX (by rfl) (.tmp 138) (.tmp 145) (by rfl) w5.heap.size _ ((L.u me).take j) (by rfl) A_2 _ _ _ ((L.u me).drop (j + 1)) (by rfl) (HRR.out _ hb_2) HDJ.out (fun h => by cases h) (by rw [HTJ.out]; omega) hb_2.size ?_
                       intro v2 wq3 ho2 hg hnb
                       have hb_3 := hb_2.grown hg hb_2.size (fun r hr => (A_2.lt r hr).1)
                       obtain ⟨a2, c2, e2, -⟩ := ho2.has
                       rw [HLX.out] at e2
                       subst e2
                       obtain ⟨z1, z2, q3, q4⟩ := und_set HR5.out HB5.out hme HVU.out (ho2.low hz5) (grown_of_below hb_3 _) (fun k hk => .inr (ho2.lt k hk).1)
                       have Q3 := Lib.hid q3; have Q4 := Lib.hid q4
                       clear hg hnb q3 q4 ho2
                       refine hK.out _ _ (KS.out _ hb_3) (fun hHeld => ?_)
                       clear hK K
                       (try simp only [Act.put, List.setIfInBounds_toArray, List.set_cons_zero, List.set_cons_succ])
                       refine takeL (i := 17) (v := .pointer (some ⟨g4, me, none⟩)) rfl (Or.inl ⟨by rfl, ?_⟩) hHeld ?_
                       · intro w hSw; (try dsimp only at hSw); go_simp
                       (try simp only [Act.put, List.setIfInBounds_toArray, List.set_cons_zero, List.set_cons_succ])
                       refine wpAnyH_ready (rs := [18]) (by kernel_rfl) (by simp) ?_
                       refine consL rfl (fun K hK => ?_) ?_
                       ·
                        go_simp
                        have hS18 := Blk.cell (Blk.other (Blk.keep H75.out hb_3) me (.slice a2 LX c2) NG7.out) 2
                        refine hK.out _ _ hS18 (fun hHeld => ?_)
                        clear hK K
                        (try simp only [Act.put, List.setIfInBounds_toArray, List.set_cons_zero, List.set_cons_succ])
                        refine wpAnyH_done (by kernel_rfl) ?_ _
                        refine NoPanic.normal ?_
                        go_wp2_with fail
                        go_meet
                        case rel => exact ⟨_, Q3, Q4⟩
                       exact AllReadyH.nil
                      exact AllReadyH.nil
                     exact AllReadyH.nil
                    refine consL rfl (fun K hK => ?_) ?_
                    ·
                     have e4 := (HR5.out.keep hb_1).c4 hme
                     rw [HVU.out] at e4
                     go_simp
                     clear e4
                     refine hK.out _ _ (KS.out _ hb_1) (fun hHeld => ?_)
                     clear hK K
                     (try simp only [Act.put, List.setIfInBounds_toArray, List.set_cons_zero, List.set_cons_succ])
                     refine takeL (i := 15) (v := ?v22) rfl (Or.inl ⟨by rfl, ?_⟩) hHeld ?_
                     rotate_left
                     · intro w hSw; (try dsimp only at hSw); go_simp
                       (try with_reducible rfl)
                     (try simp only [Act.put, List.setIfInBounds_toArray, List.set_cons_zero, List.set_cons_succ])
                     refine wpAnyH_ready (rs := [8]) (by kernel_rfl) (by simp) ?_
                     refine consL rfl (fun K hK => ?_) ?_
                     ·
                      refine step_apX (by rfl) (.tmp 131) (.tmp 137) (by rfl) w5.heap.size _ [] (by rfl) E_1 _ _ _ ((L.u me).take j) (by rfl) ((HX5.out.keep hb_1).front j) HTJ.out (fun h => by cases h) (by simp; omega) hb_1.size ?_
                      intro v1 wq2 A_2 hg hnb
                      rw [List.nil_append] at A_2
                      have hb_2 := hb_1.grown hg hb_1.size (fun r hr => (E_1.lt r hr).1)
                      obtain ⟨a1, c1, e1, -⟩ := A_2.has
                      rw [HTJ.out] at e1
                      subst e1
                      clear hg hnb
                      refine hK.out _ _ (KS.out _ hb_2) (fun hHeld => ?_)
                      clear hK K
                      (try simp only [Act.put, List.setIfInBounds_toArray, List.set_cons_zero, List.set_cons_succ])
                      refine wpAnyH_ready (rs := [16]) (by kernel_rfl) (by simp) ?_
                      refine consL rfl (fun K hK => ?_) ?_
                      ·
                       refine step_apX (by rfl) (.tmp 138) (.tmp 145) (by rfl) w5.heap.size _ ((L.u me).take j) (by rfl) A_2 _ _ _ ((L.u me).drop (j + 1)) (by rfl) (HRR.out _ hb_2) HDJ.out (fun h => by cases h) (by rw [HTJ.out]; omega) hb_2.size ?_
                       intro v2 wq3 ho2 hg hnb
                       have hb_3 := hb_2.grown hg hb_2.size (fun r hr => (A_2.lt r hr).1)
                       obtain ⟨a2, c2, e2, -⟩ := ho2.has
                       rw [HLX.out] at e2
                       subst e2
                       obtain ⟨z1, z2, q3, q4⟩ := und_set HR5.out HB5.out hme HVU.out (ho2.low hz5) (grown_of_below hb_3 _) (fun k hk => .inr (ho2.lt k hk).1)
                       have Q3 := Lib.hid q3; have Q4 := Lib.hid q4
                       clear hg hnb q3 q4 ho2
                       refine hK.out _ _ (KS.out _ hb_3) (fun hHeld => ?_)
                       clear hK K
                       (try simp only [Act.put, List.setIfInBounds_toArray, List.set_cons_zero, List.set_cons_succ])
                       refine takeL (i := 17) (v := .pointer (some ⟨g4, me, none⟩)) rfl (Or.inl ⟨by rfl, ?_⟩) hHeld ?_
                       · intro w hSw; (try dsimp only at hSw); go_simp
                       (try simp only [Act.put, List.setIfInBounds_toArray, List.set_cons_zero, List.set_cons_succ])
                       refine wpAnyH_ready (rs := [18]) (by kernel_rfl) (by simp) ?_
                       refine consL rfl (fun K hK => ?_) ?_
                       ·
                        go_simp
                        have hS18 := Blk.cell (Blk.other (Blk.keep H75.out hb_3) me (.slice a2 LX c2) NG7.out) 2
                        refine hK.out _ _ hS18 (fun hHeld => ?_)
                        clear hK K
                        (try simp only [Act.put, List.setIfInBounds_toArray, List.set_cons_zero, List.set_cons_succ])
                        refine wpAnyH_done (by kernel_rfl) ?_ _
                        refine NoPanic.normal ?_
                        go_wp2_with fail
                        go_meet
                        case rel => exact ⟨_, Q3, Q4⟩
                       exact AllReadyH.nil
                      exact AllReadyH.nil
                     exact AllReadyH.nil
                    exact AllReadyH.nil
                   refine consL rfl (fun K hK => ?_) ?_
                   ·
                    have e4 := (HR5.out.keep hb_0).c4 hme
                    rw [HVU.out] at e4
                    go_simp
                    clear e4
                    refine hK.out _ _ (KS.out _ hb_0) (fun hHeld => ?_)
                    clear hK K
                    (try simp only [Act.put, List.setIfInBounds_toArray, List.set_cons_zero, List.set_cons_succ])
                    refine takeL (i := 15) (v := ?v24) rfl (Or.inl ⟨by rfl, ?_⟩) hHeld ?_
                    rotate_left
                    · intro w hSw; (try dsimp only at hSw); go_simp
                      (try with_reducible rfl)
                    (try simp only [Act.put, List.setIfInBounds_toArray, List.set_cons_zero, List.set_cons_succ])
                    refine wpAnyH_ready (rs := [1]) (by kernel_rfl) (by simp) ?_
                    refine consL rfl (fun K hK => ?_) ?_
                    ·
                     go_simp
                     have hc := below_alloc1 wq0 (.cells #[] 27)
                     have E_1 := ownX_lit wq0 hb_0.size
                     obtain ⟨gE, hg⟩ : ∃ g, g = wq0.heap.size := ⟨_, rfl⟩
                     obtain ⟨wq1, hw⟩ : ∃ w', w' = wq0.alloc (.cells #[] 27) := ⟨_, rfl⟩
                     rw [← hw] at E_1 hc ⊢
                     have hb_1 := hb_0.trans (hc.mono hb_0.size)
                     rw [← hg] at E_1 ⊢
                     clear hw hg hc
                     refine hK.out _ _ (KS.out _ hb_1) (fun hHeld => ?_)
                     clear hK K
                     (try simp only [Act.put, List.setIfInBounds_toArray, List.set_cons_zero, List.set_cons_succ])
                     refine wpAnyH_ready (rs := [8]) (by kernel_rfl) (by simp) ?_
                     refine consL rfl (fun K hK => ?_) ?_
                     ·
                      refine step_apX (by rfl) (.tmp 131) (.tmp 137) (by rfl) w5.heap.size _ [] (by rfl) E_1 _ _ _ ((L.u me).take j) (by rfl) ((HX5.out.keep hb_1).front j) HTJ.out (fun h => by cases h) (by simp; omega) hb_1.size ?_
                      intro v1 wq2 A_2 hg hnb
                      rw [List.nil_append] at A_2
                      have hb_2 := hb_1.grown hg hb_1.size (fun r hr => (E_1.lt r hr).1)
                      obtain ⟨a1, c1, e1, -⟩ := A_2.has
                      rw [HTJ.out] at e1
                      subst e1
                      clear hg hnb
                      refine hK.out _ _ (KS.out _ hb_2) (fun hHeld => ?_)
                      clear hK K
                      (try simp only [Act.put, List.setIfInBounds_toArray, List.set_cons_zero, List.set_cons_succ])
                      refine wpAnyH_ready (rs := [16]) (by kernel_rfl) (by simp) ?_
                      refine consL rfl (fun K hK => ?_) ?_
                      ·
                       refine step_apX (by rfl) (.tmp 138) (.tmp 145) (by rfl) w5.heap.size _ ((L.u me).take j) (by rfl) A_2 _ _ _ ((L.u me).drop (j + 1)) (by rfl) (HRR.out _ hb_2) HDJ.out (fun h => by cases h) (by rw [HTJ.out]; omega) hb_2.size ?_
                       intro v2 wq3 ho2 hg hnb
                       have hb_3 := hb_2.grown hg hb_2.size (fun r hr => (A_2.lt r hr).1)
                       obtain ⟨a2, c2, e2, -⟩ := ho2.has
                       rw [HLX.out] at e2
                       subst e2
                       obtain ⟨z1, z2, q3, q4⟩ := und_set HR5.out HB5.out hme HVU.out (ho2.low hz5) (grown_of_below hb_3 _) (fun k hk => .inr (ho2.lt k hk).1)
                       have Q3 := Lib.hid q3; have Q4 := Lib.hid q4
                       clear hg hnb q3 q4 ho2
                       refine hK.out _ _ (KS.out _ hb_3) (fun hHeld => ?_)
                       clear hK K
                       (try simp only [Act.put, List.setIfInBounds_toArray, List.set_cons_zero, List.set_cons_succ])
                       refine takeL (i := 17) (v := .pointer (some ⟨g4, me, none⟩)) rfl (Or.inl ⟨by rfl, ?_⟩) hHeld ?_
                       · intro w hSw; (try dsimp only at hSw); go_simp
                       (try simp only [Act.put, List.setIfInBounds_toArray, List.set_cons_zero, List.set_cons_succ])
                       refine wpAnyH_ready (rs := [18]) (by kernel_rfl) (by simp) ?_
                       refine consL rfl (fun K hK => ?_) ?_
                       ·
                        go_simp
                        have hS18 := Blk.cell (Blk.other (Blk.keep H75.out hb_3) me (.slice a2 LX c2) NG7.out) 2
                        refine hK.out _ _ hS18 (fun hHeld => ?_)
                        clear hK K
                        (try simp only [Act.put, List.setIfInBounds_toArray, List.set_cons_zero, List.set_cons_succ])
                        refine wpAnyH_done (by kernel_rfl) ?_ _
                        refine NoPanic.normal ?_
                        go_wp2_with fail
                        go_meet
                        case rel => exact ⟨_, Q3, Q4⟩
                       exact AllReadyH.nil
                      exact AllReadyH.nil
                     exact AllReadyH.nil
                    exact AllReadyH.nil
                   exact AllReadyH.nil
                  refine consL rfl (fun K hK => ?_) ?_
                  ·
                   have e4 := (HR5.out.keep hb_0).c4 hme
                   rw [HVU.out] at e4
                   go_simp
                   clear e4
                   refine hK.out _ _ (KS.out _ hb_0) (fun hHeld => ?_)
                   clear hK K
                   (try simp only [Act.put, List.setIfInBounds_toArray, List.set_cons_zero, List.set_cons_succ])
                   refine takeL (i := 15) (v := ?v26) rfl (Or.inl ⟨by rfl, ?_⟩) hHeld ?_
                   rotate_left
                   · intro w hSw; (try dsimp only at hSw); go_simp
                     (try with_reducible rfl)
                   (try simp only [Act.put, List.setIfInBounds_toArray, List.set_cons_zero, List.set_cons_succ])
                   refine wpAnyH_ready (rs := [1, 4]) (by kernel_rfl) (by simp) ?_
                   refine consL rfl (fun K hK => ?_) ?_
                   ·
                    go_simp
                    have hc := below_alloc1 wq0 (.cells #[] 27)
                    have E_1 := ownX_lit wq0 hb_0.size
                    obtain ⟨gE, hg⟩ : ∃ g, g = wq0.heap.size := ⟨_, rfl⟩
                    obtain ⟨wq1, hw⟩ : ∃ w', w' = wq0.alloc (.cells #[] 27) := ⟨_, rfl⟩
                    rw [← hw] at E_1 hc ⊢
                    have hb_1 := hb_0.trans (hc.mono hb_0.size)
                    rw [← hg] at E_1 ⊢
                    clear hw hg hc
                    refine hK.out _ _ (KS.out _ hb_1) (fun hHeld => ?_)
                    clear hK K
                    (try simp only [Act.put, List.setIfInBounds_toArray, List.set_cons_zero, List.set_cons_succ])
                    refine wpAnyH_ready (rs := [4]) (by kernel_rfl) (by simp) ?_
                    refine consL rfl (fun K hK => ?_) ?_
                    ·
                     have e4 := (HR5.out.keep hb_1).c4 hme
                     rw [HVU.out] at e4
                     go_simp
                     clear e4
                     refine hK.out _ _ (KS.out _ hb_1) (fun hHeld => ?_)
                     clear hK K
                     (try simp only [Act.put, List.setIfInBounds_toArray, List.set_cons_zero, List.set_cons_succ])
                     refine takeL (i := 7) (v := ?v27) rfl (Or.inl ⟨by rfl, ?_⟩) hHeld ?_
                     rotate_left
                     · intro w hSw; (try dsimp only at hSw); go_simp
                       (try with_reducible rfl)
                     (try simp only [Act.put, List.setIfInBounds_toArray, List.set_cons_zero, List.set_cons_succ])
                     refine wpAnyH_ready (rs := [8]) (by kernel_rfl) (by simp) ?_
                     refine consL rfl (fun K hK => ?_) ?_
                     ·
                      refine step_apX (by rfl) (.tmp 131) (.tmp 137) (by rfl) w5.heap.size _ [] (by rfl) E_1 _ _ _ ((L.u me).take j) (by rfl) ((HX5.out.keep hb_1).front j) HTJ.out (fun h => by cases h) (by simp; omega) hb_1.size ?_
                      intro v1 wq2 A_2 hg hnb
                      rw [List.nil_append] at A_2
                      have hb_2 := hb_1.grown hg hb_1.size (fun r hr => (E_1.lt r hr).1)
                      obtain ⟨a1, c1, e1, -⟩ := A_2.has
                      rw [HTJ.out] at e1
                      subst e1
                      clear hg hnb
                      refine hK.out _ _ (KS.out _ hb_2) (fun hHeld => ?_)
                      clear hK K
                      (try simp only [Act.put, List.setIfInBounds_toArray, List.set_cons_zero, List.set_cons_succ])
                      refine wpAnyH_ready (rs := [16]) (by kernel_rfl) (by simp) ?_
                      refine consL rfl (fun K hK => ?_) ?_
                      ·
                       refine step_apX (by rfl) (.tmp 138) (.tmp 145) (by rfl) w5.heap.size _ ((L.u me).take j) (by rfl) A_2 _ _ _ ((L.u me).drop (j + 1)) (by rfl) (HRR.out _ hb_2) HDJ.out (fun h => by cases h) (by rw [HTJ.out]; omega) hb_2.size ?_
                       intro v2 wq3 ho2 hg hnb
                       have hb_3 := hb_2.grown hg hb_2.size (fun r hr => (A_2.lt r hr).1)
                       obtain ⟨a2, c2, e2, -⟩ := ho2.has
                       rw [HLX.out] at e2
                       subst e2
                       obtain ⟨z1, z2, q3, q4⟩ := und_set HR5.out HB5.out hme HVU.out (ho2.low hz5) (grown_of_below hb_3 _) (fun k hk => .inr (ho2.lt k hk).1)
                       have Q3 := Lib.hid q3; have Q4 := Lib.hid q4
                       clear hg hnb q3 q4 ho2
                       refine hK.out _ _ (KS.out _ hb_3) (fun hHeld => ?_)
                       clear hK K
                       (try simp only [Act.put, List.setIfInBounds_toArray, List.set_cons_zero, List.set_cons_succ])
                       refine takeL (i := 17) (v := .pointer (some ⟨g4, me, none⟩)) rfl (Or.inl ⟨by rfl, ?_⟩) hHeld ?_
                       · intro w hSw; (try dsimp only at hSw); go_simp
                       (try simp only [Act.put, List.setIfInBounds_toArray, List.set_cons_zero, List.set_cons_succ])
                       refine wpAnyH_ready (rs := [18]) (by kernel_rfl) (by simp) ?_
                       refine consL rfl (fun K hK => ?_) ?_
                       ·
                        go_simp
                        have hS18 := Blk.cell (Blk.other (Blk.keep H75.out hb_3) me (.slice a2 LX c2) NG7.out) 2
                        refine hK.out _ _ hS18 (fun hHeld => ?_)
                        clear hK K
                        (try simp only [Act.put, List.setIfInBounds_toArray, List.set_cons_zero, List.set_cons_succ])
                        refine wpAnyH_done (by kernel_rfl) ?_ _
                        refine NoPanic.normal ?_
                        go_wp2_with fail
                        go_meet
                        case rel => exact ⟨_, Q3, Q4⟩
                       exact AllReadyH.nil
                      exact AllReadyH.nil
                     exact AllReadyH.nil
                    exact AllReadyH.nil
                   refine consL rfl (fun K hK => ?_) ?_
                   ·
                    have e4 := (HR5.out.keep hb_0).c4 hme
                    rw [HVU.out] at e4
                    go_simp
                    clear e4
                    refine hK.out _ _ (KS.out _ hb_0) (fun hHeld => ?_)
                    clear hK K
                    (try simp only [Act.put, List.setIfInBounds_toArray, List.set_cons_zero, List.set_cons_succ])
                    refine takeL (i := 7) (v := ?v29) rfl (Or.inl ⟨by rfl, ?_⟩) hHeld ?_
                    rotate_left
                    · intro w hSw; (try dsimp only at hSw); go_simp
                      (try with_reducible rfl)
                    (try simp only [Act.put, List.setIfInBounds_toArray, List.set_cons_zero, List.set_cons_succ])
                    refine wpAnyH_ready (rs := [1]) (by kernel_rfl) (by simp) ?_
                    refine consL rfl (fun K hK => ?_) ?_
                    ·
                     go_simp
                     have hc := below_alloc1 wq0 (.cells #[] 27)
                     have E_1 := ownX_lit wq0 hb_0.size
                     obtain ⟨gE, hg⟩ : ∃ g, g = wq0.heap.size := ⟨_, rfl⟩
                     obtain ⟨wq1, hw⟩ : ∃ w', w' = wq0.alloc (.cells #[] 27) := ⟨_, rfl⟩
                     rw [← hw] at E_1 hc ⊢
                     have hb_1 := hb_0.trans (hc.mono hb_0.size)
                     rw [← hg] at E_1 ⊢
                     clear hw hg hc
                     refine hK.out _ _ (KS.out _ hb_1) (fun hHeld => ?_)
                     clear hK K
                     (try simp only [Act.put, List.setIfInBounds_toArray, List.set_cons_zero, List.set_cons_succ])
                     refine wpAnyH_ready (rs := [8]) (by kernel_rfl) (by simp) ?_
                     refine consL rfl (fun K hK => ?_) ?_
                     ·
                      refine step_apX (by rfl) (.tmp 131) (.tmp 137) (by rfl) w5.heap.size _ [] (by rfl) E_1 _ _ _ ((L.u me).take j) (by rfl) ((HX5.out.keep hb_1).front j) HTJ.out (fun h => by cases h) (by simp; omega) hb_1.size ?_
                      intro v1 wq2 A_2 hg hnb
                      rw [List.nil_append] at A_2
                      have hb_2 := hb_1.grown hg hb_1.size (fun r hr => (E_1.lt r hr).1)
                      obtain ⟨a1, c1, e1, -⟩ := A_2.has
                      rw [HTJ.out] at e1
                      subst e1
                      clear hg hnb
                      refine hK.out _ _ (KS.out _ hb_2) (fun hHeld => ?_)
                      clear hK K
                      (try simp only [Act.put, List.setIfInBounds_toArray, List.set_cons_zero, List.set_cons_succ])
                      refine wpAnyH_ready (rs := [16]) (by kernel_rfl) (by simp) ?_
                      refine consL rfl (fun K hK => ?_) ?_
                      ·
                       refine step_apX (by rfl) (.tmp 138) (.tmp 145) (by rfl) w5.heap.size _ ((L.u me).take j) (by rfl) A_2 _ _ _ ((L.u me).drop (j + 1)) (by rfl) (HRR.out _ hb_2) HDJ.out (fun h => by cases h) (by rw [HTJ.out]; omega) hb_2.size ?_
                       intro v2 wq3 ho2 hg hnb
                       have hb_3 := hb_2.grown hg hb_2.size (fun r hr => (A_2.lt r hr).1)
                       obtain ⟨a2, c2, e2, -⟩ := ho2.has
                       rw [HLX.out] at e2
                       subst e2
                       obtain ⟨z1, z2, q3, q4⟩ := und_set HR5.out HB5.out hme HVU.out (ho2.low hz5) (grown_of_below hb_3 _) (fun k hk => .inr (ho2.lt k hk).1)
                       have Q3 := Lib.hid q3; have Q4 := Lib.hid q4
                       clear hg hnb q3 q4 ho2
                       refine hK.out _ _ (KS.out _ hb_3) (fun hHeld => ?_)
                       clear hK K
                       (try simp only [Act.put, List.setIfInBounds_toArray, List.set_cons_zero, List.set_cons_succ])
                       refine takeL (i := 17) (v := .pointer (some ⟨g4, me, none⟩)) rfl (Or.inl ⟨by rfl, ?_⟩) hHeld ?_
                       · intro w hSw; (try dsimp only at hSw); go_simp
                       (try simp only [Act.put, List.setIfInBounds_toArray, List.set_cons_zero, List.set_cons_succ])
                       refine wpAnyH_ready (rs := [18]) (by kernel_rfl) (by simp) ?_
                       refine consL rfl (fun K hK => ?_) ?_
                       ·
                        go_simp
                        have hS18 := Blk.cell (Blk.other (Blk.keep H75.out hb_3) me (.slice a2 LX c2) NG7.out) 2
                        refine hK.out _ _ hS18 (fun hHeld => ?_)
                        clear hK K
                        (try simp only [Act.put, List.setIfInBounds_toArray, List.set_cons_zero, List.set_cons_succ])
                        refine wpAnyH_done (by kernel_rfl) ?_ _
                        refine NoPanic.normal ?_
                        go_wp2_with fail
                        go_meet
                        case rel => exact ⟨_, Q3, Q4⟩
                       exact AllReadyH.nil
                      exact AllReadyH.nil
                     exact AllReadyH.nil
                    exact AllReadyH.nil
                   exact AllReadyH.nil
                  exact AllReadyH.nil
              obtain ⟨v', Q3, Q4⟩ := hcut
              go_wp2_with fail
              go_roundg (len - (p + 1))
              case measure => omega
              case rel => exact ⟨p + 1, _, _, by omega, by go_num, Q3, HINV, Q4⟩
        · skip
          have HIM := Lib.hid HI.out.more
          have q0 : (kd == 0) = false := by rw [beq_eq_false_iff_ne]; exact k0
          have q1 : (kd == 1) = false := by rw [beq_eq_false_iff_ne]; exact k1
          have q2 : (kd == 2) = false := by rw [beq_eq_false_iff_ne]; exact k2
          have q3 : (kd == 3) = false := by rw [beq_eq_false_iff_ne]; exact k3
          go_wp2_with fail
          go_meet
          case rel => exact ⟨v, L, HR2, HIM, HB2⟩
        -- END KINDS
      -- REST
      clear HR2 HI HB2 H7 hmb hmi
      obtain ⟨v, L, HR, HI, HB⟩ := hcut
      go_wp2_with fail
      go_loopg [20] 2 (fun m i wr => ∃ q : Nat, q + m = 2 ∧ i = .int .i64 (q : Int) ∧ Hid (Mem wr N g3 g4 g5 v L) ∧ Hid (Below N w wr))
      case atStart => exact ⟨0, rfl, rfl, HR, HB⟩
      case round =>
        as_aux_lemma =>
          clear HR HB
          obtain ⟨q, hq, rfl, HR, HB⟩ := hrel
          by_cases hlt2 : q < 2
          · obtain ⟨r, hr⟩ : ∃ r, 1 - q = r := ⟨_, rfl⟩
            have hrb : r < 2 := by omega
            have hqr : IntKind.i64.wrap (1 - (q : Int)) = (r : Int) := (IntWalk.i64_in _ (by omega)).trans (by omega)
            have hh := (HI.out q hlt2).1
            rw [hr] at hh
            obtain ⟨aS, cS, hvS, hS, -⟩ := (HR.out.oe r hrb).has
            obtain ⟨aC, cC, hvC, hC, -⟩ := (HR.out.oc q hlt2).has
            obtain ⟨d0, d1, d2⟩ := HR.out.c3 hlt2
            obtain ⟨f0, f1, f2⟩ := HR.out.c3 hrb
            have e5 := HR.out.c5 hlt2
            rw [hvS] at f0
            rw [hvC] at e5
            have htk := hh.tk; have hkn := hh.kn; have hle := hh.le
            rw [htk] at d1
            have HC : Hid (∀ j, j < (L.c q).length → (L.e r).S.getD j em = (L.c q).getD j em) := Lib.hid fun j hj => half_check hh hj
            have HSS := Lib.hid hS; have HCC := Lib.hid hC
            clear hh htk hvS hvC hS hC
            obtain ⟨LS, hLS⟩ : ∃ n, (L.e r).S.length = n := ⟨_, rfl⟩
            obtain ⟨LC, hLC⟩ : ∃ n, (L.c q).length = n := ⟨_, rfl⟩
            have hLS0 : LS ≤ 9223372036854775807 := by have := HSS.out.1; omega
            rw [hLS] at f0 hle
            rw [hLC] at e5 hle d1 hkn
            have HLS := Lib.hid hLS; have HLC := Lib.hid hLC
            generalize (L.e r).k = K1 at f2 hkn
            generalize (L.e r).t = T1 at f1
            generalize (L.e q).k = K2 at d2
            generalize v q = V2 at d0
            clear hLS hLC hr
            have j0 : (0 : Int) ≤ (q : Int) := by omega
            have j1 : (q : Int) < 2 := by omega
            have j2 : (0 : Int) ≤ (r : Int) := by omega
            have j3 : (r : Int) < 2 := by omega
            have t1 : decide ((LS : Int) < (LC : Int)) = false := by rw [decide_eq_false_iff_not]; omega
            have t2 : decide (LS < LC) = false := by rw [decide_eq_false_iff_not]; omega
            have t3 : decide ((LC : Int) < K1) = false := by rw [decide_eq_false_iff_not]; omega
            go_upto_region 43 with (fail)
            go_quiet (fail)
            go_wp2_with fail
            clear d0 d1 d2 f0 f1 f2 e5 t1 t2 t3 hkn
            go_loopg [223] LC (fun m i wr => ∃ j : Nat, j + m = LC ∧ i = .int .i64 (j : Int) ∧ Hid (Mem wr N g3 g4 g5 v L) ∧ Hid (Below N w wr) ∧ Hid (HasS wr aS (L.e r).S) ∧ Hid (HasS wr aC (L.c q)))
            case atStart =>
              have bd : Below wr.heap.size wr (wr.drewN nq) := ⟨rfl, rfl, rfl, Nat.le_refl _, fun _ _ => rfl⟩
              have hzw : N ≤ wr.heap.size := by have := HR.out.size; have := HR.out.le; omega
              exact ⟨0, by omega, rfl, Lib.hid (HR.out.keep bd), Lib.hid (HB.out.trans (bd.mono hzw)), Lib.hid (HSS.out.keep bd), Lib.hid (HCC.out.keep bd)⟩
            case round =>
              clear HR HB HSS HCC
              obtain ⟨j, hj, rfl, HR, HB, HSS, HCC⟩ := hrel
              by_cases hlt3 : j < LC
              · obtain ⟨b1, o1, rfl, s1⟩ := HSS.out.at (show j < (L.e r).S.length by rw [HLS.out]; omega)
                obtain ⟨b2, o2, rfl, s2⟩ := HCC.out.at (show j < (L.c q).length by rw [HLC.out]; exact hlt3)
                rw [HC.out j (by rw [HLC.out]; exact hlt3)] at s1
                generalize (L.c q).getD j em = tx at s1 s2
                have k0 : (j : Int) < (LC : Int) := by omega
                have k1 : (0 : Int) ≤ (j : Int) := by omega
                have k2 : (j : Int) < (LS : Int) := by omega
                go_wp2
                go_roundg (LC - (j + 1))
                case measure => omega
                case rel => exact ⟨j + 1, by omega, by go_num, HR, HB, HSS, HCC⟩
              · obtain rfl : j = LC := by omega
                go_wp2
                go_roundg (2 - (q + 1))
                case measure => omega
                case rel => exact ⟨q + 1, by omega, by go_num, HR, HB⟩
          · obtain rfl : q = 2 := by omega
            go_wp2
            go_roundg (len - (p + 1))
            case measure => omega
            case rel => exact ⟨p + 1, v, L, by omega, by go_num, HR, HI, HB⟩
      -- END REST
    · obtain rfl : p = len := by omega
      go_wp2_with fail
      go_ret
      exact ⟨rfl, by rw [← HN.out]; exact HB.out⟩
end Go.Proofs.Ytmecaioklmkdlaa.Ss

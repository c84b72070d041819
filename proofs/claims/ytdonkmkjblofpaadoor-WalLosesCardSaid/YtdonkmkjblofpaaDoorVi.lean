/-
  Layer 5: the law on losses, walked.
-/
import Derived.Test.YtdonkmkjblofpaaDoorVp
import Derived.Deep.CutBlock
import Derived.Deep.CutRange
import Derived.Deep.DeepCutAuto
namespace Go.Proofs.YtdonkmkjblofpaaDoor.Wl
open Go.RowKit Go.Sort Dx Sx Dk Fo
set_option linter.unusedVariables false
set_option linter.unusedSimpArgs false
set_option maxRecDepth 100000 in
set_option maxHeartbeats 400000 in
theorem loses_walk (a : Option Addr) (len cap : Nat) (R : Nat → Rw) (per cut keep again kept : Int) (hlc : len ≤ cap) (hper : -9223372036854775808 ≤ per ∧ per ≤ 9223372036854775807) (hcut : cut ≤ 9223372036854775807) (hagain : again ≤ 9223372036854775807) (w : World) (ht : Tabs w) (rows : HasRows w a len R) (hby : ∀ j, j < len → Bytes (R j).zs) :
    Calls Tryd.prog 3 #[.agg #[.slice a len cap, .int .i64 per, .int .i64 cut, .int .i64 keep, .int .i64 again, .int .i64 kept]] w fun e w' => e = .returned (.bool true) ∧ Below w.heap.size w w' := by
  have hm := rows.1
  obtain ⟨w0, hw0⟩ : ∃ w0, w.alloc (.cells #[.slice a len cap, .int .i64 per, .int .i64 cut, .int .i64 keep, .int .i64 again, .int .i64 kept] 24) = w0 := ⟨_, rfl⟩
  have hb0 : Below w.heap.size w w0 := by rw [← hw0]; exact (Below.refl _ _).alloc (Nat.le_refl _) _
  obtain ⟨B, hB⟩ : ∃ B, w.heap.size = B := ⟨_, rfl⟩
  have bx0 : Bx w0 B a len cap per cut keep again kept := by
    rw [← hw0, ← hB]
    constructor <;> (rw [World.cell?_alloc_mark]; rfl)
  have B0 := Lib.hid hb0; have HT := Lib.hid (ht.keep hb0); have RS := Lib.hid (rows.keep hb0); have BY := Lib.hid hby; have BX0 := Lib.hid bx0; have HW0 := Lib.hid hw0
  have HP := Lib.hid hper; have HB := Lib.hid hB; have HLC := Lib.hid hlc; have HCUT := Lib.hid hcut; have HAG := Lib.hid hagain
  clear ht rows hby hb0 bx0 hper hlc hcut hagain
  go_enter Tryd.func3, Tryd.ntmps3
  go_wp2_with fail
  clear hw0 hB
  refine (wakes_any w0 HT.out).mono ?_
  rintro e w1 ⟨rfl, hb1⟩
  have B1 := Lib.hid (B0.out.trans (hb1.mono B0.out.size)); have HT1 := Lib.hid (HT.out.keep hb1)
  have RS1 := Lib.hid (RS.out.keep hb1); have BX1 := Lib.hid (BX0.out.keep hb1)
  clear hb1
  obtain ⟨x0, x1, x2, x3, x4, x5⟩ := BX1.out
  go_wp2_with fail
  go_loopg [3, 24] len (fun m t i wr => ∃ (k tt : Nat), k + m = len ∧ i = .int .i64 (k : Int) ∧ t = .int .i64 (tt : Int) ∧ Hid (tt ≤ 262144) ∧ Hid (tt = sizeR (recsK R k)) ∧ Hid (∀ i, i < k → (R i).len ≤ 65536) ∧ w1 = wr)
  case atStart => exact ⟨0, 0, by omega, by first | rfl | go_num, by first | rfl | go_num, Lib.hid (Nat.zero_le _), Lib.hid rfl, Lib.hid fun i hi => absurd hi (Nat.not_lt_zero _), rfl⟩
  case round =>
    obtain ⟨k, tt, hk, rfl, rfl, htt, HTT, HLE, rfl⟩ := hrel
    by_cases hlt : k < len
    · obtain ⟨rb, off, rfl, hcell⟩ := RS1.out.2.1 (by omega)
      have ck := hcell k hlt
      have hrok := RS1.out.2.2 k hlt
      have hcap := hrok.cap; have hle := hrok.le
      obtain ⟨l, hl⟩ : ∃ l, (R k).len = l := ⟨_, rfl⟩
      obtain ⟨ra, hra⟩ : ∃ ra, (R k).a = ra := ⟨_, rfl⟩
      obtain ⟨rc, hrc⟩ : ∃ rc, (R k).cap = rc := ⟨_, rfl⟩
      rw [hra, hl, hrc] at ck
      have hsz : (recOf R k).length = l := (rec_len hrok).trans hl
      rw [hl, hrc] at hle
      have htt' := htt.out
      have i0 : (0 : Int) ≤ (k : Int) := Int.natCast_nonneg k
      have i1 : (k : Int) < (len : Int) := Int.ofNat_lt.2 hlt
      obtain ⟨e0, e1, e2, e3⟩ := loss_sum (Nat.le_trans hle (by rw [hrc] at hcap; exact hcap)) htt'
      have HN : Hid (tt + (l + 8) = sizeR (recsK R (k + 1))) := Lib.hid (loss_next HTT.out hsz)
      have HR1 : Hid (l ≤ 65536 → ∀ i, i < k + 1 → (R i).len ≤ 65536) := Lib.hid fun h i hi => by
        rcases Nat.lt_succ_iff_lt_or_eq.1 hi with hi | rfl
        · exact HLE.out i hi
        · rw [hl]; exact h
      obtain ⟨t2, ht2⟩ : ∃ t2, tt + (l + 8) = t2 := ⟨_, rfl⟩
      rw [ht2] at e2 e3 HN
      have FR := Lib.hid B1.out
      clear hcell hrok hcap hsz hl hra hrc ht2 htt' hle
      by_cases h1 : t2 > 262144
      · have c1 : (t2 : Int) > 262144 := Int.ofNat_lt.2 h1
        clear h1 HR1 HN
        go_wp2
        go_ret
        exact ⟨rfl, FR.out⟩
      have c1 : ¬ (t2 : Int) > 262144 := fun h => h1 (Int.ofNat_lt.1 h)
      by_cases h2 : l > 65536
      · have c2 : (l : Int) > 65536 := Int.ofNat_lt.2 h2
        clear h1 h2 HR1 HN
        go_wp2
        go_ret
        exact ⟨rfl, FR.out⟩
      have c2 : ¬ (l : Int) > 65536 := fun h => h2 (Int.ofNat_lt.1 h)
      have HT2 : Hid (t2 ≤ 262144) := Lib.hid (Nat.not_lt.1 h1)
      have HL2 := Lib.hid (HR1.out (Nat.not_lt.1 h2))
      clear h1 h2
      go_wp2_with fail
      go_roundg (len - (k + 1))
      case measure => omega
      case rel => exact ⟨k + 1, t2, by omega, by first | rfl | go_num, by first | rfl | go_num, HT2, HN, HL2, rfl⟩
    · obtain rfl : k = len := by omega
      have FR := Lib.hid B1.out
      clear hlt hk
      obtain ⟨M, hM⟩ : ∃ M, IntKind.i64.wrap (15 * per) = M := ⟨_, rfl⟩
      by_cases p1 : per < 1
      · clear hM
        go_wp2
        go_ret
        exact ⟨rfl, FR.out⟩
      by_cases p2 : (k : Int) > M ∧ per < 1048576
      · obtain ⟨q1, q2⟩ := p2
        go_wp2
        go_ret
        exact ⟨rfl, FR.out⟩
      have HPL : Hid (per < 1048576 → (k : Int) ≤ 15 * per) := Lib.hid (loss_lim p1 hM p2)
      have q : (¬ (k : Int) > M) ∨ ((k : Int) > M ∧ ¬ per < 1048576) := loss_alt p2
      clear p2
      by_cases p3 : (k : Int) > 1024
      · rcases q with q1 | ⟨q1, q2⟩
        all_goals
          go_wp2
          go_ret
          exact ⟨rfl, FR.out⟩
      have HK : Hid (k ≤ 1024) := Lib.hid (loss_k p3)
      have HP1 : Hid (1 ≤ per) := Lib.hid (Int.not_lt.1 p1)
      go_upto_region 11 with (fail)
      go_cut [63] (fun s wc => s = .bool false ∧ wc = w1)
      case first =>
        rcases q with q1 | ⟨q1, q2⟩
        all_goals
          go_wp2_with fail
          go_meet
          case rel => exact ⟨rfl, rfl⟩
      obtain ⟨rfl, hw1⟩ := hcut
      have hw2 := hw1.symm
      clear hw1
      subst hw2
      clear q hM p1 p3 x1 x2 x3 x4 x5
      go_wp2_with fail
      refine (ok_new w1 1048576).mono ?_
      rintro e w2 ⟨rfl, ok2⟩
      obtain ⟨d, hd⟩ : ∃ d, w1.heap.size + 1 = d := ⟨_, rfl⟩
      rw [hd] at ok2 ⊢
      have AR := Lib.hid (ok_arm ok2 cut keep HCUT.out)
      obtain ⟨x0, x1, x2, x3, x4, x5⟩ := BX1.out.keep ok2.frame
      clear ok2 hd
      go_wp2_with fail
      refine AR.out.mono ?_
      rintro e w3 ⟨rfl, ok3⟩
      have OP := Lib.hid (jw_new ok3 HT1.out rfl rfl per HP1.out)
      clear x0 x1 x2 x3 x4 x5
      obtain ⟨x0, x1, x2, x3, x4, x5⟩ := BX1.out.keep ok3.frame
      clear ok3 AR
      go_wp2_with fail
      refine OP.out.mono ?_
      rintro e w4 ⟨g, ad4, cap4, rfl, hj4⟩
      have J4 := Lib.hid hj4
      clear x0 x1 x2 x3 x4 x5
      obtain ⟨x0, x1, x2, x3, x4, x5⟩ := BX1.out.keep hj4.ok.frame
      clear hj4 OP
      go_upto_block 2 with fail
      go_cut [11] (fun sv wr => ∃ (j : Nat) (S : St) (m : Nat) (C : List (List (List Int))) (t : List Int), sv = .int .i64 (j : Int) ∧ Hid (Ok w1 wr d S) ∧ Hid (Wl.Left R k j m C t { off keep S with down := false }))
      case first =>
        go_wp2_with fail
        go_loopg [11, 85] k (fun m sv i wr => ∃ (j : Nat) (D : List (List (List Int))) (cc : List (List Int)) (S : St), j + m = k ∧ sv = .int .i64 (j : Int) ∧ i = .int .i64 (j : Int) ∧ Hid (JW w1 wr d g per D cc S) ∧ Hid (D.flatten ++ cc = recsK R j) ∧ Hid (S.room = 1048576))
        case atStart => exact ⟨0, [], [], _, by omega, by first | rfl | go_num, by first | rfl | go_num, J4, Lib.hid rfl, Lib.hid rfl⟩
        case round =>
          obtain ⟨j, D, cc, S, hj, rfl, rfl, HJ, HF, HA⟩ := hrel
          by_cases hlt : j < k
          · have RSr := Lib.hid (RS1.out.keep HJ.out.ok.frame)
            obtain ⟨rb, off, rfl, hcell⟩ := RSr.out.2.1 (Nat.lt_of_le_of_lt (Nat.zero_le j) hlt)
            have ck := hcell j hlt
            have AP := Lib.hid (loss_append (keep := keep) HJ.out HT1.out HP1.out RS1.out BY.out HLE.out (by rw [← HTT.out]; exact htt.out) HPL.out HK.out HF.out hlt HA.out)
            obtain ⟨ra, rl, rc, rz, hrk⟩ : ∃ ra rl rc rz, R j = ⟨ra, rl, rc, rz⟩ := ⟨_, _, _, _, rfl⟩
            rw [hrk] at ck AP
            have i0 : (0 : Int) ≤ (j : Int) := Int.natCast_nonneg j
            have i1 : (j : Int) < (k : Int) := Int.ofNat_lt.2 hlt
            have n1 : IntKind.i64.wrap ((j : Int) + 1) = (j : Int) + 1 := loss_inc HK.out hlt
            clear hcell hrk
            go_wp2_with fail
            refine AP.out.mono ?_
            rintro e w5 (⟨rfl, D', c', S', hj5, hf5, hr5⟩ | ⟨rfl, S', ok5, hd5, hl5⟩)
            · have J5 := Lib.hid hj5; have F5 := Lib.hid hf5; have A5 := Lib.hid hr5
              clear hj5 hf5 hr5 AP ck
              go_wp2_with fail
              go_roundg (k - (j + 1))
              case measure => omega
              case rel => exact ⟨j + 1, D', c', S', by omega, by first | rfl | go_num, by first | rfl | go_num, J5, F5, A5⟩
            · have DN := Lib.hid (ok_down ok5)
              rw [hd5] at DN
              have K5 := Lib.hid ok5; have L5 := Lib.hid hl5
              clear ok5 hd5 hl5 AP ck
              go_wp2_with (go_at_call 14; (with_reducible refine DN.out.mono ?_); rintro e w6 ⟨rfl, rfl⟩)
              go_meet
              case rel =>
                obtain ⟨m, C, t, h⟩ := L5.out
                exact ⟨j, S', m, C, t, by first | rfl | go_num, K5, Lib.hid h⟩
          · obtain rfl : j = k := by omega
            go_wp2_with fail
            go_meet
            case rel => exact ⟨j, S, j, _, _, by first | rfl | go_num, Lib.hid HJ.out.ok, Lib.hid (left_jn HJ.out.jn HF.out (Nat.le_refl _))⟩
      obtain ⟨j, S, m, C, t, rfl, OK0, LF⟩ := hcut
      clear x0 x1 x2 x3 x4 x5 J4 HTT HLE htt HPL
      obtain ⟨x0, x1, x2, x3, x4, x5⟩ := BX1.out.keep OK0.out.frame
      go_wp2_with fail
      refine (ok_off OK0.out keep rfl).mono ?_
      rintro e w5 ⟨rfl, ok5⟩
      have ON := Lib.hid (ok_on ok5 rfl)
      clear ok5 x0 x1 x2 x3 x4 x5
      go_wp2_with fail
      refine ON.out.mono ?_
      rintro e w6 ⟨rfl, ok6⟩
      obtain ⟨S6, hS6⟩ : ∃ S6, ({ off keep S with down := false } : St) = S6 := ⟨_, rfl⟩
      rw [hS6] at ok6 LF
      obtain ⟨l1, l2, l3, l4, l5, l6, l7, l8⟩ := LF.out
      have hup6 : S6.down = false := by rw [← hS6]
      have hm6 : C.flatten.length = m := LF.out.rows
      have AR6 := Lib.hid (ok_arm ok6 again kept HAG.out)
      have FS6 : Hid ((armS again kept S6).fs = jfs 1 C t ∧ (armS again kept S6).down = false) := Lib.hid ⟨l1, hup6⟩
      have HL := Lib.hid (show one t = none ∧ Bytes t ∧ ∀ c ∈ C, Rok c from ⟨l2, l3, l4⟩)
      have HC := Lib.hid l5; have HM6 := Lib.hid hm6
      have HJM := Lib.hid (show j ≤ m ∧ m ≤ j + 1 ∧ m ≤ k from ⟨l6, l7, l8⟩)
      obtain ⟨x0, x1, x2, x3, x4, x5⟩ := BX1.out.keep ok6.frame
      clear ok6 hS6 l1 l2 l3 l4 l5 l6 l7 l8 hup6 hm6 LF ON OK0
      go_wp2_with fail
      refine AR6.out.mono ?_
      rintro e w7 ⟨rfl, ok7⟩
      have OP7 := Lib.hid (loss_open ok7 HT1.out FS6.out.1 FS6.out.2 HL.out.2.2 HL.out.2.1 HL.out.1 (by rw [HM6.out]; exact Nat.le_trans HJM.out.2.2 HK.out) per HP1.out)
      clear x0 x1 x2 x3 x4 x5
      obtain ⟨x0, x1, x2, x3, x4, x5⟩ := BX1.out.keep ok7.frame
      clear ok7 AR6 FS6
      go_wp2_with fail
      refine OP7.out.mono ?_
      rintro e w8 ⟨x, S8, t8, p8, ra8, rl8, rc8, f8, rfl, hx, hfs8, ho8, hb8, ok8, _, _⟩
      have DN8 := Lib.hid (ok_down ok8)
      have ON8 := Lib.hid (ok_on ok8 rfl)
      have HO8 := Lib.hid ho8; have HB8 := Lib.hid hb8; have FS8 := Lib.hid hfs8
      clear ok8 x0 x1 x2 x3 x4 x5 OP7 hfs8 ho8 hb8
      go_upto_region 34 with fail
      go_cut [143] (fun s wc => s = .bool false ∧ wc = w8)
      case first =>
        rcases hx with rfl | ⟨rfl, hd⟩
        · go_wp2_with fail
          go_meet
          case rel => exact ⟨rfl, rfl⟩
        · rw [hd] at DN8
          go_wp2_with (go_at_call 14; (with_reducible refine DN8.out.mono ?_); rintro e w9 ⟨rfl, rfl⟩)
          go_meet
          case rel => exact ⟨rfl, rfl⟩
      obtain ⟨rfl, hw1⟩ := hcut
      have hw2 := hw1.symm
      clear hw1
      subst hw2
      go_wp2_with fail
      refine ON8.out.mono ?_
      rintro e w9 ⟨rfl, ok9⟩
      have AR9 := Lib.hid (ok_arm ok9 0 0 (by decide))
      clear ok9 ON8 DN8
      go_wp2_with fail
      refine AR9.out.mono ?_
      rintro e w10 ⟨rfl, ok10⟩
      have OP10 := Lib.hid (loss_open ok10 HT1.out FS8.out rfl HL.out.2.2 HB8.out HO8.out (by rw [HM6.out]; exact Nat.le_trans HJM.out.2.2 HK.out) per HP1.out)
      obtain ⟨x0, x1, x2, x3, x4, x5⟩ := BX1.out.keep ok10.frame
      clear ok10 AR9
      go_wp2_with fail
      refine OP10.out.mono ?_
      rintro e w11 ⟨x, S11, t11, p11, ra11, rl11, rc11, f11, rfl, _, _, _, _, ok11, hx0, hx1⟩
      obtain rfl := hx0 rfl
      obtain ⟨rfl, rfl, rows11⟩ := hx1 rfl
      clear x0 x1 x2 x3 x4 x5 OP10
      obtain ⟨x0, x1, x2, x3, x4, x5⟩ := BX1.out.keep ok11.frame
      have RSe := RS1.out.keep ok11.frame
      rw [HM6.out] at rows11 ⊢
      rw [HC.out] at rows11
      have AL := Lib.hid (alikeV_any (ca := rc11) (cb := cap) (loss_big HJM.out.2.2 HK.out) rows11 (rowsV_has RSe HJM.out.2.2))
      have FRe := Lib.hid (B1.out.trans (ok11.frame.mono B1.out.size))
      obtain ⟨c1, c2, c3, c4, c5, c6⟩ := loss_end HJM.out HK.out HLC.out
      clear ok11 rows11 RSe
      go_wp2_with (go_at_call 17; (with_reducible refine AL.out.mono ?_); rintro e w12 ⟨rfl, hb12⟩; have FR12 := Lib.hid (FRe.out.trans (hb12.mono FRe.out.size)); clear hb12)
      go_ret
      exact ⟨rfl, FR12.out⟩
end Go.Proofs.YtdonkmkjblofpaaDoor.Wl

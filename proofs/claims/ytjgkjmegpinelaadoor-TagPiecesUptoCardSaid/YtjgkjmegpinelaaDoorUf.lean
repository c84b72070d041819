/-
  Layer 7: the reference's split.
-/
import Derived.Test.YtjgkjmegpinelaaDoorUe
import Derived.Test.YtjgkjmegpinelaaDoorUb
namespace Go.Proofs.YtjgkjmegpinelaaDoor.Tg
open Go.RowKit Go.Sort Dx Sx
set_option linter.unusedVariables false
set_option linter.unusedSimpArgs false

def SplIt (body : List UInt8) (w : World) (e : Ending) (w' : World) : Prop := ∃ v b, e = .returned (.tuple #[v, .bool b]) ∧ Below w.heap.size w w' ∧ (b = true → (fieldsS body).2 = 0 ∧ OwnF w' w.heap.size v (fieldsS body).1) ∧ (b = false → (fieldsS body).2 ≠ 0)
theorem take_all {l : List UInt8} {k : Nat} (h : k < l.length) (ha : (l.take k).all isD = true) (hd : isD (l.getD k 0) = true) : (l.take (k + 1)).all isD = true ∧ val (l.take (k + 1)) = val (l.take k) * 10 + dv (l.getD k 0) := by
  have e : l.getD k 0 = l[k] := by simp [List.getD, h]
  rw [e] at hd ⊢
  rw [List.take_succ_eq_append_getElem h, val_snoc, List.all_append, ha]
  simp [hd]
theorem dig_val {c : UInt8} (h : isD c = true) : c.toNat = dv c + 48 := by unfold isD at h; unfold dv; simp at h; omega
theorem getD0 (l : List UInt8) : l.getD 0 0 = l.headD 0 := by cases l <;> rfl
set_option maxRecDepth 100000 in
set_option maxHeartbeats 8000000 in
theorem rsplit_any (body : List UInt8) (w : World) (hm : body.length ≤ 4096) :
    Calls Tryd.prog 32 #[.string (bs body)] w (SplIt body w) := by
  have hz : (bs body).size = body.length := rfl
  have hidx := fun k (h : k < body.length) => byte_at body h
  have hx : ∀ f k, (bs body).extract f k = bs ((body.take k).drop f) := fun f k => by rw [bs_extract, List.drop_take]
  obtain ⟨N, hN⟩ : ∃ N, body.length = N := ⟨_, rfl⟩
  have HN := Lib.hid hN; have HI := Lib.hid hidx
  rw [hN] at hz
  have HM := Lib.hid hm
  rw [hN] at hm
  obtain ⟨S, hS⟩ : ∃ S, bs body = S := ⟨_, rfl⟩
  rw [hS] at hz ⊢
  have HI : Hid (∀ k, k < body.length → ∀ h', (S[k]'h').toNat = (body.getD k 0).toNat) := Lib.hid (by subst hS; exact hidx)
  have HX : Hid (∀ f k, S.extract f k = bs ((body.take k).drop f)) := Lib.hid (by subst hS; exact hx)
  clear hidx hx hN hS
  unfold SplIt
  go_enter Tryd.func32, Tryd.ntmps32
  go_wp2
  go_loopg [4, 5, 6] N (fun m x f i wr => ∃ (k fr : Nat) (out : List Fld), k + m = N ∧ fr ≤ k ∧ out.length ≤ k ∧ f = .int .i64 (fr : Int) ∧ i = .int .i64 (k : Int) ∧ Hid (goS [] [] body = goS ((body.take k).drop fr) out (body.drop k)) ∧ Hid (OwnF wr w.heap.size x out) ∧ Hid (Below w.heap.size w wr))
  case atStart => exact ⟨0, 0, [], by omega, Nat.le_refl _, Nat.le_refl _, rfl, rfl, Lib.hid rfl, Lib.hid (World.ownsRow_nil _ _ _ _), Lib.hid (Below.refl _ _)⟩
  case round =>
    obtain ⟨k, fr, out, hk, hfr, hol, rfl, rfl, HG, HO, HB⟩ := hrel
    by_cases hlt : k < N
    · have hlt' : k < body.length := by rw [HN.out]; exact hlt
      have hxb := HI.out k hlt'
      by_cases hc : body.getD k 0 = 1
      · have HE := Lib.hid (HG.out.trans (goS_end (fr := fr) (out := out) hlt' hc))
        rw [hc] at hxb
        have hxb' : ∀ h', (S[k]'h').toNat = 1 := hxb
        have hex := HX.out fr k
        have hpl : ((body.take k).drop fr).length = k - fr := by rw [List.length_drop, List.length_take, HN.out]; omega
        clear hxb hc hlt' HG
        generalize (body.take k).drop fr = p at *
        have HNONE : Hid (pieceP p = none → (fieldsS body).2 ≠ 0) := Lib.hid fun h => split_no fun G hG => by
          rw [HE.out, h] at hG
          cases hG
        obtain ⟨q, hq⟩ : ∃ q, p.length = q := ⟨_, rfl⟩
        have HQ := Lib.hid hq
        have hqk : q ≤ 4096 := by omega
        have hz2 : (bs p).size = q := hq
        have hidx2 := fun j (h : j < p.length) => byte_at p h
        obtain ⟨T, hT⟩ : ∃ T, bs p = T := ⟨_, rfl⟩
        have hxt : ∀ j, T.extract j q = bs (p.drop j) := fun j => by rw [← hT, bs_extract, List.take_of_length_le (by rw [List.length_drop]; omega)]
        rw [hT] at hex hz2
        have HI2 : Hid (∀ j, j < p.length → ∀ h', (T[j]'h').toNat = (p.getD j 0).toNat) := Lib.hid (by subst hT; exact hidx2)
        have HXT := Lib.hid hxt
        have hsl : ∀ wx, (Instr.slice 9 (.string S) (some (.int .i64 (fr : Int))) (some (.int .i64 (k : Int))) none).run Tryd.prog wx = .ok (.string T) wx := fun wx => by
          rw [← hex]
          exact run_slice_string wx 9 S .i64 .i64 (fr : Int) (k : Int) Tryd.underlying9 (by omega) (by omega) (by omega)
        clear hidx2 hpl hT hxt hq
        go_wp2
        clear hxb' hsl hex
        go_loopg [8, 9] q (fun m at_ n wy => ∃ (i nn : Nat), i + m = q ∧ at_ = .int .i64 (i : Int) ∧ n = .int .i64 (nn : Int) ∧ nn < 1000000 ∧ Hid ((p.take i).all isD = true) ∧ Hid (val (p.take i) = nn) ∧ wy = wr)
        case atStart => exact ⟨0, 0, by omega, rfl, rfl, by omega, Lib.hid rfl, Lib.hid rfl, rfl⟩
        case round =>
          obtain ⟨i, nn, hi, rfl, rfl, hnn, HA, HV, rfl⟩ := hrel
          by_cases hiq : i < q
          · have hiq' : i < p.length := by rw [HQ.out]; exact hiq
            have hxc := HI2.out i hiq'
            cases hD : isD (p.getD i 0) with
            | true =>
              have hcd := dig_val hD
              have hd10 := dv_lt hD
              obtain ⟨ta, tv⟩ := take_all hiq' HA.out hD
              rw [HV.out] at tv
              have g1 : 48 ≤ (p.getD i 0).toNat := by omega
              have g2 : (p.getD i 0).toNat ≤ 57 := by omega
              by_cases hbig : nn < 100000
              · have ev : ((nn : Int) * 10 + (((p.getD i 0).toNat : Int) - 48)) = ((nn * 10 + dv (p.getD i 0) : Nat) : Int) := by omega
                have EV := Lib.hid ev
                have TA := Lib.hid ta; have TV := Lib.hid tv
                clear hcd ta tv hD hiq' ev
                generalize dv (p.getD i 0) = d at *
                generalize (p.getD i 0).toNat = C at *
                have f1 : decide ((nn : Int) < 100000) = true := by rw [decide_eq_true_eq]; omega
                have f2 : decide ((48 : Int) ≤ (C : Int)) = true := by rw [decide_eq_true_eq]; omega
                have f3 : decide ((C : Int) ≤ 57) = true := by rw [decide_eq_true_eq]; omega
                go_wp2
                go_roundg (q - (i + 1))
                case measure => omega
                case rel => exact ⟨i + 1, nn * 10 + d, by omega, by go_num, by rw [EV.out], by omega, TA, TV, rfl⟩
              · have hi0 : i ≠ 0 := fun e => by
                  have := HV.out
                  rw [e] at this
                  simp [val] at this
                  omega
                have HR := Lib.hid (HNONE.out (piece_big HA.out (by rw [HV.out]; omega)))
                have f1 : decide ((nn : Int) < 100000) = false := by rw [decide_eq_false_iff_not]; omega
                have f2 : decide ((48 : Int) ≤ ((p.getD i 0).toNat : Int)) = true := by rw [decide_eq_true_eq]; omega
                have f3 : decide (((p.getD i 0).toNat : Int) ≤ 57) = true := by rw [decide_eq_true_eq]; omega
                have e0 : ((i : Int) == 0) = false := by rw [beq_eq_false_iff_ne]; omega
                have e1 : decide ((q : Int) ≤ (i : Int)) = false := by rw [decide_eq_false_iff_not]; omega
                have e2 : (((p.getD i 0).toNat : Int) != 61) = true := by rw [bne_iff_ne]; omega
                clear hcd ta tv hD hiq' HNONE HE
                generalize (p.getD i 0).toNat = C at *
                go_wp2
                go_ret2
                exact ⟨_, _, rfl, HB.out, (fun h => by cases h), fun _ => HR.out⟩
            | false =>
              have hlh : (p.getD i 0).toNat < 48 ∨ 57 < (p.getD i 0).toNat := by unfold isD at hD; simp at hD ⊢; omega
              have hff : decide ((48 : Int) ≤ ((p.getD i 0).toNat : Int)) = false ∨ (decide ((48 : Int) ≤ ((p.getD i 0).toNat : Int)) = true ∧ decide (((p.getD i 0).toNat : Int) ≤ 57) = false) := by
                rw [decide_eq_false_iff_not, decide_eq_true_eq, decide_eq_false_iff_not]; omega
              by_cases hi0 : i = 0
              · have HR := Lib.hid (HNONE.out (piece_empty (.inr (by rw [← getD0, ← hi0]; exact hD))))
                have e0 : ((i : Int) == 0) = true := by rw [beq_iff_eq]; omega
                clear hi0 hlh hD hiq' HNONE HE
                generalize (p.getD i 0).toNat = C at *
                rcases hff with f2 | ⟨f2, f3⟩
                all_goals
                  go_wp2
                  go_ret2
                  exact ⟨_, _, rfl, HB.out, (fun h => by cases h), fun _ => HR.out⟩
              · have e0 : ((i : Int) == 0) = false := by rw [beq_eq_false_iff_ne]; omega
                have e1 : decide ((q : Int) ≤ (i : Int)) = false := by rw [decide_eq_false_iff_not]; omega
                by_cases h61 : p.getD i 0 = 61
                · have hq0 : 0 < p.length := by omega
                  have hx0 := HI2.out 0 hq0
                  rw [h61] at hxc
                  have hxc' : ∀ h', (T[i]'h').toNat = 61 := hxc
                  by_cases h48 : p.getD 0 0 = 48
                  · have HR := Lib.hid (HNONE.out (piece_zero (by rw [← getD0]; exact h48)))
                    rw [h48] at hx0
                    have hx0' : ∀ h', (T[0]'h').toNat = 48 := hx0
                    clear hlh hff hD hiq' HNONE HE h61 h48 hxc hx0 hq0
                    go_wp2
                    go_ret2
                    exact ⟨_, _, rfl, HB.out, (fun h => by cases h), fun _ => HR.out⟩
                  · have e3 : (((p.getD 0 0).toNat : Int) == 48) = false := by
                      rw [beq_eq_false_iff_ne]; intro e; exact h48 (UInt8.toNat_inj.1 (by show _ = 48; omega))
                    have hpf := piece_field hiq' HA.out h61 (by omega) (by rw [← getD0]; exact h48)
                    rw [HV.out] at hpf
                    have hex2 := HXT.out (i + 1)
                    have hvl : (p.drop (i + 1)).length ≤ 4096 := by rw [List.length_drop, HQ.out]; omega
                    have hri := fun wx => right_any (nn : Int) (p.drop (i + 1)) wx (by omega)
                    unfold FitIt at hri
                    have HPF := Lib.hid hpf
                    clear hlh hff hD hiq' h61 h48 hxc hq0 hpf
                    generalize (p.getD 0 0).toNat = C0 at *
                    generalize p.drop (i + 1) = V at *
                    obtain ⟨wa, hwa⟩ : ∃ wa, wa = wr.alloc (.cells #[.int .i64 (nn : Int), .string (bs V)] 50) := ⟨_, rfl⟩
                    have hab : Below wr.heap.size wr wa := by rw [hwa]; exact (Below.refl _ _).alloc (Nat.le_refl _) _
                    have hah : wa.heap[wr.heap.size]? = some (.cells #[.int .i64 (nn : Int), .string (bs V)] 50) := by rw [hwa]; exact (MapKept.heap_alloc wr _).1
                    have hal : wr.heap.size < wa.heap.size := by rw [hwa, World.size_alloc]; omega
                    have HRI := Lib.hid hri
                    clear hri
                    go_wp2_with fail
                    rw [← hwa]
                    refine (HRI.out wa).mono ?_
                    rintro e w4 ⟨rfl, hb4⟩
                    have HAB := Lib.hid (hab.trans (hb4.mono (by omega)))
                    have hah4 : w4.heap[wr.heap.size]? = some (.cells #[.int .i64 (nn : Int), .string (bs V)] 50) := (hb4.block _ hal).trans hah
                    have hd0 : w4.cell? ⟨wr.heap.size, 0, none⟩ = some (.int .i64 (nn : Int)) := by rw [Lib.cell_of_heap hah4]; rfl
                    have hd1 : w4.cell? ⟨wr.heap.size, 1, none⟩ = some (.string (bs V)) := by rw [Lib.cell_of_heap hah4]; rfl
                    have HB4 := Lib.hid (HB.out.trans (HAB.out.mono HB.out.size))
                    have HO4 := Lib.hid (own_row_keep2 HO.out HAB.out)
                    clear hb4 hah hah4 hal hab hwa HRI
                    obtain ⟨M, hM⟩ : ∃ M, M = wr.heap.size := ⟨_, rfl⟩
                    rw [← hM] at hd0 hd1 ⊢
                    clear hM
                    cases hf : fitB ((nn : Int), V) with
                    | false =>
                      rw [hf] at HPF
                      have HR := Lib.hid (HNONE.out HPF.out)
                      clear HPF hf HNONE HE
                      go_wp2
                      go_ret2
                      exact ⟨_, _, rfl, HB4.out, (fun h => by cases h), fun _ => HR.out⟩
                    | true =>
                      rw [hf] at HPF
                      have HG2 : Hid (goS [] [] body = goS ((body.take (k + 1)).drop (k + 1)) (out ++ [((nn : Int), V)]) (body.drop (k + 1))) := Lib.hid (by rw [HE.out, HPF.out]; rfl)
                      clear HPF hf HNONE HE
                      obtain ⟨i0, fi, hz0, hz1, hz2⟩ := info_parts infoF
                      go_wp2_with (at_builtin; refine wpList_append_own _ rfl (.tmp 85) (.tmp 87) 22 rfl w.heap.size 50 i0 (.agg #[.int .i64 0, .string ByteArray.empty]) 2 24 Tryd.underlying22 fi hz0 hz1 hz2 ?c0 (by decide) _ out.length (out.flatMap cells2) rfl ?c1 ⟨w4.heap.size, 0, none⟩ 1 1 (cells2 ((nn : Int), V)) rfl rfl ?c2 ?c3 ?c4 ?c5 ?c6 ?_)
                      case c0 => kernel_rfl
                      case c1 => exact World.ownsRow.alloc HO4.out _
                      case c2 => exact cells2_at w4 ((nn : Int), V) _ _ rfl
                      case c3 => intro u hu; simp [cells2] at hu; rcases hu with rfl | rfl <;> rfl
                      case c4 => unfold maxLen; omega
                      case c5 => omega
                      case c6 => have := HB4.out.size; rw [World.size_alloc]; omega
                      intro v' w5 ho5 hg5 _
                      have HO5 : Hid (OwnF w5 w.heap.size v' (out ++ [((nn : Int), V)])) := Lib.hid (by
                        unfold OwnF
                        rw [List.length_append, List.flatMap_append]
                        simpa using ho5)
                      have HB5 : Hid (Below w.heap.size w w5) := Lib.hid ((HB4.out.alloc HB4.out.size _).grown hg5 (by have := HB4.out.size; rw [World.size_alloc]; omega) (fun r hr => (HO4.out.lt r hr).1))
                      clear ho5 hg5
                      go_wp2
                      go_roundg (N - (k + 1))
                      case measure => omega
                      case rel => exact ⟨k + 1, k + 1, out ++ [((nn : Int), V)], by omega, Nat.le_refl _, by simp; omega, by go_num, by go_num, HG2, HO5, HB5⟩
                · have HR := Lib.hid (HNONE.out (piece_other hiq' HA.out hD h61))
                  have e2 : (((p.getD i 0).toNat : Int) != 61) = true := by
                    rw [bne_iff_ne]; intro e; exact h61 (UInt8.toNat_inj.1 (by show _ = 61; omega))
                  clear hlh hD hiq' HNONE HE h61
                  generalize (p.getD i 0).toNat = C at *
                  rcases hff with f2 | ⟨f2, f3⟩
                  all_goals
                    go_wp2
                    go_ret2
                    exact ⟨_, _, rfl, HB.out, (fun h => by cases h), fun _ => HR.out⟩
          · obtain rfl : i = q := by omega
            have HR := Lib.hid (HNONE.out (piece_all (by have := HA.out; rwa [List.take_of_length_le (by rw [HQ.out]; omega)] at this)))
            clear HNONE HE
            by_cases hi0 : i = 0
            · have e0 : ((i : Int) == 0) = true := by rw [beq_iff_eq]; omega
              go_wp2
              go_ret2
              exact ⟨_, _, rfl, HB.out, (fun h => by cases h), fun _ => HR.out⟩
            · have e0 : ((i : Int) == 0) = false := by rw [beq_eq_false_iff_ne]; omega
              go_wp2
              go_ret2
              exact ⟨_, _, rfl, HB.out, (fun h => by cases h), fun _ => HR.out⟩
      · have HG2 := Lib.hid (HG.out.trans (goS_more (out := out) hlt' hfr hc))
        have hne : (((body.getD k 0).toNat : Int) == 1) = false := by
          rw [beq_eq_false_iff_ne]; intro e; exact hc (UInt8.toNat_inj.1 (by show _ = 1; omega))
        have hne2 : (((body.getD k 0).toNat : Int) != 1) = true := by
          rw [bne_iff_ne]; intro e; exact hc (UInt8.toNat_inj.1 (by show _ = 1; omega))
        clear hc hlt'
        generalize (body.getD k 0).toNat = C at *
        go_wp2
        go_roundg (N - (k + 1))
        case measure => omega
        case rel => exact ⟨k + 1, fr, out, by omega, by omega, by omega, rfl, by go_num, HG2, HO, HB⟩
    · obtain rfl : k = N := by omega
      have hgo := HG.out
      have hdr : body.drop k = [] := List.drop_eq_nil_of_le (by rw [HN.out]; omega)
      rw [List.take_of_length_le (by rw [HN.out]; omega), hdr] at hgo
      have hgo2 : goS [] [] body = some (out, body.drop fr) := hgo
      clear hgo hdr HG
      obtain ⟨a, cap, rfl, hF, _, hcap, _⟩ := HO.out.has
      by_cases hfk : fr = k
      · have hd0 : body.drop fr = [] := List.drop_eq_nil_of_le (by rw [HN.out]; omega)
        rw [hd0] at hgo2
        have f0 : ((fr : Int) == (k : Int)) = true := by rw [beq_iff_eq]; omega
        clear hfk hd0
        rcases Nat.eq_zero_or_pos out.length with hz0 | hpos
        · have HR : Hid ((fieldsS body).2 ≠ 0) := Lib.hid (split_no fun G hG => by
            rw [hgo2] at hG
            cases hG
            rw [List.eq_nil_of_length_eq_zero hz0]
            simp)
          rw [hz0]
          clear hgo2 hF
          go_wp2
          go_quiet (fail)
          go_wp2
          go_ret2
          exact ⟨_, _, rfl, HB.out.trans ⟨rfl, rfl, rfl, Nat.le_refl _, fun _ _ => rfl⟩, (fun h => by cases h), fun _ => HR.out⟩
        · obtain ⟨b, off, rfl, c0, c1⟩ := hF.at hpos
          have g0 : decide ((0 : Int) < (out.length : Int)) = true := by rw [decide_eq_true_eq]; omega
          simp only [Nat.zero_mul, Nat.add_zero] at c0
          by_cases h35 : (out.getD 0 fld0).1 = 35
          · have hhd : out.head?.map Prod.fst = some 35 := by
              cases out with
              | nil => simp at hpos
              | cons f r => simpa using h35
            have hyes := split_yes hgo2 hhd HM.out
            have HY := Lib.hid hyes
            rw [h35] at c0
            clear hyes hhd hgo2 hF c1 h35
            go_wp2
            go_quiet (fail)
            go_wp2
            go_ret2
            exact ⟨_, _, rfl, HB.out.trans ⟨rfl, rfl, rfl, Nat.le_refl _, fun _ _ => rfl⟩, (fun _ => ⟨by rw [HY.out], by rw [HY.out]; exact HO.out⟩), fun h => by cases h⟩
          · have HR : Hid ((fieldsS body).2 ≠ 0) := Lib.hid (split_no fun G hG => by
              rw [hgo2] at hG
              cases hG
              intro e
              apply h35
              cases hout : out with
              | nil => rw [hout] at hpos; simp at hpos
              | cons f r => rw [hout] at e; simpa using e)
            have f35 : ((out.getD 0 fld0).1 == 35) = false := by rw [beq_eq_false_iff_ne]; exact h35
            clear hgo2 hF c1 h35
            generalize (out.getD 0 fld0).1 = t at *
            go_wp2
            go_quiet (fail)
            go_wp2
            go_ret2
            exact ⟨_, _, rfl, HB.out.trans ⟨rfl, rfl, rfl, Nat.le_refl _, fun _ _ => rfl⟩, (fun h => by cases h), fun _ => HR.out⟩
      · have HR : Hid ((fieldsS body).2 ≠ 0) := Lib.hid (split_no fun G hG => by
          rw [hgo2] at hG
          have h2 := congrArg (fun x => x.map (fun y : List Fld × List UInt8 => y.2.length)) hG
          simp at h2
          rw [HN.out] at h2
          omega)
        have f0 : ((fr : Int) == (k : Int)) = false := by rw [beq_eq_false_iff_ne]; omega
        clear hgo2 hF hfk
        go_wp2
        go_quiet (fail)
        go_wp2
        go_ret2
        exact ⟨_, _, rfl, HB.out.trans ⟨rfl, rfl, rfl, Nat.le_refl _, fun _ _ => rfl⟩, (fun h => by cases h), fun _ => HR.out⟩
end Go.Proofs.YtjgkjmegpinelaaDoor.Tg

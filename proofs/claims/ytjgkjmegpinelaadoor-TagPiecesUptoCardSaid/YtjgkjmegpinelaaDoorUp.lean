/-
  Layer 7: the law on what stays and isn't kept.
-/
import Derived.Test.YtjgkjmegpinelaaDoorUo
namespace Go.Proofs.YtjgkjmegpinelaaDoor.Tg
open Go.RowKit Go.Shelf Dx Sx Rf
set_option linter.unusedVariables false
set_option linter.unusedSimpArgs false
attribute [local go_sem] Oper.semAt_some

theorem framesS_frm {F : List Fld} (h : validE F = 0) : framesS (frm (bodyL F)) = ([(F, 0)], 0) := by
  have hd := decS_frm h []
  rw [List.append_nil] at hd
  rw [framesS_step (by rw [hd]; simp), hd]
  simp only
  rw [List.drop_eq_nil_of_le (Nat.le_refl _), framesS_short (by rw [decS_nil])]
  rfl
theorem lit_one (w : World) (t : Int) (v : List UInt8) (T : TypeId) (g : Nat) (hg : g = w.heap.size) : HasF (w.alloc (.cells #[.int .i64 t, .string (bs v)] T)) (some ⟨g, 0, none⟩) [(t, v)] := by
  subst hg
  refine ⟨by simp, fun _ => ⟨w.heap.size, 0, rfl, fun j hj => ?_⟩⟩
  match j, hj with
  | 0, _ => simp [List.getD]
theorem lit_row3 (w : World) (t : TypeId) (g : Nat) (hg : g = w.heap.size) : HasL (w.alloc (.cells #[.int .u8 1, .int .u8 2, .int .u8 3] t)) (some ⟨g, 0, none⟩) [1, 2, 3] := by
  subst hg
  refine ⟨by decide, by decide, fun _ => ⟨w.heap.size, 0, rfl, fun j hj => ?_⟩⟩
  rw [Nat.zero_add, Joins.cell_alloc_mark_at w _ t _ _ j rfl]
  match j, hj with
  | 0, _ => rfl
  | 1, _ => rfl
  | 2, _ => rfl
theorem OwnG.slice {w : World} {base : Nat} {v : Value} {l : List UInt8} (h : OwnG w base v l) (h0 : 0 < l.length) : ∃ g cap, v = .slice (some ⟨g, 0, none⟩) l.length cap ∧ base ≤ g ∧ g < w.heap.size ∧ l.length ≤ cap ∧ cap ≤ maxLen := by
  obtain ⟨g, cap, hv, hb, h1, h2, _⟩ := h.store h0
  exact ⟨g, cap, hv, hb, (h.lt g (by rw [hv]; rfl)).2, h1, h2⟩
set_option maxRecDepth 100000 in
set_option maxHeartbeats 8000000 in
theorem keeps_walk (a : Option Addr) (len cap : Nat) (F : List Fld) (w : World) (hF : HasF w a F ∧ F.length = len ∧ WfF F ∧ len ≤ cap ∧ (a = none → cap = 0)) (he : Env w) :
    Calls Tryd.prog 9 #[.slice a len cap] w fun e w' => e = .returned (.bool true) ∧ Below w.heap.size w w' := by
  obtain ⟨hF, hl, hwf, hlc, hn⟩ := hF
  have HF := Lib.hid hF; have HL := Lib.hid hl; have HW := Lib.hid hwf; have HE := Lib.hid he; have HNC := Lib.hid hn
  clear hF hl hwf he hn
  obtain ⟨N, hN⟩ : ∃ N, N = w.heap.size := ⟨_, rfl⟩
  obtain ⟨W0, hW0⟩ : ∃ W0, W0 = (w.alloc (.cells #[.slice a len cap] 22)).alloc (.cells #[.bool false] 4) := ⟨_, rfl⟩
  have b0 : Below N w W0 := by rw [hW0, hN]; exact ((Below.refl _ _).alloc (Nat.le_refl _) _).alloc (by rw [World.size_alloc]; omega) _
  have a0 : Bx W0 N (.slice a len cap) 22 := by
    rw [hW0, hN]
    exact (Bx.new w _ _).keep ((Below.refl _ _).alloc (Nat.le_refl _) _)
  have r0 : Bx W0 (N + 1) (.bool false) 4 := by
    rw [hW0, hN]
    have := Bx.new (w.alloc (.cells #[.slice a len cap] 22)) (.bool false) 4
    rwa [World.size_alloc] at this
  have HN := Lib.hid hN; have HW0 := Lib.hid hW0; have B0 := Lib.hid b0; have A0 := Lib.hid a0; have R0 := Lib.hid r0
  have hz0 : N + 2 ≤ W0.heap.size := r0.lt
  clear b0 a0 r0 hN hW0
  refine calls_marks Tryd.func9 rfl ?_
  simp only [Tryd.ntmps9, List.size_toArray, List.length_cons, List.length_nil, Nat.reduceAdd, Nat.reduceSub, Array.replicate_succ, Array.replicate_zero, List.push_toArray, List.append_toArray, List.nil_append, List.cons_append]
  rw [← HN.out]
  go_wp2_with fail
  rw [← HN.out, ← HW0.out]
  clear HW0
  have KW : Hid (∀ W, Below N w W → Env W ∧ HasF W a F) := Lib.hid fun W h => by
    have h' : Below w.heap.size w W := by have := h; rwa [HN.out] at this
    exact ⟨HE.out.keep h', HF.out.keep h'⟩
  refine (wakes_any _ (KW.out _ B0.out).1.pow).mono ?_
  rintro e w1 ⟨rfl, hb1⟩
  have B1 : Hid (Below N w w1) := Lib.hid (B0.out.trans (hb1.mono (by omega)))
  have A1 := Lib.hid (A0.out.keep hb1); have R1 := Lib.hid (R0.out.keep hb1)
  have hz1 : N + 2 ≤ w1.heap.size := Nat.le_trans hz0 hb1.size
  have ac := A1.out.cell
  clear hb1 A0 R0 B0 hz0 W0
  go_wp2_with fail
  clear ac
  refine (long_any a len cap F w1 (KW.out _ B1.out).2 HL.out HW.out).mono ?_
  rintro e w2 ⟨lb, rfl, hb2, hsh⟩
  have B2 : Hid (Below N w w2) := Lib.hid (B1.out.trans (hb2.mono (by omega)))
  have A2 := Lib.hid (A1.out.keep hb2); have R2 := Lib.hid (R1.out.keep hb2)
  have hz2 : N + 2 ≤ w2.heap.size := Nat.le_trans hz1 hb2.size
  clear hb2 A1 R1 B1 hz1
  have rc := R2.out.cell; have rf := R2.out.free
  cases lb with
  | true =>
    go_wp2
    exact ret_true rfl rfl (marks_nil _) (fun d hd => by cases hd) (R2.out.set _) (B2.out.setCell (p := ⟨N + 1, 0, none⟩) (by simp) _)
  | false =>
  have SH := Lib.hid (hsh rfl)
  have OK := Lib.hid (okF_of HW.out SH.out)
  have hfl : F.length ≤ 32768 := by
    have h1 : ∀ G : List Fld, G.length ≤ sizeF G := by
      intro G
      induction G with
      | nil => exact Nat.le_refl _
      | cons f G ih => unfold sizeF at ih ⊢; rw [List.map_cons, List.sum_cons, List.length_cons]; omega
    have := h1 F
    have := SH.out
    omega
  rw [HL.out] at hfl
  clear hsh
  have ac := A2.out.cell
  -- mine
  have hal2 : Below w2.heap.size w2 (w2.alloc (.cells #[] 50)) := (Below.refl _ _).alloc (Nat.le_refl _) _
  have ac2 : (w2.alloc (.cells #[] 50)).cell? ⟨N, 0, none⟩ = some (.slice a len cap) := (A2.out.keep hal2).cell
  have HLIT := Lib.hid (own_empty w2 _ rfl w2.heap.size (Nat.le_refl _)); have HAL2 := Lib.hid hal2
  have HF2 : Hid (HasF (w2.alloc (.cells #[] 50)) a F) := Lib.hid (HasF.keep (KW.out _ B2.out).2 hal2)
  clear hal2
  go_wp2_with (first
    | (at_builtin; refine wp_apd_fields rfl (.tmp 26) (.tmp 27) rfl w2.heap.size _ [] rfl HLIT.out _ _ _ F rfl HF2.out HL.out HNC.out (by have := HL.out; simp; omega) HAL2.out.size ?_; intro v5 w5 ho5 hg5; have HO5 := Lib.hid ho5; have HB5 : Hid (Below w2.heap.size w2 w5) := Lib.hid (HAL2.out.grown hg5 HAL2.out.size (fun k hk => (HLIT.out.lt k hk).1)); clear ho5 hg5)
    | (at_builtin; refine wp_apd_fields rfl (.tmp 28) (.tmp 30) rfl w2.heap.size _ ([] ++ F) rfl (own_row_keep2 HO5.out ((Below.refl _ _).alloc (Nat.le_refl _) _)) _ _ _ [(71, [])] rfl (lit_one w5 71 [] _ _ rfl) rfl (fun h => by cases h) (by have := HL.out; simp; omega) (by have := HB5.out.size; rw [World.size_alloc]; omega) ?_; intro v6 w6 ho6 hg6; have HO6 := Lib.hid ho6; have HB6 : Hid (Below w2.heap.size w2 w6) := Lib.hid (Below.grown (HB5.out.alloc HB5.out.size _) hg6 (by have := HB5.out.size; rw [World.size_alloc]; omega) (fun k hk => (HO5.out.lt k hk).1)); have hl6 : (([] ++ F) ++ [((71 : Int), ([] : List UInt8))]).length = len + 1 := (by have := HL.out; simp; exact this); obtain ⟨gm, cm, hv6, hgm, hgm2, hcm, _⟩ := HO6.out.rowF (by rw [hl6]; omega); rw [hl6] at hv6 hcm; subst hv6; have ac6 := (A2.out.keep HB6.out).cell; clear ho6 hg6 hl6))
  have hf6 : HasF w6 (some ⟨gm, 0, none⟩) (F ++ [(71, [])]) := by
    obtain ⟨a', c', e, h, _⟩ := HO6.out.has
    have e1 : some ⟨gm, 0, none⟩ = a' := by injection e
    rw [← e1] at h
    simpa using h
  have k6 : w6.cell? ⟨gm, len * 2, none⟩ = some (.int .i64 71) := by
    obtain ⟨b', off', e, h, _⟩ := hf6.at (j := len) (by rw [List.length_append, HL.out]; simp)
    cases e
    rw [Nat.zero_add] at h
    rw [h]
    have := HL.out
    simp [List.getD, this]
  have HF6 := Lib.hid hf6.front
  have B6 : Hid (Below N w w6) := Lib.hid (B2.out.trans (HB6.out.mono (by omega)))
  have A6 := Lib.hid (A2.out.keep HB6.out); have R6 := Lib.hid (R2.out.keep HB6.out)
  have hz6 : w2.heap.size ≤ w6.heap.size := HB6.out.size
  have K6 := Lib.hid k6
  clear hf6 k6 HO5 HB5 HLIT HAL2 HF2 HO6 ac ac2 rc rf A2 R2 B2 HB6
  refine (encode_any (some ⟨gm, 0, none⟩) len cm F w6 HF6.out HL.out OK.out (KW.out _ B6.out).1.pow).mono ?_
  rintro e w7 ⟨va, rfl, hoa, hb7⟩
  have B7 : Hid (Below N w w7) := Lib.hid (B6.out.trans (hb7.mono (by omega)))
  have A7 := Lib.hid (A6.out.keep hb7); have R7 := Lib.hid (R6.out.keep hb7); have HF7 := Lib.hid (HF6.out.keep hb7)
  have K7 : Hid (w7.cell? ⟨gm, len * 2, none⟩ = some (.int .i64 71)) := Lib.hid ((hb7.cell (p := ⟨gm, len * 2, none⟩) hgm2).trans K6.out)
  have hz7 : w6.heap.size ≤ w7.heap.size := hb7.size
  have OA7 := Lib.hid hoa
  have ac7 := A7.out.cell
  clear hb7 hoa A6 R6 HF6 K6 B6 ac6
  go_wp2_with fail
  clear ac7
  refine (encode_any (some ⟨gm, 0, none⟩) len cm F w7 HF7.out HL.out OK.out (KW.out _ B7.out).1.pow).mono ?_
  rintro e w8 ⟨vb, rfl, hob, hb8⟩
  have B8 : Hid (Below N w w8) := Lib.hid (B7.out.trans (hb8.mono (by omega)))
  have A8 := Lib.hid (A7.out.keep hb8); have R8 := Lib.hid (R7.out.keep hb8)
  have hf8 := HF7.out.keep hb8
  have k8 : w8.cell? ⟨gm, len * 2, none⟩ = some (.int .i64 71) := (hb8.cell (p := ⟨gm, len * 2, none⟩) (show gm < _ by omega)).trans K7.out
  have hz8 : w7.heap.size ≤ w8.heap.size := hb8.size
  have OB8 := Lib.hid hob
  have OA8 := Lib.hid (OA7.out.keep hb8)
  have hAL := fun k hk => (OA7.out.lt k hk).2
  have HAL := Lib.hid hAL
  have ac8 := A8.out.cell
  have hsq : ∀ n, Calls Tryd.prog 18 #[.slice (some ⟨gm, 0, none⟩) len cm, .slice a len cap] (w8.drewN n) fun e w' => e = .returned (.bool true) ∧ ∃ m, w' = (w8.drewN n).drewN m := fun n => by
    have h := same_q (some ⟨gm, 0, none⟩) a len cm len cap F F (w8.drewN n) hf8 HL.out (KW.out _ B8.out).2 HL.out
    rwa [show decide (F = F) = true from decide_eq_true rfl] at h
  clear hb8 hob A7 R7 HF7 K7 B7 hf8 OA7 hAL
  go_wp2_with fail
  go_quiet ((go_at_call 18; exact Calls.quiet_of (hsq _)))
  have hbq : Below w8.heap.size w8 (w8.drewN nq) := ⟨rfl, rfl, rfl, Nat.le_refl _, fun _ _ => rfl⟩
  have B9 : Hid (Below N w (w8.drewN nq)) := Lib.hid (B8.out.trans (hbq.mono (by omega)))
  have A9 : Hid (Bx (w8.drewN nq) N (.slice a len cap) 22) := Lib.hid A8.out
  have R9 : Hid (Bx (w8.drewN nq) (N + 1) (.bool false) 4) := Lib.hid R8.out
  have OA9 := Lib.hid (OA8.out.keep hbq); have OB9 := Lib.hid (OB8.out.keep hbq)
  have HBL := Lib.hid (fun k hk => (OB8.out.lt k hk))
  have hz9 : w8.heap.size = (w8.drewN nq).heap.size := rfl
  generalize w8.drewN nq = w9 at *
  clear hsq k8 ac8 hbq A8 R8 OA8 OB8 B8
  by_cases hv : validE F = 0
  · obtain ⟨_, h2⟩ := enc_ok hv
    have hsm := frm_small hv
    have hdec := decS_frm hv []
    rw [List.append_nil] at hdec
    have hfrs := framesS_frm hv
    have hF0 : 0 < F.length := by
      obtain ⟨⟨vv, r, e⟩, _⟩ := formB_iff.1 (validE_zero.1 hv).1
      rw [e]; simp
    rw [h2] at OA9 OB9 ⊢
    simp only at OA9 OB9 ⊢
    obtain ⟨ga, ca, hva, hga1, _, hca, hcam⟩ := OA9.out.slice (by omega)
    obtain ⟨gb, cb, hvb, hgb1, _, hcb, hcbm⟩ := OB9.out.slice (by omega)
    have hga2 : ga < w7.heap.size := HAL.out ga (by rw [hva]; rfl)
    have hgb2 : gb < w8.heap.size := (HBL.out gb (by rw [hvb]; rfl)).2
    obtain ⟨n, hn⟩ : ∃ n, (frm (bodyL F)).length = n := ⟨_, rfl⟩
    rw [hn] at hva hvb hca hcb hdec hsm
    subst hva hvb
    obtain ⟨L, hL⟩ : ∃ L, frm (bodyL F) = L := ⟨_, rfl⟩
    rw [hL] at hn hdec hfrs OA9 OB9
    have hrow9 : HasL w9 (some ⟨gb, 0, none⟩) L := by
      obtain ⟨a', c', e, h, _⟩ := OB9.out.row
      have e1 : some ⟨gb, 0, none⟩ = a' := by injection e
      rw [← e1] at h
      exact h
    have kc9 := conv_at (cap := cb) hrow9 hn
    have HR9 := Lib.hid hrow9; have HD := Lib.hid hdec; have HFR := Lib.hid hfrs; have HNL := Lib.hid hn
    obtain ⟨hsm1, hsm2⟩ := hsm
    clear h2 hL hrow9 hdec hfrs hn HAL HBL hv
    go_wp2_with fail
    clear kc9
    refine (tframes_any (some ⟨gb, 0, none⟩) n cb L w9 HR9.out HNL.out (fun h => by cases h) (by omega)).mono ?_
    rintro e w10 ⟨p, vc, rfl, hp, hbox, hoc, hb10⟩
    obtain ⟨gc, cc, hvc, hgc1, hgc2, hcc, hccm⟩ := hoc.slice (by rw [HNL.out]; omega)
    rw [HNL.out] at hvc hcc
    subst hvc
    have hp2 := Bx.lt hbox
    have hz10 := hb10.size
    have B10 : Hid (Below N w w10) := Lib.hid (B9.out.trans (hb10.mono (by omega)))
    have A10 := Lib.hid (A9.out.keep hb10); have R10 := Lib.hid (R9.out.keep hb10); have OA10 := Lib.hid (OA9.out.keep hb10); have OB10 := Lib.hid (OB9.out.keep hb10); have HR10 := Lib.hid (HR9.out.keep hb10)
    have P10 : Hid (Bx w10 p (.slice (some ⟨gc, 0, none⟩) n cc) 25) := Lib.hid hbox
    have OC10 := Lib.hid hoc
    clear hb10 hoc hbox A9 R9 OA9 OB9 HR9 B9
    have hd10 := Decode_any (some ⟨gb, 0, none⟩) n cb L w10 HR10.out HNL.out hcb (by omega) (KW.out _ B10.out).1
    rw [HD.out] at hd10
    unfold DecIt at hd10
    simp only at hd10
    go_wp2_with fail
    refine hd10.mono ?_
    clear hd10
    rintro e w11 ⟨vx, rfl, hox, hb11⟩
    obtain ⟨gx, cx, hvx, hgx1, hgx2, hcx, hrx⟩ := hox.rowF hF0
    rw [HL.out] at hvx hcx hrx
    subst hvx
    have hz11 := hb11.size
    have B11 : Hid (Below N w w11) := Lib.hid (B10.out.trans (hb11.mono (by omega)))
    have A11 := Lib.hid (A10.out.keep hb11); have R11 := Lib.hid (R10.out.keep hb11); have OA11 := Lib.hid (OA10.out.keep hb11); have OB11 := Lib.hid (OB10.out.keep hb11); have HR11 := Lib.hid (HR10.out.keep hb11)
    have P11 := Lib.hid (P10.out.keep hb11); have OC11 := Lib.hid (OC10.out.keep hb11)
    have X11 := Lib.hid hrx
    clear hb11 hox hrx A10 R10 OA10 OB10 HR10 B10 P10 OC10
    have hd11 := Decode_any (some ⟨gb, 0, none⟩) n cb L w11 HR11.out HNL.out hcb (by omega) (KW.out _ B11.out).1
    rw [HD.out] at hd11
    unfold DecIt at hd11
    simp only at hd11
    go_wp2_with fail
    refine hd11.mono ?_
    clear hd11
    rintro e w12 ⟨vy, rfl, hoy, hb12⟩
    obtain ⟨gy, cy, hvy, hgy1, hgy2, hcy, _⟩ := hoy.rowF hF0
    rw [HL.out] at hvy hcy
    subst hvy
    have hz12 := hb12.size
    have B12 : Hid (Below N w w12) := Lib.hid (B11.out.trans (hb12.mono (by omega)))
    have A12 := Lib.hid (A11.out.keep hb12); have R12 := Lib.hid (R11.out.keep hb12); have OA12 := Lib.hid (OA11.out.keep hb12); have OB12 := Lib.hid (OB11.out.keep hb12)
    have P12 := Lib.hid (P11.out.keep hb12); have OC12 := Lib.hid (OC11.out.keep hb12)
    have X12 : Hid (RowF w12 gx (len * 2)) := Lib.hid (by
      obtain ⟨cur, h1, h2⟩ := X11.out
      exact ⟨cur, (hb12.block gx hgx2).trans h1, h2⟩)
    have OY12 := Lib.hid hoy
    clear hb12 hoy A11 R11 OA11 OB11 HR11 B11 P11 OC11 X11
    go_wp2_with fail
    go_loopg [87] n (fun m i wr => ∃ (k : Nat) (l : List UInt8), k + m = n ∧ i = .int .i64 (k : Int) ∧ Hid (l.length = n ∧ OwnG wr w6.heap.size (.slice (some ⟨ga, 0, none⟩) n ca) l) ∧ Hid (w12.grownBy wr (some ga)))
    case atStart => exact ⟨0, L, by omega, rfl, Lib.hid ⟨HNL.out, OA12.out⟩, Lib.hid ⟨rfl, rfl, rfl, Nat.le_refl _, fun _ _ _ => rfl⟩⟩
    case round =>
      obtain ⟨k, l, hk, rfl, HO, HG⟩ := hrel
      by_cases hlt : k < n
      · obtain ⟨g', cap', hv', _, _, _, hc, hfz, hst⟩ := HO.out.2.store (j := k) (by rw [HO.out.1]; exact hlt)
        have e1 : ga = g' := by injection hv' with h1; injection h1 with h1; injection h1
        subst e1
        have hO2 : Hid ((l.set k 9).length = n ∧ OwnG (wr.setCell ⟨ga, k, none⟩ (.int .u8 9)) w6.heap.size (.slice (some ⟨ga, 0, none⟩) n ca) (l.set k 9)) := Lib.hid ⟨by rw [List.length_set]; exact HO.out.1, hst 9⟩
        have hG2 := Lib.hid (grown_trans HG.out (set_grown_at wr ga k (.int .u8 9)))
        have i0 : (k : Int) < (n : Int) := by omega
        clear hst hv'
        go_wp2
        go_roundg (n - (k + 1))
        case measure => omega
        case rel => exact ⟨k + 1, l.set k 9, by omega, by go_num, hO2, hG2⟩
      · obtain rfl : k = n := by omega
        obtain ⟨wz, hwz⟩ : ∃ wz, wz = wr.alloc (.cells #[.int .u8 1, .int .u8 2, .int .u8 3] 5) := ⟨_, rfl⟩
        have hz13 := HG.out.size
        have hal : Below wr.heap.size wr wz := by rw [hwz]; exact (Below.refl _ _).alloc (Nat.le_refl _) _
        have HO13 := Lib.hid (HO.out.2.keep hal)
        have HL13 := Lib.hid HO.out.1
        have HROW : Hid (HasL wz (some ⟨wr.heap.size, 0, none⟩) [1, 2, 3]) := Lib.hid (by rw [hwz]; exact lit_row3 wr 5 _ rfl)
        have HG13 : Hid (w12.grownBy wz (some ga)) := Lib.hid (grown_trans HG.out (grown_of_below hal _))
        have HWZ := Lib.hid hwz
        have hz13b := hal.size
        clear hal hwz HO HG OA12
        go_wp2_with (at_builtin; rw [← HWZ.out]; refine wp_apd_row rfl (.tmp 94) (.tmp 95) rfl w6.heap.size _ l [1, 2, 3] rfl HO13.out _ _ _ rfl HROW.out rfl (fun h => by cases h) (by have := HL13.out; simp; omega) (by omega) ?_; intro v14 w14 ho14 hg14 hb14; have hl14 : (l ++ [1, 2, 3]).length = k + 3 := (by rw [List.length_append, HL13.out]; rfl); obtain ⟨a14, c14, hv14, _⟩ := ho14.row; rw [hl14] at hv14; subst hv14; have HG14 := Lib.hid (grown_trans HG13.out hg14); clear ho14 hg14 hb14 hl14)
        have hz14 := HG14.out.size
        have X14 : Hid (RowF w14 gx (len * 2)) := Lib.hid (by
          obtain ⟨cur, h1, h2⟩ := X12.out
          exact ⟨cur, (HG14.out.block gx (by omega) (by simp; omega)).trans h1, h2⟩)
        clear X12 HG13 HO13 HROW HWZ hz13 hz13b
        go_loopg [99] len (fun m i wr => ∃ j : Nat, j + m = len ∧ i = .int .i64 (j : Int) ∧ Hid (RowF wr gx (len * 2)) ∧ Hid (w14.grownBy wr (some gx)))
        case atStart => exact ⟨0, by omega, rfl, X14, Lib.hid ⟨rfl, rfl, rfl, Nat.le_refl _, fun _ _ _ => rfl⟩⟩
        case round =>
          obtain ⟨j, hj, rfl, HX, HG⟩ := hrel
          by_cases hlt : j < len
          · obtain ⟨⟨u0, c0⟩, f0⟩ := HX.out.cells (i := j * 2) (by omega)
            obtain ⟨⟨u1, c1⟩, f1⟩ := HX.out.cells (i := j * 2 + 1) (by omega)
            obtain ⟨⟨u2, c2⟩, f2⟩ := (HX.out.set (j * 2) (.int .i64 0)).cells (i := j * 2 + 1) (by omega)
            have hX2 := Lib.hid ((HX.out.set (j * 2) (.int .i64 0)).set (j * 2 + 1) (.string { data := #[] }))
            have hG2 := Lib.hid (grown_trans (grown_trans HG.out (set_grown_at wr gx (j * 2) (.int .i64 0))) (set_grown_at _ gx (j * 2 + 1) (.string { data := #[] })))
            have i0 : (j : Int) < (len : Int) := by omega
            go_wp2
            go_roundg (len - (j + 1))
            case measure => omega
            case rel => exact ⟨j + 1, by omega, by go_num, hX2, hG2⟩
          · obtain rfl : j = len := by omega
            have hgA := HG14.out
            have hgX := HG.out
            have hz15 := hgX.size
            have hN6 : N + 2 ≤ w6.heap.size := by omega
            have b14 : Below N w w14 := B12.out.grown hgA (by omega) (fun r hr => by cases hr; omega)
            have B15 : Hid (Below N w wr) := Lib.hid (b14.grown hgX (by omega) (fun r hr => by cases hr; omega))
            have A15 := Lib.hid ((A12.out.gone hgA (by simp; omega)).gone hgX (by simp; omega))
            have R15 := Lib.hid ((R12.out.gone hgA (by simp; omega)).gone hgX (by simp; omega))
            have P15 := Lib.hid ((P12.out.gone hgA (by simp; omega)).gone hgX (by simp; omega))
            have OB15 := Lib.hid ((OB12.out.gone hgA (fun r hr => by cases hr; simp; omega)).gone hgX (fun r hr => by cases hr; simp; omega))
            have OC15 := Lib.hid ((OC12.out.gone hgA (fun r hr => by cases hr; simp; omega)).gone hgX (fun r hr => by cases hr; simp; omega))
            have OY15 := Lib.hid ((OY12.out.gone hgA (fun r hr => by cases hr; simp; omega)).gone hgX (fun r hr => by cases hr; simp; omega))
            have hrb : HasL wr (some ⟨gb, 0, none⟩) L := by
              obtain ⟨a', c', e, h, _⟩ := OB15.out.row
              have e1 : some ⟨gb, 0, none⟩ = a' := by injection e
              rw [← e1] at h
              exact h
            have hfy : HasF wr (some ⟨gy, 0, none⟩) F := by
              obtain ⟨a', c', e, h, _⟩ := OY15.out.has
              have e1 : some ⟨gy, 0, none⟩ = a' := by injection e
              rw [← e1] at h
              exact h
            have kc15 := conv_at (cap := cb) hrb HNL.out
            have ac15 := A15.out.cell
            have hq15 : ((bs L).toList == (bs L).toList) = true := beq_self_eq_true _
            have hq15b : ((bs L).toList != (bs L).toList) = false := bne_self_eq_false _
            have d15 : (((k : Int) + 3) != ((k : Int) + 3)) = false := bne_self_eq_false _
            have hsq := same_q (some ⟨gy, 0, none⟩) a j cy j cap F F wr hfy HL.out (KW.out _ B15.out).2 HL.out
            rw [show decide (F = F) = true from decide_eq_true rfl] at hsq
            clear hgA hgX b14 hrb hfy HG HX X14 B12 A12 R12 P12 OB12 OC12 OY12 HG14
            go_wp2_with (go_at_call 18; (with_reducible refine hsq.mono ?_); rintro e w16 ⟨rfl, q16, rfl⟩)
            have hbq : Below wr.heap.size wr (wr.drewN q16) := ⟨rfl, rfl, rfl, Nat.le_refl _, fun _ _ => rfl⟩
            have B17 : Hid (Below N w (wr.drewN q16)) := Lib.hid (B15.out.trans (hbq.mono (by omega)))
            have A17 : Hid (Bx (wr.drewN q16) N (.slice a j cap) 22) := Lib.hid A15.out
            have R17 : Hid (Bx (wr.drewN q16) (N + 1) (.bool false) 4) := Lib.hid R15.out
            have P17 : Hid (Bx (wr.drewN q16) p (.slice (some ⟨gc, 0, none⟩) k cc) 25) := Lib.hid P15.out
            have OB17 := Lib.hid (OB15.out.keep hbq); have OC17 := Lib.hid (OC15.out.keep hbq)
            have hz17 : wr.heap.size = (wr.drewN q16).heap.size := rfl
            generalize wr.drewN q16 = w17 at *
            clear kc15 ac15 hq15 hq15b d15 hsq hbq A15 R15 P15 OB15 OC15 OY15 B15
            go_loopg [127] k (fun m i wr => ∃ (t : Nat) (l : List UInt8), t + m = k ∧ i = .int .i64 (t : Int) ∧ Hid (l.length = k ∧ OwnG wr w7.heap.size (.slice (some ⟨gb, 0, none⟩) k cb) l) ∧ Hid (w17.grownBy wr (some gb)))
            case atStart => exact ⟨0, L, by omega, rfl, Lib.hid ⟨HNL.out, OB17.out⟩, Lib.hid ⟨rfl, rfl, rfl, Nat.le_refl _, fun _ _ _ => rfl⟩⟩
            case round =>
              obtain ⟨t, l2, ht, rfl, HO, HG⟩ := hrel
              by_cases hlt : t < k
              · obtain ⟨g', cap', hv', _, _, _, hc, hfz, hst⟩ := HO.out.2.store (j := t) (by rw [HO.out.1]; exact hlt)
                have e1 : gb = g' := by injection hv' with h1; injection h1 with h1; injection h1
                subst e1
                have hO2 : Hid ((l2.set t 8).length = k ∧ OwnG (wr.setCell ⟨gb, t, none⟩ (.int .u8 8)) w7.heap.size (.slice (some ⟨gb, 0, none⟩) k cb) (l2.set t 8)) := Lib.hid ⟨by rw [List.length_set]; exact HO.out.1, hst 8⟩
                have hG2 := Lib.hid (grown_trans HG.out (set_grown_at wr gb t (.int .u8 8)))
                have i0 : (t : Int) < (k : Int) := by omega
                clear hst hv'
                go_wp2
                go_roundg (k - (t + 1))
                case measure => omega
                case rel => exact ⟨t + 1, l2.set t 8, by omega, by go_num, hO2, hG2⟩
              · obtain rfl : k = t := by omega
                have hgB := HG.out
                have hz18 := hgB.size
                have B18 : Hid (Below N w wr) := Lib.hid (B17.out.grown hgB (by omega) (fun r hr => by cases hr; omega))
                have A18 := Lib.hid (A17.out.gone hgB (by simp; omega))
                have R18 := Lib.hid (R17.out.gone hgB (by simp; omega))
                have P18 := Lib.hid (P17.out.gone hgB (by simp; omega))
                have OC18 := Lib.hid (OC17.out.gone hgB (fun r hr => by cases hr; simp; omega))
                have hrc : HasL wr (some ⟨gc, 0, none⟩) L := by
                  obtain ⟨a', c', e, h, _⟩ := OC18.out.row
                  have e1 : some ⟨gc, 0, none⟩ = a' := by injection e
                  rw [← e1] at h
                  exact h
                have RC18 := Lib.hid hrc
                have hN18 : N + 2 ≤ wr.heap.size := R18.out.lt
                clear hgB HO HG hrc A17 R17 P17 OB17 OC17 OC18 B17
                go_wp2_with fail
                obtain ⟨W19, hW19⟩ : ∃ W19, W19 = wr.alloc (.cells #[.int .i64 0] 3) := ⟨_, rfl⟩
                have hb19 : Below wr.heap.size wr W19 := by rw [hW19]; exact (Below.refl _ _).alloc (Nat.le_refl _) _
                have hx19 : Bx W19 wr.heap.size (.int .i64 0) 3 := by rw [hW19]; exact Bx.new wr _ _
                have hz19 : W19.heap.size = wr.heap.size + 1 := by rw [hW19, World.size_alloc]
                rw [← hW19]
                clear hW19
                refine wp_frames p (some ⟨gc, 0, none⟩) k cc L rfl rfl HNL.out hcc (by omega) (P18.out.keep hb19) (fun pre W => Below wr.heap.size wr W ∧ Bx W wr.heap.size (.int .i64 (pre.length : Int)) 3) (fun _ _ _ => False) ?_ (fun _ _ _ _ _ h _ _ => h) (fun pre A h => ⟨(KW.out _ (B18.out.trans (h.1.mono (by omega)))).1, RC18.out.keep h.1⟩) ⟨hb19, hx19⟩ ?_ ?_ ?_
                · rintro pre A C row ⟨h1, h2⟩ hg hr
                  have hlt := h2.lt
                  refine ⟨h1.grown hg h1.size (fun k hk => ?_), (hg.block _ hlt (fun e => ?_)).trans h2⟩
                  · rcases hr with hr | hr | hr <;> rw [hr] at hk <;> cases hk <;> omega
                  · rcases hr with hr | hr | hr <;> rw [hr] at e
                    · cases e
                    · have := Option.some.inj e; omega
                    · have := Option.some.inj e; omega
                · rintro ll pre ⟨v, F', E'⟩ W _ _ Kr hKr
                  gi_wp2
                  rintro W' ⟨hi1, hi2⟩ hok hlt
                  obtain ⟨hpre, base, hbs, ho⟩ := hok
                  rw [HFR.out] at hpre
                  obtain rfl : pre = [] := by
                    have := hpre.length_le
                    rw [List.length_map, List.length_append] at this
                    simp at this
                    exact this
                  obtain ⟨rfl, rfl⟩ : F' = F ∧ E' = 0 := by
                    obtain ⟨r, hr⟩ := hpre
                    simp at hr
                    exact ⟨hr.1.1, hr.1.2⟩
                  obtain ⟨av, cv, hve, hvf, _⟩ := ho.has
                  simp only at hve hvf
                  subst hve
                  have hsame := same_q av a F'.length cv j cap F' F' W' hvf rfl (KW.out _ (B18.out.trans (hi1.mono (by omega)))).2 HL.out
                  rw [show decide (F' = F') = true from decide_eq_true rfl] at hsame
                  have n0 := hi2.cell; have n1 := hi2.free
                  have q0 := (A18.out.keep hi1).cell
                  have HI1 := Lib.hid hi1; have HI2 := Lib.hid hi2
                  clear ho hpre hvf hi1 hi2
                  gi_wp2_with (refine ⟨trivial, ?_⟩; gi_at_call 18; refine (CallsIn.inRound _ (callsIn_wide.2 hsame)).mono ?_; rintro e w9 ⟨rfl, qq, rfl⟩)
                  refine ⟨⟨Below.heap_setCell _ _ _ _ (by simp; omega), Below.heap_setCell _ _ _ _ (by simp; omega)⟩, trivial, ?_, ?_⟩
                  · exact Below.setCell (p := ⟨wr.heap.size, 0, none⟩) (HI1.out.trans (show Below wr.heap.size W' (W'.drewN qq) from ⟨rfl, rfl, rfl, Nat.le_refl _, fun _ _ => rfl⟩)) (Nat.le_refl _) _
                  · exact Bx.set (W := W'.drewN qq) HI2.out (.int .i64 1)
                rotate_left
                · rintro c pre W7 h _
                  exact h.elim
                rintro xs7 W7 hS' ⟨hi1, hi2⟩ hK
                have hlen' : xs7.length = 1 := by
                  rw [HFR.out] at hS'
                  have h1 := congrArg List.length hS'
                  simpa using h1
                rw [hlen'] at hi2
                have n0 := hi2.cell
                have R20 := Lib.hid (R18.out.keep hi1)
                have rc := R20.out.cell; have rf := R20.out.free
                have B20 : Hid (Below N w W7) := Lib.hid (B18.out.trans (hi1.mono (by omega)))
                have m20 : Marks [{ target := .collected W19.heap.size, args := #[] }] W7 := ⟨by simp, fun d hd => by
                  rw [List.mem_singleton.1 hd]
                  exact ⟨_, rfl, hK⟩⟩
                have hlow : ∀ d ∈ ([{ target := .collected W19.heap.size, args := #[] }] : List Deferred), ∀ r, d.target = .collected r → N ≤ r := fun d hd r e => by
                  rw [List.mem_singleton.1 hd] at e
                  cases e; omega
                have M20a := Lib.hid m20; have HLOWa := Lib.hid hlow
                rw [hz19] at m20 hlow
                have M20 := Lib.hid m20; have HLOW := Lib.hid hlow
                clear hi1 hi2 hK m20 hlow hS'
                go_wp2
                first
                  | exact ret_true rfl rfl (Marks.box M20.out R20.out) HLOW.out (R20.out.set _) (B20.out.setCell (p := ⟨N + 1, 0, none⟩) (by simp) _)
                  | exact ret_true rfl rfl (Marks.box M20a.out R20.out) HLOWa.out (R20.out.set _) (B20.out.setCell (p := ⟨N + 1, 0, none⟩) (by simp) _)
  · obtain ⟨_, h2⟩ := enc_err hv
    rw [h2] at OA9 OB9 ⊢
    simp only at OA9 OB9 ⊢
    obtain ⟨aa, ca, rfl, _⟩ := OA9.out.row
    have hne : (validE F == 0) = false := by simpa using hv
    have hne2 : (validE F != 0) = true := by simpa using hv
    have rc := R9.out.cell; have rf := R9.out.free
    clear h2 hv
    generalize validE F = E at *
    go_wp2_with fail
    exact ret_true rfl rfl (marks_nil _) (fun d hd => by cases hd) (R9.out.set _) (B9.out.setCell (p := ⟨N + 1, 0, none⟩) (by simp) _)
end Go.Proofs.YtjgkjmegpinelaaDoor.Tg

/-
  Layer 5: the reference's Records.
-/
import Derived.Test.YtdonkmkjblofpaaGreatDoorWr
namespace Go.Proofs.YtdonkmkjblofpaaGreatDoor.Wl
open Go.RowKit Go.Sort Dx Sx Dk
set_option linter.unusedVariables false
set_option linter.unusedSimpArgs false
theorem recs_few {zs : List Int} {R : List (List Int)} {n : Nat} (hR : recsB zs = R) (hn : R.length = n) : n ≤ zs.length := by
  have h1 := recsB_size zs.length zs (Nat.le_refl _)
  rw [hR] at h1
  have h2 : ∀ L : List (List Int), L.length ≤ sizeR L := fun L => by
    induction L with
    | nil => exact Nat.le_refl _
    | cons x s ih => simp only [List.length_cons, sizeR]; omega
  have := h2 R
  omega
theorem nums_inj {a b : List Int} (ha : Bytes a) (hb : Bytes b) (h : strOfNums a = strOfNums b) : a = b := by
  have h1 : a.map (fun n => UInt8.ofNat n.toNat) = b.map (fun n => UInt8.ofNat n.toNat) := by
    have := congrArg (fun s : ByteArray => s.data.toList) h
    simpa [strOfNums_data] using this
  have hl : a.length = b.length := by simpa using congrArg List.length h1
  apply List.ext_getElem hl
  intro i x1 x2
  have h2 := congrArg (fun l => l[i]?) h1
  simp [x1, x2] at h2
  have e1 := ha i x1; have e2 := hb i x2
  simp [List.getD, x1] at e1; simp [List.getD, x2] at e2
  have h3 := congrArg UInt8.toNat h2
  simp only [UInt8.toNat_ofNat'] at h3
  omega
/-- What the reference's number is reckoned from. -/
structure Four (w : World) (b o : Nat) (N : Nat) (x0 x1 x2 x3 : Int) : Prop where
  c0 : w.cell? ⟨b, o, none⟩ = some (.int .u8 x0)
  c1 : w.cell? ⟨b, o + 1, none⟩ = some (.int .u8 x1)
  c2 : w.cell? ⟨b, o + 2, none⟩ = some (.int .u8 x2)
  c3 : w.cell? ⟨b, o + 3, none⟩ = some (.int .u8 x3)
  w0 : IntKind.i64.wrap x0 = x0
  w1 : IntKind.i64.wrap x1 = x1
  w2 : IntKind.i64.wrap x2 = x2
  w3 : IntKind.i64.wrap x3 = x3
  m1 : IntKind.i64.wrap (x1 * 256) = x1 * 256
  m2 : IntKind.i64.wrap (x2 * 65536) = x2 * 65536
  m3 : IntKind.i64.wrap (x3 * 16777216) = x3 * 16777216
  s1 : IntKind.i64.wrap (x0 + x1 * 256) = x0 + x1 * 256
  s2 : IntKind.i64.wrap (x0 + x1 * 256 + x2 * 65536) = x0 + x1 * 256 + x2 * 65536
  s3 : IntKind.i64.wrap (x0 + x1 * 256 + x2 * 65536 + x3 * 16777216) = (N : Int)
theorem four_of {w : World} {b o M : Nat} {l : List Int} (h : Fr.HasRow .u8 w (some ⟨b, o, none⟩) M l) (hM : 4 ≤ M) (hb : Bytes l) : ∃ x0 x1 x2 x3, Four w b o (num4 l) x0 x1 x2 x3 := by
  have hl := h.1
  obtain ⟨b', o', e, hc⟩ := h.2.2 (by omega)
  injection e with e; injection e with e1 e2 _
  subst e1 e2
  have h0 := hb 0 (by omega); have h1 := hb 1 (by omega); have h2 := hb 2 (by omega); have h3 := hb 3 (by omega)
  have hn := num4_get hb (by omega)
  refine ⟨l.getD 0 0, l.getD 1 0, l.getD 2 0, l.getD 3 0, hc 0 (by omega), hc 1 (by omega), hc 2 (by omega), hc 3 (by omega), ?_, ?_, ?_, ?_, ?_, ?_, ?_, ?_, ?_, ?_⟩
  · exact IntWalk.i64_in _ (by omega)
  · exact IntWalk.i64_in _ (by omega)
  · exact IntWalk.i64_in _ (by omega)
  · exact IntWalk.i64_in _ (by omega)
  · exact IntWalk.i64_in _ (by omega)
  · exact IntWalk.i64_in _ (by omega)
  · exact IntWalk.i64_in _ (by omega)
  · exact IntWalk.i64_in _ (by omega)
  · exact IntWalk.i64_in _ (by omega)
  · rw [hn]; exact IntWalk.i64_in _ (by omega)
set_option maxRecDepth 100000 in
set_option maxHeartbeats 1600000 in
theorem rrecords_some (b off len cap : Nat) (zs : List Int) (w : World) (hb : Bytes zs) (hrow : Fr.HasRow .u8 w (some ⟨b, off, none⟩) len zs) (hl : zs.length = len) (hcap : len ≤ cap) (hcm : cap ≤ 9223372036854775807) (hbig : len ≤ 1048576) :
    Calls Tryz.prog 10 #[.slice (some ⟨b, off, none⟩) len cap] w (RecsIt w (recsB zs)) := by
  obtain ⟨R, hR⟩ : ∃ R, recsB zs = R := ⟨_, rfl⟩
  rw [hR]
  obtain ⟨n, hn⟩ : ∃ n, R.length = n := ⟨_, rfl⟩
  have HR := Lib.hid hR; have HN := Lib.hid hn; have ROW := Lib.hid hrow; have HB := Lib.hid hb; have HL := Lib.hid hl
  have hnl : n ≤ 1048576 := by have := recs_few hR hn; omega
  clear hR hn hrow hb hl
  go_enter Tryz.func10, Tryz.ntmps10
  go_wp2
  go_loopg [4, 5] (n + 1) (fun m o i wr => ∃ (j p : Nat) (ao : Option Addr) (co : Nat), j + m = n + 1 ∧ i = .int .i64 (p : Int) ∧ p ≤ len ∧ o = .slice ao j co ∧ Hid (j ≤ n) ∧ Hid (WasOk w.heap.size wr R j (.slice ao j co)) ∧ Hid (recsB (zs.drop p) = R.drop j) ∧ Hid (p = sizeR (R.take j)) ∧ Hid (Below w.heap.size w wr))
  case atStart => exact ⟨0, 0, none, 0, by omega, rfl, by omega, rfl, Lib.hid (Nat.zero_le _), Lib.hid ⟨[], ⟨rfl, .inl ⟨rfl, rfl⟩⟩, fun i hi => absurd hi (Nat.not_lt_zero _)⟩, Lib.hid HR.out, Lib.hid rfl, Lib.hid (Below.refl _ _)⟩
  case round =>
    obtain ⟨j, p, ao, co, hj, rfl, hp, rfl, HJ, HW, HD, HP, HBB⟩ := hrel
    obtain ⟨M, hM⟩ : ∃ M, len = M + p := ⟨len - p, by omega⟩
    obtain ⟨C, hC⟩ : ∃ C, cap = C + p := ⟨cap - p, by omega⟩
    have hMC : M ≤ C := by omega
    have row := rest_row (p := p) (M := M) (cap := cap) (by have := ROW.out.keep HBB.out; rwa [hM] at this) (by omega)
    have hrl : (zs.drop p).length = M := by rw [List.length_drop, HL.out]; omega
    have e1 : len - p = M := by omega
    have e2 : cap - p = C := by omega
    have p0 : (0 : Int) ≤ (p : Int) := by omega
    have p1 : (p : Int) ≤ (len : Int) := by omega
    have p2 : (p : Int) ≤ (cap : Int) := by omega
    have E : Hid (one (zs.drop p) = none → ∀ wx, Below wr.heap.size wr wx → RecsIt w R (.returned (.tuple #[.slice ao j co, .int .i64 (p : Int)])) wx) := Lib.hid fun ho wx hbx => by
      have hjn := recs_end HD.out ho (by have := HJ.out; have := HN.out; omega)
      have h1 := HP.out
      have h2 := was_grow HW.out hbx
      rw [hjn, List.take_length] at h1
      rw [h1]
      exact ⟨_, rfl, by rw [← hjn]; exact h2, HBB.out.trans (hbx.mono HBB.out.size)⟩
    by_cases hM8 : M < 8
    · have E1 := Lib.hid (E.out (by unfold one; rw [if_pos (by rw [hrl]; exact hM8)]) wr (Below.refl _ _))
      have t8 : decide ((M : Int) < 8) = true := by rw [decide_eq_true_eq]; omega
      by_cases hC0 : C = 0
      · obtain rfl : p = len := by omega
        obtain rfl : cap = p := by omega
        obtain rfl : M = 0 := by omega
        subst hC0
        clear hM hC row e1 e2 E hrl t8
        go_wp2_with fail
        go_ret2
        exact E1.out
      · have hpc : ¬ p = cap := by omega
        have HM := Lib.hid hM; have HC := Lib.hid hC
        clear hM hC row E hrl
        go_wp2_with fail
        go_ret2
        exact E1.out
    · have hpc : ¬ p = cap := by omega
      rw [show restA b off p cap = ⟨b, off + p, none⟩ from if_neg hpc] at row
      have hbr := bytes_drop HB.out p
      obtain ⟨x0, x1, x2, x3, F⟩ := four_of row (by omega) hbr
      obtain ⟨N, hN⟩ : ∃ N, num4 (zs.drop p) = N := ⟨_, rfl⟩
      have hN32 : N < 4294967296 := by rw [← hN]; exact num4_lt hbr
      rw [hN] at F
      have t8 : decide ((M : Int) < 8) = false := by rw [decide_eq_false_iff_not]; omega
      have i0 : (0 : Int) < (M : Int) := by omega
      have i1 : (1 : Int) < (M : Int) := by omega
      have i2 : (2 : Int) < (M : Int) := by omega
      have i3 : (3 : Int) < (M : Int) := by omega
      have w8 : IntKind.i64.wrap (8 + (N : Int)) = 8 + (N : Int) := IntWalk.i64_in _ (by omega)
      by_cases hbad : 65536 < N ∨ M - 8 < N
      · have E1 := Lib.hid (E.out (by unfold one; rw [if_neg (by rw [hrl]; exact hM8), hN, if_pos (by rw [hrl]; exact hbad)]))
        have tt : decide ((N : Int) > 65536) = true ∨ (decide ((N : Int) > 65536) = false ∧ decide (8 + (N : Int) > (M : Int)) = true) := by
          by_cases h : 65536 < N
          · exact .inl (by rw [decide_eq_true_eq]; omega)
          · exact .inr ⟨by rw [decide_eq_false_iff_not]; omega, by rw [decide_eq_true_eq]; omega⟩
        obtain ⟨c0, c1, c2, c3, v0, v1, v2, v3, m1, m2, m3, s1, s2, s3⟩ := F
        have HM := Lib.hid hM; have HC := Lib.hid hC; have HN32 := Lib.hid hN32
        clear hM hC row E hrl hbad hN hbr hM8 hN32
        rcases tt with t1 | ⟨t1, t2⟩
        all_goals
          go_wp2_with fail
          go_quiet (fail)
          go_wp2_with fail
          go_ret2
          exact E1.out _ (bel_dn (Below.refl _ _) _)
      · have hN16 : N ≤ 65536 := by omega
        have hNM : 8 + N ≤ M := by omega
        obtain ⟨r, hr⟩ : ∃ r, ((zs.drop p).drop 8).take N = r := ⟨_, rfl⟩
        have hrN : r.length = N := by rw [← hr, List.length_take, List.length_drop, hrl]; omega
        have hbrr : Bytes r := by rw [← hr]; exact bytes_take (bytes_drop hbr 8) N
        obtain ⟨c0, c1, c2, c3, v0, v1, v2, v3, m1, m2, m3, s1, s2, s3⟩ := F
        have t1 : decide ((N : Int) > 65536) = false := by rw [decide_eq_false_iff_not]; omega
        have t2 : decide (8 + (N : Int) > (M : Int)) = false := by rw [decide_eq_false_iff_not]; omega
        have q1 : (8 : Int) ≤ 8 + (N : Int) := by omega
        have q2 : 8 + (N : Int) ≤ (C : Int) := by omega
        have q3 : (0 : Int) ≤ 8 + (N : Int) := by omega
        have row8 : Fr.HasRow .u8 wr (some (restA b (off + p) 8 C)) N r := by
          rw [← hr]
          have := rest_row (p := 8) (M := N) (cap := C) (b := b) (off := off + p) (zs := zs.drop p) (w := wr) ⟨by rw [hrl]; omega, by omega, fun _ => by
            obtain ⟨b', o', e, hc⟩ := row.2.2 (by omega)
            exact ⟨b', o', e, fun j hj => hc j (by omega)⟩⟩ (by omega)
          exact row_take this (Nat.le_refl _)
        have DONE : Hid (one (zs.drop p) = some r → R.getD j [] = r ∧ Hid (recsB (zs.drop (p + (8 + N))) = R.drop (j + 1)) ∧ Hid (p + (8 + N) = sizeR (R.take (j + 1))) ∧ Hid (j + 1 ≤ n) ∧ p + (8 + N) ≤ len) := Lib.hid fun ho => by
          obtain ⟨g1, g2, g3, g4⟩ := recs_drop HD.out ho
          refine ⟨?_, Lib.hid (by rw [← hrN]; exact g2), Lib.hid (by rw [sizeR_take g1, ← HP.out, hrN]), Lib.hid (by rw [← HN.out]; exact g4), by rw [← HL.out, ← hrN]; exact g3⟩
          have := List.drop_eq_getElem_cons g4
          rw [this] at g1
          injection g1 with a1 _
          simp [List.getD, g4, a1]
        have hif := frm_iff hbr (by rw [hN, hrl]; exact hNM)
        rw [hN, hr] at hif
        have hone : one (zs.drop p) = if crcN r = num4 ((zs.drop p).drop 4) then some r else none := by
          unfold one; rw [if_neg (by rw [hrl]; exact hM8), hN, if_neg (by rw [hrl]; exact hbad), hr]
        have FRM : Hid (∀ w4 ad cp, Fr.HasRow .u8 w4 ad N r → (ad = none → cp = 0) → Calls Tryz.prog 8 #[.slice ad N cp] w4 (FrameIt w4 r)) := Lib.hid fun w4 ad cp h hn => by
          have := rframe_any ad N cp r w4 hbrr h hn hN16
          rwa [List.take_of_length_le (by omega)] at this
        have RT : Hid (∀ wx, Below wr.heap.size wr wx → Fr.HasRow .u8 wx (some ⟨b, off + p, none⟩) (8 + N) ((zs.drop p).take (8 + N))) := Lib.hid fun wx hbx => row_take (row.keep hbx) hNM
        have BR := Lib.hid hbr; have BRR := Lib.hid hbrr
        have HIF := Lib.hid hif; have HONE := Lib.hid hone; have HRN := Lib.hid hrN
        have HM := Lib.hid hM; have HC := Lib.hid hC; have HN32 := Lib.hid hN32; have HRL := Lib.hid hrl; have HBAD := Lib.hid hbad
        clear hM hC row hrl hbad hN hbr hM8 hN32 hr hrN hbrr hif hone
        by_cases h8 : 8 = C
        · subst h8
          rw [show restA b (off + p) 8 8 = ⟨b, off + p, none⟩ from if_pos rfl] at row8
          have e9 : 8 + N - 8 = N := by omega
          have ROW8 := Lib.hid row8
          clear row8
          go_wp2_with fail
          go_quiet (fail)
          have OM : Hid (Ob.OwnB ((wr.drewN nq).alloc (.cells #[] 5)) wr.heap.size (.slice (some ⟨wr.heap.size, 0, none⟩) 0 0) []) := Lib.hid (Ob.own_made (wr.drewN nq) (Nat.le_refl _))
          have R8 : Hid (Fr.HasRow .u8 ((wr.drewN nq).alloc (.cells #[] 5)) (some ⟨b, off + p, none⟩) N r) := Lib.hid (ROW8.out.keep ((bel_dn (Below.refl _ _) nq).alloc (Nat.le_refl _) _))
          have BM : Hid (Below wr.heap.size wr ((wr.drewN nq).alloc (.cells #[] 5))) := Lib.hid ((bel_dn (Below.refl _ _) nq).alloc (Nat.le_refl _) _)
          go_wp2_with (at_builtin; go_loud (refine Ob.wp_apd rfl (.tmp 52) (.tmp 56) rfl wr.heap.size (.slice (some ⟨wr.heap.size, 0, none⟩) 0 0) [] rfl OM.out (some ⟨b, off + p, none⟩) (8 + N - 8) _ r rfl (by rw [e9]; exact R8.out) (fun h => by cases h) (by simp; omega) BM.out.size ?_); intro v4 w4 ho4 hb4; have HO4 : Hid (Ob.OwnB w4 wr.heap.size v4 r) := Lib.hid (by have h := ho4; rw [e9, List.nil_append, List.take_of_length_le (by rw [HRN.out]; exact Nat.le_refl _)] at h; exact h); have HB4 := Lib.hid (BM.out.trans hb4); clear ho4 hb4; obtain ⟨ad4, cp4, e4, hr4, hn4, _, _⟩ := Ob.own_row HO4.out; rw [HRN.out] at e4 hr4; subst e4; have HR4 := Lib.hid hr4; clear hr4)
          refine (FRM.out w4 ad4 cp4 HR4.out hn4).mono ?_
          rintro e w5 ⟨v5, rfl, ho5, hb5⟩
          obtain ⟨ad5, cp5, rfl, hr5, _, _, _⟩ := Ob.own_row ho5
          have lf : (frm r).length = 8 + N := by rw [frm_length, HRN.out]
          have HB5 : Hid (Below wr.heap.size wr w5) := Lib.hid (HB4.out.trans (hb5.mono HB4.out.size))
          have HO5 := Lib.hid (Ob.own_keep HO4.out hb5)
          have hr6 := RT.out w5 HB5.out
          have kcA := fun k => conv_at (cap := cp5) (row_same (w' := w5.drewN k) hr5 fun _ => rfl)
          have kcB := fun k => conv_at (cap := 8) (row_same (w' := w5.drewN k) hr6 fun _ => rfl)
          rw [lf] at kcA ⊢
          rw [List.take_of_length_le (by rw [lf]; exact Nat.le_refl _)] at kcA
          rw [List.take_take, Nat.min_self] at kcB
          have LF := Lib.hid lf
          clear ho5 hb5 hr5 hr6 lf
          by_cases hcr : crcN r = num4 ((zs.drop p).drop 4)
          · have heq := HIF.out.2 hcr
            have ho : one (zs.drop p) = some r := by rw [HONE.out, if_pos hcr]
            rw [← heq] at kcB
            obtain ⟨St, hSt⟩ : ∃ St, strOfNums (frm r) = St := ⟨_, rfl⟩
            rw [hSt] at kcA kcB
            obtain ⟨k1, k2, k3, k4, k5⟩ := DONE.out ho
            have HG := Lib.hid k1
            clear hcr heq ho hSt k1
            go_wp2_with fail
            go_quiet (fail)
            obtain ⟨w6, hw6⟩ : ∃ w6, w6 = w5.drewN nq := ⟨_, rfl⟩
            rw [← hw6]
            have hb56 : Below w5.heap.size w5 w6 := by rw [hw6]; exact bel_dn (Below.refl _ _) _
            have hs6 : w.heap.size ≤ wr.heap.size := HBB.out.size
            have b6 : Below wr.heap.size wr w6 := HB5.out.trans (hb56.mono HB5.out.size)
            have B6 : Hid (Below w.heap.size w w6) := Lib.hid (HBB.out.trans (b6.mono hs6))
            have W6 := Lib.hid (was_grow HW.out b6)
            have O6 : Hid (Ob.OwnB w6 w.heap.size (.slice ad4 N cp4) (R.getD j [])) := Lib.hid (by rw [HG.out]; exact Joins.ownsRow_le (Ob.own_keep HO5.out hb56) hs6)
            have hba : Below w6.heap.size w6 (w6.alloc (.cells #[.slice ad4 N cp4] 22)) := (Below.refl _ _).alloc (Nat.le_refl _) _
            have W7 := Lib.hid (was_grow W6.out hba)
            have O7 : Hid (Ob.OwnB (w6.alloc (.cells #[.slice ad4 N cp4] 22)) w.heap.size (.slice ad4 N cp4) (R.getD j [])) := Lib.hid (ownB_move O6.out fun g cur a b => hba.block g (lt_of_heap b))
            have C7 : Hid ((w6.alloc (.cells #[.slice ad4 N cp4] 22)).cell? ⟨w6.heap.size, 0, none⟩ = some (.slice ad4 N cp4)) := Lib.hid (by rw [World.cell?_alloc_mark]; rfl)
            have B7 : Hid (Below w.heap.size w (w6.alloc (.cells #[.slice ad4 N cp4] 22))) := Lib.hid (B6.out.alloc B6.out.size _)
            have hjn1 : j + 1 ≤ n := k4.out
            have hjb : j ≤ 1048576 := by omega
            clear hw6 hb56 b6 hba kcA kcB
            go_wp2_with (at_builtin; go_loud (refine wp_was rfl (.tmp 73) (.tmp 75) rfl w.heap.size R j _ rfl W7.out hjb w6.heap.size (.slice ad4 N cp4) rfl rfl C7.out O7.out B7.out.size ?_); intro v8 w8 hw8 hv8 hg8 hk8; obtain ⟨ad8, cap8, rfl, hc8, hc8b⟩ := hv8; have W8 := Lib.hid hw8; have B8 : Hid (Below w.heap.size w w8) := Lib.hid (B7.out.trans ((Below.refl w.heap.size _).grown hg8 B7.out.size fun k hk => (hk8 k hk).1)); clear hw8 hg8 hk8)
            go_roundg (n + 1 - (j + 1))
            case measure => omega
            case rel => exact ⟨j + 1, p + (8 + N), ad8, cap8, by omega, by go_num, k5, by first | rfl | go_num, k4, W8, k2, k3, B8⟩
          · have hne : ¬ frm r = (zs.drop p).take (8 + N) := fun h => hcr (HIF.out.1 h)
            have ho : one (zs.drop p) = none := by rw [HONE.out, if_neg hcr]
            have hS : strOfNums (frm r) ≠ strOfNums ((zs.drop p).take (8 + N)) := fun h => hne (nums_inj (bytes_frm BRR.out) (bytes_take BR.out _) h)
            obtain ⟨S1, hS1⟩ : ∃ S1, strOfNums (frm r) = S1 := ⟨_, rfl⟩
            obtain ⟨S2, hS2⟩ : ∃ S2, strOfNums ((zs.drop p).take (8 + N)) = S2 := ⟨_, rfl⟩
            rw [hS1] at kcA hS; rw [hS2] at kcB hS
            have tS : (S1.toList == S2.toList) = false := by
              rw [ByteArray.toList_eq, ByteArray.toList_eq]
              simp only [beq_eq_false_iff_ne, ne_eq]
              intro h
              apply hS
              cases S1; cases S2; congr 1
              exact Array.ext' h
            have E1 := Lib.hid (E.out ho)
            clear hcr hne ho hS1 hS2 hS
            go_wp2_with fail
            go_quiet (fail)
            go_wp2_with fail
            go_ret2
            exact E1.out _ (by first | exact HB5.out | exact bel_dn HB5.out _)
        · rw [show restA b (off + p) 8 C = ⟨b, off + p + 8, none⟩ from if_neg h8] at row8
          obtain ⟨C8, hC8⟩ : ∃ C8, C - 8 = C8 := ⟨_, rfl⟩
          have e9 : 8 + N - 8 = N := by omega
          have ROW8 := Lib.hid row8
          clear row8
          go_wp2_with fail
          go_quiet (fail)
          have OM : Hid (Ob.OwnB ((wr.drewN nq).alloc (.cells #[] 5)) wr.heap.size (.slice (some ⟨wr.heap.size, 0, none⟩) 0 0) []) := Lib.hid (Ob.own_made (wr.drewN nq) (Nat.le_refl _))
          have R8 : Hid (Fr.HasRow .u8 ((wr.drewN nq).alloc (.cells #[] 5)) (some ⟨b, off + p + 8, none⟩) N r) := Lib.hid (ROW8.out.keep ((bel_dn (Below.refl _ _) nq).alloc (Nat.le_refl _) _))
          have BM : Hid (Below wr.heap.size wr ((wr.drewN nq).alloc (.cells #[] 5))) := Lib.hid ((bel_dn (Below.refl _ _) nq).alloc (Nat.le_refl _) _)
          go_wp2_with (at_builtin; go_loud (refine Ob.wp_apd rfl (.tmp 52) (.tmp 56) rfl wr.heap.size (.slice (some ⟨wr.heap.size, 0, none⟩) 0 0) [] rfl OM.out (some ⟨b, off + p + 8, none⟩) (8 + N - 8) C8 r rfl (by rw [e9]; exact R8.out) (fun h => by cases h) (by simp; omega) BM.out.size ?_); intro v4 w4 ho4 hb4; have HO4 : Hid (Ob.OwnB w4 wr.heap.size v4 r) := Lib.hid (by have h := ho4; rw [e9, List.nil_append, List.take_of_length_le (by rw [HRN.out]; exact Nat.le_refl _)] at h; exact h); have HB4 := Lib.hid (BM.out.trans hb4); clear ho4 hb4; obtain ⟨ad4, cp4, e4, hr4, hn4, _, _⟩ := Ob.own_row HO4.out; rw [HRN.out] at e4 hr4; subst e4; have HR4 := Lib.hid hr4; clear hr4)
          refine (FRM.out w4 ad4 cp4 HR4.out hn4).mono ?_
          rintro e w5 ⟨v5, rfl, ho5, hb5⟩
          obtain ⟨ad5, cp5, rfl, hr5, _, _, _⟩ := Ob.own_row ho5
          have lf : (frm r).length = 8 + N := by rw [frm_length, HRN.out]
          have HB5 : Hid (Below wr.heap.size wr w5) := Lib.hid (HB4.out.trans (hb5.mono HB4.out.size))
          have HO5 := Lib.hid (Ob.own_keep HO4.out hb5)
          have hr6 := RT.out w5 HB5.out
          have kcA := fun k => conv_at (cap := cp5) (row_same (w' := w5.drewN k) hr5 fun _ => rfl)
          have kcB := fun k => conv_at (cap := C) (row_same (w' := w5.drewN k) hr6 fun _ => rfl)
          rw [lf] at kcA ⊢
          rw [List.take_of_length_le (by rw [lf]; exact Nat.le_refl _)] at kcA
          rw [List.take_take, Nat.min_self] at kcB
          have LF := Lib.hid lf
          clear ho5 hb5 hr5 hr6 lf
          by_cases hcr : crcN r = num4 ((zs.drop p).drop 4)
          · have heq := HIF.out.2 hcr
            have ho : one (zs.drop p) = some r := by rw [HONE.out, if_pos hcr]
            rw [← heq] at kcB
            obtain ⟨St, hSt⟩ : ∃ St, strOfNums (frm r) = St := ⟨_, rfl⟩
            rw [hSt] at kcA kcB
            obtain ⟨k1, k2, k3, k4, k5⟩ := DONE.out ho
            have HG := Lib.hid k1
            clear hcr heq ho hSt k1
            go_wp2_with fail
            go_quiet (fail)
            obtain ⟨w6, hw6⟩ : ∃ w6, w6 = w5.drewN nq := ⟨_, rfl⟩
            rw [← hw6]
            have hb56 : Below w5.heap.size w5 w6 := by rw [hw6]; exact bel_dn (Below.refl _ _) _
            have hs6 : w.heap.size ≤ wr.heap.size := HBB.out.size
            have b6 : Below wr.heap.size wr w6 := HB5.out.trans (hb56.mono HB5.out.size)
            have B6 : Hid (Below w.heap.size w w6) := Lib.hid (HBB.out.trans (b6.mono hs6))
            have W6 := Lib.hid (was_grow HW.out b6)
            have O6 : Hid (Ob.OwnB w6 w.heap.size (.slice ad4 N cp4) (R.getD j [])) := Lib.hid (by rw [HG.out]; exact Joins.ownsRow_le (Ob.own_keep HO5.out hb56) hs6)
            have hba : Below w6.heap.size w6 (w6.alloc (.cells #[.slice ad4 N cp4] 22)) := (Below.refl _ _).alloc (Nat.le_refl _) _
            have W7 := Lib.hid (was_grow W6.out hba)
            have O7 : Hid (Ob.OwnB (w6.alloc (.cells #[.slice ad4 N cp4] 22)) w.heap.size (.slice ad4 N cp4) (R.getD j [])) := Lib.hid (ownB_move O6.out fun g cur a b => hba.block g (lt_of_heap b))
            have C7 : Hid ((w6.alloc (.cells #[.slice ad4 N cp4] 22)).cell? ⟨w6.heap.size, 0, none⟩ = some (.slice ad4 N cp4)) := Lib.hid (by rw [World.cell?_alloc_mark]; rfl)
            have B7 : Hid (Below w.heap.size w (w6.alloc (.cells #[.slice ad4 N cp4] 22))) := Lib.hid (B6.out.alloc B6.out.size _)
            have hjn1 : j + 1 ≤ n := k4.out
            have hjb : j ≤ 1048576 := by omega
            clear hw6 hb56 b6 hba kcA kcB
            go_wp2_with (at_builtin; go_loud (refine wp_was rfl (.tmp 73) (.tmp 75) rfl w.heap.size R j _ rfl W7.out hjb w6.heap.size (.slice ad4 N cp4) rfl rfl C7.out O7.out B7.out.size ?_); intro v8 w8 hw8 hv8 hg8 hk8; obtain ⟨ad8, cap8, rfl, hc8, hc8b⟩ := hv8; have W8 := Lib.hid hw8; have B8 : Hid (Below w.heap.size w w8) := Lib.hid (B7.out.trans ((Below.refl w.heap.size _).grown hg8 B7.out.size fun k hk => (hk8 k hk).1)); clear hw8 hg8 hk8)
            go_roundg (n + 1 - (j + 1))
            case measure => omega
            case rel => exact ⟨j + 1, p + (8 + N), ad8, cap8, by omega, by go_num, k5, by first | rfl | go_num, k4, W8, k2, k3, B8⟩
          · have hne : ¬ frm r = (zs.drop p).take (8 + N) := fun h => hcr (HIF.out.1 h)
            have ho : one (zs.drop p) = none := by rw [HONE.out, if_neg hcr]
            have hS : strOfNums (frm r) ≠ strOfNums ((zs.drop p).take (8 + N)) := fun h => hne (nums_inj (bytes_frm BRR.out) (bytes_take BR.out _) h)
            obtain ⟨S1, hS1⟩ : ∃ S1, strOfNums (frm r) = S1 := ⟨_, rfl⟩
            obtain ⟨S2, hS2⟩ : ∃ S2, strOfNums ((zs.drop p).take (8 + N)) = S2 := ⟨_, rfl⟩
            rw [hS1] at kcA hS; rw [hS2] at kcB hS
            have tS : (S1.toList == S2.toList) = false := by
              rw [ByteArray.toList_eq, ByteArray.toList_eq]
              simp only [beq_eq_false_iff_ne, ne_eq]
              intro h
              apply hS
              cases S1; cases S2; congr 1
              exact Array.ext' h
            have E1 := Lib.hid (E.out ho)
            clear hcr hne ho hS1 hS2 hS
            go_wp2_with fail
            go_quiet (fail)
            go_wp2_with fail
            go_ret2
            exact E1.out _ (by first | exact HB5.out | exact bel_dn HB5.out _)
end Go.Proofs.YtdonkmkjblofpaaGreatDoor.Wl

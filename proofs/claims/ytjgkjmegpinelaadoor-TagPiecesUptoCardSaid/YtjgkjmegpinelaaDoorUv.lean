/-
  Layer 7: the law on frames that come in pieces.
-/
import Derived.Test.YtjgkjmegpinelaaDoorUt
namespace Go.Proofs.YtjgkjmegpinelaaDoor.Tg
open Go.RowKit Go.Shelf Dx Sx Rf
set_option linter.unusedVariables false
set_option linter.unusedSimpArgs false
attribute [local go_sem] Oper.semAt_some

set_option maxRecDepth 100000 in
set_option maxHeartbeats 8000000 in
theorem pieces_walk (a : Option Addr) (len cap : Nat) (R : List FRow) (a1 : Option Addr) (len1 cap1 : Nat) (z1 : List Int) (w : World) (hF : HasFs w a R ∧ R.length = len ∧ len ≤ cap ∧ (a = none → cap = 0)) (hB : Fr.IsRow .i64 w a1 len1 cap1 z1) (hc1 : cap1 ≤ 1048576) (he : Env w) :
    Calls Tryd.prog 7 #[.slice a len cap, .slice a1 len1 cap1] w fun e w' => e = .returned (.bool true) ∧ Below w.heap.size w w' := by
  obtain ⟨hF, hl, hlc, hn⟩ := hF
  have hbc : len1 ≤ cap1 ∧ (a1 = none → cap1 = 0) := by
    rcases hB with ⟨rfl, rfl, rfl, rfl⟩ | ⟨x, rfl, h1, h2, h3, h4, h5⟩
    · exact ⟨Nat.le_refl _, fun _ => rfl⟩
    · exact ⟨h1, fun h => by cases h⟩
  have hwz : ∀ j, j < len1 → -9223372036854775808 ≤ z1.getD j 0 ∧ z1.getD j 0 ≤ 9223372036854775807 := by
    rcases hB with ⟨rfl, rfl, rfl, rfl⟩ | ⟨x, rfl, h1, h2, h3, h4, h5⟩
    · intro j hj; omega
    · intro j hj
      have hlt : j < z1.length := by omega
      have := bounds_i64 (h5 z1[j] (List.getElem_mem hlt))
      simpa [List.getD, hlt] using this
  obtain ⟨hlc1, hn1⟩ := hbc
  have hrow1 := hB.has
  have hml1 := hrow1.1
  have HF := Lib.hid hF; have HL := Lib.hid hl; have HE := Lib.hid he; have HNC := Lib.hid hn; have HZ := Lib.hid hrow1; have HN1 := Lib.hid hn1; have HWZ := Lib.hid hwz
  clear hF hl he hn hB hrow1 hn1 hwz
  obtain ⟨N, hN⟩ : ∃ N, N = w.heap.size := ⟨_, rfl⟩
  obtain ⟨W0, hW0⟩ : ∃ W0, W0 = w.alloc (.cells #[.bool false] 4) := ⟨_, rfl⟩
  have b0 : Below N w W0 := by rw [hW0, hN]; exact (Below.refl _ _).alloc (Nat.le_refl _) _
  have r0 : Bx W0 N (.bool false) 4 := by
    rw [hW0, hN]
    exact Bx.new w _ _
  have HN := Lib.hid hN; have HW0 := Lib.hid hW0; have B0 := Lib.hid b0; have R0 := Lib.hid r0
  have hz0 : N + 1 ≤ W0.heap.size := r0.lt
  clear b0 r0 hN hW0
  refine calls_marks Tryd.func7 rfl ?_
  simp only [Tryd.ntmps7, List.size_toArray, List.length_cons, List.length_nil, Nat.reduceAdd, Nat.reduceSub, Array.replicate_succ, Array.replicate_zero, List.push_toArray, List.append_toArray, List.nil_append, List.cons_append]
  rw [← HN.out]
  go_wp2_with fail
  rw [← HN.out, ← HW0.out]
  clear HW0
  have KW : Hid (∀ W, Below N w W → Env W ∧ HasFs W a R ∧ Fr.HasRow .i64 W a1 len1 z1) := Lib.hid fun W h => by
    have h' : Below w.heap.size w W := by have := h; rwa [HN.out] at this
    exact ⟨HE.out.keep h', HF.out.keep h', HZ.out.keep h'⟩
  refine (wakes_any _ (KW.out _ B0.out).1.pow).mono ?_
  rintro e w1 ⟨rfl, hb1⟩
  have B1 : Hid (Below N w w1) := Lib.hid (B0.out.trans (hb1.mono (by omega)))
  have R1 := Lib.hid (R0.out.keep hb1)
  have hz1 : N + 1 ≤ w1.heap.size := Nat.le_trans hz0 hb1.size
  clear hb1 R0 B0 hz0 W0
  by_cases hbig : 50 < len
  · have d1 : decide ((50 : Int) < (len : Int)) = true := by rw [decide_eq_true_eq]; omega
    have rc := R1.out.cell; have rf := R1.out.free
    go_wp2
    exact ret_true rfl rfl (marks_nil _) (fun d hd => by cases hd) (R1.out.set _) (B1.out.setCell (p := ⟨N, 0, none⟩) (Nat.le_refl _) _)
  have d1 : decide ((50 : Int) < (len : Int)) = false := by rw [decide_eq_false_iff_not]; omega
  go_wp2_with fail
  clear d1
  go_loopg [5, 27] len (fun m v i wr => ∃ k : Nat, k + m = len ∧ i = .int .i64 (k : Int) ∧ Hid (OwnG wr (N + 1) v (enB (validL (R.take k)))) ∧ Hid (∀ j, j < k → sizeF (R.getD j fr0).F ≤ 32768) ∧ Hid (Bx wr N (.bool false) 4) ∧ Hid (Below N w wr))
  case atStart => exact ⟨0, by omega, rfl, Lib.hid (.inl ⟨rfl, rfl⟩), Lib.hid (fun j hj => by omega), R1, B1⟩
  case round =>
    obtain ⟨k, hk, rfl, HO, HS, HR, HB⟩ := hrel
    have hzr : N + 1 ≤ wr.heap.size := HR.out.lt
    obtain ⟨aA, cA, hv, hrA, hnA, hlA, hmA⟩ := HO.out.row
    obtain ⟨n, hnn⟩ : ∃ n, (enB (validL (R.take k))).length = n := ⟨_, rfl⟩
    have hn5 : n ≤ 250000 := by
      have h1 := enB_size (validL (R.take k)) (validL_ok _)
      have h2 := validL_len (R.take k)
      rw [List.length_take, HL.out] at h2
      omega
    rw [hnn] at hv hlA
    subst hv
    by_cases hlt : k < len
    · obtain ⟨b, off, rfl, c0, ok⟩ := (KW.out _ HB.out).2.1.at (show k < R.length by rw [HL.out]; exact hlt)
      have hyes := fun h => validL_yes (R := R) (k := k) (by rw [HL.out]; exact hlt) h
      have hno := fun h => validL_no (R := R) (k := k) (by rw [HL.out]; exact hlt) h
      have HS2 : Hid (∀ h : sizeF (R.getD k fr0).F ≤ 32768, ∀ j, j < k + 1 → sizeF (R.getD j fr0).F ≤ 32768) := Lib.hid fun h j hj => by
        rcases Nat.lt_or_ge j k with h1 | h1
        · exact HS.out j h1
        · obtain rfl : j = k := by omega
          exact h
      generalize R.getD k fr0 = r at *
      obtain ⟨ra, rcap, F⟩ := r
      simp only at c0 ok hyes hno HS2
      obtain ⟨l, hl⟩ : ∃ l, F.length = l := ⟨_, rfl⟩
      rw [hl] at c0
      have hF1 := ok.has; have hw1 := ok.wf
      have HYES := Lib.hid hyes; have HNO := Lib.hid hno; have HLL := Lib.hid hl; have HF1 := Lib.hid hF1; have HW1 := Lib.hid hw1; have HNN := Lib.hid hnn; have HNA := Lib.hid hnA
      have i0 : (k : Int) < (len : Int) := by omega
      clear hyes hno hl hF1 hw1 ok hrA hnn hnA HS
      go_wp2_with fail
      refine (long_any ra l rcap F wr HF1.out HLL.out HW1.out).mono ?_
      rintro e w3 ⟨lb, rfl, hb3, hsh⟩
      have B3 : Hid (Below N w w3) := Lib.hid (HB.out.trans (hb3.mono (by omega)))
      have R3 := Lib.hid (HR.out.keep hb3); have O3 := Lib.hid (HO.out.keep hb3); have F3 := Lib.hid (HF1.out.keep hb3)
      have hz3 : N + 1 ≤ w3.heap.size := Nat.le_trans hzr hb3.size
      clear hb3 HR HO HB
      cases lb with
      | true =>
        have rc := R3.out.cell; have rf := R3.out.free
        go_wp2
        exact ret_true rfl rfl (marks_nil _) (fun d hd => by cases hd) (R3.out.set _) (B3.out.setCell (p := ⟨N, 0, none⟩) (Nat.le_refl _) _)
      | false =>
        have hs1 := hsh rfl
        have SZ := Lib.hid (HS2.out hs1)
        have OK := Lib.hid (okF_of HW1.out hs1)
        clear hsh hs1 HS2
        go_wp2_with fail
        refine (encode_any ra l rcap F w3 F3.out HLL.out OK.out (KW.out _ B3.out).1.pow).mono ?_
        rintro e w4 ⟨vb, rfl, hob, hb4⟩
        have B4 : Hid (Below N w w4) := Lib.hid (B3.out.trans (hb4.mono (by omega)))
        have R4 := Lib.hid (R3.out.keep hb4); have O4 := Lib.hid (O3.out.keep hb4)
        have hz4 : N + 1 ≤ w4.heap.size := Nat.le_trans hz3 hb4.size
        clear hb4 R3 O3 B3
        by_cases hv : validE F = 0
        · obtain ⟨_, h2⟩ := enc_ok hv
          have hsm := (frm_small hv).1
          have hnx := HYES.out hv
          rw [h2] at hob ⊢
          simp only at hob ⊢
          obtain ⟨ab, cb, hvb, hrb, hnb, hlb, hmb⟩ := hob.row
          obtain ⟨lf, hlf⟩ : ∃ lf, (frm (bodyL F)).length = lf := ⟨_, rfl⟩
          rw [hlf] at hvb hlb hsm
          subst hvb
          have hnx2 : enB (validL (R.take k)) ++ frm (bodyL F) = enB (validL (R.take (k + 1))) := by rw [hnx, enB_append]; simp [enB]
          have NX := Lib.hid hnx2; have RB := Lib.hid hrb; have NB := Lib.hid hnb; have LF := Lib.hid hlf
          clear h2 hv hob hrb hnb hlf hnx hnx2
          generalize frm (bodyL F) = fb at *
          go_wp2_with (at_builtin; refine wp_apd_row rfl (.tmp 40) (.tmp 41) rfl (N + 1) _ (enB (validL (List.take k R))) fb rfl O4.out _ _ _ rfl RB.out LF.out NB.out (by have := HNN.out; have := LF.out; omega) hz4 ?_; intro v5 w5 ho5 hg5 hb5; have O5 : Hid (OwnG w5 (N + 1) v5 (enB (validL (R.take (k + 1))))) := Lib.hid (by rw [← NX.out]; exact ho5); have R5 : Hid (Bx w5 N (.bool false) 4) := Lib.hid ((hb5.block N (Nat.lt_succ_self N)).trans R4.out); have B5 : Hid (Below N w w5) := Lib.hid (B4.out.trans (hb5.mono (Nat.le_succ N))); clear ho5 hg5 hb5)
          go_roundg (len - (k + 1))
          case measure => omega
          case rel => exact ⟨k + 1, by omega, by go_num, O5, SZ, R5, B5⟩
        · obtain ⟨_, h2⟩ := enc_err hv
          have hnx := HNO.out hv
          rw [h2] at hob ⊢
          simp only at hob ⊢
          obtain ⟨ab, cb, rfl, _⟩ := hob.row
          have O5 : Hid (OwnG w4 (N + 1) (.slice aA n cA) (enB (validL (R.take (k + 1))))) := Lib.hid (by rw [hnx]; exact O4.out)
          have hne : (validE F == 0) = false := by simpa using hv
          clear h2 hv hob hnx
          generalize validE F = E at *
          go_wp2
          go_roundg (len - (k + 1))
          case measure => omega
          case rel => exact ⟨k + 1, by omega, by go_num, O5, SZ, R4, B4⟩
    · obtain rfl : k = len := by omega
      rw [List.take_of_length_le (by rw [HL.out]; exact Nat.le_refl _)] at hnn hrA
      have HO2 : Hid (OwnG wr (N + 1) (.slice aA n cA) (enB (validL R))) := Lib.hid (by have := HO.out; rwa [List.take_of_length_le (by rw [HL.out]; exact Nat.le_refl _)] at this)
      have HNN := Lib.hid hnn; have HNA := Lib.hid hnA
      clear hnn hrA hnA HO R1 B1
      obtain ⟨q, hq⟩ : ∃ q, q = wr.heap.size := ⟨_, rfl⟩
      obtain ⟨wg, hwg⟩ : ∃ wg, wg = wr.alloc (.cells #[.slice none 0 0] 45) := ⟨_, rfl⟩
      have hzg : wg.heap.size = q + 1 := by rw [hwg, World.size_alloc, hq]
      have hbg : Below wr.heap.size wr wg := by rw [hwg]; exact (Below.refl _ _).alloc (Nat.le_refl _) _
      have hxg : Bx wg q (.slice none 0 0) 45 := by rw [hwg, hq]; exact Bx.new wr _ _
      have hlit : OwnN (wg.alloc (.cells #[] 3)) (q + 1) (.slice (some ⟨wr.heap.size + 1, 0, none⟩) 0 0) [] := by
        have := own_empty_n wg (q + 1) (by omega)
        rw [hzg] at this
        rw [show wr.heap.size + 1 = q + 1 by omega]
        exact this
      have hbl : Below (q + 1) wg (wg.alloc (.cells #[] 3)) := (Below.refl _ _).alloc (by omega) _
      have hrow1 := (KW.out _ ((HB.out.trans (hbg.mono (by omega))).trans (hbl.mono (by omega)))).2.2
      rw [hwg] at hlit hrow1
      have HLIT := Lib.hid hlit; have HROW := Lib.hid hrow1; have HBL := Lib.hid hbl; have HXG := Lib.hid hxg; have HBG := Lib.hid hbg; have HWG := Lib.hid hwg; have HQ := Lib.hid hq
      have hqN : N + 1 ≤ q := by omega
      have hzl : (wg.alloc (.cells #[] 3)).heap.size = q + 2 := by rw [World.size_alloc]; omega
      rw [hwg] at hzl
      clear hlit hrow1 hbl hxg hbg hwg hq
      go_wp2_with (first
        | (at_builtin; refine wp_apd_ints rfl (.tmp 44) (.tmp 45) rfl (q + 1) _ [] rfl HLIT.out _ _ _ z1 rfl HROW.out HN1.out (by simp; omega) (by omega) ?_; intro v5 w5 ho5 hg5; have HO5 := Lib.hid ho5; have HB5 : Hid (Below (q + 1) wg w5) := Lib.hid (by have hbl := HBL.out; rw [HWG.out] at hbl ⊢; exact hbl.grown hg5 (by omega) (fun k hk => by have e : wr.heap.size + 1 = k := Option.some.inj hk; have := HQ.out; omega)); clear ho5 hg5)
        | (at_builtin; go_must (refine wp_apd_ints rfl (.tmp 46) (.tmp 49) rfl (q + 1) _ ([] ++ z1.take len1) rfl (HO5.out.keep ((Below.refl _ _).alloc (Nat.le_refl _) _)) _ _ _ [(n : Int)] rfl (lit_int w5 n _ _ rfl) (fun h => by cases h) (by simp; omega) (by rw [World.size_alloc]; have := HB5.out.size; omega) ?_; intro v6 w6 ho6 hg6; have HO6 : Hid (OwnN w6 (q + 1) v6 (z1.take len1 ++ [(n : Int)])) := Lib.hid ho6; have HB6 : Hid (Below (q + 1) wg w6) := Lib.hid (Below.grown (HB5.out.alloc (by have := HB5.out.size; omega) _) hg6 (by rw [World.size_alloc]; have := HB5.out.size; omega) (OwnN.own_ge HO5.out)); clear ho6 hg6; obtain ⟨aI, cI, hv6, hcI⟩ := HO6.out.slice; obtain ⟨CS, hCS⟩ : ∃ CS, CS = z1.take len1 ++ [(n : Int)] := ⟨_, rfl⟩; have hcsl : CS.length = len1 + 1 := (by rw [hCS, List.length_append, List.length_take, List.length_singleton]; omega); rw [← hCS, hcsl] at hv6; subst hv6)))
      rw [← HQ.out]
      clear HLIT HROW HO5 HB5 hzl
      have HB7 : Hid (Below q wr w6) := Lib.hid ((HBG.out.trans (by have := HB6.out.mono (Nat.le_succ q); rwa [show q = wr.heap.size from HQ.out] at this)).mono (by have := HQ.out; omega))
      have hqe := HQ.out
      have bx6 : Bx w6 q (.slice none 0 0) 45 := (HB6.out.block q (Nat.lt_succ_self q)).trans HXG.out
      have b76 : Below wr.heap.size wr w6 := by have := HB7.out; rwa [hqe] at this
      have st0 : St2 N q n cA cI aA aI (validL R) CS w w6 0 0 [] none [] 0 [] := {
        bel := HB.out.trans (HB7.out.mono (by omega))
        res := HR.out.keep b76
        box := ⟨_, bx6, World.ownsRow_nil _ _ _ _, fun x hx => by cases hx⟩
        all := HO2.out.keep b76
        ints := by rw [hcsl]; have := HO6.out; rw [← hCS] at this; exact own_low7 this (by omega)
        row := HasL.nil7 _ _
        nil := fun _ => rfl
        le := Nat.le_refl _
        gs := rfl
        gl := Nat.zero_le _
        tl := Nat.zero_le _
        rest := by simp
        marks := marks_nil _
        low := fun d hd => by cases hd }
      have ST0 := Lib.hid st0
      have HCB : Hid (∀ j, j < len1 + 1 → -9223372036854775808 ≤ CS.getD j 0 ∧ CS.getD j 0 ≤ 9223372036854775807) := Lib.hid fun j hj => by
        rw [hCS]
        rcases Nat.lt_or_ge j len1 with h1 | h1
        · have := HWZ.out j h1
          have e : (z1.take len1 ++ [(n : Int)]).getD j 0 = z1.getD j 0 := by
            rw [List.getD, List.getElem?_append_left (by rw [List.length_take]; omega), List.getElem?_take, if_pos h1]; rfl
          rw [e]; exact this
        · obtain rfl : j = len1 := by omega
          have e : (z1.take j ++ [(n : Int)]).getD j 0 = n := by
            simp [List.getD, List.getElem?_append_right, List.length_take, Nat.min_eq_left hml1]
          rw [e]; omega
      have HCE : Hid (CS.getD len1 0 = (n : Int)) := Lib.hid (by
        rw [hCS]
        simp [List.getD, List.getElem?_append_right, List.length_take, Nat.min_eq_left hml1])
      have HCL := Lib.hid hcsl
      clear bx6 b76 st0 hCS HB6 HB7 HO6 HO2 HXG HBG HWG HWZ HQ hqe HZ HN1 hcsl hzg
      refine wp_loop_ghost_k (fun (m : Nat) (a' : Act) (wx : World) => ∃ (u12x u13x u15x u52x u53x u54x u55x u56x u57x u58x u59x u60x u61x u62x u63x u64x u65x u66x u67x u68x u69x u70x u71x u72x u73x u74x u75x u84x u85x u86x u87x u88x u89x u90x u91x : Value) (ds : List Deferred), Rel2 N q n cA cI aA aI (validL R) CS w m u52x u12x u13x ds wx ∧ a' = { tmps := #[Value.slice a k cap, Value.slice a1 len1 cap1, undef, undef, Value.pointer (some { block := N, off := 0 }), Value.slice aA n cA, undef, u7, u8, u9, Value.int IntKind.i64 0, Value.pointer (some { block := q, off := 0 }), u12x, u13x, undef, u15x, undef, undef, undef, undef, Value.bool true, Value.bool false, Value.slice a k cap, Value.int IntKind.i64 (k : Int), Value.bool false, Value.slice a k cap, Value.int IntKind.i64 (k : Int), Value.int IntKind.i64 (k : Int), Value.bool false, u29, u30, u31, u32, u33, u34, u35, u36, u37, u38, u39, u40, u41, u42, u43, Value.slice (some { block := q + 1, off := 0 }) 0 0, Value.slice a1 len1 cap1, v5, Value.slice aA n cA, Value.int IntKind.i64 (n : Int), Value.slice (some { block := w5.heap.size, off := 0 }) 1 1, Value.slice aI (len1 + 1) cI, Value.int IntKind.i64 ((len1 : Int) + 1), u52x, u53x, u54x, u55x, u56x, u57x, u58x, u59x, u60x, u61x, u62x, u63x, u64x, u65x, u66x, u67x, u68x, u69x, u70x, u71x, u72x, u73x, u74x, u75x, undef, undef, undef, undef, undef, undef, undef, undef, u84x, u85x, u86x, u87x, u88x, u89x, u90x, u91x, undef, undef, undef, undef, undef, undef, undef, undef, undef, undef, undef, undef, undef, undef, undef, undef, undef, undef, undef, undef, undef, undef, undef, undef, undef, undef, undef, undef, undef, undef, undef, undef, undef, undef], defers := ds }) (len1 + 1) ⟨_, _, _, _, _, _, _, _, _, _, _, _, _, _, _, _, _, _, _, _, _, _, _, _, _, _, _, _, _, _, _, _, _, _, _, [], ⟨0, 0, 0, [], none, [], 0, 0, by have := HCL.out; omega, rfl, rfl, rfl, Lib.hid rfl, Lib.hid (fun h => by have := HCL.out; omega), ST0⟩, rfl⟩ ?_
      intro gk _ wy hinv
      obtain ⟨u12x, u13x, u15x, u52x, u53x, u54x, u55x, u56x, u57x, u58x, u59x, u60x, u61x, u62x, u63x, u64x, u65x, u66x, u67x, u68x, u69x, u70x, u71x, u72x, u73x, u74x, u75x, u84x, u85x, u86x, u87x, u88x, u89x, u90x, u91x, ds, hrel, ha⟩ := hinv
      subst ha
      obtain ⟨j, t, g, xs, al, LL, L, cl, hj, rfl, rfl, rfl, HLL, HLAST, HT⟩ := hrel
      rw [HCL.out] at hj
      intro _ _ _ _
      dsimp only
      clear ST0 HB HR
      have hzy : N + 1 ≤ wy.heap.size := HT.out.res.lt
      have hVL : (validL R).length ≤ 50 := by have := validL_len R; rw [HL.out] at this; omega
      have HVL := Lib.hid hVL
      by_cases hlt : j < len1 + 1
      · obtain ⟨gI, rfl, cc0⟩ := HT.out.ints.at rfl (show j < CS.length by rw [HCL.out]; exact hlt)
        have hcb := HCB.out j hlt
        have HCJ : Hid (j = len1 → CS.getD j 0 = (n : Int)) := Lib.hid (fun e => by rw [e]; exact HCE.out)
        generalize CS.getD j 0 = c at *
        have htl := HT.out.tl
        have i0 : (j : Int) < (len1 : Int) + 1 := by omega
        by_cases hskip : c < (t : Int) ∨ (n : Int) < c
        · have HLAST2 : Hid (j + 1 = CS.length → g = (validL R).length ∧ LL = []) := Lib.hid (fun h => by
            rw [HCL.out] at h
            have := HCJ.out (by omega)
            omega)
          by_cases hs1 : c < (t : Int)
          · have d1 : decide (c < (t : Int)) = true := by rw [decide_eq_true_eq]; exact hs1
            go_wp2
            go_roundg (len1 - j)
            case measure => omega
            case rel => exact ⟨j + 1, t, g, xs, al, LL, L, cl, by rw [HCL.out]; omega, by go_num, rfl, rfl, HLL, HLAST2, HT⟩
          · have d1 : decide (c < (t : Int)) = false := by rw [decide_eq_false_iff_not]; exact hs1
            have d2 : decide ((n : Int) < c) = true := by rw [decide_eq_true_eq]; omega
            go_wp2
            go_roundg (len1 - j)
            case measure => omega
            case rel => exact ⟨j + 1, t, g, xs, al, LL, L, cl, by rw [HCL.out]; omega, by go_num, rfl, rfl, HLL, HLAST2, HT⟩
        · obtain ⟨c', rfl⟩ : ∃ c' : Nat, c = (c' : Int) := ⟨c.toNat, by omega⟩
          have h1 : t ≤ c' := by omega
          have h2 : c' ≤ n := by omega
          have d1 : decide ((c' : Int) < (t : Int)) = false := by rw [decide_eq_false_iff_not]; omega
          have d1n : decide (c' < t) = false := by rw [decide_eq_false_iff_not]; omega
          have d2 : decide ((n : Int) < (c' : Int)) = false := by rw [decide_eq_false_iff_not]; omega
          have d2n : decide (n < c') = false := by rw [decide_eq_false_iff_not]; omega
          obtain ⟨hrA, hlA, hnA, hcA, _⟩ := HT.out.all.rowE
          obtain ⟨ad, c1, p1, p2, p3, p4, p5, p6⟩ := part_any hlA hcA hnA h1 h2
          obtain ⟨PP, hPP⟩ : ∃ PP, ((enB (validL R)).drop t).take (c' - t) = PP := ⟨_, rfl⟩
          have hPL : PP.length = c' - t := by rw [← hPP, List.length_take, List.length_drop]; omega
          obtain ⟨hxl, m, m1, m2, m3, m4, m5⟩ := cut_math (validL_ok R) hlA HT.out.gl hVL h1 h2 hPP HT.out.rest
          rw [hPP] at p6
          have HROWL : Hid (∀ wx, Below wy.heap.size wy wx → HasL wx al LL) := Lib.hid fun wx hb => HT.out.row.keep hb
          have HROWP : Hid (∀ wx, Below wy.heap.size wy wx → HasL wx ad PP) := Lib.hid fun wx hb => p6 wx (hrA.keep hb)
          have hll : LL.length + PP.length ≤ 250000 := by rw [List.length_append] at hxl; exact hxl
          have HPL := Lib.hid hPL; have HNIL := Lib.hid HT.out.nil; have HPN := Lib.hid p3; have HXL := Lib.hid hxl; have HLLP := Lib.hid hll
          have HM : Hid (g + m ≤ (validL R).length ∧ (framesS (LL ++ PP)).1 = (((validL R).drop g).take m).map (fun F => (F, (0 : Int))) ∧ (framesS (LL ++ PP)).2 ≤ (LL ++ PP).length ∧ (LL ++ PP).drop ((LL ++ PP).length - (framesS (LL ++ PP)).2) ++ (enB (validL R)).drop c' = enB ((validL R).drop (g + m)) ∧ (c' = n → g + m = (validL R).length ∧ (LL ++ PP).drop ((LL ++ PP).length - (framesS (LL ++ PP)).2) = [])) := Lib.hid ⟨m1, m2, m3, m4, m5⟩
          clear hrA hlA hnA hPP hPL p1 p2 p3 p6 m1 m2 m3 m4 m5 hxl hll hskip hVL hcb
          have KS : Hid (∀ wx, Below wy.heap.size wy wx → Below wy.heap.size wy wx ∧ wy.heap.size ≤ wx.heap.size) := Lib.hid fun wx hb => ⟨hb, hb.size⟩
          have hby : Below wy.heap.size wy wy := Below.refl _ _
          go_wp2_with fail
          go_region_held3 (fun wx => Below wy.heap.size wy wx ∧ wy.heap.size ≤ wx.heap.size)
            (first | (refine KS.out _ ?_; first | assumption | exact below_alloc7 (by assumption) (Nat.le_refl _) | exact Below.drew (by assumption) | exact Below.drew (below_alloc7 (by assumption) (Nat.le_refl _))) | (go_split_ands; refine KS.out _ ?_; first | assumption | exact below_alloc7 (by assumption) (Nat.le_refl _) | exact Below.drew (by assumption) | exact Below.drew (below_alloc7 (by assumption) (Nat.le_refl _))))
            (first
              | (go_split_ands; refine step_apd7 (by rfl) (.tmp 65) (.tmp 66) (by rfl) wy wy.heap.size (by assumption) _ [] (by rfl) (own_lit_drew _ _ (Nat.le_refl _)) al L cl LL (by rfl) (HROWL.out _ (by assumption)) HLL.out HNIL.out (by have := HLLP.out; simp; omega) (Nat.le_refl _) ?_; intro v7 w7 ho7 hb7 hg7)
              | (go_split_ands; refine step_apd7 (by rfl) (.tmp 67) (.tmp 71) (by rfl) wy wy.heap.size (by assumption) v7 ([] ++ LL) (by rfl) ho7 ad (c' - t) c1 PP (by rfl) (HROWP.out _ (by assumption)) HPL.out HPN.out (by have := HLLP.out; simp; omega) (Nat.le_refl _) ?_; intro v8 w8 ho8 hb8 hg8)
              | fail)
          have hb8z := hb8.size
          obtain ⟨X, hX⟩ : ∃ X, LL ++ PP = X := ⟨_, rfl⟩
          obtain ⟨L8, hL8⟩ : ∃ L8, X.length = L8 := ⟨_, rfl⟩
          rw [List.nil_append, hX] at ho8
          have HM2 := HM.out
          rw [hX, hL8] at HM2
          have hX8 : L8 ≤ 250000 := by have := HXL.out; rw [hX, hL8] at this; exact this
          obtain ⟨a8, c8, hv8, hr8, hn8, hc8, _⟩ := ho8.row
          rw [hL8] at hv8 hc8
          subst hv8
          obtain ⟨vg, hbox, hox⟩ := HT.out.box
          have B8 : Hid (Below N w w8) := Lib.hid (HT.out.bel.trans (hb8.mono (by omega)))
          have R8 := Lib.hid (HT.out.res.keep hb8); have X8 := Lib.hid (hbox.keep hb8); have G8 := Lib.hid (hox.keep hb8); have A8 := Lib.hid (HT.out.all.keep hb8); have N8 := Lib.hid (HT.out.ints.keep hb8)
          have M8 := Lib.hid (marks_keep HT.out.marks hb8); have O8 := Lib.hid ho8; have HLX := Lib.hid hL8; have HR8 := Lib.hid hr8; have HN8 := Lib.hid hn8
          have HM3 := Lib.hid HM2
          have HLOW := Lib.hid HT.out.low; have HGS := Lib.hid HT.out.gs; have HGL := Lib.hid HT.out.gl
          clear hb8 hg8 ho7 hb7 hg7 hr8 hn8 hL8 hox hbox ho8 HM HM2 HROWL HROWP HXL HLLP HPL HPN HNIL HLL HLAST KS hby p4 p5 d1 d1n d2 d2n HT
          go_wp2_with fail
          refine (tframes_any a8 L8 c8 X w8 HR8.out HLX.out HN8.out (by omega)).mono ?_
          rintro e w9 ⟨p, vc, rfl, hp, hbx, hoc, hb9⟩
          obtain ⟨gc, cc, hvc, hrc, _, hcc, _⟩ := hoc.row
          rw [HLX.out] at hvc hcc
          subst hvc
          have hz9 := hb9.size
          have B9 : Hid (Below N w w9) := Lib.hid (B8.out.trans (hb9.mono (by omega)))
          have R9 := Lib.hid (R8.out.keep hb9); have X9 := Lib.hid (X8.out.keep hb9); have G9 := Lib.hid (G8.out.keep hb9); have A9 := Lib.hid (A8.out.keep hb9); have N9 := Lib.hid (N8.out.keep hb9)
          have M9 := Lib.hid (marks_keep M8.out hb9); have O9 := Lib.hid (O8.out.keep hb9)
          have P9 : Hid (Bx w9 p (.slice gc L8 cc) 25) := Lib.hid hbx
          have C9 := Lib.hid hoc
          have hq9 : q < w9.heap.size := X9.out.lt
          have hpq : p ≠ q := fun e => by
            have h1 := P9.out; have h2 := X9.out
            rw [e] at h1
            have h3 := Option.some.inj (h1.symm.trans h2)
            injection h3 with _ h4 _
            exact absurd h4 (by decide)
          clear hb9 hbx hoc hrc B8 R8 X8 G8 A8 N8 M8 O8 HR8
          go_wp2_with fail
          refine wp_frames p gc L8 cc X rfl rfl HLX.out hcc (by omega) P9.out (I9 w9 (N + 1) q xs) (fun _ _ _ => False) (I9.stands hq9) (fun _ _ _ _ _ h _ _ => h) (fun pre A h => ⟨(KW.out _ (h.1.low1 hqN (by omega) B9.out)).1, ((h.1.ownG C9.out X9.out (by decide)).rowE).1⟩)
            ⟨Gone.refl _ _ _, vg, X9.out, by rw [List.map_nil, List.append_nil]; exact G9.out, nb_low G9.out.1, fun x hx => nb_low (G9.out.2 x (by rwa [List.map_nil, List.append_nil] at hx))⟩ ?_ ?_ ?_
          · rintro ll pre ⟨v, F', E'⟩ W _ _ Kr hKr
            gi_wp2
            rintro W' hi hok hlt'
            obtain ⟨hpre, base, hbs, ho⟩ := hok
            rw [HM3.out.2.1] at hpre
            obtain rfl : E' = 0 := by
              have := hpre.subset (a := (F', E')) (by simp)
              obtain ⟨G, _, hG⟩ := List.mem_map.1 this
              exact (congrArg Prod.snd hG).symm
            have hpl : pre.length ≤ 50 := by
              have := hpre.length_le
              rw [List.length_map, List.length_append, List.length_map, List.length_take, List.length_drop] at this
              have := HVL.out
              omega
            have hxl2 : xs.length ≤ 50 := by
              have h1 := congrArg List.length HGS.out
              rw [List.length_map, List.length_take] at h1
              have := HVL.out
              omega
            obtain ⟨av, cv, hve, hvf, _⟩ := ho.has
            simp only at hve hvf
            subst hve
            obtain ⟨hgo, vn, hbn, hon, hnb, hnx⟩ := hi
            have n0 := hbn.cell; have n1 := hbn.free
            have hlen : (xs ++ pre.map itmG).length ≤ 100 := by rw [List.length_append, List.length_map]; omega
            obtain ⟨ys, hys⟩ : ∃ ys, xs ++ pre.map itmG = ys := ⟨_, rfl⟩
            rw [hys] at hon hnx hlen
            have HYS := Lib.hid hys
            have HGO := Lib.hid hgo; have HBN := Lib.hid hbn; have HON := Lib.hid hon; have HNB := Lib.hid hnb; have HNX := Lib.hid hnx; have HO := Lib.hid ho; have HLT := Lib.hid hlt'; have HLEN := Lib.hid hlen
            obtain ⟨i0, fi, hz0, hz1, hz2⟩ := info_parts infoX
            clear hgo hbn hon hnb hnx ho hlt' hpre hvf hlen hys
            gi_wp2_with (gi_at_builtin; refine wpListIn_append_own_at _ rfl (.tmp 80) (.tmp 82) 45 rfl (N + 1) 22 i0 (.slice none 0 0) 1 24 Tryd.underlying45 fi hz0 hz1 hz2 ?c0 (by decide) vn ys.length (ys.map Prod.fst) rfl ?c1 ⟨W'.heap.size, 0, none⟩ 1 1 [.slice av F'.length cv] rfl rfl ?c2 ?c3 ?c4 ?c5 ?c6 ?_)
            case c1 => exact World.ownsRow.alloc HON.out.1 _
            case c3 => rfl
            case c4 => have := HLEN.out; unfold maxLen; omega
            case c5 => have := HLEN.out; omega
            case c6 => have := HLT.out; omega
            intro v' w10 ho10 hg10 _ hat
            have hax := I9.app (x := (.slice av F'.length cv, (F', (0 : Int)))) (pre := pre) (xs0 := xs) HGO.out HBN.out (by rw [HYS.out]; exact HON.out) HNB.out (by rw [HYS.out]; exact HNX.out) HO.out hbs (by omega) hq9 HLT.out (by rw [HYS.out]; exact ho10) hg10 (by rw [World.size_alloc]; exact hat)
            obtain ⟨r1, r2, r3⟩ := hax
            have r1c := r1.cell; have r1f := r1.free
            have R2 := Lib.hid r2; have R3 := Lib.hid r3
            obtain ⟨g', cap', rfl⟩ := ownsRow_succ ho10
            clear r1 r2 r3 ho10 hg10 hat n0 n1
            gi_wp2
            exact ⟨R2.out, trivial, R3.out⟩
          · rintro xs7 W7 hS' hi hK
            rw [HM3.out.2.1] at hS'
            obtain ⟨hgo, vn, hbn, hon, hnb, hnx⟩ := hi
            have HS7 := Lib.hid hS'
            have B7 : Hid (Below N w W7) := Lib.hid (hgo.low1 hqN (by omega) B9.out)
            have R7 : Hid (Bx W7 N (.bool false) 4) := Lib.hid (hgo.box R9.out (by omega) (by decide))
            have A7 := Lib.hid (hgo.ownG A9.out X9.out (by decide))
            have N7 : Hid (OwnN W7 (N + 1) (.slice (some ⟨gI, 0, none⟩) CS.length cI) CS) := Lib.hid (hgo.row N9.out (by decide) X9.out (by decide))
            have O7 := Lib.hid (hgo.ownG O9.out X9.out (by decide))
            have M7 := Lib.hid (marks_cons M9.out (Nat.le_refl _) (marks_gone M9.out hgo X9.out) hK)
            have X7 := Lib.hid hbn; have G7 := Lib.hid hon
            have hz7 := hgo.size
            have hr7 := O7.out.rowE.1
            have hrs := HM3.out.2.2.1
            clear hgo hbn hon hnb hnx hK hS' R9 A9 N9 O9 M9 X9 G9 P9 C9
            go_wp2_with fail
            refine (rest_any a8 L8 c8 X W7 hr7 HLX.out hc8 (by omega) (KW.out _ B7.out).1).mono ?_
            rintro e w10 ⟨rfl, hb10⟩
            have B10 : Hid (Below N w w10) := Lib.hid (B7.out.trans (hb10.mono (by omega)))
            have R10 := Lib.hid (R7.out.keep hb10); have X10 := Lib.hid (X7.out.keep hb10); have G10 := Lib.hid (G7.out.keep hb10); have A10 := Lib.hid (A7.out.keep hb10); have N10 := Lib.hid (N7.out.keep hb10)
            have M10 := Lib.hid (marks_keep M7.out hb10); have hr10 := hr7.keep hb10
            obtain ⟨r, hr⟩ : ∃ r, (framesS X).2 = r := ⟨_, rfl⟩
            rw [hr] at hrs
            have HRS := Lib.hid hr
            obtain ⟨l9, hl9⟩ : ∃ l9, L8 - r = l9 := ⟨_, rfl⟩
            have e9 : (L8 : Int) - (r : Int) = (l9 : Int) := by omega
            obtain ⟨al', cl', q1, q2, q3, q4, q5, q6⟩ := back_any (t := l9) HLX.out hc8 HN8.out (by omega)
            have hr11 := q6 _ hr10
            have i9 : (0 : Int) ≤ (l9 : Int) := by omega
            have HR11 := Lib.hid hr11; have Q1 := Lib.hid q1; have Q3 := Lib.hid q3; have HL9 := Lib.hid hl9
            rw [hr]
            clear hb10 hr7 hr10 hr11 q6 q1 q3 hl9 hr B7 R7 A7 N7 O7 M7 X7 G7
            go_wp2
            obtain ⟨m1, m2, m3, m4, m5⟩ := HM3.out
            rw [HRS.out, HL9.out] at m4 m5
            have hgt : (xs ++ xs7.map itmG).map Prod.snd = (validL R).take (g + m) := by
              rw [List.map_append, HGS.out, List.take_add]
              congr 1
              have := congrArg (List.map Prod.fst) HS7.out
              rw [List.map_map, List.map_map] at this
              rw [List.map_map]
              refine Eq.trans ?_ (this.trans ?_)
              · rfl
              · exact List.map_id _
            have hlow2 : ∀ d ∈ (({ target := .collected w9.heap.size, args := #[] } : Deferred) :: ds), ∀ r, d.target = .collected r → N + 1 ≤ r := by
              intro d hd r e
              rcases List.mem_cons.1 hd with rfl | hd
              · cases e; omega
              · exact HLOW.out d hd r e
            go_roundg (len1 - j)
            case measure => omega
            case rel => exact ⟨j + 1, c', g + m, xs ++ xs7.map itmG, al', X.drop l9, _, cl', by rw [HCL.out]; omega, by go_num, rfl, rfl, Lib.hid (by rw [List.length_drop, HLX.out]), Lib.hid (fun h => m5 (by rw [HCL.out] at h; have := HCJ.out (by omega); omega)),
              Lib.hid ⟨B10.out, R10.out, ⟨vn, X10.out, G10.out⟩, A10.out, N10.out, HR11.out, Q3.out, (by rw [List.length_drop, HLX.out]; exact Q1.out), hgt, m1, h2, m4, M10.out, hlow2⟩⟩
          · rintro c pre W7 h _
            exact h.elim
      · obtain ⟨hg, hLL⟩ := HLAST.out (by rw [HCL.out]; omega)
        have hL0 : L = 0 := by have := HLL.out; rw [hLL] at this; simpa using this.symm
        subst hL0
        obtain ⟨vg, hbox, hox⟩ := HT.out.box
        have hgs := HT.out.gs
        rw [hg, List.take_of_length_le (Nat.le_refl _)] at hgs
        have hxs : xs.length = (validL R).length := by rw [← hgs, List.length_map]
        obtain ⟨aG, cG, hvg, _⟩ := hox.slice
        obtain ⟨nV, hnV⟩ : ∃ nV, xs.length = nV := ⟨_, rfl⟩
        rw [hnV] at hvg hxs
        subst hvg
        have HGS := Lib.hid hgs; have HNV := Lib.hid hnV; have HXS := Lib.hid hxs
        have HX := Lib.hid (⟨HT.out.bel, HT.out.res, hbox, hox, HT.out.marks⟩ : Below N w wy ∧ Bx wy N (.bool false) 4 ∧ Bx wy q (.slice aG nV cG) 45 ∧ OwnX wy (N + 1) (.slice aG nV cG) xs ∧ Marks ds wy)
        have HLOW := Lib.hid HT.out.low
        have hn50 : nV ≤ 50 := by have := HVL.out; omega
        have i0 : ¬ ((j : Int) < (len1 : Int) + 1) := by omega
        clear hbox hox hgs hnV hxs hg hLL HLL HLAST HT hVL
        go_wp2_with fail
        go_loopg [10, 94] k (fun m v i wx => ∃ (u c : Nat), u + m = k ∧ i = .int .i64 (u : Int) ∧ v = .int .i64 (c : Int) ∧ Hid ((validL (R.take u)).length = c) ∧ Hid (Below N w wx ∧ Bx wx N (.bool false) 4 ∧ Bx wx q (.slice aG nV cG) 45 ∧ OwnX wx (N + 1) (.slice aG nV cG) xs ∧ Marks ds wx))
        case atStart => exact ⟨0, 0, by omega, rfl, rfl, Lib.hid rfl, HX⟩
        case round =>
          obtain ⟨u, c, hu, rfl, rfl, HC, HX2⟩ := hrel
          obtain ⟨hbw, hres, hbox, hox, hmk⟩ := HX2.out
          by_cases hlt2 : u < k
          · obtain ⟨b, off, rfl, c0, ok⟩ := (KW.out _ hbw).2.1.at (show u < R.length by rw [HL.out]; exact hlt2)
            have hat := fun h => validL_at (R := R) (k := u) (by rw [HL.out]; exact hlt2) h
            have hyes := fun h => validL_yes (R := R) (k := u) (by rw [HL.out]; exact hlt2) h
            have hno := fun h => validL_no (R := R) (k := u) (by rw [HL.out]; exact hlt2) h
            have hsz := HS.out u hlt2
            generalize R.getD u fr0 = r at *
            obtain ⟨ra, rcap, F⟩ := r
            simp only at c0 ok hat hyes hno hsz
            obtain ⟨l, hl⟩ : ∃ l, F.length = l := ⟨_, rfl⟩
            rw [hl] at c0
            have HYES := Lib.hid hyes; have HNO := Lib.hid hno; have HLL := Lib.hid hl; have HAT := Lib.hid hat
            have hF1 := ok.has; have hokf := okF_of ok.wf hsz
            have HF1 := Lib.hid hF1; have HOKF := Lib.hid hokf
            have i1 : (u : Int) < (k : Int) := by omega
            clear hyes hno hl hat ok hsz hF1 hokf hbw hres hbox hox hmk
            go_wp2_with fail
            refine (valid_any ra l rcap F wr HF1.out HLL.out HOKF.out (KW.out _ HX2.out.1).1.pow).mono ?_
            rintro e w12 ⟨rfl, hb12⟩
            obtain ⟨hbw, hres, hbox, hox, hmk⟩ := HX2.out
            have hzr := hres.lt
            have HX12 : Hid (Below N w w12 ∧ Bx w12 N (.bool false) 4 ∧ Bx w12 q (.slice aG nV cG) 45 ∧ OwnX w12 (N + 1) (.slice aG nV cG) xs ∧ Marks ds w12) := Lib.hid ⟨hbw.trans (hb12.mono (by omega)), hres.keep hb12, hbox.keep hb12, hox.keep hb12, marks_keep hmk hb12⟩
            have hF12 := HF1.out.keep hb12
            clear hb12 hbw hres hbox hox hmk HX2 HF1 c0
            by_cases hv : validE F = 0
            · have hc := HAT.out hv
              rw [HC.out, ← HGS.out, List.getElem?_map] at hc
              obtain ⟨x, hx, hx2⟩ := Option.map_eq_some_iff.1 hc
              obtain ⟨hcl, hxe⟩ := List.getElem?_eq_some_iff.1 hx
              obtain ⟨aG', cG', e, hcell⟩ := HX12.out.2.2.2.1.slice
              obtain ⟨gG, eG, k0⟩ := hcell c hcl
              have hown := HX12.out.2.2.2.1.2 xs[c] (List.getElem_mem _)
              rw [hxe] at k0 hown
              rw [hx2] at hown
              obtain ⟨ax, cx, hve, hvf, _⟩ := hown.has
              rw [hve] at k0
              have eA : aG = some ⟨gG, 0, none⟩ := by injection e with e1; rw [e1, eG]
              have hsq := same_q ax ra F.length cx l rcap F F w12 hvf rfl hF12 HLL.out
              rw [show decide (F = F) = true from decide_eq_true rfl, HLL.out] at hsq
              rw [HLL.out] at k0
              have hnx : (validL (R.take (u + 1))).length = c + 1 := by rw [HYES.out hv, List.length_append, HC.out]; rfl
              have HNX := Lib.hid hnx
              rw [HNV.out] at hcl
              have n0 := HX12.out.2.2.1.cell
              rw [hv]
              have i2 : (0 : Int) ≤ (c : Int) := by omega
              have i3 : (c : Int) < (nV : Int) := by omega
              have i4 : decide ((nV : Int) ≤ (c : Int)) = false := by rw [decide_eq_false_iff_not]; omega
              have i5 : decide (nV ≤ c) = false := by rw [decide_eq_false_iff_not]; omega
              subst eA
              clear hc hx hx2 hxe e hcell eG hown hve hvf hF12 hnx hv
              go_wp2_with (go_at_call 18; (with_reducible refine hsq.mono ?_); rintro e w13 ⟨rfl, qq, rfl⟩)
              obtain ⟨hbw, hres, hbox, hox, hmk⟩ := HX12.out
              have hbq : Below w12.heap.size w12 (w12.drewN qq) := ⟨rfl, rfl, rfl, Nat.le_refl _, fun _ _ => rfl⟩
              have hzr := hres.lt
              have HX13 : Hid (Below N w (w12.drewN qq) ∧ Bx (w12.drewN qq) N (.bool false) 4 ∧ Bx (w12.drewN qq) q (.slice (some ⟨gG, 0, none⟩) nV cG) 45 ∧ OwnX (w12.drewN qq) (N + 1) (.slice (some ⟨gG, 0, none⟩) nV cG) xs ∧ Marks ds (w12.drewN qq)) := Lib.hid ⟨hbw.trans (hbq.mono (by omega)), hres.keep hbq, hbox.keep hbq, hox.keep hbq, marks_keep hmk hbq⟩
              clear hbw hres hbox hox hmk hbq
              go_roundg (k - (u + 1))
              case measure => omega
              case rel => exact ⟨u + 1, c + 1, by omega, by go_num, by go_num, HNX, HX13⟩
            · have hnx : (validL (R.take (u + 1))).length = c := by rw [HNO.out hv]; exact HC.out
              have HNX := Lib.hid hnx
              have hne : (validE F == 0) = false := by simpa using hv
              clear hv hnx hF12
              generalize validE F = E at *
              go_wp2
              go_roundg (k - (u + 1))
              case measure => omega
              case rel => exact ⟨u + 1, c, by omega, by go_num, rfl, HNX, HX12⟩
          · obtain rfl : u = k := by omega
            have hc := HC.out
            rw [List.take_of_length_le (by rw [HL.out]; exact Nat.le_refl _), ← HXS.out] at hc
            subst hc
            have HLOW2 : Hid (∀ d ∈ ds, ∀ r, d.target = .collected r → N ≤ r) := Lib.hid fun d hd r e => by have := HLOW.out d hd r e; omega
            have n0 := hbox.cell; have rc := hres.cell; have rf := hres.free
            have HBW := Lib.hid hbw; have HRES := Lib.hid hres; have HMK := Lib.hid hmk
            clear hbw hres hbox hox hmk HX2 HX
            go_wp2
            exact ret_true rfl rfl (Marks.box HMK.out HRES.out) HLOW2.out (HRES.out.set _) (HBW.out.setCell (p := ⟨N, 0, none⟩) (Nat.le_refl _) _)
end Go.Proofs.YtjgkjmegpinelaaDoor.Tg

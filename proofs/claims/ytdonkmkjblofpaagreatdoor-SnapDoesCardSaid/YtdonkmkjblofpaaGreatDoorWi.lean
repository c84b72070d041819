/-
  Layer 5: the numbers of the segments on a disk.
-/
import Derived.Test.YtdonkmkjblofpaaGreatDoorWh
import Derived.Test.YtdonkmkjblofpaaGreatDoorKt
namespace Go.Proofs.YtdonkmkjblofpaaGreatDoor.Wl
open Go.RowKit Go.Sort Dx Sx Dk
set_option linter.unusedVariables false
set_option linter.unusedSimpArgs false
theorem info_i : (Tryz.prog.info? 3).map (fun i => (i.zero, i.size, i.bytes)) = some (some (.int .i64 0), 1, 8) := by kernel_rfl
def encI (n : Int) : Value := .int .i64 n
/-- append(numbers, one number). -/
theorem wp_iapp {ops : Array Oper} {rest : List Oper} {o : Oper} {a : Act} {Q : Exit → Act → World → Prop} {w : World} (hgd : o.guard = none) (s x : Operand)
    (ho : o.op = .call { callee := .builtin .append, args := #[s, x], argTypes := #[98, 98] }) (N : Nat) (v : Value) (n : Nat) (xs : List Value) (hs : a.eval s = v) (hown : w.ownsRow N 3 1 v n xs) (hn : n ≤ 1048576)
    (gb : Nat) (y : Int) (hx : a.eval x = .slice (some ⟨gb, 0, none⟩) 1 1) (hc : w.cell? ⟨gb, 0, none⟩ = some (.int .i64 y)) (hN : N ≤ w.heap.size)
    (h : ∀ v' w', w'.ownsRow N 3 1 v' (n + 1) (xs ++ [.int .i64 y]) → (∃ ad cap, v' = .slice ad (n + 1) cap) → w.grownBy w' v.ownBlock → wpList Tryz.prog ops Q rest (a.put o.dst v') w') : wpList Tryz.prog ops Q (o :: rest) a w := by
  obtain ⟨i0, hi, hz0, hz1, hz2⟩ := info_parts info_i
  refine wpList_append_own w hgd s x 98 ho N 3 i0 (.int .i64 0) 1 8 Tryz.underlying98 hi hz0 hz1 hz2 rfl (by decide) v n xs hs hown ⟨gb, 0, none⟩ 1 1 [.int .i64 y] hx rfl ?_ ?_ (by unfold maxLen; omega) (by omega) hN ?_
  · intro i u hy
    match i, hy with
    | 0, hy => simp at hy; subst hy; exact hc
    | i + 1, hy => simp at hy
  · intro u hy; simp at hy; subst hy; rfl
  · intro v' w' r1 r2 r3
    refine h v' w' r1 ?_ r2
    rcases r1.2 with ⟨e, h0⟩ | ⟨g, cap, cur, e, _⟩
    · omega
    · exact ⟨_, cap, e⟩
def IRow (w wr : World) (v : Value) (L : List Int) : Prop := Below w.heap.size w wr ∧ wr.ownsRow w.heap.size 3 1 v L.length (L.map encI)
theorem irow_kind {w : World} {base : Nat} {e : TypeId} {k : Nat} {v : Value} {n : Nat} {xs : List Value} (h : w.ownsRow base e k v n xs) : ∀ g, v.ownBlock = some g → base ≤ g ∧ ∃ cur, w.heap[g]? = some (.cells cur e (0, 0)) := by
  intro g hg
  rcases h.2 with ⟨rfl, _⟩ | ⟨g', cap, cur, rfl, hb, hh, _⟩
  · cases hg
  · cases hg; exact ⟨hb, cur, hh⟩
theorem irow_move {w w' : World} {base : Nat} {e : TypeId} {k : Nat} {v : Value} {n : Nat} {xs : List Value} (h : w.ownsRow base e k v n xs) (hb : ∀ g, v.ownBlock = some g → w'.heap[g]? = w.heap[g]?) : w'.ownsRow base e k v n xs := by
  refine ⟨h.1, ?_⟩
  rcases h.2 with h0 | ⟨g, cap, cur, hv, hbg, hh, h1, h2, h3, h4⟩
  · exact .inl h0
  · exact .inr ⟨g, cap, cur, hv, hbg, (hb g (by rw [hv]; rfl)).trans hh, h1, h2, h3, h4⟩
theorem IRow.below {w wr w2 : World} {v : Value} {L : List Int} (h : IRow w wr v L) (hb : Below wr.heap.size wr w2) : IRow w w2 v L :=
  ⟨h.1.trans (hb.mono h.1.size), irow_move h.2 fun g e => hb.block g (h.2.lt g e).2⟩
theorem IRow.row {w wr : World} {v : Value} {L : List Int} (h : IRow w wr v L) : ∃ ad cap, v = .slice ad L.length cap ∧ L.length ≤ cap ∧ cap ≤ 9223372036854775807 ∧ Fr.HasRow .i64 wr ad L.length L ∧ (∀ x, ad = some x → w.heap.size ≤ x.block ∧ x.block < wr.heap.size) := by
  rcases h.2.2 with ⟨rfl, h0⟩ | ⟨g, cap, cur, rfl, hb, hh, x1, x2, x3, x4⟩
  · exact ⟨none, 0, by rw [h0], by omega, by decide, by rw [h0]; exact row_zero _, fun x e => by cases e⟩
  · refine ⟨some ⟨g, 0, none⟩, cap, rfl, x1, by unfold maxLen at x2; exact x2, ⟨by simp, by unfold maxLen at x2; omega, fun h0 => ⟨g, 0, rfl, fun j hj => ?_⟩⟩, fun x e => by cases e; exact ⟨hb, lt_of_heap hh⟩⟩
    rw [Nat.zero_add, World.ownsRow.cellAt h.2 j (by omega), List.getElem?_map, List.getElem?_eq_getElem hj]
    simp [encI, List.getD, hj]
def NumsIt (w : World) (L : List Int) (e : Ending) (w' : World) : Prop := ∃ ad cap, e = .returned (.slice ad L.length cap) ∧ L.length ≤ cap ∧ cap ≤ 9223372036854775807 ∧ Fr.HasRow .i64 w' ad L.length L ∧ (∀ x, ad = some x → w.heap.size ≤ x.block ∧ x.block < w'.heap.size) ∧ Below w.heap.size w w'
theorem names_bounds {S : St} (h : Dk.Good S) : ∀ s ∈ namesL S, 1 ≤ s.length ∧ s.length ≤ 16 := by
  intro s hs
  unfold namesL at hs
  by_cases hdn : S.down = true
  · rw [if_pos hdn] at hs; cases hs
  · rw [if_neg hdn] at hs
    obtain ⟨f, hf, rfl⟩ := List.mem_map.1 hs
    have := h.name f hf
    unfold badName at this
    rw [Bool.or_eq_false_iff, decide_eq_false_iff_not, decide_eq_false_iff_not] at this
    omega
theorem nums_take {NM : Int → List UInt8} {L : List (List UInt8)} {j : Nat} (h : j < L.length) : numsL NM (L.take (j + 1)) = numsL NM (L.take j) ++ (hitN NM L[j]).toList := by
  unfold numsL
  rw [List.take_succ_eq_append_getElem h, List.filterMap_append]
  cases e : hitN NM L[j] <;> simp [e]
theorem nums_len (NM : Int → List UInt8) (L : List (List UInt8)) : (numsL NM L).length ≤ L.length := List.length_filterMap_le _ _
set_option maxRecDepth 100000 in
set_option maxHeartbeats 1600000 in
theorem numbers_any {w : World} {O : Nat → Prop} {d : Nat} {S : St} (hd : IsDisk w O d S) (ht : Tabs w) (f : FuncId) (NM : Int → List UInt8) (he : ∀ args w, (callFunc f args).run Tryz.prog w = .ok (.enter f args) w)
    (hf : ∀ v wx, Below w.heap.size w wx → v ≤ 9223372036854775807 → -9223372036854775808 ≤ v → Calls Tryz.prog f #[.int .i64 v] wx fun e w' => e = .returned (.string (bs (NM v))) ∧ Below wx.heap.size wx w') :
    Calls Tryz.prog 73 #[.pointer (some ⟨d, 0, none⟩), .func (.func f) #[] #[]] w (NumsIt w (numsL NM (namesL S))) := by
  obtain ⟨NL, hNL⟩ : ∃ NL, namesL S = NL := ⟨_, rfl⟩
  obtain ⟨q, hq⟩ : ∃ q, NL.length = q := ⟨_, rfl⟩
  have hq16 : q ≤ 16 := by rw [← hq, ← hNL]; exact few_names hd.good
  have nh := names_hi (N := w.heap.size) hd (Nat.le_refl _)
  rw [hNL, hq] at nh
  rw [hNL]
  have NH := Lib.hid nh; have HQ := Lib.hid hq; have HT := Lib.hid ht; have HF := Lib.hid hf
  have LN : Hid (∀ s ∈ NL, 1 ≤ s.length ∧ s.length ≤ 16) := Lib.hid (by rw [← hNL]; exact names_bounds hd.good)
  clear hd ht nh hq hNL hf
  go_enter Tryz.func73, Tryz.ntmps73
  go_wp2_with fail
  refine NH.out.mono ?_
  rintro e w1 ⟨ad1, cap1, rfl, hc1, hc1b, nm1, hb1⟩
  have NM1 := Lib.hid nm1; have B1 := Lib.hid hb1
  clear nm1 hb1
  go_wp2_with fail
  go_loopg [5, 13] q (fun m o i wr => ∃ (j k : Nat) (ao : Option Addr) (co : Nat), j + m = q ∧ i = .int .i64 (j : Int) ∧ o = .slice ao k co ∧ k ≤ j ∧ Hid (k = (numsL NM (NL.take j)).length) ∧ Hid (IRow w1 wr (.slice ao k co) (numsL NM (NL.take j))))
  case atStart => exact ⟨0, 0, none, 0, by omega, rfl, rfl, Nat.le_refl _, Lib.hid rfl, Lib.hid ⟨Below.refl _ _, rfl, .inl ⟨rfl, rfl⟩⟩⟩
  case round =>
    obtain ⟨j, k, ao, co, hj, rfl, rfl, hkj, HK, HI⟩ := hrel
    by_cases hlt : j < q
    · have hjl : j < NL.length := by rw [HQ.out]; exact hlt
      obtain ⟨g1, e1, n1⟩ := nm_cell (b := 0) (off := 0) (NM1.out.keep (KeepHi.of_below HI.out.1)) hjl
      obtain ⟨s, hs⟩ : ∃ s, NL[j] = s := ⟨_, rfl⟩
      have hnv : nmV NL j = bs s := by
        unfold nmV; rw [← hs]
        simp [bs, List.getD, hjl]
      obtain ⟨o1, o2⟩ := LN.out s (by rw [← hs]; exact List.getElem_mem hjl)
      rw [hnv] at n1
      have htk := nums_take (NM := NM) hjl
      rw [hs] at htk
      have TW := (HT.out.keep B1.out).keep HI.out.1
      have AT := Lib.hid (atoi_any (s.drop 1) (by rw [List.length_drop]; omega) wr TW)
      have HF1 : Hid (∀ v wx, Lib.atoi (s.drop 1) = some v → Below wr.heap.size wr wx → Calls Tryz.prog f #[.int .i64 v] wx fun e w' => e = .returned (.string (bs (NM v))) ∧ Below wx.heap.size wx w') := Lib.hid fun v wx hv hb => by
        have hb2 := Lib.atoiAll_bounds (l := s.drop 1) (v := v) (by rw [Lib.atoiAll_short _ (by rw [List.length_drop]; omega), hv]; rfl)
        exact HF.out v wx (B1.out.trans ((HI.out.1.trans (hb.mono HI.out.1.size)).mono B1.out.size)) hb2.2 hb2.1
      obtain ⟨T, hT⟩ : ∃ T, bs s = T := ⟨_, rfl⟩
      obtain ⟨U, hU⟩ : ∃ U, bs (s.drop 1) = U := ⟨_, rfl⟩
      obtain ⟨z, hz⟩ : ∃ z, s.length = z := ⟨_, rfl⟩
      have s1 : T.size = z := by rw [← hT, bs_size, hz]
      have s2 : T.extract 1 z = U := by rw [← hT, bs_extract, ← hU, List.take_of_length_le (by rw [List.length_drop]; omega)]
      have HTL : Hid (T.toList = s) := Lib.hid (by rw [← hT, ByteArray.toList_eq, bs_data])
      have us : U.size = z - 1 := by rw [← hU, bs_size, List.length_drop, hz]
      rw [hT] at n1
      rw [hU] at AT
      have z1 : (1 : Int) ≤ (z : Int) := by omega
      have z2 : ((1 : Int) ≤ 1) := by omega
      subst e1
      have hjc1 : (j : Int) < (cap1 : Int) := by omega
      have hj0 : (0 : Int) ≤ (j : Int) := by omega
      have hj1 : (j : Int) < (q : Int) := by omega
      unfold AtoiIt at AT
      have HTK : Hid (∀ o, hitN NM s = o → numsL NM (NL.take (j + 1)) = numsL NM (NL.take j) ++ o.toList) := Lib.hid fun o e => by rw [← e]; exact htk
      have HH : Hid (∀ o, Lib.atoi (s.drop 1) = o → hitN NM s = match o with | some v => if s = NM v then some v else none | none => none) := Lib.hid fun o e => by unfold hitN; rw [e]; cases o <;> rfl
      have HU := Lib.hid hU
      cases ho : Lib.atoi (s.drop 1) with
      | none =>
        rw [ho] at AT
        have HN := Lib.hid (HTK.out none (HH.out none ho))
        clear hjl hs hnv hT hU htk TW hz ho o1 o2 HTK HH HF1
        go_wp2_with fail
        clear n1
        refine AT.out.mono ?_
        rintro e w2 ⟨hb2, v2, t2, p2, rfl⟩
        have I2 := Lib.hid (HI.out.below hb2)
        clear hb2 AT
        go_wp2_with fail
        try go_region
        go_wp2_with fail
        go_roundg (q - (j + 1))
        case measure => omega
        case rel => exact ⟨j + 1, k, ao, co, by omega, by go_num, rfl, by omega, Lib.hid (by rw [HN.out]; simpa using HK.out), Lib.hid (by rw [HN.out]; simpa using I2.out)⟩
      | some v =>
        rw [ho] at AT
        have HF2 := Lib.hid fun wx => HF1.out v wx ho
        obtain ⟨R, hR⟩ : ∃ R, bs (NM v) = R := ⟨_, rfl⟩
        rw [hR] at HF2
        have HRL : Hid (R.toList = NM v) := Lib.hid (by rw [← hR, ByteArray.toList_eq, bs_data])
        by_cases hv : s = NM v
        · have tn : (T.toList == R.toList) = true := by rw [HTL.out, HRL.out]; simpa using hv
          have HN := Lib.hid (HTK.out (some v) (by rw [HH.out (some v) ho]; simp only; rw [if_pos hv]))
          clear hjl hs hnv hT hU htk TW hz ho o1 o2 HTK HH HF1 hR hv
          go_wp2_with fail
          clear n1
          refine AT.out.mono ?_
          rintro e w2 ⟨hb2, rfl⟩
          have HB2 := Lib.hid hb2
          clear hb2 AT
          go_wp2_with fail
          refine (HF2.out w2 HB2.out).mono ?_
          rintro e w3 ⟨rfl, hb3⟩
          have i3 := ((HI.out.below HB2.out).below hb3).below ((Below.refl _ _).alloc (Nat.le_refl _) (.cells #[.int .i64 v] 3))
          have I3 := Lib.hid i3.1
          have I4 : Hid ((w3.alloc (.cells #[.int .i64 v] 3)).ownsRow w1.heap.size 3 1 (.slice ao k co) k ((numsL NM (NL.take j)).map encI)) := Lib.hid (by have := i3.2; rwa [← HK.out] at this)
          have C4 : Hid ((w3.alloc (.cells #[.int .i64 v] 3)).cell? ⟨w3.heap.size, 0, none⟩ = some (.int .i64 v)) := Lib.hid (by rw [World.cell?_alloc_mark]; rfl)
          clear hb3 i3
          go_wp2_with (at_builtin; go_loud (refine wp_iapp rfl (.tmp 32) (.tmp 34) rfl w1.heap.size (.slice ao k co) k _ rfl I4.out (by omega) w3.heap.size v rfl C4.out I3.out.size ?_); rintro v' w5 hr ⟨ao', co', rfl⟩ hg; have HR5 := Lib.hid hr; have HG5 := Lib.hid hg; clear hr hg)
          have kd := fun g (e : (Value.slice ao k co).ownBlock = some g) => (irow_kind I4.out g e).1
          have HK5 : Hid (k + 1 = (numsL NM (NL.take (j + 1))).length) := Lib.hid (by rw [HN.out, List.length_append, ← HK.out]; rfl)
          have I5 : Hid (IRow w1 w5 (.slice ao' (k + 1) co') (numsL NM (NL.take (j + 1)))) := Lib.hid ⟨I3.out.trans ((Below.refl _ _).grown HG5.out I3.out.size kd), by
            rw [← HK5.out, HN.out, List.map_append]; exact HR5.out⟩
          go_roundg (q - (j + 1))
          case measure => omega
          case rel => exact ⟨j + 1, k + 1, ao', co', by omega, by go_num, by first | rfl | go_num, by omega, HK5, I5⟩
        · have tn : (T.toList == R.toList) = false := by rw [HTL.out, HRL.out]; simpa using hv
          have HN := Lib.hid (HTK.out none (by rw [HH.out (some v) ho]; simp only; rw [if_neg hv]))
          clear hjl hs hnv hT hU htk TW hz ho o1 o2 HTK HH HF1 hR hv
          go_wp2_with fail
          clear n1
          refine AT.out.mono ?_
          rintro e w2 ⟨hb2, rfl⟩
          have HB2 := Lib.hid hb2
          clear hb2 AT
          go_wp2_with fail
          refine (HF2.out w2 HB2.out).mono ?_
          rintro e w3 ⟨rfl, hb3⟩
          have I3 := Lib.hid ((HI.out.below HB2.out).below hb3)
          clear hb3
          go_wp2_with fail
          go_roundg (q - (j + 1))
          case measure => omega
          case rel => exact ⟨j + 1, k, ao, co, by omega, by go_num, rfl, by omega, Lib.hid (by rw [HN.out]; simpa using HK.out), Lib.hid (by rw [HN.out]; simpa using I3.out)⟩
    · obtain rfl : q = j := by omega
      have D : Hid (NumsIt w (numsL NM NL) (.returned (.slice ao k co)) wr) := Lib.hid (by
        have h := HI.out
        rw [List.take_of_length_le (by rw [HQ.out]; exact Nat.le_refl _)] at h
        obtain ⟨ad, cap, e, x1, x2, x3, x4⟩ := h.row
        refine ⟨ad, cap, ?_, x1, x2, x3, fun x ex => ⟨Nat.le_trans B1.out.size (x4 x ex).1, (x4 x ex).2⟩, B1.out.trans (h.1.mono B1.out.size)⟩
        rw [← e])
      go_wp2
      go_ret
      exact D.out
/-! ### the journal's -/
theorem name_int (v : Int) (w : World) (ht : Tabs w) : Calls Tryz.prog 11 #[.int .i64 v] w fun e w' => e = .returned (.string (bs (nameL 106 1 v))) ∧ Below w.heap.size w w' := by
  unfold nameL
  by_cases h : 1 ≤ v ∧ 0 ≤ v ∧ v ≤ 999999999
  · rw [if_pos h]
    obtain ⟨n, rfl⟩ := Int.eq_ofNat_of_zero_le h.2.1
    exact name_any n (by omega) (by omega) w ht
  · rw [if_neg h]
    refine (name_no v w (by omega)).mono ?_
    rintro e w' ⟨rfl, rfl⟩
    exact ⟨rfl, Below.refl _ _⟩
structure Segs (S : St) (ns : List Nat) : Prop where
  names : namesL S = ns.map segN
  ok : ∀ n ∈ ns, 1 ≤ n ∧ n ≤ 999999999
def SegsIt (w : World) (ns : List Nat) (e : Ending) (w' : World) : Prop := ∃ ad cap, e = .returned (.slice ad ns.length cap) ∧ ns.length ≤ cap ∧ cap ≤ 9223372036854775807 ∧ Fr.HasRow .i64 w' ad ns.length (ns.map fun n : Nat => (n : Int)) ∧ (∀ x, ad = some x → w.heap.size ≤ x.block ∧ x.block < w'.heap.size) ∧ Below w.heap.size w w'
set_option maxRecDepth 100000 in
theorem segments_any {w : World} {O : Nat → Prop} {d : Nat} {S : St} {ns : List Nat} (hd : IsDisk w O d S) (hs : Segs S ns) (ht : Tabs w) : Calls Tryz.prog 92 #[.pointer (some ⟨d, 0, none⟩)] w (SegsIt w ns) := by
  have NU := numbers_any hd ht 11 (nameL 106 1) (enters_of Tryz.func11 (by kernel_rfl) rfl) fun v wx hb _ _ => name_int v wx (ht.keep hb)
  rw [hs.names, show ns.map segN = ns.map (lettN 106) from rfl, nums_names fun n hn => ⟨by have := (hs.ok n hn).1; omega, (hs.ok n hn).2⟩] at NU
  have NU := Lib.hid NU
  have D : Hid (∀ e w', NumsIt w (ns.map fun n : Nat => (n : Int)) e w' → ∃ ad cap, e = .returned (.slice ad ns.length cap) ∧ SegsIt w ns (.returned (.slice ad ns.length cap)) w') := Lib.hid fun e w' ⟨ad, cap, h1, h2, h3, h4, h5, h6⟩ => by
    rw [List.length_map] at h1 h2 h4
    exact ⟨ad, cap, h1, ad, cap, rfl, h2, h3, h4, h5, h6⟩
  clear hd hs ht
  go_enter Tryz.func92, Tryz.ntmps92
  go_wp2_with fail
  refine NU.out.mono ?_
  intro e w1 hn
  obtain ⟨ad, cap, rfl, hs⟩ := D.out _ _ hn
  have HS := Lib.hid hs
  clear hn hs
  go_wp2
  go_ret
  exact HS.out
end Go.Proofs.YtdonkmkjblofpaaGreatDoor.Wl

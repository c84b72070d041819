/-
  Layer 13: the law BookBack. (Written by gen_iw.py.)
-/
import Derived.Test.YtpagkeklilgknaaIt
import Derived.Test.YtpagkeklilgknaaIqp
namespace Go.Proofs.Ytpagkeklilgknaa.Bo
open Go.RowKit Rw
set_option linter.unusedVariables false
set_option linter.unusedSimpArgs false

theorem takeL {Pr : Program} {md : Region.Mode} {L : List Oper} {Q : Exit → Act → World → Prop} {S : World → Prop} {i : Nat} {oi : Oper} {v : Value} {fuel : Nat} {listed : Array Bool} {a : Act} {w : World} (hi : L[i]? = some oi)
    (hs : Region.noSelect L.toArray = true) (hf : Region.free md L.toArray listed i = true) (hr : (Region.ready md L.toArray listed).contains i = true)
    (hQ : ∀ c a w, Q (.panic c) (a.put oi.dst v) w → Q (.panic c) a w) (hy : YieldsIf Pr L.toArray S oi v a) (hS : S w)
    (h : wpAnyH Pr md L.toArray Q S fuel (listed.setIfInBounds i true) (a.put oi.dst v) w) : wpAnyH Pr md L.toArray Q S (fuel + 1) listed a w :=
  wpAnyH_take (by simpa using hi) hs hf hr hQ hy hS h
theorem consL {Pr : Program} {md : Region.Mode} {L : List Oper} {Q : Exit → Act → World → Prop} {S : World → Prop} {fuel : Nat} {listed : Array Bool} {a : Act} {w : World} {i : Nat} {o : Oper} {rs : List Nat} (ho : L[i]? = some o)
    (h : ∀ K' : Act → World → Prop, Shut (∀ a w, S w → (S w → wpAnyH Pr md L.toArray Q S fuel (listed.setIfInBounds i true) a w) → K' a w) → if Region.wanted o (yielded L.toArray a.tmps) = true then Oper.wp Pr o a w K' Q else K' (a.put o.dst undef) w)
    (hs : AllReadyH Pr md L.toArray Q S fuel listed a w rs) : AllReadyH Pr md L.toArray Q S fuel listed a w (i :: rs) := AllReadyH.cons (by simpa using ho) h hs

theorem dec_mem {α : Type} {key : α → K2} {Y : List α} {p : α} (hP : Y.Pairwise (fun a b => ltK (key a) (key b) = true)) (hp : p ∈ Y) : ∃ L R, Dec key Y (key p) L (some p) R := by
  obtain ⟨L, o, R, hd⟩ := dec_of (key p) hP
  have h1 := hp
  rw [hd.eq] at h1
  rcases List.mem_append.1 h1 with h1 | h1
  · have := hd.lo p h1
    rw [ltK_irrefl] at this; cases this
  · rcases List.mem_append.1 h1 with h1 | h1
    · cases o with
      | none => simp at h1
      | some y =>
        obtain rfl : p = y := by simpa using h1
        exact ⟨L, R, hd⟩
    · have := hd.hi p h1
      rw [ltK_irrefl] at this; cases this
def o2S (c d : Int) (o : Option Ps) (q : Int) : Option Ps := if q = 0 then o else addO c d o q
theorem addE_parts {n : Nat} {o : Option Ps} {q : Int} (h : addE n o q = 0) : qtyB q = true ∧ (q = 0 ∨ (¬ (o.isNone = true ∧ 64 ≤ n) ∧ qtyB (qtyOf o + q) = true)) := by
  unfold addE at h
  by_cases h1 : qtyB q = false
  · rw [if_pos h1] at h; omega
  · rw [if_neg h1] at h
    refine ⟨by simpa using h1, ?_⟩
    by_cases h2 : q = 0
    · exact .inl h2
    · rw [if_neg h2] at h
      by_cases h3 : o.isNone = true ∧ 64 ≤ n
      · rw [if_pos h3] at h; omega
      · rw [if_neg h3] at h
        refine .inr ⟨h3, ?_⟩
        by_cases h4 : qtyB (qtyOf o + q) = false
        · rw [if_pos h4] at h; omega
        · simpa using h4
theorem addE_zero {n : Nat} {o : Option Ps} {q : Int} (h1 : qtyB q = true) (h2 : q = 0 ∨ (¬ (o.isNone = true ∧ 64 ≤ n) ∧ qtyB (qtyOf o + q) = true)) : addE n o q = 0 := by
  unfold addE
  rw [if_neg (by rw [h1]; simp)]
  by_cases h3 : q = 0
  · rw [if_pos h3]
  · rw [if_neg h3]
    rcases h2 with h2 | ⟨h4, h5⟩
    · exact absurd h2 h3
    · rw [if_neg h4, if_neg (by rw [h5]; simp)]
theorem qtyB_zero : qtyB 0 = true := by decide
/-- What Add leads to, and that it is undone. -/
theorem add_ok {X L R : List Ps} {o : Option Ps} {c d q : Int} (hg : goodSp X 16 12 = true) (hd : Dec keyp X (c, d) L o R) (hE : addE X.length o q = 0) (hc : 2 ≤ c ∧ c ≤ 15) (hdd : 0 ≤ d ∧ d ≤ 11) :
    addL X L o R c d q = L ++ ((o2S c d o q).toList ++ R) ∧ (∀ y, o2S c d o q = some y → keyp y = (c, d) ∧ goodBp y 16 12 = true) ∧ qtyOf (o2S c d o q) = qtyOf o + q ∧ qtyB (qtyOf o + q) = true ∧ qtyB q = true ∧
      (L ++ ((o2S c d o q).toList ++ R)).length ≤ 64 ∧ addE (L ++ ((o2S c d o q).toList ++ R)).length (o2S c d o q) (-q) = 0 ∧ addL (L ++ ((o2S c d o q).toList ++ R)) L (o2S c d o q) R c d (-q) = X := by
  obtain ⟨hq, hrest⟩ := addE_parts hE
  obtain ⟨hlen, hP, hall⟩ := goodS_partsp hg
  obtain ⟨q1, q2⟩ := qtyB_iff.1 hq
  have hlX := hd.len
  have ho : ∀ y, o = some y → keyp y = (c, d) ∧ goodBp y 16 12 = true := fun y e => ⟨hd.mid y e, hall y (hd.mem y e)⟩
  have hoq : qtyB (qtyOf o) = true := by
    cases o with
    | none => exact qtyB_zero
    | some y => exact (goodB_qtyp (ho y rfl).2).1
  by_cases h0 : q = 0
  · subst h0
    have e2 : o2S c d o 0 = o := by unfold o2S; rw [if_pos rfl]
    have e3 : addL X L o R c d 0 = X := by unfold addL; rw [hE, if_neg (by simp), if_pos rfl]
    rw [e2, e3, Int.neg_zero, Int.add_zero]
    have hE2 : addE (L ++ (o.toList ++ R)).length o 0 = 0 := by rw [← hd.eq]; exact hE
    refine ⟨hd.eq, ho, rfl, hoq, qtyB_zero, by rw [← hd.eq]; exact hlen, hE2, ?_⟩
    unfold addL
    rw [hE2, if_neg (by simp), if_pos rfl, ← hd.eq]
  · obtain ⟨h1, h2⟩ := hrest.resolve_left h0
    have e2 : o2S c d o q = addO c d o q := by unfold o2S; rw [if_neg h0]
    have e3 : addL X L o R c d q = L ++ ((addO c d o q).toList ++ R) := by unfold addL; rw [hE, if_neg (by simp), if_neg h0]
    rw [e2, e3]
    obtain ⟨s, hs⟩ : ∃ s, qtyOf o + q = s := ⟨_, rfl⟩
    rw [hs] at h2
    have hgood : ∀ y, addO c d o q = some y → keyp y = (c, d) ∧ goodBp y 16 12 = true := fun y e => by
      unfold addO at e
      rw [hs] at e
      split at e
      · cases e
      · rename_i hsn
        cases e
        refine ⟨rfl, ?_⟩
        unfold goodBp holdsB
        simp [h2, hsn]
        omega
    have hqo : qtyOf (addO c d o q) = s := by
      unfold addO
      rw [hs]
      split
      · rename_i e; rw [e]; rfl
      · rfl
    have hlen2 : (L ++ ((addO c d o q).toList ++ R)).length ≤ 64 := by
      rw [List.length_append, List.length_append]
      have ht : (addO c d o q).toList.length ≤ 1 := by cases addO c d o q <;> simp
      cases o with
      | none => simp at h1 hlX; omega
      | some y => simp at hlX; omega
    have hlen3 : addO c d o q = none → (L ++ ((addO c d o q).toList ++ R)).length < 64 := fun e => by
      rw [e]
      unfold addO at e
      rw [hs] at e
      cases o with
      | none =>
        exfalso
        have : s = q := by rw [← hs]; show 0 + q = q; omega
        rw [if_neg (by omega)] at e
        cases e
      | some y => simp at hlX ⊢; omega
    have hE2 : addE (L ++ ((addO c d o q).toList ++ R)).length (addO c d o q) (-q) = 0 := by
      refine addE_zero (by rw [qtyB_iff]; omega) (.inr ⟨fun hh => ?_, ?_⟩)
      · have hn : addO c d o q = none := by
          cases hh2 : addO c d o q with
          | none => rfl
          | some y => rw [hh2] at hh; simp at hh
        have := hlen3 hn
        omega
      · rw [hqo, show s + -q = qtyOf o by omega]
        exact hoq
    refine ⟨rfl, hgood, by rw [hqo, hs], by rw [hs]; exact h2, hq, hlen2, hE2, ?_⟩
    unfold addL
    rw [hE2, if_neg (by simp), if_neg (by omega)]
    have hback : addO c d (addO c d o q) (-q) = o := by
      have e : qtyOf (addO c d o q) + -q = qtyOf o := by rw [hqo]; omega
      show (if qtyOf (addO c d o q) + -q = 0 then none else some (⟨c, d, qtyOf (addO c d o q) + -q⟩ : Ps)) = o
      rw [e]
      cases o with
      | none => rfl
      | some y =>
        obtain ⟨k1, k2⟩ := ho y rfl
        have := (goodB_qtyp k2).2
        show (if y.qty = 0 then none else some (⟨c, d, y.qty⟩ : Ps)) = some y
        rw [if_neg this]
        have e1 : y.acct = c := congrArg Prod.fst k1
        have e2 : y.instr = d := congrArg Prod.snd k1
        rw [← e1, ← e2]
    rw [hback, ← hd.eq]
theorem lift3p {w wx : World} {f : FuncId} {args : Array Value} {Y : List Ps} {r : Value → Value} (h : Below w.heap.size w wx) (hc : Calls Try.prog f args wx fun e w' => ∃ v, e = .returned (r v) ∧ Own encp w' wx.heap.size v Y ∧ Below wx.heap.size wx w') :
    Calls Try.prog f args wx fun e w' => ∃ a c, e = .returned (r (.slice a Y.length c)) ∧ Has encp w' a Y ∧ Y.length ≤ c ∧ (a = none → c = 0) ∧ c ≤ 9223372036854775807 ∧ Below w.heap.size w w' :=
  hc.mono fun e w' ⟨v, h1, h2, h3⟩ => by
    obtain ⟨a, c, rfl, hh, h4, h5, h6⟩ := h2.has okp
    exact ⟨a, c, h1, hh, h5, h4, by unfold maxLen at h6; omega, h.trans (h3.mono h.size)⟩
theorem lift1p {w wx : World} {f : FuncId} {args : Array Value} {v : Value} (h : Below w.heap.size w wx) (hc : Calls Try.prog f args wx fun e w' => e = .returned v ∧ Below wx.heap.size wx w') :
    Calls Try.prog f args wx fun e w' => e = .returned v ∧ Below w.heap.size w w' := hc.mono fun e w' ⟨h1, h2⟩ => ⟨h1, h.trans (h2.mono h.size)⟩
set_option maxRecDepth 100000 in
set_option maxHeartbeats 16000000 in
theorem back_walk (a0 : Option Addr) (len0 cap0 : Nat) (X0 : List Ps) (a1 b1 a2 : Int) (w : World) (w0 : Inp w a0 len0 cap0 X0) :
    Calls Try.prog 6 #[.slice a0 len0 cap0, .agg #[.int .i64 a1, .int .i64 b1], .int .i64 a2] w fun e w' => e = .returned (.bool true) ∧ Below w.heap.size w w' := by
  obtain ⟨hx0, hl0, hlc, hn, hcap⟩ := w0
  obtain ⟨N, hN⟩ : ∃ N, N = w.heap.size := ⟨_, rfl⟩
  obtain ⟨W0, hW0⟩ : ∃ W0, W0 = w.alloc (.cells #[.int .i64 a1, .int .i64 b1] 24) := ⟨_, rfl⟩
  have x0 : Blk W0 N #[.int .i64 a1, .int .i64 b1] 24 := by rw [hW0, hN]; exact Blk.new w _ _
  have hb : Below w.heap.size w W0 := by rw [hW0]; exact one_alloc _ _
  have KS : Hid (∀ wx, Below W0.heap.size W0 wx → wx.cell? ⟨N, 0, none⟩ = some (.int .i64 a1) ∧ wx.cell? ⟨N, 1, none⟩ = some (.int .i64 b1)) := Lib.hid fun wx hb => ⟨(x0.keep hb).cell 0, (x0.keep hb).cell 1⟩
  have HX : Hid (∀ wx, Below W0.heap.size W0 wx → Has encp wx a0 X0) := Lib.hid fun wx h => (hx0.keep hb).keep h
  have HB := Lib.hid hb; have HN := Lib.hid hN; have HW := Lib.hid hW0; have HL := Lib.hid hl0; have HNN := Lib.hid hn
  clear hx0 hN hW0 x0 hb hl0 hn
  go_enter Try.func6, Try.ntmps6
  go_wp2_with fail
  rw [← HN.out, ← HW.out]
  clear HN HW
  refine (wakes_any W0).mono ?_
  rintro e w1 ⟨rfl, hb1⟩
  have B1 := Lib.hid hb1
  clear hb1
  go_wp2_with fail
  refine (good_p a0 len0 cap0 16 12 X0 w1 (HX.out _ B1.out) HL.out).mono ?_
  rintro e w2 ⟨rfl, hb2⟩
  have B2 := Lib.hid (below_next B1.out hb2)
  clear hb2 B1
  obtain ⟨c0, c1⟩ := KS.out w2 B2.out
  cases hR : goodSp X0 16 12 with
  | false =>
    clear hR
    go_wp2
    go_ret
    exact ⟨rfl, below_next HB.out B2.out⟩
  | true =>
  by_cases v1 : a1 < 2
  · clear hR
    go_wp2
    go_ret
    exact ⟨rfl, below_next HB.out B2.out⟩
  by_cases v2 : 15 < a1
  · clear hR
    go_wp2
    go_ret
    exact ⟨rfl, below_next HB.out B2.out⟩
  by_cases v3 : b1 < 0
  · clear hR
    go_wp2
    go_ret
    exact ⟨rfl, below_next HB.out B2.out⟩
  by_cases v4 : 11 < b1
  · clear hR
    go_wp2
    go_ret
    exact ⟨rfl, below_next HB.out B2.out⟩
  obtain ⟨hlen, hP, hall⟩ := goodS_partsp hR
  obtain ⟨L, o, R, hd⟩ := dec_of (key := keyp) (a1, b1) hP
  have hqo : ∀ y, o = some y → qtyB y.qty = true := fun y e => (goodB_qtyp (hall y (hd.mem y e))).1
  have hlen0 : len0 ≤ 64 := by rw [← HL.out]; exact hlen
  have hadd := add_any a0 len0 cap0 X0 L R o a1 b1 a2 w2 (HX.out _ B2.out) HL.out hlc HNN.out (by omega) (by omega) hd hqo
  unfold AddIt at hadd
  by_cases hE : addE X0.length o a2 = 0
  rotate_left
  · have hY : addL X0 L o R a1 b1 a2 = [] := by unfold addL; rw [if_pos hE]
    rw [hY] at hadd
    have HA := Lib.hid (lift3p (r := fun v => .tuple #[v, .int .i64 (addE X0.length o a2)]) (Below.refl _ _) hadd)
    generalize addE X0.length o a2 = E at *
    have bE : (E == 0) = false := beq_eq_false_iff_ne.2 hE
    clear hR hlen hP hall hd hqo hE hY hadd
    go_wp2_with fail
    refine HA.out.mono ?_
    rintro e w3 ⟨a3, c3, rfl, -, -, -, -, hb3⟩
    go_wp2
    go_ret
    exact ⟨rfl, below_next HB.out (below_next B2.out hb3)⟩
  obtain ⟨k1, k2, k3, k4, k5, k6, k7, k8⟩ := add_ok hR hd hE (by omega) (by omega)
  rw [hE, k1] at hadd
  have hdY : Dec keyp (L ++ ((o2S a1 b1 o a2).toList ++ R)) (a1, b1) L (o2S a1 b1 o a2) R := hd.put _ fun y e => (k2 y e).1
  have hgY : goodSp (L ++ ((o2S a1 b1 o a2).toList ++ R)) 16 12 = true := good_putp hR hd k2 k6
  obtain ⟨O2, hO2⟩ : ∃ O2, O2 = o2S a1 b1 o a2 := ⟨_, rfl⟩
  rw [← hO2] at hadd hdY hgY k2 k3 k6 k7 k8
  have hmem : ∀ x ∈ X0, keyp x ≠ (a1, b1) → x ∈ L ++ (O2.toList ++ R) := fun x hx hne => by
    rw [hd.eq] at hx
    rcases List.mem_append.1 hx with hx | hx
    · exact List.mem_append_left _ hx
    · rcases List.mem_append.1 hx with hx | hx
      · cases o with
        | none => simp at hx
        | some y =>
          obtain rfl : x = y := by simpa using hx
          exact absurd (hd.mid x rfl) hne
      · exact List.mem_append_right _ (List.mem_append_right _ hx)
  obtain ⟨Y, hY⟩ : ∃ Y, Y = L ++ (O2.toList ++ R) := ⟨_, rfl⟩
  rw [← hY] at hadd hdY hgY k6 k7 k8 hmem
  obtain ⟨_, hPY, hallY⟩ := goodS_partsp hgY
  have hqO2 : ∀ y, O2 = some y → qtyB y.qty = true := fun y e => (goodB_qtyp (k2 y e).2).1
  have hadd := lift3p (r := fun v => .tuple #[v, .int .i64 0]) (Below.refl _ _) hadd
  obtain ⟨n3, hn3⟩ : ∃ n3, Y.length = n3 := ⟨_, rfl⟩
  rw [hn3] at hadd k6
  have HMQ : Hid (∀ j, j < len0 → ((X0.getD j zp).acct = a1 ∧ (X0.getD j zp).instr = b1) ∨ (((X0.getD j zp).acct ≠ a1 ∨ (X0.getD j zp).instr ≠ b1) ∧ ∃ L R, Dec keyp Y ((X0.getD j zp).acct, (X0.getD j zp).instr) L (some (X0.getD j zp)) R)) := Lib.hid fun j hj => by
    have hm : X0.getD j zp ∈ X0 := by
      rw [List.getD_eq_getElem?_getD, List.getElem?_eq_getElem (show j < X0.length by rw [HL.out]; exact hj)]
      exact List.getElem_mem _
    by_cases hk : keyp (X0.getD j zp) = (a1, b1)
    · exact .inl ⟨congrArg Prod.fst hk, congrArg Prod.snd hk⟩
    · refine .inr ⟨?_, dec_mem hPY (hmem _ hm hk)⟩
      by_cases h1 : (X0.getD j zp).acct = a1
      · exact .inr fun h2 => hk (Prod.ext h1 h2)
      · exact .inl h1
  have HGY := Lib.hid hgY; have HDY := Lib.hid hdY; have HN3 := Lib.hid hn3; have HQO := Lib.hid hqO2; have K7 := Lib.hid k7; have K8 := Lib.hid k8
  have HA := Lib.hid hadd
  obtain ⟨q1, q2⟩ := qtyB_iff.1 k5
  obtain ⟨T, hT⟩ : ∃ T, qtyOf o + a2 = T := ⟨_, rfl⟩
  rw [hT] at k3 k4
  have HQ0 := Lib.hid fun w3 (h : Below W0.heap.size W0 w3) => qty_any a0 len0 cap0 X0 L R o a1 b1 w3 (HX.out _ h) HL.out (by omega) hd
  obtain ⟨QQ, hQQ⟩ : ∃ QQ, QQ = qtyOf o := ⟨_, rfl⟩
  rw [← hQQ] at hT HQ0
  have iT : IntKind.i64.wrap (QQ + a2) = T := by rw [← hT]; exact IntWalk.i64_in _ (by have := qtyB_iff.1 k4; omega)
  have HK3 := Lib.hid k3
  obtain ⟨M, hM⟩ : ∃ M, -a2 = M := ⟨_, rfl⟩
  have iM : IntKind.i64.wrap (-a2) = M := by rw [← hM]; exact IntWalk.i64_in _ (by omega)
  rw [hM] at K7 K8
  clear hR hlen hP hall hd hqo hE hadd k1 k2 k3 k4 k5 k7 k8 hdY hgY hO2 hmem hY hPY hallY hqO2 hn3 hT hQQ hM
  go_wp2_with fail
  refine HA.out.mono ?_
  rintro e w3 ⟨a3, c3, rfl, hh3, hc3, hz3, hm3, hb3⟩
  have B3 := Lib.hid (below_next B2.out hb3); have H3 : Hid (∀ wx, Below w3.heap.size w3 wx → Has encp wx a3 Y) := Lib.hid fun wx h => hh3.keep h
  have HZ3 := Lib.hid hz3
  clear hb3 hh3 hz3 HA c0 c1 B2
  have KS3 : Hid (∀ wx, Below w3.heap.size w3 wx → wx.cell? ⟨N, 0, none⟩ = some (.int .i64 a1) ∧ wx.cell? ⟨N, 1, none⟩ = some (.int .i64 b1)) := Lib.hid fun wx h => KS.out _ (below_next B3.out h)
  obtain ⟨c0, c1⟩ := KS3.out w3 (Below.refl _ _)
  have P1 : Hid (∀ wx, Below w3.heap.size w3 wx → Calls Try.prog 10 #[.slice a3 n3 c3, .int .i64 16, .int .i64 12] wx fun e w' => e = .returned (.bool true) ∧ Below w3.heap.size w3 w') := Lib.hid fun wx h => by
    have := good_p a3 n3 c3 16 12 Y wx (H3.out _ h) HN3.out
    rw [HGY.out] at this
    exact lift1p h this
  have P2 : Hid (∀ wx, Below w3.heap.size w3 wx → Calls Try.prog 18 #[.slice a3 n3 c3, .int .i64 a1, .int .i64 b1] wx fun e w' => e = .returned (.int .i64 T) ∧ Below w3.heap.size w3 w') := Lib.hid fun wx h => by
    have := qty_any a3 n3 c3 Y L R O2 a1 b1 wx (H3.out _ h) HN3.out (by omega) HDY.out
    rw [HK3.out] at this
    exact lift1p h this
  have P3 : Hid (∀ wx, Below w3.heap.size w3 wx → Calls Try.prog 18 #[.slice a0 len0 cap0, .int .i64 a1, .int .i64 b1] wx fun e w' => e = .returned (.int .i64 QQ) ∧ Below w3.heap.size w3 w') := Lib.hid fun wx h => lift1p h (HQ0.out _ (below_next B3.out h))
  have qT : (T == T) = true := beq_self_eq_true _
  go_upto_region 8 with (fail)
  go_region_held3 (fun wx => wx.cell? ⟨N, 0, none⟩ = some (.int .i64 a1) ∧ wx.cell? ⟨N, 1, none⟩ = some (.int .i64 b1))
    (first | exact KS3.out _ (Below.refl _ _).drew | exact KS3.out _ (Below.refl _ _) | exact KS3.out _ (by assumption))
    (first
      | (go_split_ands; go_at_call 10; (with_reducible refine (P1.out _ (by first | assumption | exact (Below.refl _ _).drew)).mono ?_); rintro e w5 ⟨rfl, hb5⟩)
      | (go_split_ands; go_at_call 18; (with_reducible refine (P2.out _ (by first | assumption | exact (Below.refl _ _).drew)).mono ?_); rintro e w6 ⟨rfl, hb6⟩)
      | (go_split_ands; go_at_call 18; (with_reducible refine (P3.out _ (by first | assumption | exact (Below.refl _ _).drew)).mono ?_); rintro e w7 ⟨rfl, hb7⟩)
      | fail)
  have B7 := Lib.hid hb7
  clear hb5 hb6 hb7 P1 P2 P3
  go_wp2
  go_loopg [74] len0 (fun m i wr => ∃ k : Nat, k + m = len0 ∧ i = .int .i64 (k : Int) ∧ Hid (Below w3.heap.size w3 wr))
  case atStart => exact ⟨0, by omega, rfl, B7⟩
  case round =>
    obtain ⟨k, hk, rfl, HR⟩ := hrel
    have BW := Lib.hid (below_next B3.out HR.out)
    by_cases hlt : k < len0
    · obtain ⟨b, off, rfl, f0, f1, f2⟩ := atp (HX.out wr BW.out) (show k < X0.length by rw [HL.out]; exact hlt)
      have hcase := HMQ.out k hlt
      generalize X0.getD k zp = x at *
      obtain ⟨g, hg⟩ : ∃ g, g = wr.heap.size := ⟨_, rfl⟩
      obtain ⟨W1, hW1⟩ : ∃ W1, W1 = wr.alloc (.cells #[.int .i64 x.acct, .int .i64 x.instr, .int .i64 x.qty] 48) := ⟨_, rfl⟩
      have x1 : Blk W1 g #[.int .i64 x.acct, .int .i64 x.instr, .int .i64 x.qty] 48 := by rw [hW1, hg]; exact Blk.new wr _ _
      have hb1 : Below wr.heap.size wr W1 := by rw [hW1]; exact one_alloc _ _
      have HR1 := Lib.hid (below_next HR.out hb1)
      have KP : Hid (∀ wx, Below W1.heap.size W1 wx → (wx.cell? ⟨N, 0, none⟩ = some (.int .i64 a1) ∧ wx.cell? ⟨N, 1, none⟩ = some (.int .i64 b1)) ∧ (wx.cell? ⟨g, 0, none⟩ = some (.int .i64 x.acct) ∧ wx.cell? ⟨g, 1, none⟩ = some (.int .i64 x.instr) ∧ wx.cell? ⟨g, 2, none⟩ = some (.int .i64 x.qty))) :=
        Lib.hid fun wx h => ⟨KS3.out wx (below_next HR1.out h), (x1.keep h).cell 0, (x1.keep h).cell 1, (x1.keep h).cell 2⟩
      have HG := Lib.hid hg; have HW1 := Lib.hid hW1
      have i1 : (0 : Int) ≤ (k : Int) := by omega
      have i2 : (k : Int) < (len0 : Int) := by omega
      clear hg hW1 x1 hb1
      obtain ⟨⟨c0, c1⟩, d0, d1, d2⟩ := KP.out W1 (Below.refl _ _)
      go_upto_region 13 with (fail)
      rw [← HG.out, ← HW1.out]
      clear f0 f1 f2
      rcases hcase with ⟨e1, e2⟩ | ⟨hne, L', R', hd'⟩
      · have b1' : (x.acct != a1) = false := by simp [e1]
        have b2' : (x.instr != b1) = false := by simp [e2]
        clear e1 e2
        go_quiet (fail)
        go_wp2
        go_roundg (len0 - (k + 1))
        case measure => omega
        case rel => exact ⟨k + 1, by omega, by go_num, Lib.hid (below_next HR1.out (below_drew _ _))⟩
      · have HQP : Hid (∀ wx, Below W1.heap.size W1 wx → Calls Try.prog 18 #[.slice a3 n3 c3, .int .i64 x.acct, .int .i64 x.instr] wx fun e w' => e = .returned (.int .i64 x.qty) ∧ Below W1.heap.size W1 w') := Lib.hid fun wx h => lift1p h (qty_any a3 n3 c3 Y L' R' (some x) x.acct x.instr wx (H3.out _ (below_next HR1.out h)) HN3.out (by omega) hd')
        have qq : (x.qty == x.qty) = true := beq_self_eq_true _
        clear hd'
        by_cases e1 : x.acct = a1
        · have b1' : (x.acct != a1) = false := by simp [e1]
          have b2' : (x.instr != b1) = true := by rw [bne_iff_ne]; omega
          clear e1 hne
          go_region_held3 (fun wx => (wx.cell? ⟨N, 0, none⟩ = some (.int .i64 a1) ∧ wx.cell? ⟨N, 1, none⟩ = some (.int .i64 b1)) ∧ (wx.cell? ⟨g, 0, none⟩ = some (.int .i64 x.acct) ∧ wx.cell? ⟨g, 1, none⟩ = some (.int .i64 x.instr) ∧ wx.cell? ⟨g, 2, none⟩ = some (.int .i64 x.qty)))
            (first | exact KP.out _ (Below.refl _ _).drew | exact KP.out _ (Below.refl _ _) | exact KP.out _ (by assumption))
            (first | (go_split_ands; go_at_call 18; (with_reducible refine (HQP.out _ (by first | assumption | exact (Below.refl _ _).drew)).mono ?_); rintro e w9 ⟨rfl, hb9⟩) | fail)
          go_wp2
          go_roundg (len0 - (k + 1))
          case measure => omega
          case rel => exact ⟨k + 1, by omega, by go_num, Lib.hid (below_next HR1.out hb9)⟩
        · have b1' : (x.acct != a1) = true := by rw [bne_iff_ne]; exact e1
          clear e1 hne
          refine wp_region_noPanic ?_
          refine wp_region_held_drew (S := fun wx => (wx.cell? ⟨N, 0, none⟩ = some (.int .i64 a1) ∧ wx.cell? ⟨N, 1, none⟩ = some (.int .i64 b1)) ∧ (wx.cell? ⟨g, 0, none⟩ = some (.int .i64 x.acct) ∧ wx.cell? ⟨g, 1, none⟩ = some (.int .i64 x.instr) ∧ wx.cell? ⟨g, 2, none⟩ = some (.int .i64 x.qty))) (by kernel_rfl) (KP.out _ (Below.refl _ _).drew) (fun hHeld => ?_)
          refine takeL (i := 0) (v := .pointer (some ⟨g, 0, none⟩)) rfl (by kernel_rfl) (by kernel_rfl) (by kernel_rfl) (fun _ _ _ h => h) (Or.inl ⟨by rfl, ?_⟩) hHeld ?_
          · intro w hSw
            (try dsimp only at hSw)
            go_simp
          (try simp only [Act.put, List.setIfInBounds_toArray, List.set_cons_zero, List.set_cons_succ])
          refine takeL (i := 1) (v := .int .i64 x.acct) rfl (by kernel_rfl) (by kernel_rfl) (by kernel_rfl) (fun _ _ _ h => h) (Or.inl ⟨by rfl, ?_⟩) hHeld ?_
          · intro w hSw
            (try dsimp only at hSw)
            go_simp
          (try simp only [Act.put, List.setIfInBounds_toArray, List.set_cons_zero, List.set_cons_succ])
          refine takeL (i := 2) (v := .pointer (some ⟨N, 0, none⟩)) rfl (by kernel_rfl) (by kernel_rfl) (by kernel_rfl) (fun _ _ _ h => h) (Or.inl ⟨by rfl, ?_⟩) hHeld ?_
          · intro w hSw
            (try dsimp only at hSw)
            go_simp
          (try simp only [Act.put, List.setIfInBounds_toArray, List.set_cons_zero, List.set_cons_succ])
          refine takeL (i := 3) (v := .int .i64 a1) rfl (by kernel_rfl) (by kernel_rfl) (by kernel_rfl) (fun _ _ _ h => h) (Or.inl ⟨by rfl, ?_⟩) hHeld ?_
          · intro w hSw
            (try dsimp only at hSw)
            go_simp
          (try simp only [Act.put, List.setIfInBounds_toArray, List.set_cons_zero, List.set_cons_succ])
          refine takeL (i := 4) (v := .bool true) rfl (by kernel_rfl) (by kernel_rfl) (by kernel_rfl) (fun _ _ _ h => h) (Or.inl ⟨by rfl, ?_⟩) hHeld ?_
          · intro w hSw
            (try dsimp only at hSw)
            go_simp
          (try simp only [Act.put, List.setIfInBounds_toArray, List.set_cons_zero, List.set_cons_succ])
          refine takeL (i := 5) (v := .bool true) rfl (by kernel_rfl) (by kernel_rfl) (by kernel_rfl) (fun _ _ _ h => h) (Or.inl ⟨by rfl, ?_⟩) hHeld ?_
          · intro w hSw
            (try dsimp only at hSw)
            go_simp
          (try simp only [Act.put, List.setIfInBounds_toArray, List.set_cons_zero, List.set_cons_succ])
          refine takeL (i := 6) (v := undef) rfl (by kernel_rfl) (by kernel_rfl) (by kernel_rfl) (fun _ _ _ h => h) (Or.inr ⟨by rfl, rfl⟩) hHeld ?_
          (try simp only [Act.put, List.setIfInBounds_toArray, List.set_cons_zero, List.set_cons_succ])
          refine takeL (i := 7) (v := undef) rfl (by kernel_rfl) (by kernel_rfl) (by kernel_rfl) (fun _ _ _ h => h) (Or.inr ⟨by rfl, rfl⟩) hHeld ?_
          (try simp only [Act.put, List.setIfInBounds_toArray, List.set_cons_zero, List.set_cons_succ])
          refine takeL (i := 8) (v := undef) rfl (by kernel_rfl) (by kernel_rfl) (by kernel_rfl) (fun _ _ _ h => h) (Or.inr ⟨by rfl, rfl⟩) hHeld ?_
          (try simp only [Act.put, List.setIfInBounds_toArray, List.set_cons_zero, List.set_cons_succ])
          refine takeL (i := 9) (v := undef) rfl (by kernel_rfl) (by kernel_rfl) (by kernel_rfl) (fun _ _ _ h => h) (Or.inr ⟨by rfl, rfl⟩) hHeld ?_
          (try simp only [Act.put, List.setIfInBounds_toArray, List.set_cons_zero, List.set_cons_succ])
          refine takeL (i := 10) (v := undef) rfl (by kernel_rfl) (by kernel_rfl) (by kernel_rfl) (fun _ _ _ h => h) (Or.inr ⟨by rfl, rfl⟩) hHeld ?_
          (try simp only [Act.put, List.setIfInBounds_toArray, List.set_cons_zero, List.set_cons_succ])
          refine takeL (i := 11) (v := .bool true) rfl (by kernel_rfl) (by kernel_rfl) (by kernel_rfl) (fun _ _ _ h => h) (Or.inl ⟨by rfl, ?_⟩) hHeld ?_
          · intro w hSw
            (try dsimp only at hSw)
            go_simp
          (try simp only [Act.put, List.setIfInBounds_toArray, List.set_cons_zero, List.set_cons_succ])
          refine takeL (i := 12) (v := .bool true) rfl (by kernel_rfl) (by kernel_rfl) (by kernel_rfl) (fun _ _ _ h => h) (Or.inl ⟨by rfl, ?_⟩) hHeld ?_
          · intro w hSw
            (try dsimp only at hSw)
            go_simp
          (try simp only [Act.put, List.setIfInBounds_toArray, List.set_cons_zero, List.set_cons_succ])
          refine takeL (i := 13) (v := .slice a3 n3 c3) rfl (by kernel_rfl) (by kernel_rfl) (by kernel_rfl) (fun _ _ _ h => h) (Or.inl ⟨by rfl, ?_⟩) hHeld ?_
          · intro w hSw
            (try dsimp only at hSw)
            go_simp
          (try simp only [Act.put, List.setIfInBounds_toArray, List.set_cons_zero, List.set_cons_succ])
          refine takeL (i := 14) (v := .pointer (some ⟨g, 0, none⟩)) rfl (by kernel_rfl) (by kernel_rfl) (by kernel_rfl) (fun _ _ _ h => h) (Or.inl ⟨by rfl, ?_⟩) hHeld ?_
          · intro w hSw
            (try dsimp only at hSw)
            go_simp
          (try simp only [Act.put, List.setIfInBounds_toArray, List.set_cons_zero, List.set_cons_succ])
          refine takeL (i := 15) (v := .int .i64 x.acct) rfl (by kernel_rfl) (by kernel_rfl) (by kernel_rfl) (fun _ _ _ h => h) (Or.inl ⟨by rfl, ?_⟩) hHeld ?_
          · intro w hSw
            (try dsimp only at hSw)
            go_simp
          (try simp only [Act.put, List.setIfInBounds_toArray, List.set_cons_zero, List.set_cons_succ])
          refine takeL (i := 16) (v := .pointer (some ⟨g, 1, none⟩)) rfl (by kernel_rfl) (by kernel_rfl) (by kernel_rfl) (fun _ _ _ h => h) (Or.inl ⟨by rfl, ?_⟩) hHeld ?_
          · intro w hSw
            (try dsimp only at hSw)
            go_simp
          (try simp only [Act.put, List.setIfInBounds_toArray, List.set_cons_zero, List.set_cons_succ])
          refine takeL (i := 17) (v := .int .i64 x.instr) rfl (by kernel_rfl) (by kernel_rfl) (by kernel_rfl) (fun _ _ _ h => h) (Or.inl ⟨by rfl, ?_⟩) hHeld ?_
          · intro w hSw
            (try dsimp only at hSw)
            go_simp
          (try simp only [Act.put, List.setIfInBounds_toArray, List.set_cons_zero, List.set_cons_succ])
          refine takeL (i := 19) (v := .pointer (some ⟨g, 2, none⟩)) rfl (by kernel_rfl) (by kernel_rfl) (by kernel_rfl) (fun _ _ _ h => h) (Or.inl ⟨by rfl, ?_⟩) hHeld ?_
          · intro w hSw
            (try dsimp only at hSw)
            go_simp
          (try simp only [Act.put, List.setIfInBounds_toArray, List.set_cons_zero, List.set_cons_succ])
          refine takeL (i := 20) (v := .int .i64 x.qty) rfl (by kernel_rfl) (by kernel_rfl) (by kernel_rfl) (fun _ _ _ h => h) (Or.inl ⟨by rfl, ?_⟩) hHeld ?_
          · intro w hSw
            (try dsimp only at hSw)
            go_simp
          (try simp only [Act.put, List.setIfInBounds_toArray, List.set_cons_zero, List.set_cons_succ])
          refine wpAnyH_ready (rs := [18]) (by kernel_rfl) (by simp) ?_
          refine consL rfl (fun K hK => ?_) AllReadyH.nil
          go_simp
          refine (HQP.out _ (Below.refl _ _).drew).mono ?_
          rintro e w9 ⟨rfl, hb9⟩
          refine hK.out _ _ (KP.out _ hb9) (fun hHeld => ?_)
          clear hK K
          (try simp only [Act.put, List.setIfInBounds_toArray, List.set_cons_zero, List.set_cons_succ])
          refine takeL (i := 21) (v := .bool false) rfl (by kernel_rfl) (by kernel_rfl) (by kernel_rfl) (fun _ _ _ h => h) (Or.inl ⟨by rfl, ?_⟩) hHeld ?_
          · intro w hSw
            (try dsimp only at hSw)
            go_simp
          (try simp only [Act.put, List.setIfInBounds_toArray, List.set_cons_zero, List.set_cons_succ])
          refine takeL (i := 22) (v := .bool false) rfl (by kernel_rfl) (by kernel_rfl) (by kernel_rfl) (fun _ _ _ h => h) (Or.inl ⟨by rfl, ?_⟩) hHeld ?_
          · intro w hSw
            (try dsimp only at hSw)
            go_simp
          (try simp only [Act.put, List.setIfInBounds_toArray, List.set_cons_zero, List.set_cons_succ])
          refine wpAnyH_done (by kernel_rfl) ?_ _
          refine NoPanic.normal ?_
          clear hHeld

          go_wp2
          go_roundg (len0 - (k + 1))
          case measure => omega
          case rel => exact ⟨k + 1, by omega, by go_num, Lib.hid (below_next HR1.out hb9)⟩
    · obtain ⟨c0, c1⟩ := KS3.out wr HR.out
      have hA2 := add_any a3 n3 c3 Y L R O2 a1 b1 M wr (H3.out _ HR.out) HN3.out hc3 HZ3.out (by omega) hm3 HDY.out HQO.out
      unfold AddIt at hA2
      rw [K7.out, K8.out] at hA2
      have hA2 := Lib.hid (lift3p (r := fun v => .tuple #[v, .int .i64 0]) (Below.refl _ _) hA2)
      rw [HL.out] at hA2
      go_wp2_with fail
      refine hA2.out.mono ?_
      rintro e w9 ⟨a9, c9, rfl, hh9, -, -, -, hb9⟩
      have B9 := Lib.hid (below_next BW.out hb9)
      have SM : Hid (∀ wx, Below w9.heap.size w9 wx → Calls Try.prog 17 #[.slice a9 len0 c9, .slice a0 len0 cap0] wx fun e w' => e = .returned (.bool true) ∧ Below w9.heap.size w9 w') := Lib.hid fun wx h => by
        have := same_p a9 a0 len0 c9 len0 cap0 X0 X0 wx (hh9.keep h) (HX.out _ (below_next B9.out h)) HL.out HL.out
        rw [decide_eq_true (rfl : X0 = X0)] at this
        exact lift1p h this
      clear hb9 hh9 hA2 c0 c1
      by_cases hnl : (n3 : Int) < (len0 : Int)
      case' pos => have hnl2 : n3 < len0 := by omega
      case' neg => have hnl2 : ¬ n3 < len0 := by omega
      all_goals
        go_upto_region 17 with (fail)
        first | (go_quiet (fail); skip) | skip
        go_wp2_with fail
        refine (SM.out _ (by first | exact below_drew _ _ | exact Below.refl _ _)).mono ?_
        rintro e w10 ⟨rfl, hb10⟩
        go_wp2
        go_ret
        exact ⟨rfl, below_next HB.out (below_next B9.out hb10)⟩
end Go.Proofs.Ytpagkeklilgknaa.Bo

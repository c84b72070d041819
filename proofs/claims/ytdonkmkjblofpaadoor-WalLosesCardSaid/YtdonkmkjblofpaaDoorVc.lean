/-
  Layer 5: Prune, where nothing fails.
-/
import Derived.Test.YtdonkmkjblofpaaDoorVb
namespace Go.Proofs.YtdonkmkjblofpaaDoor.Wl
open Go.RowKit Go.Sort Dx Sx Dk
set_option linter.unusedVariables false
set_option linter.unusedSimpArgs false
def PruneIt (w : World) (O : Nat → Prop) (d g : Nat) (per next last : Int) (ns : List Nat) (T : Nat → St) (below : Int) (e : Ending) (w' : World) : Prop := ∃ j : Nat, e = .returned (.tuple #[.int .i64 (j : Int), .int .i64 0]) ∧ (∀ i, i < j → i + 1 < ns.length ∧ (ns.getD (i + 1) 0 : Int) ≤ below) ∧ ¬ (j + 1 < ns.length ∧ (ns.getD (j + 1) 0 : Int) ≤ below) ∧ (j = 0 ∨ j < ns.length) ∧ HasW w O d g per next last 0 (T j) w'
def Gone (w1 w' : World) (O : Nat → Prop) (d g : Nat) (per next last : Int) (S' : St) : Prop := ∃ O', Step w1 (Og O g) w' (Og O' g) ∧ IsWal w' O' d g per next last 0 S'
theorem row_block {k : IntKind} {w w' : World} {p : Option Addr} {x : Nat} {l : List Int} (h : Fr.HasRow k w p x l) (hb : ∀ a, p = some a → w'.heap[a.block]? = w.heap[a.block]?) : Fr.HasRow k w' p x l :=
  ⟨h.1, h.2.1, fun h0 => (h.2.2 h0).elim fun b ⟨off, e, hc⟩ => ⟨b, off, e, fun j hj => by
    have e1 := hb _ e
    unfold World.cell? at hc ⊢
    rw [e1]; exact hc j hj⟩⟩
set_option maxRecDepth 100000 in
set_option maxHeartbeats 1600000 in
theorem prune_any {w : World} {O : Nat → Prop} {d g : Nat} {per next last : Int} {S : St} {ns : List Nat} (h : IsWal w O d g per next last 0 S) (ht : Tabs w) (hgl : ∀ i, glob i → ¬ Og O g i) (hs : Segs S ns) (T : Nat → St) (h0 : T 0 = S) (hT : ∀ j, j + 1 < ns.length → removeS (segN (ns.getD j 0)) (T j) = (0, T (j + 1))) (below : Int) :
    Calls Tryd.prog 19 #[.pointer (some ⟨g, 0, none⟩), .int .i64 below] w (PruneIt w O d g per next last ns T below) := by
  have SG := Lib.hid (segments_any h.disk hs ht)
  obtain ⟨q, hq⟩ : ∃ q, ns.length = q := ⟨_, rfl⟩
  have hq16 : q ≤ 16 := by
    have e1 := few_names h.disk.good
    rw [hs.names, List.length_map, hq] at e1; exact e1
  have HQ := Lib.hid hq; have HT := Lib.hid hT; have H0 := Lib.hid h0; have H := Lib.hid h; have TB := Lib.hid ht; have GL := Lib.hid hgl
  have OK := Lib.hid hs.ok
  obtain ⟨c0, c1, c2, c3, c4⟩ := h.cells
  clear h ht hs hq hT h0 hgl
  go_enter Tryd.func19, Tryd.ntmps19
  go_wp2_with fail
  refine SG.out.mono ?_
  rintro e w1 ⟨ad, cap, rfl, hc1, hc1b, hrow, had, hb1⟩
  obtain ⟨A1, hA1⟩ : ∃ A1, ns.length = A1 := ⟨_, rfl⟩
  have IW1 := Lib.hid (H.out.below hb1)
  have TB1 := Lib.hid (TB.out.keep hb1)
  have B1 := Lib.hid hb1
  have ROW := Lib.hid hrow; have AD := Lib.hid had
  obtain ⟨L, hL⟩ : ∃ L : List Nat, ns = L := ⟨_, rfl⟩
  rw [HQ.out] at hc1 ⊢
  clear hrow had hb1 c0 c1 c2 c3 c4 hA1 A1 hL L
  go_wp2_with fail
  go_loopg [7] q (fun m o wr => ∃ (j : Nat) (Oj : Nat → Prop), j + m = q ∧ o = .int .i64 (j : Int) ∧ Hid (Step w1 (Og O g) wr (Og Oj g)) ∧ Hid (IsWal wr Oj d g per next last 0 (T j)) ∧ Hid (∀ i, i < j → i + 1 < ns.length ∧ (ns.getD (i + 1) 0 : Int) ≤ below) ∧ Hid (j = 0 ∨ j < ns.length))
  case atStart => exact ⟨0, O, by omega, rfl, Lib.hid (Step.refl _ _), Lib.hid (by rw [H0.out]; exact IW1.out), Lib.hid fun i hi => absurd hi (Nat.not_lt_zero _), Lib.hid (.inl rfl)⟩
  case round =>
    obtain ⟨j, Oj, hj, rfl, HS, HW, HI, HJ⟩ := hrel
    have hLO : ∀ i, Og O g i → i < w.heap.size := fun i hi => hi.elim (disk_low H.out.disk i) fun e => e ▸ lt_of_heap H.out.blk
    have rowr := row_block ROW.out (w' := wr) fun a ha => HS.out.block _ (AD.out a ha).2 fun ho => by have := hLO _ ho; have := (AD.out a ha).1; omega
    rw [HQ.out] at rowr
    have D0 : PruneIt w O d g per next last ns T below (.returned (.tuple #[.int .i64 (j : Int), .int .i64 0])) wr ∨ (j + 1 < q ∧ (ns.getD (j + 1) 0 : Int) ≤ below) := by
      by_cases hx : j + 1 < q ∧ (ns.getD (j + 1) 0 : Int) ≤ below
      · exact .inr hx
      · exact .inl ⟨j, rfl, HI.out, by rw [HQ.out]; exact hx, HJ.out, Oj, (Step.of (Turned.of_below B1.out)).trans HS.out, HW.out⟩
    have d1 : IntKind.i64.wrap ((j : Int) + 1) = (j : Int) + 1 := IntWalk.i64_in _ (by omega)
    by_cases h1 : j + 1 < q
    · obtain ⟨b, off, rfl, hc⟩ := rowr.2.2 (by omega)
      obtain ⟨nk, hnk⟩ : ∃ nk, ns.getD (j + 1) 0 = nk := ⟨_, rfl⟩
      obtain ⟨nj, hnj⟩ : ∃ nj, ns.getD j 0 = nj := ⟨_, rfl⟩
      have hlist : ∀ i, i < q → (ns.map fun n : Nat => (n : Int)).getD i 0 = ((ns.getD i 0 : Nat) : Int) := fun i hi => by
        have : i < ns.length := by rw [HQ.out]; exact hi
        simp [List.getD, this]
      have ck := hc (j + 1) h1
      have cj := hc j (by omega)
      rw [hlist _ h1, hnk] at ck
      rw [hlist _ (by omega), hnj] at cj
      rw [hnk] at D0
      have i0 : (0 : Int) ≤ (j : Int) + 1 := by omega
      have i1 : (j : Int) + 1 < (q : Int) := by omega
      have i2 : (j : Int) + 1 < (cap : Int) := by omega
      have i3 : (0 : Int) ≤ (j : Int) := by omega
      have i4 : (j : Int) < (q : Int) := by omega
      have i5 : (j : Int) < (cap : Int) := by omega
      by_cases h2 : (nk : Int) ≤ below
      · have hokj := OK.out nj (by rw [← hnj]; have : j < ns.length := by rw [HQ.out]; omega
                                   simp [List.getD, this])
        have TBr : Tabs wr := tabs_turned TB1.out HS.out.toTurned GL.out
        have hrem := HT.out j (by rw [HQ.out]; exact h1)
        rw [hnj] at hrem
        have hgb : ¬ Og O g b := fun ho => by have := hLO _ ho; have := (AD.out _ rfl).1; simp at this; omega
        have hbl : b < wr.heap.size := Nat.lt_of_lt_of_le (AD.out _ rfl).2 HS.out.size
        have hbo : ¬ Oj b := fun ho => (HS.out.own b (.inl ho)).elim hgb fun hh => by have := (AD.out _ rfl).2; simp at this; omega
        have NM : Hid (∀ wx, Below wr.heap.size wr wx → Calls Tryd.prog 32 #[.int .i64 (nj : Int)] wx fun e w' => e = .returned (.string (bs (segN nj))) ∧ Below wr.heap.size wr w' ∧ w'.cell? ⟨g, 0, none⟩ = some (.pointer (some ⟨d, 0, none⟩)) ∧ w'.cell? ⟨b, off + j, none⟩ = some (.int .i64 (nj : Int))) := Lib.hid fun wx hbx =>
          (name_any nj hokj.1 hokj.2 wx (TBr.keep hbx)).mono fun e w' ⟨h1, h2⟩ => by
            have hb := hbx.trans (h2.mono hbx.size)
            exact ⟨h1, hb, (HW.out.below hb).cells.1, (hb.cell hbl).trans cj⟩
        have RM : Hid (∀ wx, Below wr.heap.size wr wx → Calls Tryd.prog 36 #[.pointer (some ⟨d, 0, none⟩), .string (bs (segN nj))] wx fun e w' => e = .returned (.int .i64 0) ∧ Gone w1 w' O d g per next last (T (j + 1)) ∧ w'.cell? ⟨g, 0, none⟩ = some (.pointer (some ⟨d, 0, none⟩)) ∧ w'.cell? ⟨b, off + j, none⟩ = some (.int .i64 (nj : Int))) := Lib.hid fun wx hbx => by
          have hwx := HW.out.below hbx
          have rm := remove_disk hwx.disk (bs (segN nj)) (by rw [bs_size]; unfold segN maxLen; rw [List.length_cons, low_length]; omega)
          rw [bs_data, hrem] at rm
          refine rm.mono ?_
          rintro e w' ⟨e1, O', st, hd'⟩
          have hw' := hwx.step st hd'
          refine ⟨e1, ⟨O', (HS.out.trans (Step.of (Turned.of_below hbx))).trans (step_og st), hw'⟩, hw'.cells.1, ?_⟩
          have e2 := (st.block b (Nat.lt_of_lt_of_le hbl hbx.size) hbo).trans (hbx.block b hbl)
          unfold World.cell? at cj ⊢
          rw [e2]; exact cj
        have HI1 : Hid (∀ i, i < j + 1 → i + 1 < ns.length ∧ (ns.getD (i + 1) 0 : Int) ≤ below) := Lib.hid fun i hi => by
          rcases Nat.lt_succ_iff_lt_or_eq.1 hi with hi | rfl
          · exact HI.out i hi
          · exact ⟨by rw [HQ.out]; exact h1, by rw [hnk]; exact h2⟩
        have HJ1 : Hid (j + 1 = 0 ∨ j + 1 < ns.length) := Lib.hid (.inr (by rw [HQ.out]; exact h1))
        have gc := HW.out.cells.1
        obtain ⟨Tn, hTn⟩ : ∃ Tn, bs (segN nj) = Tn := ⟨_, rfl⟩
        rw [hTn] at NM RM
        clear rowr hc hlist hnk hnj D0 hokj TBr hrem hgb hbl hbo hTn hLO
        go_wp2_with fail
        go_region_held3 (fun wx => wx.cell? ⟨g, 0, none⟩ = some (.pointer (some ⟨d, 0, none⟩)) ∧ wx.cell? ⟨b, off + j, none⟩ = some (.int .i64 (nj : Int))) (first | exact ⟨‹_›, ‹_›⟩) (first | (go_at_call 32; (with_reducible refine (NM.out _ (by first | assumption | exact Below.refl _ _ | exact (Below.refl _ _).drew | exact Below.drew (by assumption))).mono ?_); rintro e w' ⟨rfl, hb1', hb2', hb3'⟩) | (go_at_call 36; (with_reducible refine (RM.out _ (by first | assumption | exact Below.refl _ _ | exact (Below.refl _ _).drew | exact Below.drew (by assumption))).mono ?_); rintro e w' ⟨rfl, hb1', hb2', hb3'⟩))
        obtain ⟨O2, st2, hw2⟩ : Gone w1 _ O d g per next last (T (j + 1)) := by assumption
        have ST2 := Lib.hid st2; have HW2 := Lib.hid hw2
        clear st2 hw2
        go_wp2_with fail
        go_roundg (q - (j + 1))
        case measure => omega
        case rel => exact ⟨j + 1, O2, by omega, by first | rfl | go_num, ST2, HW2, HI1, HJ1⟩
      · have D : Hid (PruneIt w O d g per next last ns T below (.returned (.tuple #[.int .i64 (j : Int), .int .i64 0])) wr) := Lib.hid (D0.resolve_right fun h => h2 h.2)
        clear D0 rowr hc hlist hnk hnj hLO
        go_wp2_with fail
        go_ret2
        exact D.out
    · have D : Hid (PruneIt w O d g per next last ns T below (.returned (.tuple #[.int .i64 (j : Int), .int .i64 0])) wr) := Lib.hid (D0.resolve_right fun h => h1 h.1)
      clear D0 rowr hLO
      have i1 : ¬ ((j : Int) + 1 < (q : Int)) := by omega
      go_wp2_with fail
      go_ret2
      exact D.out
end Go.Proofs.YtdonkmkjblofpaaDoor.Wl

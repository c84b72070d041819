/-
  Layer 5: the numbers of the segments on a disk.
-/
import Derived.Test.YtjeemgcenmcplaaGreatDoorWh
import Derived.Test.YtjeemgcenmcplaaGreatDoorKt
namespace Go.Proofs.YtjeemgcenmcplaaGreatDoor.Wl
open Go.RowKit Go.Sort Dx Sx Dk
set_option linter.unusedVariables false
set_option linter.unusedSimpArgs false
theorem info_i : (Tryz.prog.info? 3).map (fun i => (i.zero, i.size, i.bytes)) = some (some (.int .i64 0), 1, 8) := by kernel_rfl
def encI (n : Nat) : Value := .int .i64 (n : Int)
/-- append(numbers, one number). -/
theorem wp_iapp {ops : Array Oper} {rest : List Oper} {o : Oper} {a : Act} {Q : Exit → Act → World → Prop} {w : World} (hgd : o.guard = none) (s x : Operand)
    (ho : o.op = .call { callee := .builtin .append, args := #[s, x], argTypes := #[58, 58] }) (N : Nat) (v : Value) (n : Nat) (xs : List Value) (hs : a.eval s = v) (hown : w.ownsRow N 3 1 v n xs) (hn : n ≤ 1048576)
    (gb : Nat) (y : Int) (hx : a.eval x = .slice (some ⟨gb, 0, none⟩) 1 1) (hc : w.cell? ⟨gb, 0, none⟩ = some (.int .i64 y)) (hN : N ≤ w.heap.size)
    (h : ∀ v' w', w'.ownsRow N 3 1 v' (n + 1) (xs ++ [.int .i64 y]) → (∃ ad cap, v' = .slice ad (n + 1) cap) → w.grownBy w' v.ownBlock → wpList Tryz.prog ops Q rest (a.put o.dst v') w') : wpList Tryz.prog ops Q (o :: rest) a w := by
  obtain ⟨i0, hi, hz0, hz1, hz2⟩ := info_parts info_i
  refine wpList_append_own w hgd s x 58 ho N 3 i0 (.int .i64 0) 1 8 Tryz.underlying58 hi hz0 hz1 hz2 rfl (by decide) v n xs hs hown ⟨gb, 0, none⟩ 1 1 [.int .i64 y] hx rfl ?_ ?_ (by unfold maxLen; omega) (by omega) hN ?_
  · intro i u hy
    match i, hy with
    | 0, hy => simp at hy; subst hy; exact hc
    | i + 1, hy => simp at hy
  · intro u hy; simp at hy; subst hy; rfl
  · intro v' w' r1 r2 r3
    refine h v' w' r1 ?_ r2
    rcases r1.2 with ⟨e, h0⟩ | ⟨g, cap, cur, e, _⟩
    · omega
    · exact ⟨_, cap, e⟩
def IRow (w wr : World) (v : Value) (L : List Nat) : Prop := Below w.heap.size w wr ∧ wr.ownsRow w.heap.size 3 1 v L.length (L.map encI)
theorem irow_kind {w : World} {base : Nat} {e : TypeId} {k : Nat} {v : Value} {n : Nat} {xs : List Value} (h : w.ownsRow base e k v n xs) : ∀ g, v.ownBlock = some g → base ≤ g ∧ ∃ cur, w.heap[g]? = some (.cells cur e (0, 0)) := by
  intro g hg
  rcases h.2 with ⟨rfl, _⟩ | ⟨g', cap, cur, rfl, hb, hh, _⟩
  · cases hg
  · cases hg; exact ⟨hb, cur, hh⟩
theorem irow_move {w w' : World} {base : Nat} {e : TypeId} {k : Nat} {v : Value} {n : Nat} {xs : List Value} (h : w.ownsRow base e k v n xs) (hb : ∀ g, v.ownBlock = some g → w'.heap[g]? = w.heap[g]?) : w'.ownsRow base e k v n xs := by
  refine ⟨h.1, ?_⟩
  rcases h.2 with h0 | ⟨g, cap, cur, hv, hbg, hh, h1, h2, h3, h4⟩
  · exact .inl h0
  · exact .inr ⟨g, cap, cur, hv, hbg, (hb g (by rw [hv]; rfl)).trans hh, h1, h2, h3, h4⟩
theorem IRow.below {w wr w2 : World} {v : Value} {L : List Nat} (h : IRow w wr v L) (hb : Below wr.heap.size wr w2) : IRow w w2 v L :=
  ⟨h.1.trans (hb.mono h.1.size), irow_move h.2 fun g e => hb.block g (h.2.lt g e).2⟩
theorem IRow.row {w wr : World} {v : Value} {L : List Nat} (h : IRow w wr v L) : ∃ ad cap, v = .slice ad L.length cap ∧ L.length ≤ cap ∧ cap ≤ 9223372036854775807 ∧ Fr.HasRow .i64 wr ad L.length (L.map fun n : Nat => (n : Int)) ∧ (∀ x, ad = some x → w.heap.size ≤ x.block ∧ x.block < wr.heap.size) := by
  rcases h.2.2 with ⟨rfl, h0⟩ | ⟨g, cap, cur, rfl, hb, hh, x1, x2, x3, x4⟩
  · exact ⟨none, 0, by rw [h0], by omega, by decide, by rw [h0]; exact row_zero _, fun x e => by cases e⟩
  · refine ⟨some ⟨g, 0, none⟩, cap, rfl, x1, by unfold maxLen at x2; exact x2, ⟨by simp, by unfold maxLen at x2; omega, fun h0 => ⟨g, 0, rfl, fun j hj => ?_⟩⟩, fun x e => by cases e; exact ⟨hb, lt_of_heap hh⟩⟩
    rw [Nat.zero_add, World.ownsRow.cellAt h.2 j (by omega), List.getElem?_map, List.getElem?_eq_getElem hj]
    simp [encI, List.getD, hj]
structure Segs (S : St) (ns : List Nat) : Prop where
  names : namesL S = ns.map segN
  ok : ∀ n ∈ ns, 1 ≤ n ∧ n ≤ 999999999
def SegsIt (w : World) (ns : List Nat) (e : Ending) (w' : World) : Prop := ∃ ad cap, e = .returned (.slice ad ns.length cap) ∧ ns.length ≤ cap ∧ cap ≤ 9223372036854775807 ∧ Fr.HasRow .i64 w' ad ns.length (ns.map fun n : Nat => (n : Int)) ∧ (∀ x, ad = some x → w.heap.size ≤ x.block ∧ x.block < w'.heap.size) ∧ Below w.heap.size w w'
set_option maxRecDepth 100000 in
set_option maxHeartbeats 800000 in
theorem segments_any {w : World} {O : Nat → Prop} {d : Nat} {S : St} {ns : List Nat} (hd : IsDisk w O d S) (hs : Segs S ns) (ht : Tabs w) : Calls Tryz.prog 30 #[.pointer (some ⟨d, 0, none⟩)] w (SegsIt w ns) := by
  obtain ⟨q, hq⟩ : ∃ q, (namesL S).length = q := ⟨_, rfl⟩
  have hq16 : q ≤ 16 := by rw [← hq]; exact few_names hd.good
  have hqn : ns.length = q := by rw [← hq, hs.names, List.length_map]
  have nh := names_hi (N := w.heap.size) hd (Nat.le_refl _)
  rw [hq] at nh
  have NH := Lib.hid nh; have HQ := Lib.hid hq; have HQN := Lib.hid hqn; have HS := Lib.hid hs; have HT := Lib.hid ht
  clear hd hs ht nh hq hqn
  go_enter Tryz.func30, Tryz.ntmps30
  go_wp2_with fail
  refine NH.out.mono ?_
  rintro e w1 ⟨ad1, cap1, rfl, hc1, hc1b, nm1, hb1⟩
  have NM := Lib.hid nm1; have B1 := Lib.hid hb1
  clear nm1 hb1
  go_wp2_with fail
  go_loopg [3, 11] q (fun m o i wr => ∃ (j : Nat) (ao : Option Addr) (co : Nat), j + m = q ∧ i = .int .i64 (j : Int) ∧ o = .slice ao j co ∧ Hid (IRow w1 wr (.slice ao j co) (ns.take j)))
  case atStart => exact ⟨0, none, 0, by omega, rfl, rfl, Lib.hid ⟨Below.refl _ _, rfl, .inl ⟨rfl, rfl⟩⟩⟩
  case round =>
    obtain ⟨j, ao, co, hj, rfl, rfl, HI⟩ := hrel
    by_cases hlt : j < q
    · have hjl : j < (namesL S).length := by rw [HQ.out]; exact hlt
      have hjn : j < ns.length := by rw [HQN.out]; exact hlt
      obtain ⟨g1, e1, n1⟩ := nm_cell (b := 0) (off := 0) (NM.out.keep (KeepHi.of_below HI.out.1)) hjl
      obtain ⟨nj, hnj⟩ : ∃ nj, ns[j] = nj := ⟨_, rfl⟩
      have hnv : nmV (namesL S) j = bs (segN nj) := by
        unfold nmV; rw [HS.out.names, ← hnj]
        simp [bs, List.getD, hjn]
      obtain ⟨o1, o2⟩ := HS.out.ok nj (by rw [← hnj]; exact List.getElem_mem hjn)
      rw [hnv] at n1
      have FO := Lib.hid (firstOf_any nj o1 o2 wr ((HT.out.keep B1.out).keep HI.out.1))
      obtain ⟨T, hT⟩ : ∃ T, bs (segN nj) = T := ⟨_, rfl⟩
      rw [hT] at n1 FO
      have htk : ns.take (j + 1) = ns.take j ++ [nj] := by rw [List.take_succ_eq_append_getElem hjn, hnj]
      have HTK := Lib.hid htk
      have hlen : (ns.take j).length = j := by rw [List.length_take]; omega
      have HLEN := Lib.hid hlen
      subst e1
      have hjc1 : (j : Int) < (cap1 : Int) := by omega
      have hj0 : (0 : Int) ≤ (j : Int) := by omega
      have hj1 : (j : Int) < (q : Int) := by omega
      clear hjl hjn hnj hnv hT htk hlen
      go_wp2_with fail
      clear n1
      refine FO.out.mono ?_
      rintro e w2 ⟨rfl, hb2⟩
      have i3 := (HI.out.below hb2).below ((Below.refl _ _).alloc (Nat.le_refl _) (.cells #[.int .i64 (nj : Int)] 3))
      have I3 := Lib.hid i3.1
      have I4 : Hid ((w2.alloc (.cells #[.int .i64 (nj : Int)] 3)).ownsRow w1.heap.size 3 1 (.slice ao j co) j ((ns.take j).map encI)) := Lib.hid (by have := i3.2; rwa [HLEN.out] at this)
      have C4 : Hid ((w2.alloc (.cells #[.int .i64 (nj : Int)] 3)).cell? ⟨w2.heap.size, 0, none⟩ = some (.int .i64 (nj : Int))) := Lib.hid (by rw [World.cell?_alloc_mark]; rfl)
      clear hb2 i3 FO
      go_wp2_with (at_builtin; go_loud (refine wp_iapp rfl (.tmp 21) (.tmp 23) rfl w1.heap.size (.slice ao j co) j _ rfl I4.out (by omega) w2.heap.size (nj : Int) rfl C4.out I3.out.size ?_); rintro v' w5 hr ⟨ao', co', rfl⟩ hg; have HR5 := Lib.hid hr; have HG5 := Lib.hid hg; clear hr hg)
      have kd := fun g (e : (Value.slice ao j co).ownBlock = some g) => (irow_kind I4.out g e).1
      have I5 : Hid (IRow w1 w5 (.slice ao' (j + 1) co') (ns.take (j + 1))) := Lib.hid ⟨I3.out.trans ((Below.refl _ _).grown HG5.out I3.out.size kd), by
        rw [HTK.out, List.length_append, HLEN.out, List.map_append]; exact HR5.out⟩
      go_roundg (q - (j + 1))
      case measure => omega
      case rel => exact ⟨j + 1, ao', co', by omega, by go_num, by first | rfl | go_num, I5⟩
    · obtain rfl : q = j := by omega
      have D : Hid (SegsIt w ns (.returned (.slice ao q co)) wr) := Lib.hid (by
        have h := HI.out
        rw [List.take_of_length_le (by rw [HQN.out]; exact Nat.le_refl _)] at h
        obtain ⟨ad, cap, e, x1, x2, x3, x4⟩ := h.row
        refine ⟨ad, cap, ?_, x1, x2, x3, fun x ex => ⟨Nat.le_trans B1.out.size (x4 x ex).1, (x4 x ex).2⟩, B1.out.trans (h.1.mono B1.out.size)⟩
        rw [← e])
      go_wp2
      go_ret
      exact D.out
end Go.Proofs.YtjeemgcenmcplaaGreatDoor.Wl

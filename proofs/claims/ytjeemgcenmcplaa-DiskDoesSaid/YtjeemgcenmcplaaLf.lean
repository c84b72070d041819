/-
  Layer 4: Off, at a disk of the reference.
-/
import Derived.Test.YtjeemgcenmcplaaLe
import Derived.Deep.RegionLaw
namespace Go.Proofs.Ytjeemgcenmcplaa.Dk
open Go.RowKit
set_option linter.unusedVariables false

/-- The first j files are cut. -/
def cutTo (keep : Int) (j : Nat) (fs : List File) : List File := (fs.take j).map (cut keep) ++ fs.drop j
theorem cutTo_zero (keep : Int) (fs : List File) : cutTo keep 0 fs = fs := by simp [cutTo]
theorem cutTo_all (keep : Int) {j : Nat} {fs : List File} (h : fs.length ≤ j) : cutTo keep j fs = fs.map (cut keep) := by simp [cutTo, List.take_of_length_le h, List.drop_of_length_le h]
theorem cutTo_length (keep : Int) (j : Nat) (fs : List File) : (cutTo keep j fs).length = fs.length := by simp [cutTo]; omega
theorem cutTo_at (keep : Int) {j : Nat} {fs : List File} (hj : j < fs.length) : (cutTo keep j fs)[j]? = fs[j]? := by
  unfold cutTo
  rw [List.getElem?_append_right (by simp; omega), List.getElem?_drop]
  congr 1; simp; omega
theorem cutTo_step (keep : Int) {j : Nat} {fs : List File} (hd : fs.Pairwise fun a b => a.nm ≠ b.nm) {f : File} (hj : fs[j]? = some f) : upd f.nm (cut keep) (cutTo keep j fs) = cutTo keep (j + 1) fs := by
  obtain ⟨h1, h2⟩ := List.getElem?_eq_some_iff.1 hj
  have hp := List.pairwise_iff_getElem.1 hd
  unfold cutTo upd
  rw [List.map_append, List.take_succ_eq_append_getElem h1, List.drop_eq_getElem_cons h1, h2, List.map_append, List.append_assoc]
  congr 1
  · rw [List.map_map]
    refine List.map_congr_left fun g hg => ?_
    obtain ⟨i, hi, rfl⟩ := List.mem_iff_getElem.1 hg
    simp at hi ⊢
    intro e
    exact absurd (show (fs[i]'(by omega)).nm = (fs[j]).nm by rw [h2]; exact e) (hp i j (by omega) h1 (by omega))
  · rw [List.map_cons, if_pos rfl]
    simp only [List.map_cons, List.map_nil, List.cons_append, List.nil_append]
    congr 1
    have : ∀ L : List File, (∀ g ∈ L, g.nm ≠ f.nm) → L.map (fun g => if g.nm = f.nm then cut keep g else g) = L := fun L hL => by
      induction L with
      | nil => rfl
      | cons a r ih => rw [List.map_cons, if_neg (hL a (by simp)), ih fun g hg => hL g (by simp [hg])]
    refine this _ fun g hg => ?_
    obtain ⟨i, hi, rfl⟩ := List.mem_iff_getElem.1 hg
    simp at hi ⊢
    intro e
    exact absurd (show (fs[j]).nm = (fs[j + 1 + i]'(by omega)).nm by rw [h2]; exact e.symm) (hp j (j + 1 + i) h1 (by omega) (by omega))
def OffAt (w wr : World) (O : Nat → Prop) (d : Nat) (keep : Int) (S : St) (j : Nat) : Prop := ∃ O' fv P Q, RRep wr O' d fv P Q { S with fs := cutTo keep j S.fs } ∧ Step w O wr O'
/-- The box of the file that is cut. -/
def BoxAt (wo wr : World) (O : Nat → Prop) (nm : ByteArray) (q : Value) (l : List Int) (v : Value) : Prop := Below wo.heap.size wo wr ∧ wr.heap[wo.heap.size]? = some (.cells #[.string nm, v, q] 65 (0, 0)) ∧ Part wr (OwnUp O wo wr) v l
theorem BoxAt.cells {wo wr : World} {O : Nat → Prop} {nm : ByteArray} {q v : Value} {l : List Int} (h : BoxAt wo wr O nm q l v) : wr.cell? ⟨wo.heap.size, 0, none⟩ = some (.string nm) ∧ wr.cell? ⟨wo.heap.size, 1, none⟩ = some v ∧ wr.cell? ⟨wo.heap.size, 2, none⟩ = some q ∧ ∀ i, wr.frozen? ⟨wo.heap.size, i, none⟩ = false :=
  ⟨Joins.cell_of_block h.2.1 0, Joins.cell_of_block h.2.1 1, Joins.cell_of_block h.2.1 2, fun i => Joins.unfrozen_of_block h.2.1 i⟩
theorem BoxAt.store {wo wr w4 : World} {O : Nat → Prop} {nm : ByteArray} {q v v4 : Value} {l l4 : List Int} (h : BoxAt wo wr O nm q l v) (hb : Below wr.heap.size wr w4) (ho : Ob.OwnB w4 wr.heap.size v4 l4) : BoxAt wo (w4.setCell ⟨wo.heap.size, 1, none⟩ v4) O nm q l4 v4 := by
  have hlt : wo.heap.size < wr.heap.size := (Array.getElem?_eq_some_iff.1 h.2.1).1
  have hblk : w4.heap[wo.heap.size]? = some (.cells #[.string nm, v, q] 65 (0, 0)) := (hb.block _ hlt).trans h.2.1
  have hk : ∀ k, k ≠ wo.heap.size → (w4.setCell ⟨wo.heap.size, 1, none⟩ v4).heap[k]? = w4.heap[k]? := fun k hk => Below.heap_setCell w4 _ v4 k hk
  have hkd := row_kind ho
  refine ⟨(h.1.trans (hb.mono h.1.size)).setCell (Nat.le_refl _) _, Joins.block_setCell (i := 1) hblk v4, row_base (row_move ho fun g e => hk g fun e2 => ?_), fun b e => .inr ⟨?_, ?_⟩⟩
  · have := (hkd g e).1; omega
  · have := (hkd b e).1; omega
  · obtain ⟨_, cur, hc⟩ := hkd b e
    have := (Array.getElem?_eq_some_iff.1 hc).1
    simpa using this
theorem OffAt.next {w wo wr w3 : World} {O O' : Nat → Prop} {d q j cap : Nat} {fv v qv : Value} {P Q : List UInt8 → Value} {S : St} {keep : Int} {f : File} (hr : RRep wo O' d fv P Q { S with fs := cutTo keep j S.fs }) (hst : Step w O wo O')
    (hf : S.fs[j]? = some f) (hj : (cutTo keep j S.fs)[j]? = some f) (e0 : fv = .slice (some ⟨q, 0, none⟩) (cutTo keep j S.fs).length cap) (hd : S.fs.Pairwise fun a b => a.nm ≠ b.nm)
    (hb : BoxAt wo wr O' (str f.nm) qv (f.l.take (cutN keep f)) v)
    (hw : w3 = ((wr.drew.setCell ⟨q, j * 3, none⟩ (.string (str f.nm))).setCell ⟨q, j * 3 + 1, none⟩ v).setCell ⟨q, j * 3 + 2, none⟩ (.slice none 0 0)) : OffAt w w3 O d keep S (j + 1) := by
  have hg := hr.good
  have hgood : Good { S with fs := upd f.nm (cut keep) (cutTo keep j S.fs) } := good_upd hg (fun _ _ => rfl) (fun g hm => by rw [cut_len (hg.safe g hm)]; exact Nat.le_refl _) (fun g hm => by
    rw [cut_len (hg.safe g hm)]; have := (cutN_le (keep := keep) (hg.safe g hm)).2; have := hg.size g hm; omega)
  have hp : Part wr (OwnUp O' wo wr) v ((cut keep f).l.take (cut keep f).s) := by
    have : (cut keep f).l.take (cut keep f).s = f.l.take (cutN keep f) := by simp [cut, List.take_take]
    rw [this]; exact hb.2.2
  have hn : Part wr (OwnUp O' wo wr) (.slice none 0 0) ((cut keep f).l.drop (cut keep f).s) := by
    have : (cut keep f).l.drop (cut keep f).s = [] := by simp [cut]
    rw [this]
    exact ⟨⟨rfl, .inl ⟨rfl, rfl⟩⟩, fun b e => by cases e⟩
  have h1 := hr.set (w1 := wr.drew) hb.1.drew hj e0 (cut keep) rfl (p := v) (r := .slice none 0 0) ⟨hp.move (O' := OwnUp O' wo wr.drew) (fun _ h => h) fun _ _ => rfl, hn.move (O' := OwnUp O' wo wr.drew) (fun _ h => h) fun _ _ => rfl⟩ hgood hw
  rw [show upd f.nm (cut keep) ({ S with fs := cutTo keep j S.fs } : St).fs = cutTo keep (j + 1) S.fs from cutTo_step keep hd hf] at h1
  exact ⟨_, _, _, _, h1.1, hst.trans h1.2⟩
theorem OffAt.done {w wr : World} {O : Nat → Prop} {d n : Nat} {S : St} {keep : Int} (h : OffAt w wr O d keep S n) (hn : S.fs.length ≤ n) (hu : S.down = false) {w3 : World} (hw : w3 = (wr.setCell ⟨d, 2, none⟩ (.bool false)).setCell ⟨d, 4, none⟩ (.int .i64 0)) : RUnit w O d (off keep S) (.returned (.tuple #[])) w3 := by
  subst hw
  obtain ⟨O', fv, P, Q, hr, hst⟩ := h
  have h1 := hr.field (S' := { S with fs := cutTo keep n S.fs, down := true }) 2 (.bool false) (by simp [rcells]) rfl hr.good.arm
  have h2 := h1.field (S' := { S with fs := cutTo keep n S.fs, down := true, arm := 0 }) 4 (.int .i64 0) (by simp [rcells]) rfl (Nat.zero_le _)
  have e : off keep S = { S with fs := cutTo keep n S.fs, down := true, arm := 0 } := by unfold off; rw [if_neg (by simp [hu]), cutTo_all keep hn]
  rw [e]
  exact ⟨rfl, O', hst.trans (Step.of ((Turned.setCell _ 2 hr.od _).trans (Turned.setCell _ 4 hr.od _))), fv, P, Q, h2⟩
theorem own_blk {W : World} {base g : Nat} (h : W.heap[g]? = some (.cells #[] 5 (0, 0))) (hb : base ≤ g) : Ob.OwnB W base (.slice (some ⟨g, 0, none⟩) 0 0) [] :=
  ⟨rfl, .inr ⟨g, 0, #[], rfl, hb, h, Nat.le_refl _, by decide, rfl, rfl⟩⟩
theorem row_blk {W : World} {g : Nat} {z : Int} (h : W.heap[g]? = some (.cells #[.int .u8 z] 5 (0, 0))) : Fr.HasRow .u8 W (some ⟨g, 0, none⟩) 1 [z] := by
  refine ⟨Nat.le_refl _, by decide, fun _ => ⟨g, 0, rfl, fun j hj => ?_⟩⟩
  match j, hj with
  | 0, _ => exact Joins.cell_of_block h 0
theorem blk1 (w : World) (o : Obj) : (w.alloc o).heap[w.heap.size]? = some o := (MapKept.heap_alloc w o).1
theorem blkA (w : World) (o : Obj) : (w.alloc o).drew.heap[w.heap.size]? = some o := blk1 w o
theorem blkB (w : World) (a b : Obj) : ((w.alloc a).alloc b).drew.heap[w.heap.size + 1]? = some b := by
  have := blk1 (w.alloc a) b
  rwa [show (w.alloc a).heap.size = w.heap.size + 1 by simp] at this
theorem blkC (w : World) (a b : Obj) : ((w.alloc a).alloc b).drew.heap[w.heap.size]? = some a := ((MapKept.heap_alloc _ b).2 _ (by simp)).trans (blk1 w a)
/-- The byte's block behind the first append: made ahead of it, last or first. -/
theorem blk3 {w w3 : World} {a b : Obj} {n c : Nat} (h : ((w.alloc a).alloc b).drew.grownBy w3 (Value.slice (some ⟨w.heap.size, 0, none⟩) n c).ownBlock) : w3.heap[w.heap.size + 1]? = some b :=
  (h.block (w.heap.size + 1) (by show _ < ((w.alloc a).alloc b).heap.size; simp) (by simp [Value.ownBlock])).trans (blkB w a b)
theorem blk4 {w w3 : World} {a b : Obj} {n c : Nat} (h : ((w.alloc a).alloc b).drew.grownBy w3 (Value.slice (some ⟨w.heap.size + 1, 0, none⟩) n c).ownBlock) : w3.heap[w.heap.size]? = some a :=
  (h.block w.heap.size (by show _ < ((w.alloc a).alloc b).heap.size; simp; omega) (by simp [Value.ownBlock])).trans (blkC w a b)
attribute [local go_sem] World.cell?_alloc_some
section
variable {w w' : World} {O : Nat → Prop} {d : Nat} {fv : Value} {P Q : List UInt8 → Value} {S S' : St}
set_option maxRecDepth 100000 in
set_option maxHeartbeats 1600000 in
theorem ref_off_up (h : RRep w O d fv P Q S) (keep : Int) (hdn : S.down = false) :
    Calls Try.prog 29 #[.pointer (some ⟨d, 0, none⟩), .int .i64 keep] w (RUnit w O d (off keep S)) := by
  obtain ⟨n, hn⟩ : ∃ n, S.fs.length = n := ⟨_, rfl⟩
  have hfew := h.good.few
  obtain ⟨ad, cap, hfv⟩ := h.val
  have H := Lib.hid h
  have HN := Lib.hid hn; have HDN := Lib.hid hdn
  obtain ⟨c0, _, c2, _⟩ := h.cells
  rw [hfv, hn] at c0
  rw [hdn] at c2
  rw [hn] at hfew
  have HS : Hid (OffAt w w O d keep S 0) := Lib.hid ⟨O, fv, P, Q, by rw [cutTo_zero]; exact h, Step.refl w O⟩
  have hdis := Lib.hid (distinct h.good.sorted)
  have hsafe := Lib.hid h.good.safe
  clear h hfv hn hdn
  go_enter Try.func29, Try.ntmps29
  go_wp2
  go_loopg [17] n (fun m i wr => ∃ j : Nat, j + m = n ∧ i = .int .i64 (j : Int) ∧ Hid (OffAt w wr O d keep S j))
  case atStart => exact ⟨0, by omega, rfl, HS⟩
  case round =>
    obtain ⟨j, hj, rfl, HO⟩ := hrel
    obtain ⟨wo, rfl⟩ : ∃ wo, wo = wr := ⟨_, rfl⟩
    by_cases hlt : j < n
    · obtain ⟨O', fv', P', Q', hr, hst⟩ := HO.out
      obtain ⟨f, hf⟩ : ∃ f, S.fs[j]? = some f := ⟨_, List.getElem?_eq_getElem (by rw [HN.out]; exact hlt)⟩
      have hj' : (cutTo keep j S.fs)[j]? = some f := by rw [cutTo_at keep (by rw [HN.out]; exact hlt)]; exact hf
      obtain ⟨q, n', cap', p1, p2, x1, x2, c1, c2', hn', hfew', hjn, e0, e1, e2, hx1, hx2, k1, k2, k3, k4, k5, k6, HX1, k8, k9, SEE⟩ := hr.see hj'
      have hlen : n' = n := by rw [← hn', ← HN.out]; exact cutTo_length _ _ _
      subst hlen
      have hmem : f ∈ S.fs := List.mem_of_getElem? hf
      have hs := hsafe.out f hmem
      have HR := Lib.hid hr; have HST := Lib.hid hst
      have SE := Lib.hid SEE
      have s0 := SEE wo (Below.refl _ _)
      obtain ⟨nm, hnm⟩ : ∃ nm, str f.nm = nm := ⟨_, rfl⟩
      rw [hnm] at s0
      obtain ⟨z0, a0, a1, a2, fz, r1, r2⟩ := s0
      have HX := Lib.hid HX1.out
      have hsx : x1 + x2 = f.l.length := k8
      have B0 : Hid (BoxAt wo (wo.alloc (.cells #[.string nm, .slice p1 x1 c1, .slice p2 x2 c2'] 65)) O' nm (.slice p2 x2 c2') (f.l.take (x1 + 0)) (.slice p1 (x1 + 0) c1)) := Lib.hid ⟨(Below.refl _ _).alloc (Nat.le_refl _) _, (MapKept.heap_alloc wo _).1, by
        have := (hr.files f (by
          have := List.mem_of_getElem? hj'; exact this)).safe
        rw [e1, ← HX.out] at this
        exact this.move (fun i hi => .inl hi) fun g e => (MapKept.heap_alloc wo _).2 g (by have := this.own.lt g e; omega)⟩
      have HJ := Lib.hid hj'; have HF := Lib.hid hf; have E0 := Lib.hid e0; have HNM := Lib.hid hnm
      have hqd : q ≠ d := hr.ne.1 q (by rw [e0]; rfl)
      have hlq : q < wo.heap.size := Fr.lt_of_cell a0
      have hld : d < wo.heap.size := hr.dom d hr.od
      clear SEE hr hst e0 e1 e2 hj' hf hmem HX1 hn' hnm
      go_wp2
      go_loopg [6] x2 (fun m i wr => ∃ (k : Nat) (va : Option Addr) (vc : Nat), k + m = x2 ∧ i = .int .i64 (k : Int) ∧ (k : Int) ≤ max keep 0 ∧ Hid (BoxAt wo wr O' nm (.slice p2 x2 c2') (f.l.take (x1 + k)) (.slice va (x1 + k) vc)))
      case atStart => exact ⟨0, _, _, by omega, rfl, by omega, B0⟩
      case round =>
        obtain ⟨k, va, vc, hk, rfl, hkk, HB⟩ := hrel
        obtain ⟨b0, b1, b2, bf⟩ := HB.out.cells
        by_cases hin : k < x2 ∧ (k : Int) < keep
        · obtain ⟨h1, h2⟩ := hin
          · have SW := Lib.hid (SE.out _ HB.out.1)
            obtain ⟨qb, qo, hq, hqc⟩ := SW.out.r2.2.2 (by omega)
            have hqk := hqc k h1
            obtain ⟨z, hz⟩ : ∃ z, (List.drop f.s f.l).getD k 0 = z := ⟨_, rfl⟩
            rw [hz] at hqk
            have HZ := Lib.hid hz
            have hl1 : (f.l.take (x1 + k)).length = x1 + k := by simp; omega
            obtain ⟨lk, hlk⟩ : ∃ lk, f.l.take (x1 + k) = lk := ⟨_, rfl⟩
            rw [hlk] at hl1 HB
            have HLK := Lib.hid hlk
            have HL4 : Hid (lk ++ [z] = f.l.take (x1 + (k + 1))) := Lib.hid (by
              have hd0 : (List.drop f.s f.l)[k]? = some z := by
                rw [List.getD_eq_getElem?_getD] at hz
                have : k < (List.drop f.s f.l).length := by rw [hx2]; exact h1
                rw [List.getElem?_eq_getElem this] at hz ⊢
                simpa using hz
              rw [List.getElem?_drop, ← HX.out] at hd0
              obtain ⟨h3, h4⟩ := List.getElem?_eq_some_iff.1 hd0
              rw [show x1 + (k + 1) = (x1 + k) + 1 by omega, List.take_succ_eq_append_getElem h3, hlk, h4])
            obtain ⟨va', vc', ev, kv, kv2, kv3, rv⟩ := HB.out.2.2.row
            rw [hl1] at ev rv
            simp only [Value.slice.injEq, true_and] at ev
            obtain ⟨rfl, rfl⟩ := ev
            have RV : Hid (∀ wx, Below wr.heap.size wr wx → Fr.HasRow .u8 wx va (x1 + k) lk) := Lib.hid fun wx hb => rv.keep hb
            have hbw := HB.out.1
            have HQK := Lib.hid hqk; have HBX := Lib.hid HB.out.2.1
            have KS : Hid (∀ wx, Below wr.heap.size wr wx → wx.cell? ⟨wo.heap.size, 2, none⟩ = some (.slice (some ⟨qb, qo, none⟩) x2 c2') ∧ wx.cell? ⟨qb, qo + k, none⟩ = some (.int .u8 z)) := Lib.hid fun wx hb => ⟨(hb.cell (p := ⟨wo.heap.size, 2, none⟩) (Fr.lt_of_cell b2)).trans (by rw [← hq]; exact b2), (hb.cell (p := ⟨qb, qo + k, none⟩) (Fr.lt_of_cell HQK.out)).trans HQK.out⟩
            have s0 := (Below.refl wr.heap.size wr)
            have hl5 : (([] : List Int) ++ lk.take (x1 + k)).length + 1 ≤ 140737488355328 := by simp; omega
            have hl6 : (([] : List Int) ++ lk.take (x1 + k) ++ List.take 1 [z]).length = x1 + (k + 1) := by simp; omega
            have FZ : Hid (∀ wx, Below wr.heap.size wr wx → wx.frozen? ⟨wo.heap.size, 1, none⟩ = false ∧ wx.cell? ⟨wo.heap.size, 1, none⟩ = some (.slice va (x1 + k) vc)) := Lib.hid fun wx hb => ⟨(hb.frozen (p := ⟨wo.heap.size, 1, none⟩) (Fr.lt_of_cell b1)).trans (bf 1), (hb.cell (p := ⟨wo.heap.size, 1, none⟩) (Fr.lt_of_cell b1)).trans b1⟩
            have hl7 : ([] : List Int).length + (x1 + k) ≤ 140737488355328 := by simp; omega
            have hnn : ∀ {a : Addr}, (some a : Option Addr) = none → (1 : Nat) = 0 := fun h => by cases h
            have DB : Hid (∀ w4 va4 vc4, Below wr.heap.size wr w4 → Ob.OwnB w4 wr.heap.size (.slice va4 (x1 + (k + 1)) vc4) ([] ++ lk.take (x1 + k) ++ List.take 1 [z]) → BoxAt wo (w4.setCell ⟨wo.heap.size, 1, none⟩ (.slice va4 (x1 + (k + 1)) vc4)) O' nm (.slice p2 x2 c2') (f.l.take (x1 + (k + 1))) (.slice va4 (x1 + (k + 1)) vc4)) := Lib.hid fun w4 va4 vc4 hb ho => by
              have := HB.out.store hb ho
              rw [← HL4.out]
              simpa [List.take_of_length_le, hl1] using this
            subst hq
            clear hqc hz hlk rv hbw hx1 hx2
            go_wp2
            have c2a := (KS.out _ s0).1; have c2b := (KS.out _ s0).2
            go_region_law (first
                | (refine step_apd (by rfl) (.tmp 39) (.tmp 41) (by rfl) wr wr.heap.size (by (repeat (first | assumption | exact s0 | (refine below_alloc ?_ (Nat.le_refl _)) | refine Below.drew ?_))) (.slice (some ⟨_, 0, none⟩) 0 0) [] (by rfl) (own_blk (by first | exact blkA _ _ | exact blkB _ _ _ | exact blkC _ _ _) (by first | exact Nat.le_refl _ | (simp))) va (x1 + k) vc lk (by rfl) (RV.out _ (by (repeat (first | assumption | exact s0 | (refine below_alloc ?_ (Nat.le_refl _)) | refine Below.drew ?_)))) kv hl7 (Nat.le_refl _) ?_;
                   intro v3 w3 ho3 hb3 hg3; have c3a := (KS.out _ hb3).1; have c3b := (KS.out _ hb3).2; have c3c := (FZ.out _ hb3).2)
                | (refine step_apd (by rfl) (.tmp 42) (.tmp 48) (by rfl) wr wr.heap.size (by (repeat (first | assumption | exact s0 | (refine below_alloc ?_ (Nat.le_refl _)) | refine Below.drew ?_))) v3 ([] ++ lk.take (x1 + k)) (by rfl) (by first | exact ho3 | exact Ob.own_keep ho3 (below_alloc (Below.refl _ _) (Nat.le_refl _))) (some ⟨_, 0, none⟩) 1 1 [z] (by rfl) (row_blk (by first | exact blk1 _ _ | exact blk3 hg3 | exact blk4 hg3)) hnn hl5 (Nat.le_refl _) ?_;
                   intro v4 w4 ho4 hb4 hg4; obtain ⟨va4, vc4, e4, _⟩ := Ob.own_row ho4; rw [hl6] at e4; subst e4; have BX4 := Lib.hid (DB.out w4 va4 vc4 hb4 ho4); have fz4 := (FZ.out _ hb4).1; have fz5 := (FZ.out _ hb4).2))
            all_goals
              clear c2a c2b
              go_wp2
              go_roundg (x2 - (k + 1))
              case measure => omega
              case rel => exact ⟨k + 1, va4, vc4, by omega, by go_num, by omega, BX4⟩
        · have hkc : x1 + k = cutN keep f := by have := HX.out; unfold cutN; omega
          have SW := Lib.hid (SE.out _ HB.out.1)
          obtain ⟨z0', a0', a1', a2', fz', _, _⟩ := SW.out
          have fzd := fun i => Joins.unfrozen_of_block (HR.out.below HB.out.1).blk i
          have D9 : Hid (∀ w3, w3 = ((wr.drew.setCell ⟨q, j * 3, none⟩ (.string nm)).setCell ⟨q, j * 3 + 1, none⟩ (.slice va (x1 + k) vc)).setCell ⟨q, j * 3 + 2, none⟩ (.slice none 0 0) → OffAt w w3 O d keep S (j + 1)) := Lib.hid fun w3 e => by
            have hb := HB.out
            rw [hkc, ← HNM.out] at hb
            rw [hkc, ← HNM.out] at e
            exact OffAt.next HR.out HST.out HF.out HJ.out E0.out hdis.out hb e
          have hqb : q ≠ wo.heap.size := by omega
          have hdb : d ≠ wo.heap.size := by omega
          have fz0 := fz' (j * 3); have fz1 := fz' (j * 3 + 1); have fz2 := fz' (j * 3 + 2)
          have hj0 : (0 : Int) ≤ (j : Int) := by omega
          have hjn2 : (j : Int) < (n' : Int) := by omega
          clear fzd hx1 hx2 SW hkc fz' bf
          have KS : Hid (∀ wx : World, wx.cell? ⟨d, 0, none⟩ = some (.slice (some ⟨q, 0, none⟩) n' cap') ∧ wx.cell? ⟨wo.heap.size, 0, none⟩ = some (.string nm) ∧ wx.cell? ⟨wo.heap.size, 1, none⟩ = some (.slice va (x1 + k) vc) → ∀ x y z : Value, (((wx.setCell ⟨q, j * 3, none⟩ x).setCell ⟨q, j * 3 + 1, none⟩ y).setCell ⟨q, j * 3 + 2, none⟩ z).cell? ⟨d, 0, none⟩ = some (.slice (some ⟨q, 0, none⟩) n' cap') ∧ (((wx.setCell ⟨q, j * 3, none⟩ x).setCell ⟨q, j * 3 + 1, none⟩ y).setCell ⟨q, j * 3 + 2, none⟩ z).cell? ⟨wo.heap.size, 0, none⟩ = some (.string nm) ∧ (((wx.setCell ⟨q, j * 3, none⟩ x).setCell ⟨q, j * 3 + 1, none⟩ y).setCell ⟨q, j * 3 + 2, none⟩ z).cell? ⟨wo.heap.size, 1, none⟩ = some (.slice va (x1 + k) vc)) := Lib.hid fun wx hx x y z => by
            have far : ∀ (a : Addr), a.block ≠ q → (((wx.setCell ⟨q, j * 3, none⟩ x).setCell ⟨q, j * 3 + 1, none⟩ y).setCell ⟨q, j * 3 + 2, none⟩ z).cell? a = wx.cell? a := fun a ha => by
              rw [World.cell?_setCell_far _ _ _ _ (Ne.symm ha), World.cell?_setCell_far _ _ _ _ (Ne.symm ha), World.cell?_setCell_far _ _ _ _ (Ne.symm ha)]
            rw [far _ (Ne.symm hqd), far _ (Ne.symm hqb), far _ (Ne.symm hqb)]
            exact hx
          by_cases h1 : k < x2
          · have h2 : ¬ (k : Int) < keep := fun h => hin ⟨h1, h⟩
            clear hin
            go_wp2
            go_region_held3 (fun wx => wx.cell? ⟨d, 0, none⟩ = some (.slice (some ⟨q, 0, none⟩) n' cap') ∧ wx.cell? ⟨wo.heap.size, 0, none⟩ = some (.string nm) ∧ wx.cell? ⟨wo.heap.size, 1, none⟩ = some (.slice va (x1 + k) vc))
              (first | exact ⟨z0', b0, b1⟩ | exact KS.out _ ⟨z0', b0, b1⟩ _ _ _)
              (fail)
            go_split_ands
            go_wp2
            go_roundg (n' - (j + 1))
            case measure => omega
            case rel => exact ⟨j + 1, by omega, by go_num, Lib.hid (D9.out _ rfl)⟩
          · clear hin
            go_wp2
            go_region_held3 (fun wx => wx.cell? ⟨d, 0, none⟩ = some (.slice (some ⟨q, 0, none⟩) n' cap') ∧ wx.cell? ⟨wo.heap.size, 0, none⟩ = some (.string nm) ∧ wx.cell? ⟨wo.heap.size, 1, none⟩ = some (.slice va (x1 + k) vc))
              (first | exact ⟨z0', b0, b1⟩ | exact KS.out _ ⟨z0', b0, b1⟩ _ _ _)
              (fail)
            go_split_ands
            go_wp2
            go_roundg (n' - (j + 1))
            case measure => omega
            case rel => exact ⟨j + 1, by omega, by go_num, Lib.hid (D9.out _ rfl)⟩
    · obtain rfl : n = j := by omega
      have D : Hid (∀ w3, w3 = (wo.setCell ⟨d, 2, none⟩ (.bool false)).setCell ⟨d, 4, none⟩ (.int .i64 0) → RUnit w O d (off keep S) (.returned (.tuple #[])) w3) := Lib.hid fun w3 e => HO.out.done (by rw [HN.out]; exact Nat.le_refl _) HDN.out e
      have F2 : wo.frozen? ⟨d, 2, none⟩ = false ∧ wo.frozen? ⟨d, 4, none⟩ = false ∧ (∃ x, wo.cell? ⟨d, 2, none⟩ = some (.bool x)) ∧ ∃ x, wo.cell? ⟨d, 4, none⟩ = some (.int .i64 x) := by
        obtain ⟨O', fv', P', Q', hr, _⟩ := HO.out
        obtain ⟨_, _, y2, _, y4, _, yf⟩ := hr.cells
        exact ⟨yf 2, yf 4, ⟨_, y2⟩, _, y4⟩
      obtain ⟨f2, f4, ⟨y2, g2⟩, y4, g4⟩ := F2
      go_wp2
      (first | go_end0 | refine bodyPost_ret (results_none rfl _ _ _) rfl ?_)
      exact D.out _ rfl
theorem ref_off : OffOk := fun w O d fv P Q S keep h => by
  cases hdn : S.down with
  | false => exact ref_off_up h keep hdn
  | true =>
    obtain ⟨_, _, c2, _⟩ := h.cells
    rw [hdn] at c2
    have D : Hid (RUnit w O d (off keep S) (.returned (.tuple #[])) w) := Lib.hid ⟨rfl, O, Step.refl _ _, fv, P, Q, by unfold off; rw [if_pos hdn]; exact h⟩
    clear h hdn
    go_enter Try.func29, Try.ntmps29
    go_wp2
    (first | go_end0 | refine bodyPost_ret (results_none rfl _ _ _) rfl ?_)
    exact D.out
end
end Go.Proofs.Ytjeemgcenmcplaa.Dk

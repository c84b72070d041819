/-
  Layer 4: at, Size, drop, put, at a disk of the reference.
-/
import Derived.Test.YtjeemgcenmcplaaLa
namespace Go.Proofs.Ytjeemgcenmcplaa.Dk
open Go.RowKit
set_option linter.unusedVariables false

theorem str_ne {k : List UInt8} {s : ByteArray} (h : k ≠ s.data.toList) : str k ≠ s := fun e => h (by rw [← e, str_list])
theorem txt_ne {a b : ByteArray} (h : a ≠ b) : (a.toList == b.toList) = false := by
  rw [ByteArray.toList_eq, ByteArray.toList_eq]
  simpa using fun e : a.data.toList = b.data.toList => h (by rw [← str_of a, e, str_of])
theorem info_f : (Try.prog.info? 65).map (fun i => (i.zero, i.size, i.bytes)) = some (some (.agg #[.string ByteArray.empty, .slice none 0 0, .slice none 0 0]), 3, 64) := by kernel_rfl
/-- append(files, one file). -/
theorem wp_fapp {ops : Array Oper} {rest : List Oper} {o : Oper} {a : Act} {Q : Exit → Act → World → Prop} {w : World} (hgd : o.guard = none) (s x : Operand)
    (ho : o.op = .call { callee := .builtin .append, args := #[s, x], argTypes := #[47, 47] }) (N : Nat) (v : Value) (n : Nat) (xs : List Value) (hs : a.eval s = v) (hown : w.ownsRow N 65 3 v n xs) (hn : n ≤ 1048576)
    (gb : Nat) (y1 y2 y3 : Value) (hx : a.eval x = .slice (some ⟨gb, 0, none⟩) 1 1) (hc : w.heap[gb]? = some (.cells #[y1, y2, y3] 65 (0, 0))) (h1 : y1.oneCell' = true) (h2 : y2.oneCell' = true) (h3 : y3.oneCell' = true) (hN : N ≤ w.heap.size)
    (h : ∀ v' w', w'.ownsRow N 65 3 v' (n + 1) (xs ++ [y1, y2, y3]) → (∃ ad cap, v' = .slice ad (n + 1) cap) → w.grownBy w' v.ownBlock → wpList Try.prog ops Q rest (a.put o.dst v') w') : wpList Try.prog ops Q (o :: rest) a w := by
  obtain ⟨i0, hi, hz0, hz1, hz2⟩ := info_parts info_f
  refine wpList_append_own w hgd s x 47 ho N 65 i0 (.agg #[.string ByteArray.empty, .slice none 0 0, .slice none 0 0]) 3 64 Try.underlying47 hi hz0 hz1 hz2 (by kernel_rfl) (by decide) v n xs hs hown ⟨gb, 0, none⟩ 1 1 [y1, y2, y3] hx rfl ?_ ?_ (by unfold maxLen; omega) (by omega) hN ?_
  · intro i y hy
    have hc0 : w.cell? ⟨gb, 0, none⟩ = some y1 := Joins.cell_of_block hc 0
    have hc1 : w.cell? ⟨gb, 1, none⟩ = some y2 := Joins.cell_of_block hc 1
    have hc2 : w.cell? ⟨gb, 2, none⟩ = some y3 := Joins.cell_of_block hc 2
    match i, hy with
    | 0, hy => simp at hy; subst hy; exact hc0
    | 1, hy => simp at hy; subst hy; exact hc1
    | 2, hy => simp at hy; subst hy; exact hc2
    | i + 3, hy => simp at hy
  · intro y hy; simp at hy; rcases hy with rfl | rfl | rfl <;> assumption
  · intro v' w' r1 r2 r3
    refine h v' w' r1 ?_ r2
    rcases r1.2 with ⟨e, h0⟩ | ⟨g, cap, cur, e, _⟩
    · omega
    · exact ⟨_, cap, e⟩
theorem row_lower {w : World} {base b : Nat} {e : TypeId} {k : Nat} {v : Value} {n : Nat} {xs : List Value} (h : w.ownsRow base e k v n xs) (hb : b ≤ base) : w.ownsRow b e k v n xs :=
  ⟨h.1, h.2.imp id fun ⟨g, cap, cur, hv, h0, hh⟩ => ⟨g, cap, cur, hv, Nat.le_trans hb h0, hh⟩⟩
theorem heap_two (w : World) (a b : Obj) : ((w.alloc a).alloc b).heap[w.heap.size + 1]? = some b := by
  have := (MapKept.heap_alloc (w.alloc a) b).1
  rwa [show (w.alloc a).heap.size = w.heap.size + 1 by simp] at this
theorem less_before : ∀ a b : List UInt8, Op.bytesLess a b = bytesBefore a b
  | [], [] => rfl
  | [], _ :: _ => rfl
  | _ :: _, [] => rfl
  | a :: r, b :: s => by unfold Op.bytesLess bytesBefore; rw [less_before r s]
theorem txt_less (a b : ByteArray) : Op.bytesLess a.toList b.toList = bytesBefore a.data.toList b.data.toList := by
  rw [ByteArray.toList_eq, ByteArray.toList_eq, less_before]
theorem below_row {N : Nat} {w w' : World} {e : TypeId} {k : Nat} {v : Value} {n : Nat} {xs : List Value} (h : w.ownsRow N e k v n xs) (hg : w.grownBy w' v.ownBlock) (hN : N ≤ w.heap.size) : Below N w w' :=
  ⟨hg.os, hg.tape, hg.output, hg.size, fun i hi => hg.block i (by omega) fun e => by have := (row_kind h i e.symm).1; omega⟩
section
variable {w w' : World} {O : Nat → Prop} {d : Nat} {fv : Value} {P Q : List UInt8 → Value} {S S' : St}
/-- A file's cells, in whatever world behind. -/
theorem RRep.look (h : RRep w O d fv P Q S) {j : Nat} (hj : j < S.fs.length) : ∃ f q cap p1 c1 p2 c2, S.fs[j]? = some f ∧ f ∈ S.fs ∧ fv = .slice (some ⟨q, 0, none⟩) S.fs.length cap ∧ O q ∧ P f.nm = .slice p1 (f.l.take f.s).length c1 ∧ Q f.nm = .slice p2 (f.l.drop f.s).length c2 ∧
    w.cell? ⟨q, j * 3, none⟩ = some (.string (str f.nm)) ∧ w.cell? ⟨q, j * 3 + 1, none⟩ = some (.slice p1 (f.l.take f.s).length c1) ∧ w.cell? ⟨q, j * 3 + 2, none⟩ = some (.slice p2 (f.l.drop f.s).length c2) ∧ (∀ i, w.frozen? ⟨q, i, none⟩ = false) := by
  have hf := List.getElem?_eq_getElem hj
  obtain ⟨q, cap, e, oq, a0, a1, a2, a3, _⟩ := h.at hf
  have hm := List.getElem_mem hj
  obtain ⟨p1, c1, e1⟩ := (h.files _ hm).safe.val
  obtain ⟨p2, c2, e2⟩ := (h.files _ hm).wait.val
  exact ⟨_, q, cap, p1, c1, p2, c2, hf, hm, e, oq, e1, e2, a0, by rw [← e1]; exact a1, by rw [← e2]; exact a2, a3⟩
theorem drop_step {α : Type} {L : List α} {j : Nat} {a : α} (h : L[j]? = some a) : L.drop j = a :: L.drop (j + 1) := by
  obtain ⟨h1, h2⟩ := List.getElem?_eq_some_iff.1 h
  rw [List.drop_eq_getElem_cons h1, h2]
def AtIt (w : World) (k : List UInt8) (S : St) (e : Ending) (w' : World) : Prop := (∃ r : Int, e = .returned (.int .i64 r) ∧ ((r = -1 ∧ look k S.fs = none) ∨ ∃ (j : Nat) (f : File), r = j ∧ S.fs[j]? = some f ∧ look k S.fs = some f)) ∧ Below w.heap.size w w'
set_option maxRecDepth 100000 in
set_option maxHeartbeats 1600000 in
theorem ref_at_it (h : RRep w O d fv P Q S) (s : ByteArray) :
    Calls Try.prog 42 #[.pointer (some ⟨d, 0, none⟩), .string s] w (AtIt w s.data.toList S) := by
  obtain ⟨n, hn⟩ : ∃ n, S.fs.length = n := ⟨_, rfl⟩
  have hfew := h.good.few
  obtain ⟨ad, cap, hfv⟩ := h.val
  have H := Lib.hid h
  have HN := Lib.hid hn; have HV := Lib.hid hfv
  obtain ⟨c0, _⟩ := h.cells
  rw [hfv, hn] at c0
  rw [hn] at hfew
  clear h hfv hn
  go_enter Try.func42, Try.ntmps42
  go_wp2
  go_loopg [12] n (fun m i wr => ∃ j : Nat, j + m = n ∧ i = .int .i64 (j : Int) ∧ Hid (Below w.heap.size w wr) ∧ Hid (look s.data.toList S.fs = look s.data.toList (S.fs.drop j)))
  case atStart => exact ⟨0, by omega, rfl, Lib.hid (Below.refl _ _), Lib.hid rfl⟩
  case round =>
    obtain ⟨j, hj, rfl, HB, HL⟩ := hrel
    by_cases hlt : j < n
    · obtain ⟨f, q, cap', p1, c1, p2, c2, hf, hm, e, oq, e1, e2, a0, a1, a2, a3⟩ := (H.out.below HB.out).look (by rw [HN.out]; exact hlt)
      have e3 := HV.out
      rw [e, HN.out] at e3
      simp only [Value.slice.injEq, true_and] at e3
      obtain ⟨rfl, rfl⟩ := e3
      have hd := drop_step hf
      have HF := Lib.hid hf
      by_cases hk : f.nm = s.data.toList
      · have et : str f.nm = s := by rw [hk, str_of]
        have hl : look s.data.toList S.fs = some f := by rw [HL.out, hd]; unfold look; rw [if_pos hk]
        have D : Hid (∀ w', Below w.heap.size w w' → AtIt w s.data.toList S (.returned (.int .i64 (j : Int))) w') := Lib.hid fun w' hb => ⟨⟨_, rfl, .inr ⟨j, f, rfl, HF.out, hl⟩⟩, hb⟩
        rw [et] at a0
        have B1 := fun c => Lib.hid (HB.out.alloc HB.out.size (.cells c 65))
        clear e e1 e2 hd hf hm hl HL oq hk et
        generalize (List.take f.s f.l).length = x1 at *
        generalize (List.drop f.s f.l).length = x2 at *
        go_wp2
        go_ret
        exact D.out _ (B1 _).out
      · have et := str_ne hk
        have HL1 : Hid (look s.data.toList S.fs = look s.data.toList (S.fs.drop (j + 1))) := Lib.hid (by rw [HL.out, hd]; rw [look, if_neg hk])
        have B1 := fun c => Lib.hid (HB.out.alloc HB.out.size (.cells c 65))
        clear e e1 e2 hd hf hm HL oq hk
        generalize (List.take f.s f.l).length = x1 at *
        generalize (List.drop f.s f.l).length = x2 at *
        generalize str f.nm = sn at *
        have t1 : (sn.toList == s.toList) = false := txt_ne et
        go_wp2
        go_roundg (n - (j + 1))
        case measure => omega
        case rel => exact ⟨j + 1, by omega, by go_num, B1 _, HL1⟩
    · obtain rfl : n = j := by omega
      have D : Hid (AtIt w s.data.toList S (.returned (.int .i64 (-1))) wr) := Lib.hid ⟨⟨_, rfl, .inl ⟨rfl, by rw [HL.out, ← HN.out, List.drop_length]; rfl⟩⟩, HB.out⟩
      go_wp2
      go_ret
      exact D.out
/-- The files that are laid anew. -/
def Laid (w wr : World) (P Q : List UInt8 → Value) (v : Value) (acc : List File) : Prop := Below w.heap.size w wr ∧ wr.ownsRow w.heap.size 65 3 v acc.length (acc.flatMap (ent3 P Q))
theorem Laid.below {wr w2 : World} {v : Value} {acc : List File} (h : Laid w wr P Q v acc) (hb : Below wr.heap.size wr w2) : Laid w w2 P Q v acc :=
  ⟨h.1.trans (hb.mono h.1.size), row_move h.2 fun g e => hb.block g (h.2.lt g e).2⟩
def RUnit (w : World) (O : Nat → Prop) (d : Nat) (S : St) (e : Ending) (w' : World) : Prop := e = .returned (.tuple #[]) ∧ ∃ O', Step w O w' O' ∧ IsRef w' O' d S
/-- As RUnit, with what stays: what was owned is owned, and no block but d has turned. -/
def RDrop (w : World) (O : Nat → Prop) (d : Nat) (S : St) (e : Ending) (w' : World) : Prop := e = .returned (.tuple #[]) ∧ ∃ O' fv P Q, Step w O w' O' ∧ RRep w' O' d fv P Q S ∧ (∀ i, O i → O' i) ∧ ∀ k, k < w.heap.size → k ≠ d → w'.heap[k]? = w.heap[k]?
theorem RDrop.unit {w w' : World} {O : Nat → Prop} {d : Nat} {S : St} {e : Ending} (h : RDrop w O d S e w') : RUnit w O d S e w' := by
  obtain ⟨h1, O', fv, P, Q, h2, h3, _, _⟩ := h
  exact ⟨h1, O', h2, fv, P, Q, h3⟩
theorem rows_doneK (h : RRep w O d fv P Q S) {w1 wr w' : World} (hb : Below w.heap.size w w1) {v : Value} {P' Q' : List UInt8 → Value} {acc : List File} (hl : Laid w1 wr P' Q' v acc) (hf : ∀ f ∈ acc, RFile w O (P' f.nm) (Q' f.nm) f) (hg : Good { S with fs := acc }) (hw : w' = wr.setCell ⟨d, 0, none⟩ v) :
    RDrop w O d { S with fs := acc } (.returned (.tuple #[])) w' := by
  subst hw
  have hbr : Below w.heap.size w wr := hb.trans (hl.1.mono hb.size)
  have := h.lay hbr (row_lower hl.2 hb.size) (fun f hm => (hf f hm).move (fun i hi => .inl hi) fun i cur hi _ => hbr.block i (h.dom i hi)) hg
  exact ⟨rfl, _, _, _, _, this.2, this.1, (fun i hi => .inl hi), fun k hk hd => (Below.heap_setCell wr _ v k hd).trans (hbr.block k hk)⟩
theorem rows_done (h : RRep w O d fv P Q S) {w1 wr w' : World} (hb : Below w.heap.size w w1) {v : Value} {P' Q' : List UInt8 → Value} {acc : List File} (hl : Laid w1 wr P' Q' v acc) (hf : ∀ f ∈ acc, RFile w O (P' f.nm) (Q' f.nm) f) (hg : Good { S with fs := acc }) (hw : w' = wr.setCell ⟨d, 0, none⟩ v) :
    RUnit w O d { S with fs := acc } (.returned (.tuple #[])) w' := (rows_doneK h hb hl hf hg hw).unit
set_option maxRecDepth 100000 in
set_option maxHeartbeats 1600000 in
theorem ref_dropK (h : RRep w O d fv P Q S) (s : ByteArray) :
    Calls Try.prog 46 #[.pointer (some ⟨d, 0, none⟩), .string s] w (RDrop w O d { S with fs := del s.data.toList S.fs }) := by
  obtain ⟨n, hn⟩ : ∃ n, S.fs.length = n := ⟨_, rfl⟩
  have hfew := h.good.few
  obtain ⟨ad, cap, hfv⟩ := h.val
  have H := Lib.hid h
  have HN := Lib.hid hn; have HV := Lib.hid hfv
  obtain ⟨c0, _, _, _, _, _, fz⟩ := h.cells
  have f0 := fz 0
  rw [hfv, hn] at c0
  rw [hn] at hfew
  clear h hfv hn fz
  go_enter Try.func46, Try.ntmps46
  go_wp2
  go_loopg [4, 12] n (fun m o i wr => ∃ (j : Nat) (acc : List File) (c : Nat) (ao : Option Addr) (co : Nat), j + m = n ∧ i = .int .i64 (j : Int) ∧ o = .slice ao c co ∧ c ≤ j ∧ Hid (acc.length = c) ∧ Hid (Laid w wr P Q (.slice ao c co) acc) ∧ Hid (acc ++ del s.data.toList (S.fs.drop j) = del s.data.toList S.fs))
  case atStart => exact ⟨0, [], 0, none, 0, by omega, rfl, rfl, Nat.le_refl _, Lib.hid rfl, Lib.hid ⟨Below.refl _ _, rfl, .inl ⟨rfl, rfl⟩⟩, Lib.hid rfl⟩
  case round =>
    obtain ⟨j, acc, c, ao, co, hj, rfl, rfl, hcj, HC, HB, HL⟩ := hrel
    by_cases hlt : j < n
    · obtain ⟨f, q, cap', p1, c1, p2, c2, hf, hm, e, oq, e1, e2, a0, a1, a2, a3⟩ := (H.out.below HB.out.1).look (by rw [HN.out]; exact hlt)
      have e3 := HV.out
      rw [e, HN.out] at e3
      simp only [Value.slice.injEq, true_and] at e3
      obtain ⟨rfl, rfl⟩ := e3
      have hd := drop_step hf
      obtain ⟨x1, hx1⟩ : ∃ x1, (List.take f.s f.l).length = x1 := ⟨_, rfl⟩
      obtain ⟨x2, hx2⟩ : ∃ x2, (List.drop f.s f.l).length = x2 := ⟨_, rfl⟩
      rw [hx1] at e1 a1
      rw [hx2] at e2 a2
      have B1 := fun c => Lib.hid (HB.out.below ((Below.refl _ _).alloc (Nat.le_refl _) (.cells c 65)))
      by_cases hk : f.nm = s.data.toList
      · have et : str f.nm = s := by rw [hk, str_of]
        have HL1 : Hid (acc ++ del s.data.toList (S.fs.drop (j + 1)) = del s.data.toList S.fs) := Lib.hid (by rw [← HL.out, hd]; simp [del, hk])
        rw [et] at a0
        clear e e1 e2 hd hf hm HL oq hk et hx1 hx2
        go_wp2
        go_roundg (n - (j + 1))
        case measure => omega
        case rel => exact ⟨j + 1, acc, c, ao, co, by omega, by go_num, rfl, by omega, HC, B1 _, HL1⟩
      · have et := str_ne hk
        have HL1 : Hid ((acc ++ [f]) ++ del s.data.toList (S.fs.drop (j + 1)) = del s.data.toList S.fs) := Lib.hid (by rw [← HL.out, hd]; simp [del, hk])
        have E1 := Lib.hid e1; have E2 := Lib.hid e2
        have SN : Hid (Value.string (str f.nm) = .string (str f.nm)) := Lib.hid rfl
        obtain ⟨sn, hsn⟩ : ∃ sn, str f.nm = sn := ⟨_, rfl⟩
        have HSN := Lib.hid hsn
        rw [hsn] at a0 et
        clear e e1 e2 hd hf hm HL oq hk hx1 hx2 hsn SN
        have t1 : (sn.toList == s.toList) = false := txt_ne et
        have b2 := (B1 #[.string sn, .slice p1 x1 c1, .slice p2 x2 c2]).out.below ((Below.refl _ _).alloc (Nat.le_refl _) (.cells #[.string sn, .slice p1 x1 c1, .slice p2 x2 c2] 65))
        have b4 := b2.2
        rw [HC.out] at b4
        have B2 := Lib.hid b2.1; have B4 := Lib.hid b4
        clear b2 b4
        go_wp2_with (at_builtin; go_loud (refine wp_fapp rfl (.tmp 20) (.tmp 22) rfl w.heap.size (.slice ao c co) c _ rfl B4.out (by omega) _ (.string sn) (.slice p1 x1 c1) (.slice p2 x2 c2) rfl (heap_two _ _ _) rfl rfl rfl B2.out.size ?_); rintro v' w3 hr ⟨ao', co', rfl⟩ hg; have HR3 := Lib.hid hr; have HG3 := Lib.hid hg; clear hr hg)
        have B3 : Hid (Laid w w3 P Q (.slice ao' (c + 1) co') (acc ++ [f])) := Lib.hid ⟨B2.out.trans (below_row B4.out HG3.out B2.out.size), by rw [List.length_append, HC.out, List.flatMap_append]; simpa [ent3, HSN.out, E1.out, E2.out] using HR3.out⟩
        have HC3 : Hid ((acc ++ [f]).length = c + 1) := Lib.hid (by simp [HC.out])
        go_roundg (n - (j + 1))
        case measure => omega
        case rel => exact ⟨j + 1, acc ++ [f], c + 1, ao', co', by omega, by go_num, rfl, by omega, HC3, B3, HL1⟩
    · obtain rfl : n = j := by omega
      have hl := HL.out
      rw [← HN.out, List.drop_length] at hl
      simp [del] at hl
      have D : Hid (∀ w', w' = wr.setCell ⟨d, 0, none⟩ (.slice ao c co) → RDrop w O d { S with fs := del s.data.toList S.fs } (.returned (.tuple #[])) w') := Lib.hid fun w' hw => by
        have := rows_doneK H.out (Below.refl _ _) HB.out (fun f hf => H.out.files f (by rw [hl] at hf; exact (mem_del.1 hf).1)) (by rw [hl]; exact good_del H.out.good _) hw
        rw [hl] at this; exact this
      have hb := HB.out.1
      have f0' : wr.frozen? ⟨d, 0, none⟩ = false := (World.frozen?_of_block (w := w) (a := ⟨d, 0, none⟩) (hb.block d (H.out.dom d H.out.od))).trans f0
      have c0' := (World.cell?_of_block (w := w) (a := ⟨d, 0, none⟩) (hb.block d (H.out.dom d H.out.od))).trans c0
      clear hl hb
      go_wp2
      first | go_end0 | refine bodyPost_ret (results_none rfl _ _ _) rfl ?_
      exact D.out _ rfl
theorem ref_drop (h : RRep w O d fv P Q S) (s : ByteArray) :
    Calls Try.prog 46 #[.pointer (some ⟨d, 0, none⟩), .string s] w (RUnit w O d { S with fs := del s.data.toList S.fs }) := (ref_dropK h s).mono fun _ _ h => h.unit

set_option maxRecDepth 100000 in
set_option maxHeartbeats 2000000 in
theorem ref_put (h : RRep w O d fv P Q S) (x : File) (xv yv : Value) (hx : RFile w O xv yv x) (hg : Good { S with fs := put x S.fs }) :
    Calls Try.prog 44 #[.pointer (some ⟨d, 0, none⟩), .agg #[.string (str x.nm), xv, yv]] w (RUnit w O d { S with fs := put x S.fs }) := by
  obtain ⟨n, hn⟩ : ∃ n, S.fs.length = n := ⟨_, rfl⟩
  have hfew := h.good.few
  obtain ⟨ad, cap, hfv⟩ := h.val
  have H := Lib.hid h; have HX := Lib.hid hx; have HG := Lib.hid hg
  have HN := Lib.hid hn; have HV := Lib.hid hfv
  obtain ⟨c0, _, _, _, _, _, fz⟩ := h.cells
  have f0 := fz 0
  rw [hfv, hn] at c0
  rw [hn] at hfew
  obtain ⟨xa, xc, exv⟩ := hx.safe.val
  obtain ⟨ya, yc, eyv⟩ := hx.wait.val
  obtain ⟨xl, hxl⟩ : ∃ xl, (List.take x.s x.l).length = xl := ⟨_, rfl⟩
  obtain ⟨yl, hyl⟩ : ∃ yl, (List.drop x.s x.l).length = yl := ⟨_, rfl⟩
  rw [hxl] at exv
  rw [hyl] at eyv
  have EXV := Lib.hid exv; have EYV := Lib.hid eyv
  obtain ⟨xn, hxn⟩ : ∃ xn, str x.nm = xn := ⟨_, rfl⟩
  have HXN := Lib.hid hxn
  have HXL : Hid (x.nm = xn.data.toList) := Lib.hid (by rw [← hxn, str_list])
  rw [hxn, exv, eyv]
  obtain ⟨P', hP'⟩ : ∃ P', P' = at1 P x.nm xv := ⟨_, rfl⟩
  obtain ⟨Q', hQ'⟩ : ∃ Q', Q' = at1 Q x.nm yv := ⟨_, rfl⟩
  have EX : Hid (ent3 P' Q' x = [.string xn, .slice xa xl xc, .slice ya yl yc]) := Lib.hid (by simp [ent3, hP', hQ', at1, hxn, exv, eyv])
  have EN : Hid (∀ f, f.nm ≠ x.nm → ent3 P' Q' f = ent3 P Q f) := Lib.hid fun f hf => by simp [ent3, hP', hQ', at1, hf]
  have DONE : Hid (∀ wr v w', Laid (w.alloc (.cells #[.string xn, .slice xa xl xc, .slice ya yl yc] 65)) wr P' Q' v (put x S.fs) → w' = wr.setCell ⟨d, 0, none⟩ v → RUnit w O d { S with fs := put x S.fs } (.returned (.tuple #[])) w') := Lib.hid fun wr v w' hl hw =>
    rows_done H.out ((Below.refl _ _).alloc (Nat.le_refl _) _) hl (fun f hf => by
      rcases mem_put.1 hf with rfl | ⟨hf, hne⟩
      · rw [hP', hQ', at1_same, at1_same]; exact HX.out
      · rw [hP', hQ', at1_other hne, at1_other hne]; exact H.out.files f hf) HG.out hw
  have c0b := ((Below.refl w.heap.size w).alloc (Nat.le_refl _) (.cells #[.string xn, .slice xa xl xc, .slice ya yl yc] 65)) |> fun hb => (World.cell?_of_block (w := w) (a := ⟨d, 0, none⟩) (hb.block d (h.dom d h.od))).trans c0
  clear h hx hg hfv hn fz exv eyv hxl hyl hxn hP' hQ' c0
  go_enter Try.func44, Try.ntmps44
  go_wp2
  go_loopg [4, 5, 13] n (fun m o lv i wr => ∃ (j : Nat) (acc : List File) (c : Nat) (ao : Option Addr) (co : Nat) (laid : Bool), j + m = n ∧ i = .int .i64 (j : Int) ∧ o = .slice ao c co ∧ lv = .bool laid ∧ c ≤ 2 * j ∧ Hid (acc.length = c) ∧
    Hid (Laid (w.alloc (.cells #[.string xn, .slice xa xl xc, .slice ya yl yc] 65)) wr P' Q' (.slice ao c co) acc) ∧ Hid (acc ++ (if laid then del x.nm (S.fs.drop j) else put x (S.fs.drop j)) = put x S.fs))
  case atStart => exact ⟨0, [], 0, none, 0, false, by omega, rfl, rfl, rfl, by omega, Lib.hid rfl, Lib.hid ⟨Below.refl _ _, rfl, .inl ⟨rfl, rfl⟩⟩, Lib.hid rfl⟩
  case round =>
    obtain ⟨j, acc, c, ao, co, laid, hj, rfl, rfl, rfl, hcj, HC, HB, HL⟩ := hrel
    have hbw : Below w.heap.size w wr := ((Below.refl w.heap.size w).alloc (Nat.le_refl _) _).trans (HB.out.1.mono (by simp))
    by_cases hlt : j < n
    · obtain ⟨f, q, cap', p1, c1, p2, c2, hf, hm, e, oq, e1, e2, a0, a1, a2, a3⟩ := (H.out.below hbw).look (by rw [HN.out]; exact hlt)
      have e3 := HV.out
      rw [e, HN.out] at e3
      simp only [Value.slice.injEq, true_and] at e3
      obtain ⟨rfl, rfl⟩ := e3
      have hd := drop_step hf
      obtain ⟨x1, hx1⟩ : ∃ x1, (List.take f.s f.l).length = x1 := ⟨_, rfl⟩
      obtain ⟨x2, hx2⟩ : ∃ x2, (List.drop f.s f.l).length = x2 := ⟨_, rfl⟩
      rw [hx1] at e1 a1
      rw [hx2] at e2 a2
      obtain ⟨fn, hfn⟩ : ∃ fn, str f.nm = fn := ⟨_, rfl⟩
      have hfl : f.nm = fn.data.toList := by rw [← hfn, str_list]
      rw [hfn] at a0
      -- the box of the file that is put, in the world behind the copy
      have B1 : Hid (Laid (w.alloc (.cells #[.string xn, .slice xa xl xc, .slice ya yl yc] 65)) (wr.alloc (.cells #[.string fn, .slice p1 x1 c1, .slice p2 x2 c2] 65)) P' Q' (.slice ao c co) acc) := Lib.hid (HB.out.below ((Below.refl _ _).alloc (Nat.le_refl _) _))
      have bx : ∀ w2, Below (w.alloc (.cells #[.string xn, .slice xa xl xc, .slice ya yl yc] 65)).heap.size (w.alloc (.cells #[.string xn, .slice xa xl xc, .slice ya yl yc] 65)) w2 → w2.heap[w.heap.size]? = some (.cells #[.string xn, .slice xa xl xc, .slice ya yl yc] 65 (0, 0)) := fun w2 hb => (hb.block _ (by simp)).trans (MapKept.heap_alloc w _).1
      have BX := Lib.hid bx
      have xb := bx _ B1.out.1
      have b0 := Joins.cell_of_block xb 0
      have b1 := Joins.cell_of_block xb 1
      have b2 := Joins.cell_of_block xb 2
      simp at b0 b1 b2
      have tl := txt_less xn fn
      rw [← hfl, ← HXL.out] at tl
      clear xb bx
      by_cases hk : f.nm = x.nm
      · have et : fn = xn := by rw [← str_of fn, ← hfl, hk, HXL.out, str_of]
        have hlx : bytesBefore x.nm f.nm = false := by rw [hk, WideAt.bytes_irrefl]
        rw [hlx] at tl
        have HL1 : Hid (acc ++ (if laid then del x.nm (S.fs.drop (j + 1)) else put x (S.fs.drop (j + 1))) = put x S.fs) := Lib.hid (by
          rw [← HL.out, hd]
          have : del x.nm (f :: S.fs.drop (j + 1)) = del x.nm (S.fs.drop (j + 1)) := by simp [del, hk]
          unfold put; rw [this])
        subst et
        clear e e1 e2 hd hf hm HL oq hk hx1 hx2 hlx hfn hfl
        cases laid
        all_goals
          go_wp2
          go_roundg (n - (j + 1))
          case measure => omega
          case rel => exact ⟨j + 1, acc, c, ao, co, _, by omega, by go_num, rfl, rfl, by omega, HC, B1, HL1⟩
      · have et : fn ≠ xn := fun e => hk (by rw [hfl, e, HXL.out])
        have t1 : (fn.toList == xn.toList) = false := txt_ne et
        have EF : Hid (ent3 P' Q' f = [.string fn, .slice p1 x1 c1, .slice p2 x2 c2]) := Lib.hid (by rw [EN.out f hk]; simp [ent3, hfn, e1, e2])
        have hdel : del x.nm (f :: S.fs.drop (j + 1)) = f :: del x.nm (S.fs.drop (j + 1)) := by simp [del, hk]
        have hcn : c ≤ 1000 := by omega
        cases laid with
        | true =>
          have HL1 : Hid ((acc ++ [f]) ++ (if true then del x.nm (S.fs.drop (j + 1)) else put x (S.fs.drop (j + 1))) = put x S.fs) := Lib.hid (by rw [← HL.out, hd]; simp [hdel])
          clear e e1 e2 hd hf hm HL oq hk hx1 hx2 hfn hfl hdel et
          have b2 := B1.out.below ((Below.refl _ _).alloc (Nat.le_refl _) (.cells #[.string fn, .slice p1 x1 c1, .slice p2 x2 c2] 65))
          have b4 := b2.2
          rw [HC.out] at b4
          have B23 := Lib.hid b2.1; have B43 := Lib.hid b4
          clear b2 b4
          go_wp2_with (at_builtin; refine wp_fapp rfl (.tmp 35) (.tmp 37) rfl (w.alloc (.cells #[.string xn, .slice xa xl xc, .slice ya yl yc] 65)).heap.size (.slice ao (c) co) (c) _ rfl B43.out (by omega) _ (.string fn) (.slice p1 x1 c1) (.slice p2 x2 c2) rfl (heap_two _ _ _) rfl rfl rfl B23.out.size ?_; rintro v' w3 hr ⟨ao', co', rfl⟩ hg; have HR3 := Lib.hid hr; have HG3 := Lib.hid hg; clear hr hg; have B33 : Hid (Laid (w.alloc (.cells #[.string xn, .slice xa xl xc, .slice ya yl yc] 65)) w3 P' Q' (.slice ao' (c + 1) co') (acc ++ [f])) := Lib.hid ⟨B23.out.trans (below_row B43.out HG3.out B23.out.size), by rw [List.length_append, HC.out, List.flatMap_append]; simpa [EF.out] using HR3.out⟩; have HC3 : Hid ((acc ++ [f]).length = c + 1) := Lib.hid (by rw [List.length_append, HC.out]; rfl))
          go_roundg (n - (j + 1))
          case measure => omega
          case rel => exact ⟨j + 1, acc ++ [f], c + 1, ao', co', true, by omega, by go_num, rfl, rfl, by omega, HC3, B33, HL1⟩
        | false =>
          cases hbf : bytesBefore x.nm f.nm with
          | false =>
            rw [hbf] at tl
            have HL1 : Hid ((acc ++ [f]) ++ (if false then del x.nm (S.fs.drop (j + 1)) else put x (S.fs.drop (j + 1))) = put x S.fs) := Lib.hid (by rw [← HL.out, hd]; simp [put, hdel, ins, hbf])
            clear e e1 e2 hd hf hm HL oq hk hx1 hx2 hfn hfl hdel et hbf
            have b2 := B1.out.below ((Below.refl _ _).alloc (Nat.le_refl _) (.cells #[.string fn, .slice p1 x1 c1, .slice p2 x2 c2] 65))
            have b4 := b2.2
            rw [HC.out] at b4
            have B23 := Lib.hid b2.1; have B43 := Lib.hid b4
            clear b2 b4
            go_wp2_with (at_builtin; refine wp_fapp rfl (.tmp 35) (.tmp 37) rfl (w.alloc (.cells #[.string xn, .slice xa xl xc, .slice ya yl yc] 65)).heap.size (.slice ao (c) co) (c) _ rfl B43.out (by omega) _ (.string fn) (.slice p1 x1 c1) (.slice p2 x2 c2) rfl (heap_two _ _ _) rfl rfl rfl B23.out.size ?_; rintro v' w3 hr ⟨ao', co', rfl⟩ hg; have HR3 := Lib.hid hr; have HG3 := Lib.hid hg; clear hr hg; have B33 : Hid (Laid (w.alloc (.cells #[.string xn, .slice xa xl xc, .slice ya yl yc] 65)) w3 P' Q' (.slice ao' (c + 1) co') (acc ++ [f])) := Lib.hid ⟨B23.out.trans (below_row B43.out HG3.out B23.out.size), by rw [List.length_append, HC.out, List.flatMap_append]; simpa [EF.out] using HR3.out⟩; have HC3 : Hid ((acc ++ [f]).length = c + 1) := Lib.hid (by rw [List.length_append, HC.out]; rfl))
            go_roundg (n - (j + 1))
            case measure => omega
            case rel => exact ⟨j + 1, acc ++ [f], c + 1, ao', co', false, by omega, by go_num, rfl, rfl, by omega, HC3, B33, HL1⟩
          | true =>
            rw [hbf] at tl
            have HL1 : Hid (((acc ++ [x]) ++ [f]) ++ (if true then del x.nm (S.fs.drop (j + 1)) else put x (S.fs.drop (j + 1))) = put x S.fs) := Lib.hid (by rw [← HL.out, hd]; simp [put, hdel, ins, hbf])
            clear e e1 e2 hd hf hm HL oq hk hx1 hx2 hfn hfl hdel et hbf
            have b2 := B1.out.below ((Below.refl _ _).alloc (Nat.le_refl _) (.cells #[.string xn, .slice xa xl xc, .slice ya yl yc] 65))
            have b4 := b2.2
            rw [HC.out] at b4
            have B23 := Lib.hid b2.1; have B43 := Lib.hid b4
            clear b2 b4
            go_wp2_with (first | (at_builtin; refine wp_fapp rfl (.tmp 26) (.tmp 28) rfl (w.alloc (.cells #[.string xn, .slice xa xl xc, .slice ya yl yc] 65)).heap.size (.slice ao (c) co) (c) _ rfl B43.out (by omega) _ (.string xn) (.slice xa xl xc) (.slice ya yl yc) rfl (heap_two _ _ _) rfl rfl rfl B23.out.size ?_; rintro v' w3 hr ⟨ao', co', rfl⟩ hg; have HR3 := Lib.hid hr; have HG3 := Lib.hid hg; clear hr hg; have B33 : Hid (Laid (w.alloc (.cells #[.string xn, .slice xa xl xc, .slice ya yl yc] 65)) w3 P' Q' (.slice ao' (c + 1) co') (acc ++ [x])) := Lib.hid ⟨B23.out.trans (below_row B43.out HG3.out B23.out.size), by rw [List.length_append, HC.out, List.flatMap_append]; simpa [EX.out] using HR3.out⟩; have HC3 : Hid ((acc ++ [x]).length = c + 1) := Lib.hid (by rw [List.length_append, HC.out]; rfl); have fb : w3.heap[wr.heap.size]? = some (.cells #[.string fn, .slice p1 x1 c1, .slice p2 x2 c2] 65 (0, 0)) := (HG3.out.block wr.heap.size (by simp; omega) (fun e => by have := (HB.out.2.lt _ e.symm).2; omega)).trans (((MapKept.heap_alloc _ _).2 _ (by simp)).trans (MapKept.heap_alloc wr _).1); have g0 := Joins.cell_of_block fb 0; have g1 := Joins.cell_of_block fb 1; have g2 := Joins.cell_of_block fb 2; have xb := BX.out _ B33.out.1; have k0 := Joins.cell_of_block xb 0; simp at g0 g1 g2 k0; clear fb xb; have b2 := B33.out.below ((Below.refl _ _).alloc (Nat.le_refl _) (.cells #[.string fn, .slice p1 x1 c1, .slice p2 x2 c2] 65)); have b4 := b2.2; rw [HC3.out] at b4; have B25 := Lib.hid b2.1; have B45 := Lib.hid b4; clear b2 b4) | (at_builtin; refine wp_fapp rfl (.tmp 35) (.tmp 37) rfl (w.alloc (.cells #[.string xn, .slice xa xl xc, .slice ya yl yc] 65)).heap.size (.slice ao' (c + 1) co') (c + 1) _ rfl B45.out (by omega) _ (.string fn) (.slice p1 x1 c1) (.slice p2 x2 c2) rfl (MapKept.heap_alloc _ _).1 rfl rfl rfl B25.out.size ?_; rintro v' w4 hr ⟨ao2, co2, rfl⟩ hg; have HR5 := Lib.hid hr; have HG5 := Lib.hid hg; clear hr hg; have B35 : Hid (Laid (w.alloc (.cells #[.string xn, .slice xa xl xc, .slice ya yl yc] 65)) w4 P' Q' (.slice ao2 (c + 1 + 1) co2) ((acc ++ [x]) ++ [f])) := Lib.hid ⟨B25.out.trans (below_row B45.out HG5.out B25.out.size), by rw [List.length_append, HC3.out, List.flatMap_append]; simpa [EF.out] using HR5.out⟩; have HC5 : Hid (((acc ++ [x]) ++ [f]).length = c + 1 + 1) := Lib.hid (by rw [List.length_append, HC3.out]; rfl)))
            go_roundg (n - (j + 1))
            case measure => omega
            case rel => exact ⟨j + 1, (acc ++ [x]) ++ [f], c + 1 + 1, ao2, co2, true, by omega, by go_num, rfl, rfl, by omega, HC5, B35, HL1⟩
    · obtain rfl : n = j := by omega
      have hl := HL.out
      rw [← HN.out, List.drop_length] at hl
      have hcn : c ≤ 1000 := by omega
      have DZ : Hid (∀ w2, Below (w.alloc (.cells #[.string xn, .slice xa xl xc, .slice ya yl yc] 65)).heap.size (w.alloc (.cells #[.string xn, .slice xa xl xc, .slice ya yl yc] 65)) w2 → w2.cell? ⟨d, 0, none⟩ = some (.slice ad n cap) ∧ w2.frozen? ⟨d, 0, none⟩ = false) := Lib.hid fun w2 hb => by
        have hb0 : Below w.heap.size w w2 := ((Below.refl w.heap.size w).alloc (Nat.le_refl _) _).trans (hb.mono (by simp))
        have hc := H.out.cells
        rw [HV.out, HN.out] at hc
        exact ⟨(World.cell?_of_block (w := w) (a := ⟨d, 0, none⟩) (hb0.block d (H.out.dom d H.out.od))).trans hc.1, (World.frozen?_of_block (w := w) (a := ⟨d, 0, none⟩) (hb0.block d (H.out.dom d H.out.od))).trans (hc.2.2.2.2.2.2 0)⟩
      cases laid with
      | true =>
        have hacc : acc = put x S.fs := by rw [← hl]; simp [del]
        have D : Hid (∀ w', w' = wr.setCell ⟨d, 0, none⟩ (.slice ao c co) → RUnit w O d { S with fs := put x S.fs } (.returned (.tuple #[])) w') := Lib.hid fun w' hw => DONE.out wr _ w' (hacc ▸ HB.out) hw
        obtain ⟨z0, z1⟩ := DZ.out _ HB.out.1
        clear hl hbw hacc
        go_wp2
        first | go_end0 | refine bodyPost_ret (results_none rfl _ _ _) rfl ?_
        exact D.out _ rfl
      | false =>
        have hacc : acc ++ [x] = put x S.fs := by rw [← hl]; rfl
        have HA := Lib.hid hacc
        have xb : wr.heap[w.heap.size]? = some (.cells #[.string xn, .slice xa xl xc, .slice ya yl yc] 65 (0, 0)) := (HB.out.1.block _ (by simp)).trans (MapKept.heap_alloc w _).1
        have k0 := Joins.cell_of_block xb 0
        have k1 := Joins.cell_of_block xb 1
        have k2 := Joins.cell_of_block xb 2
        simp at k0 k1 k2
        clear hl hbw hacc xb
        have b2 := HB.out.below ((Below.refl _ _).alloc (Nat.le_refl _) (.cells #[.string xn, .slice xa xl xc, .slice ya yl yc] 65))
        have b4 := b2.2
        rw [HC.out] at b4
        have B23 := Lib.hid b2.1; have B43 := Lib.hid b4
        clear b2 b4
        go_wp2_with (at_builtin; refine wp_fapp rfl (.tmp 42) (.tmp 44) rfl (w.alloc (.cells #[.string xn, .slice xa xl xc, .slice ya yl yc] 65)).heap.size (.slice ao (c) co) (c) _ rfl B43.out (by omega) _ (.string xn) (.slice xa xl xc) (.slice ya yl yc) rfl (MapKept.heap_alloc _ _).1 rfl rfl rfl B23.out.size ?_; rintro v' w3 hr ⟨ao', co', rfl⟩ hg; have HR3 := Lib.hid hr; have HG3 := Lib.hid hg; clear hr hg; have B33 : Hid (Laid (w.alloc (.cells #[.string xn, .slice xa xl xc, .slice ya yl yc] 65)) w3 P' Q' (.slice ao' (c + 1) co') (acc ++ [x])) := Lib.hid ⟨B23.out.trans (below_row B43.out HG3.out B23.out.size), by rw [List.length_append, HC.out, List.flatMap_append]; simpa [EX.out] using HR3.out⟩; have HC3 : Hid ((acc ++ [x]).length = c + 1) := Lib.hid (by rw [List.length_append, HC.out]; rfl); obtain ⟨z0, z1⟩ := DZ.out _ B33.out.1)
        have D : Hid (∀ w', w' = w3.setCell ⟨d, 0, none⟩ (.slice ao' (c + 1) co') → RUnit w O d { S with fs := put x S.fs } (.returned (.tuple #[])) w') := Lib.hid fun w' hw => DONE.out w3 _ w' (HA.out ▸ B33.out) hw
        first | go_end0 | refine bodyPost_ret (results_none rfl _ _ _) rfl ?_
        exact D.out _ rfl
end
end Go.Proofs.Ytjeemgcenmcplaa.Dk

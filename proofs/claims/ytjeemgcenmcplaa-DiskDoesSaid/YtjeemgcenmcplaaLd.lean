/-
  Layer 4: Size, Names, at a disk of the reference.
-/
import Derived.Test.YtjeemgcenmcplaaLc
namespace Go.Proofs.Ytjeemgcenmcplaa.Dk
open Go.RowKit
set_option linter.unusedVariables false

theorem info_s : (Try.prog.info? 9).map (fun i => (i.zero, i.size, i.bytes)) = some (some (.string ByteArray.empty), 1, 16) := by kernel_rfl
/-- append(names, one name). -/
theorem wp_sapp {ops : Array Oper} {rest : List Oper} {o : Oper} {a : Act} {Q : Exit → Act → World → Prop} {w : World} (hgd : o.guard = none) (s x : Operand)
    (ho : o.op = .call { callee := .builtin .append, args := #[s, x], argTypes := #[52, 52] }) (N : Nat) (v : Value) (n : Nat) (xs : List Value) (hs : a.eval s = v) (hown : w.ownsRow N 9 1 v n xs) (hn : n ≤ 1048576)
    (gb : Nat) (y : ByteArray) (hx : a.eval x = .slice (some ⟨gb, 0, none⟩) 1 1) (hc : w.cell? ⟨gb, 0, none⟩ = some (.string y)) (hN : N ≤ w.heap.size)
    (h : ∀ v' w', w'.ownsRow N 9 1 v' (n + 1) (xs ++ [.string y]) → (∃ ad cap, v' = .slice ad (n + 1) cap) → w.grownBy w' v.ownBlock → wpList Try.prog ops Q rest (a.put o.dst v') w') : wpList Try.prog ops Q (o :: rest) a w := by
  obtain ⟨i0, hi, hz0, hz1, hz2⟩ := info_parts info_s
  refine wpList_append_own w hgd s x 52 ho N 9 i0 (.string ByteArray.empty) 1 16 Try.underlying52 hi hz0 hz1 hz2 rfl (by decide) v n xs hs hown ⟨gb, 0, none⟩ 1 1 [.string y] hx rfl ?_ ?_ (by unfold maxLen; omega) (by omega) hN ?_
  · intro i u hy
    match i, hy with
    | 0, hy => simp at hy; subst hy; exact hc
    | i + 1, hy => simp at hy
  · intro u hy; simp at hy; subst hy; rfl
  · intro v' w' r1 r2 r3
    refine h v' w' r1 ?_ r2
    rcases r1.2 with ⟨e, h0⟩ | ⟨g, cap, cur, e, _⟩
    · omega
    · exact ⟨_, cap, e⟩
section
variable {w w' : World} {O : Nat → Prop} {d : Nat} {fv : Value} {P Q : List UInt8 → Value} {S S' : St}
set_option maxRecDepth 100000 in
set_option maxHeartbeats 1600000 in
theorem ref_size (h : RRep w O d fv P Q S) :
    Calls Try.prog 43 #[.pointer (some ⟨d, 0, none⟩)] w fun e w' => e = .returned (.int .i64 (used S.fs : Int)) ∧ Below w.heap.size w w' := by
  obtain ⟨n, hn⟩ : ∃ n, S.fs.length = n := ⟨_, rfl⟩
  have hfew := h.good.few
  obtain ⟨ad, cap, hfv⟩ := h.val
  have HU := Lib.hid h.good.used_le
  have H := Lib.hid h
  have HN := Lib.hid hn; have HV := Lib.hid hfv
  obtain ⟨c0, _⟩ := h.cells
  rw [hfv, hn] at c0
  rw [hn] at hfew
  clear h hfv hn
  go_enter Try.func43, Try.ntmps43
  go_wp2
  go_loopg [3, 11] n (fun m t i wr => ∃ (j u : Nat), j + m = n ∧ i = .int .i64 (j : Int) ∧ t = .int .i64 (u : Int) ∧ u ≤ 16777216 ∧ Hid (Below w.heap.size w wr) ∧ Hid (u + used (S.fs.drop j) = used S.fs))
  case atStart => exact ⟨0, 0, by omega, rfl, rfl, by omega, Lib.hid (Below.refl _ _), Lib.hid (by simp)⟩
  case round =>
    obtain ⟨j, u, hj, rfl, rfl, hu, HB, HL⟩ := hrel
    by_cases hlt : j < n
    · obtain ⟨f, q, cap', p1, c1, p2, c2, hf, hm, e, oq, e1, e2, a0, a1, a2, a3⟩ := (H.out.below HB.out).look (by rw [HN.out]; exact hlt)
      have e3 := HV.out
      rw [e, HN.out] at e3
      simp only [Value.slice.injEq, true_and] at e3
      obtain ⟨rfl, rfl⟩ := e3
      have hd := drop_step hf
      have hs := H.out.good.safe f hm
      obtain ⟨x1, hx1⟩ : ∃ x1, (List.take f.s f.l).length = x1 := ⟨_, rfl⟩
      obtain ⟨x2, hx2⟩ : ∃ x2, (List.drop f.s f.l).length = x2 := ⟨_, rfl⟩
      rw [hx1] at e1 a1
      rw [hx2] at e2 a2
      have hsum : x1 + x2 = f.l.length := by rw [← hx1, ← hx2]; simp; omega
      have HL1 : Hid (u + x1 + x2 + used (S.fs.drop (j + 1)) = used S.fs) := Lib.hid (by rw [← HL.out, hd]; simp only [used]; omega)
      have hb : u + x1 + x2 ≤ 16777216 := by have := HL1.out; have := HU.out; omega
      have B1 := fun c => Lib.hid (HB.out.alloc HB.out.size (.cells c 65))
      clear e e1 e2 hd hf hm HL oq hx1 hx2 hs hsum
      generalize str f.nm = sn at *
      go_wp2
      go_roundg (n - (j + 1))
      case measure => omega
      case rel => exact ⟨j + 1, u + x1 + x2, by omega, by go_num, by go_num, hb, B1 _, HL1⟩
    · obtain rfl : n = j := by omega
      have D : Hid (u = used S.fs) := Lib.hid (by rw [← HL.out, ← HN.out, List.drop_length]; rfl)
      go_wp2
      go_ret
      exact ⟨by rw [← D.out] <;> rfl, HB.out⟩
def SRow (w wr : World) (v : Value) (c : Nat) (L : List (List UInt8)) : Prop := Below w.heap.size w wr ∧ wr.ownsRow w.heap.size 9 1 v c (L.map encStr)
theorem SRow.below {wr w2 : World} {v : Value} {c : Nat} {L : List (List UInt8)} (h : SRow w wr v c L) (hb : Below wr.heap.size wr w2) : SRow w w2 v c L :=
  ⟨h.1.trans (hb.mono h.1.size), row_move h.2 fun g e => hb.block g (h.2.lt g e).2⟩
set_option maxRecDepth 100000 in
set_option maxHeartbeats 1600000 in
theorem ref_names (h : RRep w O d fv P Q S) : Calls Try.prog 31 #[.pointer (some ⟨d, 0, none⟩)] w (NamesIt w S) := by
  obtain ⟨n, hn⟩ : ∃ n, S.fs.length = n := ⟨_, rfl⟩
  have hfew := h.good.few
  obtain ⟨ad, cap, hfv⟩ := h.val
  have H := Lib.hid h
  have HN := Lib.hid hn; have HV := Lib.hid hfv
  obtain ⟨c0, _, c2, _⟩ := h.cells
  rw [hfv, hn] at c0
  rw [hn] at hfew
  obtain ⟨dn, hdn⟩ : ∃ dn, S.down = dn := ⟨_, rfl⟩
  have HD := Lib.hid hdn
  clear h hfv hn c2 hdn
  go_enter Try.func31, Try.ntmps31
  go_wp2
  go_loopg [3, 11] n (fun m o i wr => ∃ (j c : Nat) (ao : Option Addr) (co : Nat) (L : List (List UInt8)), j + m = n ∧ i = .int .i64 (j : Int) ∧ o = .slice ao c co ∧ c ≤ j ∧ Hid (L.length = c) ∧ Hid (SRow w wr (.slice ao c co) c L) ∧ Hid (L ++ (if dn then [] else (S.fs.drop j).map File.nm) = namesL S))
  case atStart => exact ⟨0, 0, none, 0, [], by omega, rfl, rfl, by omega, Lib.hid rfl, Lib.hid ⟨Below.refl _ _, rfl, .inl ⟨rfl, rfl⟩⟩, Lib.hid (by unfold namesL; rw [HD.out]; cases dn <;> rfl)⟩
  case round =>
    obtain ⟨j, c, ao, co, L, hj, rfl, rfl, hcj, HC, HB, HL⟩ := hrel
    by_cases hlt : j < n
    · have h1 := H.out.below HB.out.1
      obtain ⟨f, q, cap', p1, c1, p2, c2, hf, hm, e, oq, e1, e2, a0, a1, a2, a3⟩ := h1.look (by rw [HN.out]; exact hlt)
      have e3 := HV.out
      rw [e, HN.out] at e3
      simp only [Value.slice.injEq, true_and] at e3
      obtain ⟨rfl, rfl⟩ := e3
      have hd := drop_step hf
      obtain ⟨x1, hx1⟩ : ∃ x1, (List.take f.s f.l).length = x1 := ⟨_, rfl⟩
      obtain ⟨x2, hx2⟩ : ∃ x2, (List.drop f.s f.l).length = x2 := ⟨_, rfl⟩
      rw [hx1] at a1
      rw [hx2] at a2
      have hba : Below w.heap.size w (wr.alloc (.cells #[.string (str f.nm), .slice p1 x1 c1, .slice p2 x2 c2] 65)) := HB.out.1.alloc HB.out.1.size _
      have z2 : (wr.alloc (.cells #[.string (str f.nm), .slice p1 x1 c1, .slice p2 x2 c2] 65)).cell? ⟨d, 2, none⟩ = some (.bool (!dn)) := by rw [← HD.out]; exact (H.out.below hba).cells.2.2.1
      have B1 : Hid (SRow w (wr.alloc (.cells #[.string (str f.nm), .slice p1 x1 c1, .slice p2 x2 c2] 65)) (.slice ao c co) c L) := Lib.hid (HB.out.below ((Below.refl _ _).alloc (Nat.le_refl _) _))
      cases dn with
      | true =>
        have HL1 : Hid (L ++ (if true then [] else (S.fs.drop (j + 1)).map File.nm) = namesL S) := Lib.hid (by rw [← HL.out]; rfl)
        clear e e1 e2 hd hf hm HL oq hx1 hx2 h1 hba
        generalize str f.nm = sn at *
        go_wp2
        go_roundg (n - (j + 1))
        case measure => omega
        case rel => exact ⟨j + 1, c, ao, co, L, by omega, by go_num, rfl, by omega, HC, B1, HL1⟩
      | false =>
        have HL1 : Hid ((L ++ [f.nm]) ++ (if false then [] else (S.fs.drop (j + 1)).map File.nm) = namesL S) := Lib.hid (by rw [← HL.out, hd]; simp)
        have HC1 : Hid ((L ++ [f.nm]).length = c + 1) := Lib.hid (by simp [HC.out])
        have b2 := B1.out.below ((Below.refl _ _).alloc (Nat.le_refl _) (.cells #[.string (str f.nm)] 9))
        have B2 := Lib.hid b2
        clear e e1 e2 hd hf hm HL oq hx1 hx2 h1 hba b2
        obtain ⟨sn, hsn⟩ : ∃ sn, str f.nm = sn := ⟨_, rfl⟩
        have HSN := Lib.hid hsn
        rw [hsn] at a0 z2 B2
        clear hsn
        go_wp2_with (at_builtin; go_loud (refine wp_sapp rfl (.tmp 19) (.tmp 22) rfl w.heap.size (.slice ao c co) c _ rfl B2.out.2 (by omega) _ sn rfl (Joins.cell_of_block (heap_two _ _ _) 0) B2.out.1.size ?_); rintro v' w3 hr ⟨ao', co', rfl⟩ hg; have B3 : Hid (SRow w w3 (.slice ao' (c + 1) co') (c + 1) (L ++ [f.nm])) := Lib.hid ⟨B2.out.1.trans (below_row B2.out.2 hg B2.out.1.size), by rw [List.map_append]; simpa [encStr, ← HSN.out, str] using hr⟩; clear hr hg)
        go_roundg (n - (j + 1))
        case measure => omega
        case rel => exact ⟨j + 1, c + 1, ao', co', L ++ [f.nm], by omega, by go_num, rfl, by omega, HC1, B3, HL1⟩
    · obtain rfl : n = j := by omega
      have D : Hid (NamesIt w S (.returned (.slice ao c co)) wr) := Lib.hid (by
        have hl := HL.out
        rw [← HN.out, List.drop_length] at hl
        have : L = namesL S := by rw [← hl]; cases dn <;> simp
        exact ⟨_, rfl, by rw [← this, HC.out]; exact HB.out.2, HB.out.1⟩)
      go_wp2
      go_ret
      exact D.out
end
end Go.Proofs.Ytjeemgcenmcplaa.Dk

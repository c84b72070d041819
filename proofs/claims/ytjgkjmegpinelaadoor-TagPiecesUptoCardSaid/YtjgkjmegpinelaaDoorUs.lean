/-
  Layer 7: parts of bytes, appends of bytes in a region that draws, own rows of integers; what stands at the loop over the cuts.
-/
import Derived.Test.YtjgkjmegpinelaaDoorUr
import Derived.Deep.RegionHeld3
namespace Go.Proofs.YtjgkjmegpinelaaDoor.Tg
open Go.RowKit Go.Shelf Dx Sx Rf
set_option linter.unusedVariables false
set_option linter.unusedSimpArgs false

theorem HasL.nil7 (w : World) (a : Option Addr) : HasL w a [] := ⟨Nat.le_refl _, by decide, fun h => absurd h (by decide)⟩
theorem ok_sliced {s : Nat} {i : TypeInfo} (hi : Tryd.prog.info? 5 = some i) (hz : i.size = s) (W : World) : (sizeOf 5).run Tryd.prog W = .ok s W := by
  simp [sizeOf, typeInfo, hi, hz]
/-- A part of some bytes. -/
theorem part_any {a : Option Addr} {n cap t c : Nat} {l : List UInt8} (hl : l.length = n) (hcap : n ≤ cap) (hn : a = none → cap = 0) (h1 : t ≤ c) (h2 : c ≤ n) :
    ∃ ad c1, c - t ≤ c1 ∧ c1 ≤ cap ∧ (ad = none → c1 = 0) ∧ (∀ W, (Instr.slice 25 (.slice a n cap) (some (.int .i64 (t : Int))) (some (.int .i64 (c : Int))) none).run Tryd.prog W = .ok (.slice ad (c - t) c1) W) ∧
      (∀ W, (Instr.sliceAt 25 (.slice a n cap) (some (.int .i64 (t : Int))) (some (.int .i64 (c : Int))) none).run Tryd.prog W = .ok (.slice ad (c - t) c1) W) ∧ (∀ W, HasL W a l → HasL W ad ((l.drop t).take (c - t))) := by
  obtain ⟨i0, hi, hz0, hz1, hz2⟩ := info_parts infoU8
  have hu : Tryd.prog.underlying 25 = some (.slice (Tryd.prog.elem 25)) := by kernel_rfl
  have he : Tryd.prog.elem 25 = 5 := by kernel_rfl
  have hs : ∀ W, (Instr.slice 25 (.slice a n cap) (some (.int .i64 (t : Int))) (some (.int .i64 (c : Int))) none).run Tryd.prog W = .ok (.slice (if cap = t then a else a.map (·.add (t * 1))) (c - t) (cap - t)) W := fun W => by
    rw [run_slice_lh W 25 a n cap hu .i64 .i64 (t : Int) (c : Int) (by omega) (by omega) (by omega), he, ok_sliced hi hz1]
    simp [Result.andThen, sliced]
  refine ⟨_, _, by omega, by omega, ?_, hs, fun W => ?_, ?_⟩
  · intro h
    by_cases hc : cap = t
    · omega
    · rw [if_neg hc] at h
      have := hn (by simpa using h)
      omega
  · rw [run_sliceAt_slice W 25 _ _ _ _ hu]; exact hs W
  · intro W hW
    by_cases h0 : c - t = 0
    · rw [h0, List.take_zero]; exact HasL.nil7 _ _
    · obtain ⟨b, off, rfl, _⟩ := hW.at (by omega)
      rw [if_neg (by omega)]
      have := hW.part t (c - t) (by omega)
      rw [Option.map_some, Nat.mul_one, Go.WideShapes.add_plain]
      exact this
theorem back_any {a : Option Addr} {n cap t : Nat} {l : List UInt8} (hl : l.length = n) (hcap : n ≤ cap) (hn : a = none → cap = 0) (h1 : t ≤ n) :
    ∃ ad c1, n - t ≤ c1 ∧ c1 ≤ cap ∧ (ad = none → c1 = 0) ∧ (∀ W, (Instr.slice 25 (.slice a n cap) (some (.int .i64 (t : Int))) none none).run Tryd.prog W = .ok (.slice ad (n - t) c1) W) ∧
      (∀ W, (Instr.sliceAt 25 (.slice a n cap) (some (.int .i64 (t : Int))) none none).run Tryd.prog W = .ok (.slice ad (n - t) c1) W) ∧ (∀ W, HasL W a l → HasL W ad (l.drop t)) := by
  obtain ⟨i0, hi, hz0, hz1, hz2⟩ := info_parts infoU8
  have hu : Tryd.prog.underlying 25 = some (.slice (Tryd.prog.elem 25)) := by kernel_rfl
  have he : Tryd.prog.elem 25 = 5 := by kernel_rfl
  have hs : ∀ W, (Instr.slice 25 (.slice a n cap) (some (.int .i64 (t : Int))) none none).run Tryd.prog W = .ok (.slice (if cap = t then a else a.map (·.add (t * 1))) (n - t) (cap - t)) W := fun W => by
    rw [run_slice_l W 25 a n cap hu .i64 (t : Int) (by omega) (by omega), he, ok_sliced hi hz1]
    simp [Result.andThen, sliced]
  refine ⟨_, _, by omega, by omega, ?_, hs, fun W => ?_, ?_⟩
  · intro h
    by_cases hc : cap = t
    · omega
    · rw [if_neg hc] at h
      have := hn (by simpa using h)
      omega
  · rw [run_sliceAt_slice W 25 _ _ _ _ hu]; exact hs W
  · intro W hW
    by_cases h0 : n - t = 0
    · rw [List.drop_eq_nil_of_le (by omega)]; exact HasL.nil7 _ _
    · obtain ⟨b, off, rfl, _⟩ := hW.at (by omega)
      rw [if_neg (by omega)]
      have := hW.back t (by omega)
      rw [Option.map_some, Nat.mul_one, Go.WideShapes.add_plain]
      exact this
/-- append(own bytes, bytes...) at a step of a region that draws. -/
theorem step_apd7 {ops : Array Oper} {o : Oper} {a : Act} {K : Act → World → Prop} {Q : Exit → Act → World → Prop} {E : Prop} {w : World} (hgd : o.guard = none) (s x : Operand)
    (ho : o.op = .call { callee := .builtin .append, args := #[s, x], argTypes := #[25, 25] }) (w0 : World) (base : Nat) (hB : Below base w0 w) (v : Value) (l : List UInt8) (hs : a.eval s = v) (hown : OwnG w base v l)
    (ad : Option Addr) (len cap : Nat) (z : List UInt8) (hx : a.eval x = .slice ad len cap) (hrow : HasL w ad z) (hlen : z.length = len) (hn : ad = none → cap = 0)
    (hbytes : l.length + z.length ≤ 140737488355328) (hbase : base ≤ w0.heap.size)
    (h : ∀ v' w', OwnG w' base v' (l ++ z) → Below base w0 w' → w.grownBy w' v.ownBlock → K (a.put o.dst v') w') : if Region.wanted o (yielded ops a.tmps) = true then Oper.wp Tryd.prog o a w K Q else E := by
  have hw : Region.wanted o (yielded ops a.tmps) = true := by simp [Region.wanted, hgd]
  rw [if_pos hw]
  have hb' : base ≤ w.heap.size := Nat.le_trans hbase hB.size
  obtain ⟨v', w', hr, h2, h3⟩ := run_apd_row w o.type hown ad len cap z hrow hlen hn hbytes hb'
  unfold Oper.wp execOp
  simp only [ho, resolve, invoke, builtin, Sem.run_bind, Sem.run_pure, Result.andThen_ok, List.map_toArray, List.map_cons, List.map_nil, hs, hx, hr]
  exact h v' w' h2 (hB.trans (own_grown hown hb' h3)) h3
theorem below_alloc7 {B : Nat} {w wx : World} {o : Obj} (h : Below B w wx) (hB : B ≤ w.heap.size) : Below B w (wx.alloc o) := h.alloc (Nat.le_trans hB h.size) o
/-! ### Integers of the call's own -/
def OwnN (w : World) (base : Nat) (v : Value) (zs : List Int) : Prop := w.ownsRow base 3 1 v zs.length (zs.map (Value.int .i64))
theorem infoN : (Tryd.prog.info? 3).map (fun i => (i.zero, i.size, i.bytes)) = some (some (.int .i64 0), 1, 8) := by kernel_rfl
theorem own_empty_n (w : World) (base : Nat) (hb : base ≤ w.heap.size) : OwnN (w.alloc (.cells #[] 3)) base (.slice (some ⟨w.heap.size, 0, none⟩) 0 0) [] :=
  World.ownsRow_made w #[] 0 hb (by decide) rfl
theorem OwnN.keep {w w' : World} {base : Nat} {v : Value} {zs : List Int} (h : OwnN w base v zs) (hb : Below w.heap.size w w') : OwnN w' base v zs :=
  World.ownsRow.kept h (grown_of_below hb none) (by cases v.ownBlock with | none => exact .inl rfl | some k => exact .inr (by simp))
theorem OwnN.kept {A B : World} {base : Nat} {v : Value} {zs : List Int} {row : Option Nat} (h : OwnN A base v zs) (hg : A.grownBy B row) (hr : ∀ r, row = some r → r < base) : OwnN B base v zs := by
  refine World.ownsRow.kept h hg ?_
  rcases h.2 with ⟨rfl, _⟩ | ⟨g, cap, cur, rfl, hb, _⟩
  · exact .inl rfl
  · refine .inr fun e => ?_
    have := hr g e.symm
    omega
theorem OwnN.at {w : World} {base : Nat} {v : Value} {zs : List Int} (h : OwnN w base v zs) {a : Option Addr} {len cap : Nat} (hv : v = .slice a len cap) {j : Nat} (hj : j < zs.length) : ∃ g, a = some ⟨g, 0, none⟩ ∧ w.cell? ⟨g, j, none⟩ = some (.int .i64 (zs.getD j 0)) := by
  subst hv
  have h1 := h
  rcases h1.2 with ⟨_, h0⟩ | ⟨g, cap, cur, hv, hb, hh, h2, h3, h4, h5⟩
  · omega
  · injection hv with e1 e2 e3
    subst e1 e2 e3
    refine ⟨g, rfl, ?_⟩
    rw [World.ownsRow.cellAt h1 j (by omega)]
    simp [List.getD, hj]
theorem OwnN.own_ge {w : World} {base : Nat} {v : Value} {zs : List Int} (h : OwnN w base v zs) : ∀ k, v.ownBlock = some k → base ≤ k := fun k hk => by
  rcases h.2 with ⟨rfl, _⟩ | ⟨g, cap, cur, rfl, hb, _⟩
  · cases hk
  · have e : g = k := Option.some.inj hk
    omega
theorem own_low7 {w : World} {base base' : Nat} {v : Value} {zs : List Int} (h : OwnN w base v zs) (hb : base' ≤ base) : OwnN w base' v zs := by
  refine ⟨h.1, ?_⟩
  rcases h.2 with h0 | ⟨g, cap, cur, hv, h1, rest⟩
  · exact .inl h0
  · exact .inr ⟨g, cap, cur, hv, by omega, rest⟩
theorem OwnN.slice {w : World} {base : Nat} {v : Value} {zs : List Int} (h : OwnN w base v zs) : ∃ a cap, v = .slice a zs.length cap ∧ zs.length ≤ cap := by
  rcases h.2 with ⟨rfl, h0⟩ | ⟨g, cap, cur, rfl, hb, hh, h2, h3, h4, h5⟩
  · exact ⟨none, 0, by rw [h0], by omega⟩
  · exact ⟨_, cap, rfl, h2⟩
theorem wp_apd_ints {w : World} {ops : Array Oper} {rest : List Oper} {o : Oper} {a : Act} {Q : Exit → Act → World → Prop} (hgd : o.guard = none) (sl x : Operand)
    (ho : o.op = .call { callee := .builtin .append, args := #[sl, x], argTypes := #[46, 46] }) (base : Nat) (v : Value) (z0 : List Int) (hs : a.eval sl = v) (hown : OwnN w base v z0)
    (ad : Option Addr) (len c : Nat) (z : List Int) (hx : a.eval x = .slice ad len c) (hrow : Fr.HasRow .i64 w ad len z) (hn : ad = none → c = 0) (hb : z0.length + len ≤ 10000000) (hbase : base ≤ w.heap.size)
    (h : ∀ v' w', OwnN w' base v' (z0 ++ z.take len) → w.grownBy w' v.ownBlock → wpList Tryd.prog ops Q rest (a.put o.dst v') w') : wpList Tryd.prog ops Q (o :: rest) a w := by
  obtain ⟨i0, fi, hz0, hz1, hz2⟩ := info_parts infoN
  obtain ⟨hr1, hr2, hr3⟩ := hrow
  cases ad with
  | none =>
    obtain rfl : len = 0 := by
      rcases Nat.eq_zero_or_pos len with h0 | h0
      · exact h0
      · obtain ⟨b, off, e, _⟩ := hr3 h0; cases e
    obtain rfl := hn rfl
    exact wpList_append_own_none hgd sl x 46 ho base 3 i0 1 Tryd.underlying46 fi v z0.length (z0.map (Value.int .i64)) hs hown hx (h v w (by rw [List.take_zero, List.append_nil]; exact hown) ⟨rfl, rfl, rfl, Nat.le_refl _, fun _ _ _ => rfl⟩)
  | some ad =>
    have hln : (z.take len).length = len := by rw [List.length_take]; omega
    refine wpList_append_own w hgd sl x 46 ho base 3 i0 (.int .i64 0) 1 8 Tryd.underlying46 fi hz0 hz1 hz2 rfl (by decide) v z0.length (z0.map (Value.int .i64)) hs hown ad len c ((z.take len).map (Value.int .i64)) hx (by rw [List.length_map, hln, Nat.mul_one]) ?_ ?_ (by unfold maxLen; omega) (by omega) hbase ?_
    · intro j u hu
      have hj : j < len := by
        have := (List.getElem?_eq_some_iff.1 hu).1
        rw [List.length_map, hln] at this
        exact this
      obtain ⟨b, off, e, hc⟩ := hr3 (by omega)
      cases e
      rw [show (⟨b, off, none⟩ : Addr).add j = ⟨b, off + j, none⟩ by simp [Addr.add], hc j hj, ← hu]
      simp [List.getD, hj, List.getElem?_take, show j < z.length by omega]
    · intro u hu
      obtain ⟨n, _, rfl⟩ := List.mem_map.1 hu
      rfl
    · intro v' w' h2 h3 _
      refine h v' w' ?_ h3
      unfold OwnN
      rw [List.length_append, hln, List.map_append]
      exact h2
theorem lit_int (w : World) (n : Int) (t : TypeId) (g : Nat) (hg : g = w.heap.size) : Fr.HasRow .i64 (w.alloc (.cells #[.int .i64 n] t)) (some ⟨g, 0, none⟩) 1 [n] := by
  subst hg
  refine ⟨Nat.le_refl _, by decide, fun _ => ⟨w.heap.size, 0, rfl, fun j hj => ?_⟩⟩
  obtain rfl : j = 0 := by omega
  rw [Nat.zero_add, Joins.cell_alloc_mark_at w _ t _ _ 0 rfl]
  rfl
/-! ### The valid ones -/
def validL (R : List FRow) : List (List Fld) := (R.map FRow.F).filter (fun F => decide (validE F = 0))
theorem validL_ok (R : List FRow) : ∀ F ∈ validL R, validE F = 0 := fun F h => by simpa using (List.mem_filter.1 h).2
theorem validL_len (R : List FRow) : (validL R).length ≤ R.length := by
  have := List.length_filter_le (fun F => decide (validE F = 0)) (R.map FRow.F)
  rwa [List.length_map] at this
theorem validL_yes {R : List FRow} {k : Nat} (h : k < R.length) (hv : validE (R.getD k fr0).F = 0) : validL (R.take (k + 1)) = validL (R.take k) ++ [(R.getD k fr0).F] := by
  unfold validL
  rw [List.take_succ_eq_append_getElem h, List.map_append, List.filter_append]
  have e : R.getD k fr0 = R[k] := by simp [List.getD, h]
  rw [e] at hv ⊢
  simp [hv]
theorem validL_no {R : List FRow} {k : Nat} (h : k < R.length) (hv : validE (R.getD k fr0).F ≠ 0) : validL (R.take (k + 1)) = validL (R.take k) := by
  unfold validL
  rw [List.take_succ_eq_append_getElem h, List.map_append, List.filter_append]
  have e : R.getD k fr0 = R[k] := by simp [List.getD, h]
  rw [e] at hv
  simp [hv]
theorem HasFs.at {w : World} {a : Option Addr} {R : List FRow} (h : HasFs w a R) {j : Nat} (hj : j < R.length) : ∃ b off, a = some ⟨b, off, none⟩ ∧ w.cell? ⟨b, off + j, none⟩ = some (.slice (R.getD j fr0).a (R.getD j fr0).F.length (R.getD j fr0).cap) ∧ FrOk w (R.getD j fr0) := by
  obtain ⟨b, off, e, hc⟩ := h.2.1 (by omega)
  exact ⟨b, off, e, hc j hj, h.2.2 j hj⟩
end Go.Proofs.YtjgkjmegpinelaaDoor.Tg

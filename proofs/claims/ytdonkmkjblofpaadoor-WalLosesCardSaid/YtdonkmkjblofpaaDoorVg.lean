/-
  Layer 5: openers, views of rows, a journal beside a slice of the call's own.
-/
import Derived.Test.YtdonkmkjblofpaaDoorVe
import Derived.Test.YtdonkmkjblofpaaDoorKn
import Derived.Deep.Matrix
import Derived.Deep.Grids
namespace Go.Proofs.YtdonkmkjblofpaaDoor.Fo
open Go.ChangeShapes Go.WideShapes Go.ChangeAt Go.RowKit Go.Deep
set_option linter.unusedVariables false
theorem wf_u8 {Z : List Int} (h : ∀ n ∈ Z, (Lit.int .u8 n).wf = true) {j : Nat} (hj : j < Z.length) : 0 ≤ Z.getD j 0 ∧ Z.getD j 0 ≤ 255 := by
  have := bounds_u8 (h Z[j] (List.getElem_mem hj))
  simp only [List.getD, List.getElem?_eq_getElem hj, Option.getD_some]
  omega
section
variable {H : Type} {enc : TypeId × Value → H} {P : Program} {W : World} {d : DataW H} {p : List MemPlace}
theorem rowsB_of {t e q : TypeId} {a : Option Addr} {len cap : Nat} (ht : P.underlying t = some (.slice e)) (he : P.underlying e = some (.slice q)) (hq : P.underlying q = some (.int .u8)) (ce : P.cellsOf e = 1) (cq : P.cellsOf q = 1) (hby : P.bytesOf q = 1)
    {ts : List TypeId} {ds : List (DataW H)} {j : Nat} (hsz : (DataW.weightsEach P ts ds).all (· ≤ reachBytes) = true) (htj : ts[j]? = some t) (hdj : ds[j]? = some d)
    (h : DataW.Trod enc P W 0 (fun _ => true) true t (.slice a len cap) d p) : ∃ R, HasRows W a len R ∧ ∀ j, j < len → Sx.Bytes (R j).zs := by
  obtain ⟨fuel, hf⟩ := h
  rcases open_int_rows ht he hq ce cq hf with ⟨hcs, _⟩ | ⟨x, l, c, A, L, C, Z, hcs, _, hl, hm, hd, hrow⟩
  · simp [Value.cells] at hcs
    obtain ⟨rfl, rfl, rfl⟩ := hcs
    exact ⟨fun _ => ⟨none, 0, 0, []⟩, ⟨by decide, (fun h => absurd h (by decide)), fun j hj => absurd hj (Nat.not_lt_zero _)⟩, fun j hj => absurd hj (Nat.not_lt_zero _)⟩
  · simp [Value.cells] at hcs
    obtain ⟨rfl, rfl, rfl⟩ := hcs
    have hm' := hm
    unfold maxLen at hm
    refine ⟨fun r => ⟨A r, L r, C r, Z r⟩, ⟨by omega, fun h0 => ?_, fun r hr => ?_⟩, fun r hr j hj => wf_u8 ((hrow r (by omega)).2.2.2.2.1) hj⟩
    · obtain ⟨b, off, rfl, hj⟩ := plain_at (V := fun r => .slice (A r) (L r) (C r)) (n := cap) (fun i hi => (hrow i hi).1) (by omega)
      exact ⟨b, off, rfl, fun j hj' => hj j (by omega)⟩
    · obtain ⟨_, x1, x2, x3, x4, x5, x6⟩ := hrow r (by omega)
      have hd1 := congrArg Prod.fst hd
      simp only at hd1
      have hw : C r ≤ 140737488351232 := by
        cases hA : A r with
        | none => rw [x5 hA]; decide
        | some a' =>
          have hmem : intRow IntKind.u8 (A r) (L r) (Z r) ∈ (List.range len).map fun r => intRow (H := H) IntKind.u8 (A r) (L r) (Z r) := List.mem_map.2 ⟨r, List.mem_range.2 hr, rfl⟩
          have hwt : C r * 1 ∈ (intRow (H := H) IntKind.u8 (A r) (L r) (Z r)).weights P e := by
            rw [hA]
            simp only [intRow, DataW.weights, he, hby, lits, List.length_map, List.length_take, List.length_drop, x3]
            refine List.mem_cons.2 (.inl ?_)
            omega
          have := List.all_eq_true.1 hsz _ (DataW.weights_mem_each htj hdj (C r * 1) (by
            rw [hd1]
            simp only [DataW.weights, ht]
            exact List.mem_cons_of_mem _ (List.mem_append_left _ (weight_all hmem hwt))))
          have h3 : C r * 1 ≤ reachBytes := by simpa using this
          have h4 : reachBytes = 140737488351232 := by decide
          omega
      refine ⟨⟨by show L r ≤ (Z r).length; omega, by show L r ≤ _; omega, fun h0 => ?_⟩, x5, x1, hw⟩
      have h0' : 0 < L r := h0
      cases hA : A r with
      | none => have := x5 hA; omega
      | some a' =>
        obtain ⟨b, off, rfl, hj⟩ := plain_at (V := fun i => .int .u8 ((Z r).getD i 0)) (n := C r) (x6 a' hA).2 (by omega)
        exact ⟨b, off, by show A r = _; rw [hA], fun j hj' => hj j (by have : j < L r := hj'; omega)⟩
end
end Go.Proofs.YtdonkmkjblofpaaDoor.Fo
namespace Go.Proofs.YtdonkmkjblofpaaDoor.Wl
open Go.RowKit Go.Sort Dx Sx Dk
set_option linter.unusedVariables false
set_option linter.unusedSimpArgs false
/-! ### rows, seen -/
/-- n slices of bytes that read as these lists. -/
def RowsV (w : World) (a : Option Addr) (n : Nat) (R : List (List Int)) : Prop := ∀ i, i < n → ∃ b off ad c, a = some ⟨b, off, none⟩ ∧ w.cell? ⟨b, off + i, none⟩ = some (.slice ad (R.getD i []).length c) ∧ (R.getD i []).length ≤ c ∧ Fr.HasRow .u8 w ad (R.getD i []).length (R.getD i [])
theorem RowsV.keep {w w' : World} {a : Option Addr} {n : Nat} {R : List (List Int)} (h : RowsV w a n R) (hb : Below w.heap.size w w') : RowsV w' a n R := fun i hi => by
  obtain ⟨b, off, ad, c, e, h1, hc, h2⟩ := h i hi
  exact ⟨b, off, ad, c, e, (hb.cell (Fr.lt_of_cell h1)).trans h1, hc, h2.keep hb⟩
theorem rows_was {N : Nat} {w : World} {R : List (List Int)} {n : Nat} {a : Option Addr} {cp : Nat} (h : WasOk N w R n (.slice a n cp)) : RowsV w a n R := fun i hi => by
  obtain ⟨vs, h1, h2⟩ := h
  obtain ⟨u, e, hu⟩ := h2 i hi
  obtain ⟨ad, c, rfl, hr, _, hle, _⟩ := Ob.own_row hu
  rcases h1.2 with ⟨_, h0⟩ | ⟨g, cap, cur, ev, hb, hh, k1, k2, k3, k4⟩
  · omega
  · injection ev with e1 e2 e3
    subst e1 e3
    exact ⟨g, 0, ad, c, rfl, by rw [Nat.zero_add, World.ownsRow.cellAt h1 i (by omega), e], hle, hr⟩
set_option maxRecDepth 100000 in
set_option maxHeartbeats 1600000 in
theorem alikeV_any {R : List (List Int)} {n : Nat} {a b : Option Addr} {ca cb : Nat} {w : World} (hn : n ≤ 9223372036854775807) (hv : RowsV w a n R) (hu : RowsV w b n R) :
    Calls Tryd.prog 17 #[.slice a n ca, .slice b n cb] w fun e w' => e = .returned (.bool true) ∧ Below w.heap.size w w' := by
  have HV := Lib.hid hv; have HU := Lib.hid hu
  clear hv hu
  go_enter Tryd.func17, Tryd.ntmps17
  go_wp2
  go_loopg [13] n (fun m i wr => ∃ k : Nat, k + m = n ∧ i = .int .i64 (k : Int) ∧ Hid (Below w.heap.size w wr))
  case atStart => exact ⟨0, by omega, rfl, Lib.hid (Below.refl _ _)⟩
  case round =>
    obtain ⟨k, hk, rfl, HB⟩ := hrel
    by_cases hlt : k < n
    · obtain ⟨g1, o1, d1, p1, rfl, c1, _, r1⟩ := (HV.out.keep HB.out) k hlt
      obtain ⟨g2, o2, d2, p2, rfl, c2, _, r2⟩ := (HU.out.keep HB.out) k hlt
      obtain ⟨r, hr⟩ : ∃ r, R.getD k [] = r := ⟨_, rfl⟩
      obtain ⟨l, hl⟩ : ∃ l, r.length = l := ⟨_, rfl⟩
      rw [hr] at c1 c2 r1 r2
      rw [hl] at c1 c2 r1 r2
      have K : Hid (∀ wx, Below wr.heap.size wr wx → Below wr.heap.size wr wx ∧ wx.cell? ⟨g1, o1 + k, none⟩ = some (.slice d1 l p1) ∧ wx.cell? ⟨g2, o2 + k, none⟩ = some (.slice d2 l p2)) := Lib.hid fun wx hb => ⟨hb, (hb.cell (Fr.lt_of_cell c1)).trans c1, (hb.cell (Fr.lt_of_cell c2)).trans c2⟩
      have SM : Hid (Calls Tryd.prog 34 #[.slice d1 l p1, .slice d2 l p2] wr.drew fun e w' => e = .returned (.bool true) ∧ Below wr.heap.size wr w') := Lib.hid ((wsame_self (r1.keep (Below.refl _ _).drew) (r2.keep (Below.refl _ _).drew)).mono fun e w' ⟨h1, h2⟩ => ⟨h1, ((Below.refl _ _).drew).trans h2⟩)
      have tk : decide ((k : Int) < (n : Int)) = true := by rw [decide_eq_true_eq]; omega
      have k0 : (0 : Int) ≤ (k : Int) := by omega
      have k1 : (k : Int) < (n : Int) := by omega
      clear r1 r2 hr hl
      go_upto_region 6 with (fail)
      go_region_held3 (fun wx => Below wr.heap.size wr wx ∧ wx.cell? ⟨g1, o1 + k, none⟩ = some (.slice d1 l p1) ∧ wx.cell? ⟨g2, o2 + k, none⟩ = some (.slice d2 l p2))
        (first | exact K.out _ (Below.refl _ _).drew | exact K.out _ (Below.refl _ _) | exact K.out _ (by assumption))
        (first | (go_at_call 34; (with_reducible refine SM.out.mono ?_); rintro e w5 ⟨rfl, hb5⟩))
      go_split_ands
      go_wp2
      go_roundg (n - (k + 1))
      case measure => omega
      case rel => exact ⟨k + 1, by omega, by go_num, Lib.hid (HB.out.trans ((by assumption : Below wr.heap.size wr _).mono HB.out.size))⟩
    · have tk : decide ((k : Int) < (n : Int)) = false := by rw [decide_eq_false_iff_not]; omega
      go_wp2
      go_ret
      exact ⟨rfl, HB.out⟩
/-! ### a journal, what it owns told -/
structure JO (W w : World) (d g : Nat) (per : Int) (D : List (List (List Int))) (c : List (List Int)) (S : St) (O : Nat → Prop) : Prop where
  wal : IsWal w O d g per ((1 + tot D + c.length : Nat) : Int) ((1 + tot D : Nat) : Int) 0 S
  jn : Jn per D c S
  frame : Below W.heap.size W w
  high : ∀ i, Og O g i → W.heap.size ≤ i
theorem JO.below {W w w' : World} {d g : Nat} {per : Int} {D : List (List (List Int))} {c : List (List Int)} {S : St} {O : Nat → Prop} (h : JO W w d g per D c S O) (hb : Below w.heap.size w w') : JO W w' d g per D c S O :=
  ⟨h.wal.below hb, h.jn, h.frame.trans (hb.mono h.frame.size), h.high⟩
theorem JO.low {W w : World} {d g : Nat} {per : Int} {D : List (List (List Int))} {c : List (List Int)} {S : St} {O : Nat → Prop} (h : JO W w d g per D c S O) : ∀ i, Og O g i → i < w.heap.size := fun i hi => hi.elim (disk_low h.wal.disk i) fun e => e ▸ lt_of_heap h.wal.blk
/-- Append to a journal. -/
def ApO (W w : World) (d g : Nat) (per : Int) (D : List (List (List Int))) (c : List (List Int)) (r : List Int) (S : St) (O : Nat → Prop) (e : Ending) (w' : World) : Prop :=
  (S.room < ((sizeR (D.flatten ++ c) + (8 + r.length) : Nat) : Int) → e = .returned (.tuple #[.int .i64 0, .int .i64 22]) ∧ ∃ O', Step w (Og O g) w' (Og O' g) ∧ JO W w' d g per D c S O') ∧
  (((sizeR (D.flatten ++ c) + (8 + r.length) : Nat) : Int) ≤ S.room → ∃ x S' O', Ends S x S' ∧ Step w (Og O g) w' (Og O' g) ∧ (x = 0 → e = .returned (.tuple #[.int .i64 ((1 + tot D + c.length : Nat) : Int), .int .i64 0]) ∧ JO W w' d g per (nxD per D c) (nxc per c ++ [r]) S' O') ∧
    (x ≠ 0 → e = .returned (.tuple #[.int .i64 0, .int .i64 20]) ∧ Torn (nxD per D c) (nxc per c) r S' ∧ IsDisk w' O' d S' ∧ Below W.heap.size W w' ∧ ∀ i, O' i → W.heap.size ≤ i))
theorem jo_append {W w : World} {d g : Nat} {per : Int} {D : List (List (List Int))} {c : List (List Int)} {S : St} {O : Nat → Prop} (h : JO W w d g per D c S O) (ht : Tabs W) (hper : 1 ≤ per) (a : Option Addr) (len cap : Nat) (zs : List Int) (hb : Bytes zs) (hrow : Fr.HasRow .u8 w a len zs) (hn : a = none → cap = 0) (hlen : len ≤ 65536)
    (hm : (D.flatten ++ c).length ≤ 1048576) (hsz : sizeR (D.flatten ++ c) + (8 + len) ≤ 1048576) (hfew : (nxD per D c).length < 16) :
    Calls Tryd.prog 13 #[.pointer (some ⟨g, 0, none⟩), .slice a len cap] w (ApO W w d g per D c (zs.take len) S O) := by
  obtain ⟨hw, hj, hbw, hown⟩ := h
  have hl : (zs.take len).length = len := by rw [List.length_take]; have := hrow.1; omega
  have htot : tot D + c.length = (D.flatten ++ c).length := by rw [tot_flat, List.length_append]
  obtain ⟨j1, j2⟩ := app_j (r := zs.take len) hj hw.disk.good hper (by omega) (by omega) (bytes_take hb len) (by omega) hfew
  refine (append_any hw (ht.keep hbw) a len cap zs hb hrow hn (by omega) (by omega) (by omega)).mono ?_
  rintro e w' ⟨rfl, O', st, hw'⟩
  obtain ⟨q1, q2⟩ := own_high hbw hown st
  refine ⟨fun hr => ?_, fun hr => ?_⟩
  · rw [j1 hr] at hw' ⊢
    exact ⟨rfl, O', st, hw', hj, q1, q2⟩
  · obtain ⟨x, S', e1, e2, e3⟩ := j2 hr
    refine ⟨x, S', O', e1, st, fun hx => ?_, fun hx => ?_⟩
    · obtain ⟨k1, k2⟩ := e2 hx
      rw [k1] at hw' ⊢
      refine ⟨rfl, ?_, k2, q1, q2⟩
      rw [nx_tot]; exact hw'
    · obtain ⟨k1, k2⟩ := e3 hx
      rw [k1] at hw' ⊢
      exact ⟨rfl, k2, hw'.disk, q1, fun i hi => q2 i (.inl hi)⟩
/-- The opening of a journal's files, what it owns told. -/
def OpO (W w1 : World) (d : Nat) (n : Nat) (C : List (List (List Int))) (t : List Int) (S : St) (O : Nat → Prop) (e : Ending) (w' : World) : Prop := ∃ x S' O', Ends S x S' ∧ (∃ t', (t' = t ∨ t' = []) ∧ S'.fs = jfs n C t') ∧ IsDisk w' O' d S' ∧ Step w1 O w' O' ∧ Below W.heap.size W w' ∧ (∀ i, O' i → W.heap.size ≤ i) ∧
  (x = 0 → ∃ g ad cap, e = .returned (.tuple #[.pointer (some ⟨g, 0, none⟩), .slice ad C.flatten.length cap, .int .i64 ((if C = [] then 1 else n : Nat) : Int), .int .i64 0]) ∧ C.flatten.length ≤ cap ∧ RowsV w' ad C.flatten.length C.flatten) ∧
  (x ≠ 0 → e = .returned (.tuple #[.pointer none, .slice none 0 0, .int .i64 0, .int .i64 20]))
theorem was_cap {N : Nat} {w : World} {R : List (List Int)} {n : Nat} {a : Option Addr} {cp : Nat} (h : WasOk N w R n (.slice a n cp)) : n ≤ cp := by
  obtain ⟨vs, h1, _⟩ := h
  rcases h1.2 with ⟨e, h0⟩ | ⟨g, cap, cur, ev, hb, hh, k1, k2, k3, k4⟩
  · omega
  · injection ev with e1 e2 e3
    omega
theorem jo_open {W w1 : World} {d : Nat} {n : Nat} {C : List (List (List Int))} {t : List Int} {S : St} {O : Nat → Prop} (hd : IsDisk w1 O d S) (hbw : Below W.heap.size W w1) (hown : ∀ i, O i → W.heap.size ≤ i) (ht : Tabs W) (hfs : S.fs = jfs n C t) (hup : S.down = false) (hR : ∀ c ∈ C, Rok c) (hb : Bytes t) (ho : one t = none) (h1 : 1 ≤ n) (h2 : n + tot C ≤ 1048576) (per : Int) (hper : 1 ≤ per) :
    Calls Tryd.prog 12 #[.pointer (some ⟨d, 0, none⟩), .int .i64 per] w1 (OpO W w1 d n C t S O) := by
  have hg := hd.good
  obtain ⟨op1, op2, op3, op4, op5⟩ := open_j C n t [] S (by rw [hfs]; rfl) hup (good_dis hg) (by rw [hfs]; exact jfs_safe _ _ _) hR hb ho hg.size h1 (by omega)
  refine (Open_any (ns := fsts n C) hd hup (segs_of hfs hup h1 (by omega)) (ht.keep hbw) per hper (fsts_head2 op1) (by omega) (fun i hi hh => by have := glob_lt ht i hi; have := hown i hh; omega)).mono ?_
  intro e w' hop
  unfold OpenR at hop
  obtain ⟨t', k1, k2⟩ := op4
  by_cases h0 : (openS (fsts n C) S).1 = 0
  · rw [if_pos h0] at hop
    obtain ⟨g, v, O', rfl, hgl, hgo, hgw, was, st, hd'⟩ := hop
    rw [op2 h0] at was
    obtain ⟨ad, cap, rfl⟩ := was_shape was
    obtain ⟨q1, q2⟩ := own_high hbw hown st
    refine ⟨_, _, O', op5, ⟨t', k1, by rw [k2]; rfl⟩, hd', st, q1, q2, fun _ => ⟨g, ad, cap, by rw [fsts_head], was_cap (was_ok was), rows_was (was_ok was)⟩, fun h => absurd h0 h⟩
  · rw [if_neg h0] at hop
    obtain ⟨rfl, O', st, hd'⟩ := hop
    obtain ⟨q1, q2⟩ := own_high hbw hown st
    have h20 : (openS (fsts n C) S).1 = 20 := by
      rcases op5.1 with h | h
      · exact absurd h.1 h0
      · exact h.1
    exact ⟨_, _, O', op5, ⟨t', k1, by rw [k2]; rfl⟩, hd', st, q1, q2, fun h => absurd h h0, fun _ => by rw [h20]⟩
theorem jo_of {W w : World} {d g : Nat} {per : Int} {D : List (List (List Int))} {c : List (List Int)} {S : St} (h : JW W w d g per D c S) : ∃ O, JO W w d g per D c S O := by
  obtain ⟨O, h1, h2, h3, h4⟩ := h; exact ⟨O, h1, h2, h3, h4⟩
theorem jo_room {W w : World} {d g : Nat} {per : Int} {D : List (List (List Int))} {c : List (List Int)} {S : St} {O : Nat → Prop} (h : JO W w d g per D c S O) (n : Int) :
    Calls Tryd.prog 18 #[.pointer (some ⟨d, 0, none⟩), .int .i64 n] w fun e w' => e = .returned (.tuple #[]) ∧ ∃ O', Step w (Og O g) w' (Og O' g) ∧ JO W w' d g per D c { S with room := n } O' := by
  refine (room_disk h.wal.disk n).mono ?_
  rintro e w' ⟨rfl, O', st, hd'⟩
  obtain ⟨q1, q2⟩ := own_high h.frame h.high (step_og (g := g) st)
  exact ⟨rfl, O', step_og st, h.wal.step st hd', ⟨h.jn.fs, h.jn.up, h.jn.none, h.jn.full, h.jn.last, h.jn.ok⟩, q1, q2⟩
/-! ### a slice beside the journal -/
/-- A slice of slices that the law makes: its values; no block of it is the journal's. -/
structure Tk (W w : World) (Q : Nat → Prop) (v : Value) (vs : List Value) : Prop where
  row : w.ownsRow W.heap.size 26 1 v vs.length vs
  apart : ∀ b, v.ownBlock = some b → ¬ Q b
theorem Tk.step {W w w' : World} {Q Q' : Nat → Prop} {v : Value} {vs : List Value} (h : Tk W w Q v vs) (st : Step w Q w' Q') : Tk W w' Q' v vs :=
  ⟨irow_move h.row fun b e => st.block b (h.row.lt b e).2 (h.apart b e), fun b e hq => (st.own b hq).elim (h.apart b e) fun hl => by have := (h.row.lt b e).2; omega⟩
theorem Tk.below {W w w' : World} {Q : Nat → Prop} {v : Value} {vs : List Value} (h : Tk W w Q v vs) (hb : Below w.heap.size w w') : Tk W w' Q v vs :=
  ⟨irow_move h.row fun b e => hb.block b (h.row.lt b e).2, h.apart⟩
theorem wp_tapp {ops : Array Oper} {rest : List Oper} {o : Oper} {a : Act} {Q : Exit → Act → World → Prop} {w : World} (hgd : o.guard = none) (s x : Operand)
    (ho : o.op = .call { callee := .builtin .append, args := #[s, x], argTypes := #[22, 22] }) (W : World) (d g : Nat) (per : Int) (D : List (List (List Int))) (c : List (List Int)) (S : St) (O : Nat → Prop) (v : Value) (n : Nat) (vs : List Value) (hj : JO W w d g per D c S O) (ht : Tk W w (Og O g) v vs) (hn : vs.length = n) (hs : a.eval s = v) (hn2 : n ≤ 1048576)
    (gb : Nat) (u : Value) (hu1 : u.oneCell' = true) (hx : a.eval x = .slice (some ⟨gb, 0, none⟩) 1 1) (hc : w.cell? ⟨gb, 0, none⟩ = some u)
    (h : ∀ v' w', JO W w' d g per D c S O → Tk W w' (Og O g) v' (vs ++ [u]) → (∃ ad cap, v' = .slice ad (n + 1) cap) → wpList Tryd.prog ops Q rest (a.put o.dst v') w') : wpList Tryd.prog ops Q (o :: rest) a w := by
  obtain ⟨i0, hi, hz0, hz1, hz2⟩ := info_parts info_b
  have h1 := ht.row
  rw [hn] at h1
  refine wpList_append_own_at w hgd s x 22 ho W.heap.size 26 i0 (.slice none 0 0) 1 24 Tryd.underlying22 hi hz0 hz1 hz2 rfl (by decide) v n vs hs h1 ⟨gb, 0, none⟩ 1 1 [u] hx rfl ?_ ?_ (by unfold maxLen; omega) (by omega) hj.frame.size ?_
  · intro i y hy
    match i, hy with
    | 0, hy => simp at hy; subst hy; exact hc
    | i + 1, hy => simp at hy
  · intro y hy; simp at hy; subst hy; exact hu1
  · intro v' w' r1 r2 r3 r4
    have tt : Turned (fun b => v.ownBlock = some b) w w' := Turned.of_grown r2 fun b e => e
    have hlow := hj.low
    have r1' : w'.ownsRow W.heap.size 26 1 v' (vs ++ [u]).length (vs ++ [u]) := by rw [List.length_append, hn]; exact r1
    refine h v' w' ⟨⟨hj.wal.disk.turned tt fun i hi e => ht.apart i e (.inl hi), hj.wal.out, (tt.block g (lt_of_heap hj.wal.blk) fun e => ht.apart g e (.inr rfl)).trans hj.wal.blk⟩, hj.jn, hj.frame.trans (tt.below fun k hk => ⟨Nat.lt_of_lt_of_le hk hj.frame.size, fun e => by have := (h1.lt k e).1; omega⟩), hj.high⟩ ⟨r1', fun b e hq => ?_⟩ ?_
    · rcases r4 with r4 | r4
      · rw [r4] at e; exact ht.apart b e hq
      · rw [r4] at e; have := Option.some.inj e; have := hlow b hq; omega
    · rcases r1.2 with ⟨e, h0⟩ | ⟨g', cap, cur, e, _⟩
      · omega
      · exact ⟨_, cap, e⟩
end Go.Proofs.YtdonkmkjblofpaaDoor.Wl

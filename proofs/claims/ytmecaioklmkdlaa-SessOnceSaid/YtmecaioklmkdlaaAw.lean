/-
  Layer 8: the law on what stays and is its own.
-/
import Derived.Test.YtmecaioklmkdlaaAv
import Derived.Test.YtmecaioklmkdlaaAt
import Derived.Deep.DeepMust
namespace Go.Proofs.Ytmecaioklmkdlaa.Ss
open Go.RowKit
set_option linter.unusedVariables false
set_option linter.unusedSimpArgs false

theorem OwnS.store {w : World} {base : Nat} {v : Value} {l : List ByteArray} (h : OwnS w base v l) {j : Nat} (hj : j < l.length) : ∃ g cap, v = .slice (some ⟨g, 0, none⟩) l.length cap ∧ base ≤ g ∧ g < w.heap.size ∧ w.cell? ⟨g, j, none⟩ = some (.string (l.getD j em)) ∧ w.frozen? ⟨g, j, none⟩ = false ∧
    ∀ c : ByteArray, OwnS (w.setCell ⟨g, j, none⟩ (.string c)) base v (l.set j c) := by
  have h' := h
  rcases h.2 with ⟨_, h0⟩ | ⟨g, cap, cur, rfl, hb, hh, h1, h2, h3, h4⟩
  · omega
  · refine ⟨g, cap, rfl, hb, (Array.getElem?_eq_some_iff.1 hh).1, ?_, Lib.frozen_of_heap hh j, fun c => ⟨by simp, .inr ⟨g, cap, cur.setIfInBounds j (.string c), by rw [List.length_set], hb, ?_, by rw [List.length_set]; exact h1, h2, by rw [Array.size_setIfInBounds]; exact h3, ?_⟩⟩⟩
    · rw [World.ownsRow.cellAt h' j (by omega)]
      simp [List.getD, hj]
    · rw [setCell_eq_setRow w g j cur _ _ _ hh]
      exact setRow_heap w g cur _ _ _ hh
    · rw [List.length_set, Array.toList_setIfInBounds, List.take_set, h4, List.map_set]
/-- A row of frames, its cells whatever. -/
def RowX (W : World) (g n : Nat) : Prop := ∃ cur, W.heap[g]? = some (.cells cur 27 (0, 0)) ∧ n ≤ cur.size
theorem RowX.cells {W : World} {g n : Nat} (h : RowX W g n) {i : Nat} (hi : i < n) : (∃ u, W.cell? ⟨g, i, none⟩ = some u) ∧ W.frozen? ⟨g, i, none⟩ = false := by
  obtain ⟨cur, h1, h2⟩ := h
  refine ⟨⟨cur[i]'(by omega), ?_⟩, Lib.frozen_of_heap h1 i⟩
  rw [Lib.cell_of_heap h1]
  simp [show i < cur.size by omega]
theorem RowX.set {W : World} {g n : Nat} (h : RowX W g n) (i : Nat) (u : Value) : RowX (W.setCell ⟨g, i, none⟩ u) g n := by
  obtain ⟨cur, h1, h2⟩ := h
  refine ⟨cur.setIfInBounds i u, ?_, by rw [Array.size_setIfInBounds]; exact h2⟩
  rw [setCell_eq_setRow W g i cur _ _ _ h1]
  exact setRow_heap W g cur _ _ _ h1
theorem OwnX.rowX {w : World} {base : Nat} {v : Value} {F : List Fm} (h : OwnX w base v F) (h0 : 0 < F.length) : ∃ g cap, v = .slice (some ⟨g, 0, none⟩) F.length cap ∧ base ≤ g ∧ g < w.heap.size ∧ RowX w g (F.length * 4) := by
  rcases h.2 with ⟨_, hn⟩ | ⟨g, cap, cur, hv, hb, hh, h1, h2, h3, h4⟩
  · omega
  · exact ⟨g, cap, hv, hb, (Array.getElem?_eq_some_iff.1 hh).1, cur, hh, by omega⟩
theorem HasS.front {w : World} {b off : Nat} {F G : List ByteArray} (h : HasS w (some ⟨b, off, none⟩) (F ++ G)) : HasS w (some ⟨b, off, none⟩) F := by
  refine ⟨by have := h.1; rw [List.length_append] at this; omega, fun h0 => ⟨b, off, rfl, fun j hj => ?_⟩⟩
  have := HasS.cell h (j := j) (by rw [List.length_append]; omega)
  rwa [show (F ++ G).getD j em = F.getD j em by simp [List.getD, List.getElem?_append_left hj]] at this
theorem grown_trans {A B C : World} {row : Option Nat} (h1 : A.grownBy B row) (h2 : B.grownBy C row) : A.grownBy C row :=
  ⟨h2.os.trans h1.os, h2.tape.trans h1.tape, h2.output.trans h1.output, Nat.le_trans h1.size h2.size, fun k hk hr => (h2.block k (Nat.lt_of_lt_of_le hk h1.size) hr).trans (h1.block k hk hr)⟩
theorem grown_of_below {A B : World} (h : Below A.heap.size A B) (row : Option Nat) : A.grownBy B row := ⟨h.os, h.tape, h.output, h.size, fun k hk _ => h.block k hk⟩
theorem lit_twoS (w : World) (x y : ByteArray) (T : TypeId) (g : Nat) (hg : g = w.heap.size) : HasS (w.alloc (.cells #[.string x, .string y] T)) (some ⟨g, 0, none⟩) [x, y] := by
  subst hg
  refine ⟨by simp, fun _ => ⟨w.heap.size, 0, rfl, fun j hj => ?_⟩⟩
  match j, hj with
  | 0, _ => simp [List.getD]
  | 1, _ => simp [List.getD]
theorem HasS.gone {A B : World} {b off : Nat} {T : List ByteArray} {row : Option Nat} (h : HasS A (some ⟨b, off, none⟩) T) (hg : A.grownBy B row) (hr : row ≠ some b) : HasS B (some ⟨b, off, none⟩) T :=
  ⟨h.1, fun h0 => ⟨b, off, rfl, fun j hj => by
    have hc := HasS.cell h hj
    have hb := hg.block b (Fr.lt_of_cell hc) (fun e => hr e.symm)
    rw [← hc]
    unfold World.cell?
    simp only
    rw [hb]⟩⟩
theorem have_then {P Q : Prop} (h : P) (k : P → Q) : Q := k h
theorem size_drew (w : World) : w.drew.heap.size = w.heap.size := rfl
theorem ownS_litg (w : World) {base g : Nat} (hg : g = w.heap.size) (h : base ≤ g) : OwnS (w.alloc (.cells #[] 9)) base (.slice (some ⟨g, 0, none⟩) 0 0) [] := by subst hg; exact ownS_lit w h
theorem blk_newg (w : World) {g : Nat} (cs : Array Value) (T : TypeId) (hg : g = w.heap.size) : Blk (w.alloc (.cells cs T)) g cs T := by subst hg; exact Blk.new _ _ _
theorem hasS_drew {w : World} {a : Option Addr} {S : List ByteArray} (h : HasS w a S) : HasS w.drew a S := h
abbrev bX : ByteArray := { data := #[120] }
abbrev bY : ByteArray := { data := #[121] }
abbrev bU : ByteArray := { data := #[117] }
abbrev bV : ByteArray := { data := #[118] }
abbrev bZ : ByteArray := { data := #[122] }
/-- The end of the law's own, in its box. -/
def Mine (w0 : World) (N len : Nat) (S : List ByteArray) (t k : Int) (s7 : Value) (wc : World) : Prop :=
  ∃ g7 gm cm, s7 = .pointer (some ⟨g7, 0, none⟩) ∧ Blk wc g7 #[.slice (some ⟨gm, 0, none⟩) len cm, .int .i64 t, .int .i64 k] 24 ∧ OwnS wc w0.heap.size (.slice (some ⟨gm, 0, none⟩) (len + 2) cm) (S ++ [bX, bY]) ∧ Below w0.heap.size w0 wc ∧ gm ≠ g7 ∧ w0.heap.size ≤ g7 ∧ len + 2 ≤ cm
theorem take_len (s : Sd) (f : Fm) : (takeS s f).1.S.length ≤ 256 := by
  cases hg : goodB s with
  | false => unfold takeS; rw [if_pos hg]; exact Nat.zero_le _
  | true =>
    cases hv : validB f with
    | false => unfold takeS; rw [if_neg (by simp [hg]), if_pos hv]; exact Nat.zero_le _
    | true => rw [(take_good hg hv).2.2.2.1]; exact (goodB_iff.1 hg).1
/-- What stays while rows between 'z0' and 'z6' are stored into. -/
structure Kp (w : World) (N g7 gm cm len g15 z0 z6 : Nat) (S : List ByteArray) (xs fs ms cs : Array Value) (vc : Value) (S' : List ByteArray) (vy : Value) (X : List Fm) (W : World) : Prop where
  x : Blk W N xs 24
  f : Blk W (N + 1) fs 27
  m : Blk W g7 ms 24
  om : OwnS W 0 (.slice (some ⟨gm, 0, none⟩) (len + 2) cm) (S ++ [bX, bY])
  c : Blk W g15 cs 24
  oc : OwnS W z6 vc S'
  oy : OwnX W z6 vy X
  bel : Below N w W
  lt : N + 2 ≤ z0 ∧ g7 < z0 ∧ gm < z0 ∧ z6 ≤ g15 ∧ z0 ≤ W.heap.size
theorem Kp.keep {w : World} {N g7 gm cm len g15 z0 z6 : Nat} {S : List ByteArray} {xs fs ms cs : Array Value} {vc : Value} {S' : List ByteArray} {vy : Value} {X : List Fm} {W W' : World} (h : Kp w N g7 gm cm len g15 z0 z6 S xs fs ms cs vc S' vy X W) (hb : Below W.heap.size W W') : Kp w N g7 gm cm len g15 z0 z6 S xs fs ms cs vc S' vy X W' := by
  obtain ⟨l1, l2, l3, l4, l5⟩ := h.lt
  exact ⟨h.x.keep hb, h.f.keep hb, h.m.keep hb, h.om.keep hb, h.c.keep hb, h.oc.keep hb, h.oy.keep hb, h.bel.trans (hb.mono (by omega)), l1, l2, l3, l4, Nat.le_trans l5 hb.size⟩
theorem Kp.gone {w : World} {N g7 gm cm len g15 z0 z6 : Nat} {S : List ByteArray} {xs fs ms cs : Array Value} {vc : Value} {S' : List ByteArray} {vy : Value} {X : List Fm} {W W' : World} {row : Option Nat} (h : Kp w N g7 gm cm len g15 z0 z6 S xs fs ms cs vc S' vy X W) (hg : W.grownBy W' row) (hr : ∀ k, row = some k → z0 ≤ k ∧ k < z6) : Kp w N g7 gm cm len g15 z0 z6 S xs fs ms cs vc S' vy X W' := by
  obtain ⟨l1, l2, l3, l4, l5⟩ := h.lt
  refine ⟨h.x.gone hg fun e => ?_, h.f.gone hg fun e => ?_, h.m.gone hg fun e => ?_, h.om.gone hg fun k hk e => ?_, h.c.gone hg fun e => ?_, h.oc.gone hg fun k hk e => ?_, h.oy.gone hg fun k hk e => ?_, h.bel.grown hg (by omega) fun k hk => ?_, l1, l2, l3, l4, Nat.le_trans l5 hg.size⟩
  · have := hr _ e; omega
  · have := hr _ e; omega
  · have := hr _ e; omega
  · have := hr _ e; have e2 := Option.some.inj hk; simp only at e2; omega
  · have := hr _ e; omega
  · have := hr _ e; have := (h.oc.lt k hk).1; omega
  · have := hr _ e; have := (h.oy.lt k hk).1; omega
  · have := hr _ hk; omega
theorem blk_of_read {W : World} {g : Nat} {a b c : Value} {T : TypeId} (h : Blk W g #[a, b, c] T) : W.cell? ⟨g, 0, none⟩ = some a := h.cell 0
set_option maxRecDepth 100000 in
set_option maxHeartbeats 60000000 in
theorem keeps_walk (a : Option Addr) (len cap : Nat) (S : List ByteArray) (t k : Int) (f : Fm) (m : ByteArray) (w : World) (hin : InS w a len cap S) :
    Calls Try.prog 8 #[.agg #[.slice a len cap, .int .i64 t, .int .i64 k], .agg #[.int .i64 f.kind, .int .i64 f.num, .int .i64 f.taken, .string f.body], .string m] w fun e w' => e = .returned (.bool true) ∧ Below w.heap.size w w' := by
  obtain ⟨hS, hl, hlc, hn, hcb⟩ := hin
  obtain ⟨x1, x2, x3, x4⟩ := f
  simp only
  have HIN := Lib.hid hS; have HL := Lib.hid hl; have HNC := Lib.hid hn
  have hlb : len ≤ 8796093022000 := by omega
  clear hS hl hn hcb
  obtain ⟨N, hN⟩ : ∃ N, N = w.heap.size := ⟨_, rfl⟩
  obtain ⟨x0, y0, b0⟩ := two_new w #[.slice a len cap, .int .i64 t, .int .i64 k] #[.int .i64 x1, .int .i64 x2, .int .i64 x3, .string x4] 24 27
  obtain ⟨w0, hw0⟩ : ∃ w0, w0 = (w.alloc (.cells #[.slice a len cap, .int .i64 t, .int .i64 k] 24)).alloc (.cells #[.int .i64 x1, .int .i64 x2, .int .i64 x3, .string x4] 27) := ⟨_, rfl⟩
  rw [← hw0] at x0 y0 b0
  have HS0 := Lib.hid (HIN.out.keep b0)
  rw [← hN] at x0 y0 b0
  have HN := Lib.hid hN; have HW0 := Lib.hid hw0; have B0 := Lib.hid b0; have HX0 := Lib.hid x0; have HF0 := Lib.hid y0
  have hz0 : N + 2 ≤ w0.heap.size := y0.lt
  clear hN hw0 b0 x0 y0
  go_enter Try.func8, Try.ntmps8
  go_wp2_with fail
  rw [← HN.out, ← HW0.out]
  refine (wakes_any _).mono ?_
  rintro e w1 ⟨rfl, hb1⟩
  have HX1 := Lib.hid (HX0.out.keep hb1); have HF1 := Lib.hid (HF0.out.keep hb1); have HS1 := Lib.hid (HS0.out.keep hb1); have HB1 := Lib.hid (B0.out.trans (hb1.mono (by omega)))
  have hz1 : N + 2 ≤ w1.heap.size := by have := hb1.size; omega
  clear hb1 HX0 HF0 HS0 B0
  go_upto_region 3 with (fail)
  go_cut [7] (fun s wc => Mine w1 N len S t k s wc)
  case first =>
    obtain ⟨c0, c1, c2⟩ := agg_cells HX1.out
    have HSW : Hid (∀ wx, Below w1.heap.size w1 wx → HasS wx a S) := Lib.hid fun wx hb => HS1.out.keep hb
    have j0 : (0 : Int) ≤ (len : Int) := by omega
    have HK : Hid (∀ wx, Below w1.heap.size w1 wx → Below w1.heap.size w1 wx ∧ wx.cell? ⟨N, 0, none⟩ = some (.slice a len cap) ∧ wx.cell? ⟨N, 1, none⟩ = some (.int .i64 t) ∧ wx.cell? ⟨N, 2, none⟩ = some (.int .i64 k)) := Lib.hid fun wx hb => ⟨hb, agg_cells (HX1.out.keep hb)⟩
    go_region_held3 (fun wx => Below w1.heap.size w1 wx ∧ wx.cell? ⟨N, 0, none⟩ = some (.slice a len cap) ∧ wx.cell? ⟨N, 1, none⟩ = some (.int .i64 t) ∧ wx.cell? ⟨N, 2, none⟩ = some (.int .i64 k))
      (first | (refine HK.out _ ?_; (try refine Below.drew ?_); (repeat (first | refine Below.alloc ?_ (by first | exact Nat.le_refl _ | omega | (simp only [size_drew, World.size_alloc]; omega) | focus (simp only [size_drew, World.size_alloc, Nat.le_refl]; done)) _ | refine Below.setCell ?_ (by simp only; omega) _)); (first | exact Below.refl _ _ | assumption)))
      (first
        | (go_split_ands
           refine step_apS (by rfl) (.tmp 29) (.tmp 31) (by rfl) w1.heap.size (.slice (some ⟨_, 0, none⟩) 0 0) [] (by rfl) ?_ a len cap S (by rfl) (HSW.out _ ?_) HL.out HNC.out ?_ ?_ ?_
           · (try refine ownS_drew ?_); first | (refine ownS_litg _ ?_ ?_; (first | rfl | focus (simp only [World.size_alloc]; done)); (first | exact Nat.le_refl _ | omega | (simp only [size_drew, World.size_alloc]; omega) | focus (simp only [size_drew, World.size_alloc, Nat.le_refl]; done))) | (refine Go.Proofs.Ytmecaioklmkdlaa.Ss.OwnS.keep (ownS_litg _ ?_ ?_) (below_alloc1 _ _); (first | rfl | focus (simp only [World.size_alloc]; done)); (first | exact Nat.le_refl _ | omega | (simp only [size_drew, World.size_alloc]; omega) | focus (simp only [size_drew, World.size_alloc, Nat.le_refl]; done))) | (refine Go.Proofs.Ytmecaioklmkdlaa.Ss.OwnS.keep (Go.Proofs.Ytmecaioklmkdlaa.Ss.OwnS.keep (ownS_litg _ ?_ ?_) (below_alloc1 _ _)) (below_alloc1 _ _); (first | rfl | focus (simp only [World.size_alloc]; done)); (first | exact Nat.le_refl _ | omega | (simp only [size_drew, World.size_alloc]; omega) | focus (simp only [size_drew, World.size_alloc, Nat.le_refl]; done)))
           · (try refine Below.drew ?_); (repeat (refine Below.alloc ?_ (by first | exact Nat.le_refl _ | omega | (simp only [size_drew, World.size_alloc]; omega) | focus (simp only [size_drew, World.size_alloc, Nat.le_refl]; done)) _)); (first | exact Below.refl _ _ | assumption)
           · simp; omega
           · first | exact Nat.le_refl _ | omega | (simp only [size_drew, World.size_alloc]; omega) | focus (simp only [size_drew, World.size_alloc, Nat.le_refl]; done)
           intro v2 w2 ho2 hg2 hnb2
           rw [List.nil_append] at ho2
           obtain ⟨a2, c2, hv2, -⟩ := ho2.has
           rw [HL.out] at hv2
           subst hv2
           have hb2 : Below w1.heap.size w1 w2 := Below.grown (by (try refine Below.drew ?_); (repeat (refine Below.alloc ?_ (by first | exact Nat.le_refl _ | omega | (simp only [size_drew, World.size_alloc]; omega) | focus (simp only [size_drew, World.size_alloc, Nat.le_refl]; done)) _)); (first | exact Below.refl _ _ | assumption)) hg2 (by first | exact Nat.le_refl _ | omega | (simp only [size_drew, World.size_alloc]; omega) | focus (simp only [size_drew, World.size_alloc, Nat.le_refl]; done)) (fun r hr => by have := Option.some.inj hr; simp only at this; omega)
           have hz2 := hb2.size
           try (refine have_then (P := HasS w2 (some ⟨w1.heap.size, 0, none⟩) [bX, bY]) ?_ (fun hxy => ?_); (refine HasS.gone ?_ hg2 ?_; ((try refine hasS_drew ?_); first | (refine lit_twoS _ bX bY 9 _ ?_; (first | rfl | focus (simp only [World.size_alloc]; done))) | (refine Go.Proofs.Ytmecaioklmkdlaa.Ss.HasS.keep (lit_twoS _ bX bY 9 _ ?_) (below_alloc1 _ _); (first | rfl | focus (simp only [World.size_alloc]; done))) | (refine Go.Proofs.Ytmecaioklmkdlaa.Ss.HasS.keep (Go.Proofs.Ytmecaioklmkdlaa.Ss.HasS.keep (lit_twoS _ bX bY 9 _ ?_) (below_alloc1 _ _)) (below_alloc1 _ _); (first | rfl | focus (simp only [World.size_alloc]; done)))); (intro e; have := Option.some.inj e; simp only at this; omega)); have HXY0 := Lib.hid hxy; clear hxy)
           try (refine have_then (P := Blk w2 (w1.heap.size) #[.slice none 0 0, .int .i64 0, .int .i64 0] 24 ∧ (Value.slice a2 len c2).ownBlock ≠ some (w1.heap.size)) ?_ (fun hbx => ?_); (refine ⟨?_, ?_⟩; (refine Blk.gone ?_ hg2 ?_; ((try refine blk_drew ?_); first | (refine blk_newg _ #[.slice none 0 0, .int .i64 0, .int .i64 0] 24 ?_; (first | rfl | focus (simp only [World.size_alloc]; done))) | (refine Go.Proofs.Ytmecaioklmkdlaa.Ss.Blk.keep (blk_newg _ #[.slice none 0 0, .int .i64 0, .int .i64 0] 24 ?_) (below_alloc1 _ _); (first | rfl | focus (simp only [World.size_alloc]; done))) | (refine Go.Proofs.Ytmecaioklmkdlaa.Ss.Blk.keep (Go.Proofs.Ytmecaioklmkdlaa.Ss.Blk.keep (blk_newg _ #[.slice none 0 0, .int .i64 0, .int .i64 0] 24 ?_) (below_alloc1 _ _)) (below_alloc1 _ _); (first | rfl | focus (simp only [World.size_alloc]; done)))); (intro e; have := Option.some.inj e; simp only at this; omega)); (intro e; rcases hnb2 with h | h; (rw [h] at e; have := Option.some.inj e; simp only at this; omega); (rw [h] at e; have := Option.some.inj e; simp only [size_drew, World.size_alloc] at this; omega))); have HBX0 := Lib.hid hbx; clear hbx)
           try (refine have_then (P := HasS w2 (some ⟨w1.heap.size + 1, 0, none⟩) [bX, bY]) ?_ (fun hxy => ?_); (refine HasS.gone ?_ hg2 ?_; ((try refine hasS_drew ?_); first | (refine lit_twoS _ bX bY 9 _ ?_; (first | rfl | focus (simp only [World.size_alloc]; done))) | (refine Go.Proofs.Ytmecaioklmkdlaa.Ss.HasS.keep (lit_twoS _ bX bY 9 _ ?_) (below_alloc1 _ _); (first | rfl | focus (simp only [World.size_alloc]; done))) | (refine Go.Proofs.Ytmecaioklmkdlaa.Ss.HasS.keep (Go.Proofs.Ytmecaioklmkdlaa.Ss.HasS.keep (lit_twoS _ bX bY 9 _ ?_) (below_alloc1 _ _)) (below_alloc1 _ _); (first | rfl | focus (simp only [World.size_alloc]; done)))); (intro e; have := Option.some.inj e; simp only at this; omega)); have HXY1 := Lib.hid hxy; clear hxy)
           try (refine have_then (P := Blk w2 (w1.heap.size + 1) #[.slice none 0 0, .int .i64 0, .int .i64 0] 24 ∧ (Value.slice a2 len c2).ownBlock ≠ some (w1.heap.size + 1)) ?_ (fun hbx => ?_); (refine ⟨?_, ?_⟩; (refine Blk.gone ?_ hg2 ?_; ((try refine blk_drew ?_); first | (refine blk_newg _ #[.slice none 0 0, .int .i64 0, .int .i64 0] 24 ?_; (first | rfl | focus (simp only [World.size_alloc]; done))) | (refine Go.Proofs.Ytmecaioklmkdlaa.Ss.Blk.keep (blk_newg _ #[.slice none 0 0, .int .i64 0, .int .i64 0] 24 ?_) (below_alloc1 _ _); (first | rfl | focus (simp only [World.size_alloc]; done))) | (refine Go.Proofs.Ytmecaioklmkdlaa.Ss.Blk.keep (Go.Proofs.Ytmecaioklmkdlaa.Ss.Blk.keep (blk_newg _ #[.slice none 0 0, .int .i64 0, .int .i64 0] 24 ?_) (below_alloc1 _ _)) (below_alloc1 _ _); (first | rfl | focus (simp only [World.size_alloc]; done)))); (intro e; have := Option.some.inj e; simp only at this; omega)); (intro e; rcases hnb2 with h | h; (rw [h] at e; have := Option.some.inj e; simp only at this; omega); (rw [h] at e; have := Option.some.inj e; simp only [size_drew, World.size_alloc] at this; omega))); have HBX1 := Lib.hid hbx; clear hbx)
           try (refine have_then (P := HasS w2 (some ⟨w1.heap.size + 1 + 1, 0, none⟩) [bX, bY]) ?_ (fun hxy => ?_); (refine HasS.gone ?_ hg2 ?_; ((try refine hasS_drew ?_); first | (refine lit_twoS _ bX bY 9 _ ?_; (first | rfl | focus (simp only [World.size_alloc]; done))) | (refine Go.Proofs.Ytmecaioklmkdlaa.Ss.HasS.keep (lit_twoS _ bX bY 9 _ ?_) (below_alloc1 _ _); (first | rfl | focus (simp only [World.size_alloc]; done))) | (refine Go.Proofs.Ytmecaioklmkdlaa.Ss.HasS.keep (Go.Proofs.Ytmecaioklmkdlaa.Ss.HasS.keep (lit_twoS _ bX bY 9 _ ?_) (below_alloc1 _ _)) (below_alloc1 _ _); (first | rfl | focus (simp only [World.size_alloc]; done)))); (intro e; have := Option.some.inj e; simp only at this; omega)); have HXY2 := Lib.hid hxy; clear hxy)
           try (refine have_then (P := Blk w2 (w1.heap.size + 1 + 1) #[.slice none 0 0, .int .i64 0, .int .i64 0] 24 ∧ (Value.slice a2 len c2).ownBlock ≠ some (w1.heap.size + 1 + 1)) ?_ (fun hbx => ?_); (refine ⟨?_, ?_⟩; (refine Blk.gone ?_ hg2 ?_; ((try refine blk_drew ?_); first | (refine blk_newg _ #[.slice none 0 0, .int .i64 0, .int .i64 0] 24 ?_; (first | rfl | focus (simp only [World.size_alloc]; done))) | (refine Go.Proofs.Ytmecaioklmkdlaa.Ss.Blk.keep (blk_newg _ #[.slice none 0 0, .int .i64 0, .int .i64 0] 24 ?_) (below_alloc1 _ _); (first | rfl | focus (simp only [World.size_alloc]; done))) | (refine Go.Proofs.Ytmecaioklmkdlaa.Ss.Blk.keep (Go.Proofs.Ytmecaioklmkdlaa.Ss.Blk.keep (blk_newg _ #[.slice none 0 0, .int .i64 0, .int .i64 0] 24 ?_) (below_alloc1 _ _)) (below_alloc1 _ _); (first | rfl | focus (simp only [World.size_alloc]; done)))); (intro e; have := Option.some.inj e; simp only at this; omega)); (intro e; rcases hnb2 with h | h; (rw [h] at e; have := Option.some.inj e; simp only at this; omega); (rw [h] at e; have := Option.some.inj e; simp only [size_drew, World.size_alloc] at this; omega))); have HBX2 := Lib.hid hbx; clear hbx)
           have HO2 := Lib.hid ho2
           clear ho2 hg2 hnb2)
        | (go_split_ands
           refine step_apS (by rfl) (.tmp 32) (.tmp 33) (by rfl) w1.heap.size (.slice a2 len c2) S (by rfl) ?_ _ 2 2 [bX, bY] (by rfl) ?_ rfl (fun h => by cases h) (by rw [HL.out]; omega) ?_ ?_
           · first | exact HO2.out | exact Go.Proofs.Ytmecaioklmkdlaa.Ss.OwnS.keep (HO2.out) (below_alloc1 _ _) | exact Go.Proofs.Ytmecaioklmkdlaa.Ss.OwnS.keep (Go.Proofs.Ytmecaioklmkdlaa.Ss.OwnS.keep (HO2.out) (below_alloc1 _ _)) (below_alloc1 _ _)
           · first | exact HXY0.out | exact Go.Proofs.Ytmecaioklmkdlaa.Ss.HasS.keep (HXY0.out) (below_alloc1 _ _) | exact HXY1.out | exact Go.Proofs.Ytmecaioklmkdlaa.Ss.HasS.keep (HXY1.out) (below_alloc1 _ _) | exact HXY2.out | exact Go.Proofs.Ytmecaioklmkdlaa.Ss.HasS.keep (HXY2.out) (below_alloc1 _ _) | (refine lit_twoS _ bX bY 9 _ ?_; (first | rfl | focus (simp only [World.size_alloc]; done))) | (refine Go.Proofs.Ytmecaioklmkdlaa.Ss.HasS.keep (lit_twoS _ bX bY 9 _ ?_) (below_alloc1 _ _); (first | rfl | focus (simp only [World.size_alloc]; done)))
           · first | exact Nat.le_refl _ | omega | (simp only [size_drew, World.size_alloc]; omega) | focus (simp only [size_drew, World.size_alloc, Nat.le_refl]; done)
           intro v4 w4 ho4 hg4 hnb4
           have hll : (S ++ [bX, bY]).length = len + 2 := by rw [List.length_append, HL.out]; rfl
           obtain ⟨gm, cm, hv4, hgm1, hgm2, -⟩ := ho4.store (j := len) (by rw [hll]; omega)
           rw [hll] at hv4
           subst hv4
           have hb4 : Below w1.heap.size w1 w4 := Below.grown (by (try refine Below.drew ?_); (repeat (refine Below.alloc ?_ (by first | exact Nat.le_refl _ | omega | (simp only [size_drew, World.size_alloc]; omega) | focus (simp only [size_drew, World.size_alloc, Nat.le_refl]; done)) _)); (first | exact Below.refl _ _ | assumption)) hg4 (by first | exact Nat.le_refl _ | omega | (simp only [size_drew, World.size_alloc]; omega) | focus (simp only [size_drew, World.size_alloc, Nat.le_refl]; done)) (fun r hr => (HO2.out.lt r hr).1)
           have hz4 := hb4.size
           have hcm : len + 2 ≤ cm ∧ cm ≤ 9223372036854775807 := by
             obtain ⟨a', c', e', -, -, hq, hq3⟩ := ho4.has
             injection e' with e1 e2 e3
             unfold maxLen at hq3
             rw [hll] at hq
             omega
           obtain ⟨hcm1, hcm2⟩ := hcm
           try (refine have_then (P := Blk w4 (w1.heap.size) #[.slice none 0 0, .int .i64 0, .int .i64 0] 24 ∧ gm ≠ w1.heap.size) ?_ (fun hbx => ?_); (refine ⟨?_, ?_⟩; (refine Blk.gone ?_ hg4 HBX0.out.2; first | exact HBX0.out.1 | exact Go.Proofs.Ytmecaioklmkdlaa.Ss.Blk.keep (HBX0.out.1) (below_alloc1 _ _)); (intro e; rcases hnb4 with h | h; (exact HBX0.out.2 (by rw [← h, ← e]; rfl)); (have := Option.some.inj h; simp only [World.size_alloc] at this; have h8 := Blk.lt HBX0.out.1; omega))); have H7 := Lib.hid hbx; obtain ⟨d0, d1, d2⟩ := agg_cells hbx.1; have f0 := Blk.free hbx.1 0; have f1 := Blk.free hbx.1 1; have f2 := Blk.free hbx.1 2; clear hbx)
           try (refine have_then (P := Blk w4 (w1.heap.size + 1) #[.slice none 0 0, .int .i64 0, .int .i64 0] 24 ∧ gm ≠ w1.heap.size + 1) ?_ (fun hbx => ?_); (refine ⟨?_, ?_⟩; (refine Blk.gone ?_ hg4 HBX1.out.2; first | exact HBX1.out.1 | exact Go.Proofs.Ytmecaioklmkdlaa.Ss.Blk.keep (HBX1.out.1) (below_alloc1 _ _)); (intro e; rcases hnb4 with h | h; (exact HBX1.out.2 (by rw [← h, ← e]; rfl)); (have := Option.some.inj h; simp only [World.size_alloc] at this; have h8 := Blk.lt HBX1.out.1; omega))); have H7 := Lib.hid hbx; obtain ⟨d0, d1, d2⟩ := agg_cells hbx.1; have f0 := Blk.free hbx.1 0; have f1 := Blk.free hbx.1 1; have f2 := Blk.free hbx.1 2; clear hbx)
           try (refine have_then (P := Blk w4 (w1.heap.size + 1 + 1) #[.slice none 0 0, .int .i64 0, .int .i64 0] 24 ∧ gm ≠ w1.heap.size + 1 + 1) ?_ (fun hbx => ?_); (refine ⟨?_, ?_⟩; (refine Blk.gone ?_ hg4 HBX2.out.2; first | exact HBX2.out.1 | exact Go.Proofs.Ytmecaioklmkdlaa.Ss.Blk.keep (HBX2.out.1) (below_alloc1 _ _)); (intro e; rcases hnb4 with h | h; (exact HBX2.out.2 (by rw [← h, ← e]; rfl)); (have := Option.some.inj h; simp only [World.size_alloc] at this; have h8 := Blk.lt HBX2.out.1; omega))); have H7 := Lib.hid hbx; obtain ⟨d0, d1, d2⟩ := agg_cells hbx.1; have f0 := Blk.free hbx.1 0; have f1 := Blk.free hbx.1 1; have f2 := Blk.free hbx.1 2; clear hbx)
           try (refine have_then (P := Blk w4 (w2.heap.size) #[.slice none 0 0, .int .i64 0, .int .i64 0] 24 ∧ gm ≠ w2.heap.size) ?_ (fun hbx => ?_); (refine ⟨?_, ?_⟩; (refine Blk.gone ?_ hg4 ?_; ((try refine blk_drew ?_); first | (refine blk_newg _ #[.slice none 0 0, .int .i64 0, .int .i64 0] 24 ?_; (first | rfl | focus (simp only [World.size_alloc]; done))) | (refine Go.Proofs.Ytmecaioklmkdlaa.Ss.Blk.keep (blk_newg _ #[.slice none 0 0, .int .i64 0, .int .i64 0] 24 ?_) (below_alloc1 _ _); (first | rfl | focus (simp only [World.size_alloc]; done))) | (refine Go.Proofs.Ytmecaioklmkdlaa.Ss.Blk.keep (Go.Proofs.Ytmecaioklmkdlaa.Ss.Blk.keep (blk_newg _ #[.slice none 0 0, .int .i64 0, .int .i64 0] 24 ?_) (below_alloc1 _ _)) (below_alloc1 _ _); (first | rfl | focus (simp only [World.size_alloc]; done)))); (intro e; have := (HO2.out.lt _ e).2; omega)); (intro e; rcases hnb4 with h | h; (have h5 := (HO2.out.lt gm (by rw [← h]; rfl)).2; omega); (have := Option.some.inj h; simp only [World.size_alloc] at this; omega))); have H7 := Lib.hid hbx; obtain ⟨d0, d1, d2⟩ := agg_cells hbx.1; have f0 := Blk.free hbx.1 0; have f1 := Blk.free hbx.1 1; have f2 := Blk.free hbx.1 2; clear hbx)
           try (refine have_then (P := Blk w4 (w2.heap.size + 1) #[.slice none 0 0, .int .i64 0, .int .i64 0] 24 ∧ gm ≠ w2.heap.size + 1) ?_ (fun hbx => ?_); (refine ⟨?_, ?_⟩; (refine Blk.gone ?_ hg4 ?_; ((try refine blk_drew ?_); first | (refine blk_newg _ #[.slice none 0 0, .int .i64 0, .int .i64 0] 24 ?_; (first | rfl | focus (simp only [World.size_alloc]; done))) | (refine Go.Proofs.Ytmecaioklmkdlaa.Ss.Blk.keep (blk_newg _ #[.slice none 0 0, .int .i64 0, .int .i64 0] 24 ?_) (below_alloc1 _ _); (first | rfl | focus (simp only [World.size_alloc]; done))) | (refine Go.Proofs.Ytmecaioklmkdlaa.Ss.Blk.keep (Go.Proofs.Ytmecaioklmkdlaa.Ss.Blk.keep (blk_newg _ #[.slice none 0 0, .int .i64 0, .int .i64 0] 24 ?_) (below_alloc1 _ _)) (below_alloc1 _ _); (first | rfl | focus (simp only [World.size_alloc]; done)))); (intro e; have := (HO2.out.lt _ e).2; omega)); (intro e; rcases hnb4 with h | h; (have h5 := (HO2.out.lt gm (by rw [← h]; rfl)).2; omega); (have := Option.some.inj h; simp only [World.size_alloc] at this; omega))); have H7 := Lib.hid hbx; obtain ⟨d0, d1, d2⟩ := agg_cells hbx.1; have f0 := Blk.free hbx.1 0; have f1 := Blk.free hbx.1 1; have f2 := Blk.free hbx.1 2; clear hbx)
           have HO4 := Lib.hid ho4
           have j1 : (len : Int) ≤ (cm : Int) := by omega
           clear ho4 hg4 hnb4 hll)
        | fail)
    -- behind the region
    all_goals
      go_wp2_with fail
      go_meet
    all_goals
      case rel =>
        first
          | (obtain ⟨hb7, hn7⟩ := H7.out
             refine ⟨_, gm, cm, rfl, hb7.set3 _ _ _, HO4.out.other3 ?_ _ _ _, below_set3 hb4 ?_ _ _ _, hn7, ?_, hcm1⟩
             · intro r hr e
               have := Option.some.inj hr
               simp only at this
               exact hn7 (this.trans e)
             · omega
             · omega)
          | exact ⟨w4.heap.size, gm, cm, rfl, Blk.new w4 _ _, HO4.out.keep (below_alloc1 _ _), hb4.alloc hz4 _, (by omega), hz4, hcm1⟩
  -- END FIRST
  obtain ⟨g7, gm, cm, rfl, hb7, hom, hbw, hne, hg7, hcm⟩ := hcut
  have hcmx : cm ≤ 9223372036854775807 := by
    obtain ⟨a', c', e', -, -, -, hq3⟩ := hom.has
    injection e' with e1 e2 e3
    unfold maxLen at hq3
    omega
  have hgm : w1.heap.size ≤ gm ∧ gm < wc.heap.size := hom.lt gm rfl
  have HX2 := Lib.hid (HX1.out.keep hbw); have HF2 := Lib.hid (HF1.out.keep hbw); have HS2 := Lib.hid (HS1.out.keep hbw); have HB2 := Lib.hid (HB1.out.trans (hbw.mono (by omega)))
  have H7 := Lib.hid hb7; have HOM := Lib.hid hom
  have hz2 := hbw.size
  have hg7b := hb7.lt
  have HMS : Hid (HasS wc (some ⟨gm, 0, none⟩) S) := Lib.hid (HasS.front (own_read (by have := hom; exact this)).1)
  clear hb7 hom hbw HX1 HF1 HS1 HB1
  have hsd := send_any (some ⟨gm, 0, none⟩) len cm ⟨S, t, k⟩ m wc HMS.out HL.out (fun h => by cases h)
  have htk := fun w h => take_any (some ⟨gm, 0, none⟩) len cm ⟨S, t, k⟩ ⟨x1, x2, x3, x4⟩ w h HL.out (fun h => by cases h)
  have hrt := fun w h => rtake_any a len cap ⟨S, t, k⟩ ⟨x1, x2, x3, x4⟩ w h HL.out HNC.out
  have hsm := fun w h1 h2 => same_any (some ⟨gm, 0, none⟩) a len cm cap S t k w h1 h2 HL.out
  simp only at hsd htk hrt
  generalize sendS ⟨S, t, k⟩ m = R1 at *
  obtain ⟨⟨S1, t1, k1⟩, ⟨f1, f2, f3, f4⟩, E1⟩ := R1
  have hT256 := take_len ⟨S, t, k⟩ ⟨x1, x2, x3, x4⟩
  generalize takeS ⟨S, t, k⟩ ⟨x1, x2, x3, x4⟩ = R at *
  obtain ⟨⟨S', t', k'⟩, mm, X, E⟩ := R
  simp only at hT256
  unfold SendIt at hsd
  unfold TakeIt at htk hrt
  unfold Tells at hsm
  simp only at hsd htk hrt
  have HSD := Lib.hid hsd; have HTK := Lib.hid htk; have HRT := Lib.hid hrt; have HSM := Lib.hid hsm
  clear hsd htk hrt hsm
  obtain ⟨c0, c1, c2⟩ := agg_cells H7.out
  -- Send of mine
  go_wp2_with fail
  refine HSD.out.mono ?_
  rintro e w3 ⟨v3, rfl, ho3, hb3⟩
  obtain ⟨a3, cap3, rfl, -⟩ := ho3.has
  obtain ⟨LA, hLA⟩ : ∃ L, S1.length = L := ⟨_, rfl⟩
  rw [hLA] at ho3 ⊢
  obtain ⟨x8, -, b89⟩ := two_new w3 #[.slice a3 LA cap3, .int .i64 t1, .int .i64 k1] #[.int .i64 f1, .int .i64 f2, .int .i64 f3, .string f4] 24 27
  obtain ⟨w4, hw4⟩ : ∃ w4, w4 = (w3.alloc (.cells #[.slice a3 LA cap3, .int .i64 t1, .int .i64 k1] 24)).alloc (.cells #[.int .i64 f1, .int .i64 f2, .int .i64 f3, .string f4] 27) := ⟨_, rfl⟩
  rw [← hw4] at x8 b89
  obtain ⟨g8, hg8⟩ : ∃ g8, g8 = w3.heap.size := ⟨_, rfl⟩
  rw [← hg8] at x8
  have hb4 := hb3.trans (b89.mono hb3.size)
  have HX4 := Lib.hid (HX2.out.keep hb4); have HF4 := Lib.hid (HF2.out.keep hb4); have HB4 := Lib.hid (HB2.out.trans (hb4.mono (by omega)))
  have H74 := Lib.hid (H7.out.keep hb4); have HOM4 := Lib.hid (HOM.out.keep hb4); have HMS4 := Lib.hid (HMS.out.keep hb4)
  have H8 := Lib.hid x8; have HOA := Lib.hid (ho3.keep b89); have HG8 := Lib.hid hg8; have HW4 := Lib.hid hw4
  have hzA : wc.heap.size ≤ g8 := by rw [hg8]; exact hb3.size
  have hz4 : g8 + 2 ≤ w4.heap.size := by rw [hg8, hw4, World.size_alloc, World.size_alloc]; omega
  have HLTA : Hid (∀ r, (Value.slice a3 LA cap3).ownBlock = some r → wc.heap.size ≤ r ∧ r < g8) := Lib.hid (fun r hr => by rw [hg8]; exact ho3.lt r hr)
  clear hb3 ho3 x8 b89 hw4 hb4 hg8 c0 c1 c2 HX2 HF2 HB2 H7 HOM HMS
  obtain ⟨c0, c1, c2⟩ := agg_cells H74.out
  obtain ⟨p0, p1, p2, p3⟩ := fm_cells HF4.out
  go_upto_region 5 with (fail)
  rw [← HG8.out, ← HW4.out]
  clear HW4
  -- Take of mine, twice
  go_wp2_with fail
  refine (HTK.out w4 HMS4.out).mono ?_
  rintro e w5 ⟨v5, u5, rfl, ho5, hox5, hap5, hb5⟩
  obtain ⟨a5, cap5, rfl, -⟩ := ho5.has
  obtain ⟨d5, cd5, rfl, -⟩ := hox5.has
  obtain ⟨LB, hLB⟩ : ∃ L, S'.length = L := ⟨_, rfl⟩
  obtain ⟨M, hM⟩ : ∃ M, X.length = M := ⟨_, rfl⟩
  rw [hLB] at ho5 hap5 ⊢
  rw [hM] at hox5 hap5 ⊢
  obtain ⟨x11, b11⟩ := box_new w5 #[.slice a5 LB cap5, .int .i64 t', .int .i64 k'] 24
  obtain ⟨w6, hw6⟩ : ∃ w6, w6 = w5.alloc (.cells #[.slice a5 LB cap5, .int .i64 t', .int .i64 k'] 24) := ⟨_, rfl⟩
  rw [← hw6] at x11 b11
  obtain ⟨g11, hg11⟩ : ∃ g11, g11 = w5.heap.size := ⟨_, rfl⟩
  rw [← hg11] at x11
  have hb6 := hb5.trans (b11.mono hb5.size)
  have HX6 := Lib.hid (HX4.out.keep hb6); have HF6 := Lib.hid (HF4.out.keep hb6); have HB6 := Lib.hid (HB4.out.trans (hb6.mono (by omega)))
  have H76 := Lib.hid (H74.out.keep hb6); have HOM6 := Lib.hid (HOM4.out.keep hb6); have HMS6 := Lib.hid (HMS4.out.keep hb6)
  have H86 := Lib.hid (H8.out.keep hb6); have HOA6 := Lib.hid (HOA.out.keep hb6)
  have H11 := Lib.hid x11; have HOB := Lib.hid (ho5.keep b11); have HOX := Lib.hid (hox5.keep b11); have HAP := Lib.hid hap5
  have hLB256 : LB ≤ 256 := by rw [← hLB]; exact hT256
  have HG11 := Lib.hid hg11; have HW6 := Lib.hid hw6; have HLB := Lib.hid hLB; have HM := Lib.hid hM; have HLA := Lib.hid hLA
  have hzB : w4.heap.size ≤ g11 := by rw [hg11]; exact hb5.size
  have hz6 : g11 + 1 ≤ w6.heap.size := by rw [hg11, hw6, World.size_alloc]; omega
  have hltX : ∀ r, (Value.slice d5 M cd5).ownBlock = some r → w4.heap.size ≤ r ∧ r < g11 := fun r hr => by rw [hg11]; exact hox5.lt r hr
  have hltB : ∀ r, (Value.slice a5 LB cap5).ownBlock = some r → w4.heap.size ≤ r ∧ r < g11 := fun r hr => by rw [hg11]; exact ho5.lt r hr
  have HLX := Lib.hid hltX; have HLTB := Lib.hid hltB
  clear hb5 ho5 hox5 hap5 x11 b11 hw6 hb6 hg11 hLB hM hLA hltX hltB c0 c1 c2 p0 p1 p2 p3 HX4 HF4 HB4 H74 HOM4 HMS4 H8 HOA
  obtain ⟨c0, c1, c2⟩ := agg_cells H76.out
  obtain ⟨p0, p1, p2, p3⟩ := fm_cells HF6.out
  go_upto_region 6 with (fail)
  rw [← HG11.out, ← HW6.out]
  clear HW6
  go_wp2_with fail
  refine (HTK.out w6 HMS6.out).mono ?_
  rintro e w7 ⟨v7, u7, rfl, ho7, hox7, -, hb7⟩
  obtain ⟨a7, cap7, rfl, -⟩ := ho7.has
  obtain ⟨d7, cd7, rfl, -⟩ := hox7.has
  rw [HLB.out] at ho7 ⊢
  rw [HM.out] at hox7 ⊢
  obtain ⟨x15, b15⟩ := box_new w7 #[.slice a7 LB cap7, .int .i64 t', .int .i64 k'] 24
  obtain ⟨w8, hw8⟩ : ∃ w8, w8 = w7.alloc (.cells #[.slice a7 LB cap7, .int .i64 t', .int .i64 k'] 24) := ⟨_, rfl⟩
  rw [← hw8] at x15 b15
  obtain ⟨g15, hg15⟩ : ∃ g15, g15 = w7.heap.size := ⟨_, rfl⟩
  rw [← hg15] at x15
  have hb8 := hb7.trans (b15.mono hb7.size)
  have HX8 := Lib.hid (HX6.out.keep hb8); have HF8 := Lib.hid (HF6.out.keep hb8); have HB8 := Lib.hid (HB6.out.trans (hb8.mono (by omega)))
  have H78 := Lib.hid (H76.out.keep hb8); have HOM8 := Lib.hid (HOM6.out.keep hb8); have HMS8 := Lib.hid (HMS6.out.keep hb8)
  have H88 := Lib.hid (H86.out.keep hb8); have HOA8 := Lib.hid (HOA6.out.keep hb8)
  have H118 := Lib.hid (H11.out.keep hb8); have HOB8 := Lib.hid (HOB.out.keep hb8); have HOX8 := Lib.hid (HOX.out.keep hb8)
  have H15 := Lib.hid x15; have HOC8 := Lib.hid (ho7.keep b15); have HOY8 := Lib.hid (hox7.keep b15)
  have HG15 := Lib.hid hg15; have HW8 := Lib.hid hw8
  have hzC : w6.heap.size ≤ g15 := by rw [hg15]; exact hb7.size
  have hz8 : g15 + 1 ≤ w8.heap.size := by rw [hg15, hw8, World.size_alloc]; omega
  have HSA8 : Hid (HasS w8 a S) := Lib.hid (HIN.out.keep (by rw [← HN.out]; exact HB8.out))
  clear hb7 ho7 hox7 x15 b15 hw8 hb8 hg15 c0 c1 c2 p0 p1 p2 p3 HX6 HF6 HB6 H76 HOM6 HMS6 H86 HOA6 H11 HOB HOX
  obtain ⟨c0, c1, c2⟩ := agg_cells H78.out
  obtain ⟨d0, d1, d2⟩ := agg_cells HX8.out
  go_upto_region 7 with (fail)
  rw [← HG15.out, ← HW8.out]
  clear HW8
  have u1 : IntKind.i64.wrap ((len : Int) + 2) = (len : Int) + 2 := IntWalk.i64_in _ (by omega)
  have u2 : (0 : Int) ≤ (len : Int) + 2 := by omega
  have u3 : (len : Int) + 2 ≤ (cm : Int) := by omega
  have u4 : len + 2 ≤ cm := hcm
  go_upto_region 8 with (fail)
  clear u1 u2 u3 u4
  go_wp2_with fail
  refine (HSM.out w8 HMS8.out HSA8.out).mono ?_
  rintro e w9 ⟨rfl, hb9⟩
  have KP : Hid (Kp w N g7 gm cm len g15 wc.heap.size w6.heap.size S #[.slice a len cap, .int .i64 t, .int .i64 k] #[.int .i64 x1, .int .i64 x2, .int .i64 x3, .string x4] #[.slice (some ⟨gm, 0, none⟩) len cm, .int .i64 t, .int .i64 k] #[.slice a7 LB cap7, .int .i64 t', .int .i64 k'] (.slice a7 LB cap7) S' (.slice d7 M cd7) X w9) :=
    Lib.hid (Kp.keep ⟨HX8.out, HF8.out, H78.out, HOM8.out.low (Nat.zero_le _), H15.out, HOC8.out, HOY8.out, HB8.out, by omega, by omega, by omega, hzC, by omega⟩ hb9)
  have H89 := Lib.hid (H88.out.keep hb9); have HOA9 := Lib.hid (HOA8.out.keep hb9); have H119 := Lib.hid (H118.out.keep hb9); have HOB9 := Lib.hid (HOB8.out.keep hb9); have HOX9 := Lib.hid (HOX8.out.keep hb9)
  have hz9 := hb9.size
  clear hb9 c0 c1 c2 d0 d1 d2 HX8 HF8 HB8 H78 HOM8 HMS8 H88 HOA8 H118 HOB8 HOX8 H15 HOC8 HOY8 HSA8
  have hLAm : LA ≤ 9223372036854775807 := by have := (own_read HOA9.out).1.1; rw [HLA.out] at this; exact this
  have hLBm : LB ≤ 9223372036854775807 := by have := (own_read HOB9.out).1.1; rw [HLB.out] at this; exact this
  have hMm : M ≤ 9223372036854775807 := by have := (own_readX HOX9.out).1.1; rw [HM.out] at this; exact this
  have hll : (S ++ [bX, bY]).length = len + 2 := by rw [List.length_append, HL.out]; rfl
  have s0 := HasS.cell (own_read KP.out.om).1 (j := len) (by rw [hll]; omega)
  have s1 := HasS.cell (own_read KP.out.om).1 (j := len + 1) (by rw [hll]; omega)
  have hlen0 := HL.out
  rw [show (S ++ [bX, bY]).getD len em = bX by simp [List.getD, ← hlen0], Nat.zero_add] at s0
  rw [show (S ++ [bX, bY]).getD (len + 1) em = bY by simp [List.getD, ← hlen0], Nat.zero_add] at s1
  obtain ⟨d0, d1, d2⟩ := agg_cells KP.out.x
  have c8 := (agg_cells H89.out).1
  have u1 : IntKind.i64.wrap ((len : Int) + 1) = (len : Int) + 1 := IntWalk.i64_in _ (by omega)
  have u2 : (0 : Int) ≤ (len : Int) := by omega
  have u3 : (len : Int) < (len : Int) + 2 := by omega
  have u4 : (len : Int) + 1 < (len : Int) + 2 := by omega
  have u5 : (0 : Int) ≤ (len : Int) + 1 := by omega
  clear hll hlen0
  go_wp2_with fail
  clear s0 s1 d0 d1 d2 c8 u1 u2 u3 u4 u5
  go_loopg [100] LA (fun m i wr => ∃ (j : Nat) (l : List ByteArray), j + m = LA ∧ i = .int .i64 (j : Int) ∧ Hid (l.length = LA ∧ OwnS wr 0 (.slice a3 LA cap3) l) ∧ Hid (w9.grownBy wr (Value.slice a3 LA cap3).ownBlock))
  case atStart => exact ⟨0, S1, by omega, rfl, Lib.hid ⟨HLA.out, HOA9.out.low (Nat.zero_le _)⟩, Lib.hid (grown_refl _ _)⟩
  case round =>
    obtain ⟨j, l, hj, rfl, HO, HG⟩ := hrel
    by_cases hlt : j < LA
    · obtain ⟨g', cap', hv', _, hgl, hc, hfz, hst⟩ := HO.out.2.store (j := j) (by rw [HO.out.1]; exact hlt)
      injection hv' with e1 e2 e3
      subst e1
      have c8 := (agg_cells (H89.out.gone HG.out (fun e => by have := HLTA.out _ e; omega))).1
      have hO2 : Hid ((l.set j bZ).length = LA ∧ OwnS (wr.setCell ⟨g', j, none⟩ (.string bZ)) 0 (.slice (some ⟨g', 0, none⟩) LA cap3) (l.set j bZ)) := Lib.hid ⟨by rw [List.length_set]; exact HO.out.1, hst bZ⟩
      have hG2 : Hid (w9.grownBy (wr.setCell ⟨g', j, none⟩ (.string bZ)) (Value.slice (some ⟨g', 0, none⟩) LA cap3).ownBlock) := Lib.hid (grown_trans HG.out (set_grown wr g' j (.string bZ)))
      have i0 : (j : Int) < (LA : Int) := by omega
      have i1 : (0 : Int) ≤ (j : Int) := by omega
      clear hst e2 e3
      go_wp2
      go_roundg (LA - (j + 1))
      case measure => omega
      case rel => exact ⟨j + 1, l.set j bZ, by omega, by go_num, hO2, hG2⟩
    · obtain rfl : j = LA := by omega
      have KP2 := Lib.hid (KP.out.gone HG.out (fun r hr => by have := HLTA.out r hr; omega))
      have H11b := Lib.hid (H119.out.gone HG.out (fun e => by have := HLTA.out _ e; omega))
      have HOBb := Lib.hid (HOB9.out.gone HG.out (fun r hr e => by have := HLTA.out _ e; have := HLTB.out _ hr; omega))
      have HOXb := Lib.hid (HOX9.out.gone HG.out (fun r hr e => by have := HLTA.out _ e; have := HLX.out _ hr; omega))
      have c11 := (agg_cells H11b.out).1
      clear HO HG KP H89 HOA9 H119 HOB9 HOX9
      go_wp2_with fail
      clear c11
      obtain ⟨wA, hwA⟩ : ∃ wA, wA = wr := ⟨_, rfl⟩
      rw [← hwA] at KP2 H11b HOBb HOXb ⊢
      clear hwA
      go_loopg [111] LB (fun m i wr => ∃ (q : Nat) (l : List ByteArray), q + m = LB ∧ i = .int .i64 (q : Int) ∧ Hid (l.length = LB ∧ OwnS wr 0 (.slice a5 LB cap5) l) ∧ Hid (wA.grownBy wr (Value.slice a5 LB cap5).ownBlock))
      case atStart => exact ⟨0, S', by omega, rfl, Lib.hid ⟨HLB.out, HOBb.out.low (Nat.zero_le _)⟩, Lib.hid (grown_refl _ _)⟩
      case round =>
        obtain ⟨q, l, hq, rfl, HO, HG⟩ := hrel
        by_cases hlt : q < LB
        · obtain ⟨g', cap', hv', _, hgl, hc, hfz, hst⟩ := HO.out.2.store (j := q) (by rw [HO.out.1]; exact hlt)
          injection hv' with e1 e2 e3
          subst e1
          have c8 := (agg_cells (H11b.out.gone HG.out (fun e => by have := HLTB.out _ e; omega))).1
          have hO2 : Hid ((l.set q bZ).length = LB ∧ OwnS (wr.setCell ⟨g', q, none⟩ (.string bZ)) 0 (.slice (some ⟨g', 0, none⟩) LB cap5) (l.set q bZ)) := Lib.hid ⟨by rw [List.length_set]; exact HO.out.1, hst bZ⟩
          have hG2 : Hid (wA.grownBy (wr.setCell ⟨g', q, none⟩ (.string bZ)) (Value.slice (some ⟨g', 0, none⟩) LB cap5).ownBlock) := Lib.hid (grown_trans HG.out (set_grown wr g' q (.string bZ)))
          have i0 : (q : Int) < (LB : Int) := by omega
          have i1 : (0 : Int) ≤ (q : Int) := by omega
          clear hst e2 e3
          go_wp2
          go_roundg (LB - (q + 1))
          case measure => omega
          case rel => exact ⟨q + 1, l.set q bZ, by omega, by go_num, hO2, hG2⟩
        · obtain rfl : q = LB := by omega
          have KP3 := Lib.hid (KP2.out.gone HG.out (fun r hr => by have := HLTB.out r hr; omega))
          have H11c := Lib.hid (H11b.out.gone HG.out (fun e => by have := HLTB.out _ e; omega))
          have HOXc := Lib.hid (HOXb.out.gone HG.out (fun r hr e => HAP.out _ e hr))
          have HOBc := Lib.hid HO.out.2; have HLBc := Lib.hid HO.out.1
          clear HO HG KP2 H11b HOBb HOXb
          go_wp2_with fail
          obtain ⟨wB, hwB⟩ : ∃ wB, wB = wr := ⟨_, rfl⟩
          rw [← hwB] at KP3 H11c HOXc HOBc ⊢
          clear hwB
          go_loopg [121] M (fun m i wr => ∃ (p : Nat), p + m = M ∧ i = .int .i64 (p : Int) ∧ Hid (∀ g, (Value.slice d5 M cd5).ownBlock = some g → 0 < M → RowX wr g (M * 4)) ∧ Hid (wB.grownBy wr (Value.slice d5 M cd5).ownBlock))
          case atStart => exact ⟨0, by omega, rfl, Lib.hid (fun g hg h0 => by
            obtain ⟨g', c', hv, _, _, hr⟩ := HOXc.out.rowX (by rw [HM.out]; exact h0)
            rw [HM.out] at hv hr
            injection hv with e1 e2 e3
            subst e1
            cases hg
            exact hr), Lib.hid (grown_refl _ _)⟩
          case round =>
            obtain ⟨p, hp, rfl, HR, HG⟩ := hrel
            by_cases hlt : p < M
            · obtain ⟨gx, c', hv, _, hgxl, _⟩ := HOXc.out.rowX (by rw [HM.out]; omega)
              rw [HM.out] at hv
              injection hv with e1 e2 e3
              subst e1
              have hrx := HR.out gx rfl (by omega)
              obtain ⟨⟨r0, k0⟩, n0⟩ := hrx.cells (i := p * 4) (by omega)
              obtain ⟨⟨r1, k1'⟩, n1⟩ := (hrx.set (p * 4) (.int .i64 0)).cells (i := p * 4 + 1) (by omega)
              obtain ⟨⟨r2, k2⟩, n2⟩ := ((hrx.set (p * 4) (.int .i64 0)).set (p * 4 + 1) (.int .i64 0)).cells (i := p * 4 + 2) (by omega)
              obtain ⟨⟨r3, k3⟩, n3⟩ := (((hrx.set (p * 4) (.int .i64 0)).set (p * 4 + 1) (.int .i64 0)).set (p * 4 + 2) (.int .i64 0)).cells (i := p * 4 + 3) (by omega)
              obtain ⟨⟨r1', k1a⟩, n1a⟩ := hrx.cells (i := p * 4 + 1) (by omega)
              obtain ⟨⟨r2', k2a⟩, n2a⟩ := hrx.cells (i := p * 4 + 2) (by omega)
              obtain ⟨⟨r3', k3a⟩, n3a⟩ := hrx.cells (i := p * 4 + 3) (by omega)
              have hR2 : Hid (∀ g, (Value.slice (some ⟨gx, 0, none⟩) M cd5).ownBlock = some g → 0 < M → RowX ((((wr.setCell ⟨gx, p * 4, none⟩ (.int .i64 0)).setCell ⟨gx, p * 4 + 1, none⟩ (.int .i64 0)).setCell ⟨gx, p * 4 + 2, none⟩ (.int .i64 0)).setCell ⟨gx, p * 4 + 3, none⟩ (.string { data := #[] })) g (M * 4)) := Lib.hid (fun g hg h0 => by
                cases hg
                exact (((hrx.set _ _).set _ _).set _ _).set _ _)
              have hG2 : Hid (wB.grownBy ((((wr.setCell ⟨gx, p * 4, none⟩ (.int .i64 0)).setCell ⟨gx, p * 4 + 1, none⟩ (.int .i64 0)).setCell ⟨gx, p * 4 + 2, none⟩ (.int .i64 0)).setCell ⟨gx, p * 4 + 3, none⟩ (.string { data := #[] })) (Value.slice (some ⟨gx, 0, none⟩) M cd5).ownBlock) := Lib.hid (grown_trans (grown_trans (grown_trans (grown_trans HG.out (set_grown wr gx _ _)) (set_grown _ gx _ _)) (set_grown _ gx _ _)) (set_grown _ gx _ _))
              have i0 : (p : Int) < (M : Int) := by omega
              have i1 : (0 : Int) ≤ (p : Int) := by omega
              clear hrx e2 e3 HR HG
              go_wp2
              go_roundg (M - (p + 1))
              case measure => omega
              case rel => exact ⟨p + 1, by omega, by go_num, hR2, hG2⟩
            · obtain rfl : p = M := by omega
              have KP4 := Lib.hid (KP3.out.gone HG.out (fun r hr => by have := HLX.out r hr; omega))
              have H11d := Lib.hid (H11c.out.gone HG.out (fun e => by have := HLX.out _ e; omega))
              have HOBd := Lib.hid (HOBc.out.gone HG.out (fun r hr e => HAP.out r hr e))
              clear HR HG KP3 H11c HOXc HOBc
              obtain ⟨LB2, hLB2⟩ : ∃ L, q + 2 = L := ⟨_, rfl⟩
              have HLB2 := Lib.hid hLB2
              clear hLB2
              have c11 := (agg_cells H11d.out).1
              have f11 := H11d.out.free 0
              have hzN : wc.heap.size ≤ wr.heap.size := KP4.out.lt.2.2.2.2
              go_upto_region 26 with (at_builtin; go_must (refine wp_apS rfl (.tmp 130) (.tmp 131) rfl 0 _ _ rfl (HOBd.out.keep (below_alloc1 _ _)) _ 2 2 [bU, bV] rfl (lit_twoS wr bU bV _ _ rfl) rfl (fun h => by cases h) (by rw [HLBc.out]; omega) (Nat.zero_le _) ?_; intro v12 w12 ho12 hg12 hnb12; have hll : (l ++ [bU, bV]).length = LB2 := (by rw [List.length_append, HLBc.out]; exact HLB2.out); obtain ⟨a12, cap12, hv12, -⟩ := ho12.has; rw [hll] at hv12; subst hv12; have hba := below_alloc1 wr (.cells #[.string bU, .string bV] 9); have KP5 := Lib.hid (Kp.gone (KP4.out.keep hba) hg12 (fun r hr => by have := HLTB.out r hr; omega)); have H11e := Lib.hid (Blk.gone (H11d.out.keep hba) hg12 (fun e => by have := HLTB.out _ e; omega)); clear ho12 hg12 hnb12 hll hba c11 f11; have c11 := (agg_cells H11e.out).1; have f11 := H11e.out.free 0))
              obtain ⟨w13, hw13⟩ : ∃ w13, w13 = w12.setCell ⟨g11, 0, none⟩ (.slice a12 LB2 cap12) := ⟨_, rfl⟩
              have KP6 : Hid (Kp w N g7 gm cm len g15 wc.heap.size w6.heap.size S #[.slice a len cap, .int .i64 t, .int .i64 k] #[.int .i64 x1, .int .i64 x2, .int .i64 x3, .string x4] #[.slice (some ⟨gm, 0, none⟩) len cm, .int .i64 t, .int .i64 k] #[.slice a7 q cap7, .int .i64 t', .int .i64 k'] (.slice a7 q cap7) S' (.slice d7 p cd7) X w13) := Lib.hid (by
                rw [hw13]
                exact KP5.out.gone (set_grown w12 g11 0 _) (fun r hr => by have := Option.some.inj hr; omega))
              have H11f : Hid (Blk w13 g11 #[.slice a12 LB2 cap12, .int .i64 t', .int .i64 k'] 24) := Lib.hid (by rw [hw13]; exact H11e.out.set 0 _)
              have HW13 := Lib.hid hw13
              clear hw13
              rw [← HW13.out]
              clear HW13 KP4 KP5 H11d H11e c11 f11
              obtain ⟨c0, c1, c2⟩ := agg_cells KP6.out.x
              obtain ⟨p0, p1, p2, p3⟩ := fm_cells KP6.out.f
              have HSA : Hid (HasS w13 a S) := Lib.hid (HIN.out.keep (by rw [← HN.out]; exact KP6.out.bel))
              go_wp2_with fail
              refine (HRT.out w13 HSA.out).mono ?_
              rintro e w14 ⟨v14, u14, rfl, ho14, hox14, -, hb14⟩
              obtain ⟨a14, cap14, rfl, -⟩ := ho14.has
              obtain ⟨d14, cd14, rfl, -⟩ := hox14.has
              rw [HLB.out] at ho14 ⊢
              rw [HM.out] at hox14 ⊢
              obtain ⟨x23, b23⟩ := box_new w14 #[.slice a14 q cap14, .int .i64 t', .int .i64 k'] 24
              obtain ⟨w15, hw15⟩ : ∃ w15, w15 = w14.alloc (.cells #[.slice a14 q cap14, .int .i64 t', .int .i64 k'] 24) := ⟨_, rfl⟩
              rw [← hw15] at x23 b23
              obtain ⟨g23, hg23⟩ : ∃ g23, g23 = w14.heap.size := ⟨_, rfl⟩
              rw [← hg23] at x23
              have hb15 := hb14.trans (b23.mono hb14.size)
              have KP7 := Lib.hid (KP6.out.keep hb15); have H11g := Lib.hid (H11f.out.keep hb15); have H23 := Lib.hid x23; have HO23 := Lib.hid (ho14.keep b23); have HX23 := Lib.hid (hox14.keep b23); have HSA2 := Lib.hid (HSA.out.keep hb15)
              have HG23 := Lib.hid hg23; have HW15 := Lib.hid hw15
              have hzM : N ≤ w13.heap.size := by have := KP6.out.lt; omega
              have hz15 := hb15.size
              clear hb14 ho14 hox14 x23 b23 hw15 hg23 hb15 c0 c1 c2 p0 p1 p2 p3 KP6 H11f HSA
              go_upto_region 27 with (fail)
              rw [← HG23.out, ← HW15.out]
              clear HW15
              have e1 := (agg_cells H11g.out).1
              obtain ⟨c0, c1, c2⟩ := agg_cells KP7.out.x
              obtain ⟨m0, m1, m2⟩ := agg_cells KP7.out.m
              have hLB2 := HLB2.out
              have y1 : decide ((2 : Int) ≤ (LB2 : Int)) = true := by rw [decide_eq_true_eq]; omega
              have y2 : decide (2 ≤ LB2) = true := by rw [decide_eq_true_eq]; omega
              clear hLB2
              go_wp2_with fail
              refine (HSM.out w15 (HasS.front (own_read KP7.out.om).1) HSA2.out).mono ?_
              rintro e w16 ⟨rfl, hb16⟩
              have KP8 := Lib.hid (KP7.out.keep hb16); have H23b := Lib.hid (H23.out.keep hb16); have HO23b := Lib.hid (HO23.out.keep hb16); have HX23b := Lib.hid (HX23.out.keep hb16)
              clear hb16 e1 c0 c1 c2 m0 m1 m2 KP7 H23 HO23 HX23 y1 y2
              obtain ⟨c0, c1, c2⟩ := agg_cells KP8.out.c
              obtain ⟨m0, m1, m2⟩ := agg_cells H23b.out
              have hs2 := same_any a7 a14 q cap7 cap14 S' t' k' w16 (own_read KP8.out.oc).1 (own_read HO23b.out).1 HLB.out
              unfold Tells at hs2
              go_wp2_with fail
              refine hs2.mono ?_
              rintro e w17 ⟨rfl, hb17⟩
              have KP9 := Lib.hid (KP8.out.keep hb17); have HX23c := Lib.hid (HX23b.out.keep hb17)
              clear hb17 c0 c1 c2 m0 m1 m2 KP8 H23b HO23b HX23b hs2
              have hs3 := sameF_any d7 d14 p cd7 cd14 X w17 (own_readX KP9.out.oy).1 (own_readX HX23c.out).1 HM.out
              unfold Tells at hs3
              have hz17 : N ≤ w17.heap.size := by have := KP9.out.lt; omega
              go_wp2_with fail
              refine hs3.mono ?_
              rintro e w18 ⟨rfl, hb18⟩
              have HBE := Lib.hid (KP9.out.bel.trans (hb18.mono hz17))
              clear hb18
              go_wp2
              go_ret
              exact ⟨rfl, by rw [← HN.out]; exact HBE.out⟩
end Go.Proofs.Ytmecaioklmkdlaa.Ss

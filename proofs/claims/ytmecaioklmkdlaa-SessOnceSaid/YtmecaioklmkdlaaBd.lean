/-
  Layer 8: SessOnce's regions whose order is drawn: laws for them.
-/
import Derived.Test.YtmecaioklmkdlaaBb
import Derived.Test.YtmecaioklmkdlaaAw
import Derived.Laws.BytesArg
import Derived.Deep.RegionHeld3
namespace Go.Proofs.Ytmecaioklmkdlaa.Ss
open Go.RowKit
set_option linter.unusedVariables false
set_option linter.unusedSimpArgs false

theorem conv2 {w : World} {g : Nat} {x y : Int} (h : Blk w g #[.int .u8 x, .int .u8 y] 5) :
    (convert 50 9 (.slice (some ⟨g, 0, none⟩) 2 2)).run Try.prog w = .ok (.string (strOfNums [x, y])) w := by
  refine run_convert_bytes_arg (P := Try.prog) w 50 5 Try.underlying50 Try.underlying5 g 0 2 2 [x, y] (by simp) (fun i hi => ?_) _ Try.underlying9
  match i, hi with
  | 0, _ => exact h.cell 0
  | 1, _ => exact h.cell 1
theorem msg2 (x y : Int) : msgB (strOfNums [x, y]) = true := msgB_iff.2 (by rw [strOfNums_size]; simp)
theorem HasX.front {w : World} {b off : Nat} {U : List Fm} (h : HasX w (some ⟨b, off, none⟩) U) (j : Nat) : HasX w (some ⟨b, off, none⟩) (U.take j) := by
  refine ⟨by have := h.1; rw [List.length_take]; omega, fun h0 => ⟨b, off, rfl, fun i hi => ?_⟩⟩
  rw [List.length_take] at hi
  obtain ⟨b', off', e, hc⟩ := h.at (show i < U.length by omega)
  cases e
  rw [show (U.take j).getD i fm0 = U.getD i fm0 by simp [List.getD, List.getElem?_take, show i < j by omega]]
  exact hc
theorem HasX.back {w : World} {b off : Nat} {U : List Fm} (h : HasX w (some ⟨b, off, none⟩) U) (j : Nat) : HasX w (some ⟨b, off + j * 4, none⟩) (U.drop j) := by
  refine ⟨by have := h.1; rw [List.length_drop]; omega, fun h0 => ⟨b, off + j * 4, rfl, fun i hi => ?_⟩⟩
  rw [List.length_drop] at hi
  obtain ⟨b', off', e, hc⟩ := h.at (show j + i < U.length by omega)
  cases e
  rw [show (U.drop j).getD i fm0 = U.getD (j + i) fm0 by simp [List.getD, List.getElem?_drop], show off + j * 4 + i * 4 = off + (j + i) * 4 by omega]
  exact hc
theorem u8_nat (x : Int) : ∃ n : Nat, IntKind.u8.wrap x = (n : Int) := by
  have h := IntKind.wrap_u8 x
  exact ⟨(IntKind.u8.wrap x).toNat, by rw [h]; omega⟩
/-- What Send answers for a text of two bytes at a good end. -/
theorem send_two {s : Sd} (hg : goodB s = true) (m : ByteArray) (hm : msgB m = true) :
    (sendS s m = (sd0, fm0, 40)) ∨ (sendS s m = (⟨s.S ++ [m], s.t, s.k⟩, ⟨1, (s.S.length : Int) + 1, s.t, m⟩, 0) ∧ goodB ⟨s.S ++ [m], s.t, s.k⟩ = true ∧ validB ⟨1, (s.S.length : Int) + 1, s.t, m⟩ = true) := by
  by_cases hl : s.S.length = 256
  · left
    unfold sendS; rw [if_neg (by simp [hg]), if_neg (by simp [hm]), if_pos hl]
  · exact .inr ⟨send_ok hg hm hl, (send_good hg hm hl).1, (send_good hg hm hl).2⟩
theorem takeL {Pr : Program} {md : Region.Mode} {L : List Oper} {Q : Exit → Act → World → Prop} {S : World → Prop} {i : Nat} {oi : Oper} {v : Value} {fuel : Nat} {listed : Array Bool} {a : Act} {w : World} (hi : L[i]? = some oi)
    (hy : YieldsIf Pr L.toArray S oi v a) (hS : S w)
    (h : wpAnyH Pr md L.toArray Q S fuel (listed.setIfInBounds i true) (a.put oi.dst v) w)
    (hs : Region.noSelect L.toArray = true := by kernel_rfl) (hf : Region.free md L.toArray listed i = true := by kernel_rfl) (hr : (Region.ready md L.toArray listed).contains i = true := by kernel_rfl)
    (hQ : ∀ c a w, Q (.panic c) (a.put oi.dst v) w → Q (.panic c) a w := by exact fun _ _ _ h => h) : wpAnyH Pr md L.toArray Q S (fuel + 1) listed a w :=
  wpAnyH_take (by simpa using hi) hs hf hr hQ hy hS h
theorem consL {Pr : Program} {md : Region.Mode} {L : List Oper} {Q : Exit → Act → World → Prop} {S : World → Prop} {fuel : Nat} {listed : Array Bool} {a : Act} {w : World} {i : Nat} {o : Oper} {rs : List Nat} (ho : L[i]? = some o)
    (h : ∀ K' : Act → World → Prop, Shut (∀ a w, S w → (S w → wpAnyH Pr md L.toArray Q S fuel (listed.setIfInBounds i true) a w) → K' a w) → if Region.wanted o (yielded L.toArray a.tmps) = true then Oper.wp Pr o a w K' Q else K' (a.put o.dst undef) w)
    (hs : AllReadyH Pr md L.toArray Q S fuel listed a w rs) : AllReadyH Pr md L.toArray Q S fuel listed a w (i :: rs) := AllReadyH.cons (by simpa using ho) h hs
theorem NewB.from {W : World} {v v' : Value} (h : NewB W v v') : ∀ k, v'.ownBlock = some k → v.ownBlock = some k ∨ W.heap.size ≤ k := fun k hk => by
  rcases h with h | h
  · exact .inl (by rw [← h]; exact hk)
  · rw [h] at hk
    have := Option.some.inj hk
    exact .inr (by omega)
section
variable {w W W' : World} {N g3 g4 g5 : Nat} {v : Nat → Value} {L : Line}
theorem below_da (W : World) (o : Obj) : Below W.heap.size W (W.drew.alloc o) := (Below.refl W.heap.size W).drew.alloc (Nat.le_refl _) o
/-- What is under way to an end becomes another row. -/
theorem und_set (h : Mem W N g3 g4 g5 v L) (hb : Below N w W) {i : Nat} (hi : i < 2) {u v' : Value} {X : List Fm} (hu : v (2 + i) = u) (ho : OwnX W' N v' X) (hg : W.grownBy W' u.ownBlock) (hn : ∀ k, v'.ownBlock = some k → u.ownBlock = some k ∨ W.heap.size ≤ k) :
    W'.cell? ⟨g4, i, none⟩ = some u ∧ W'.frozen? ⟨g4, i, none⟩ = false ∧ Mem (W'.setCell ⟨g4, i, none⟩ v') N g3 g4 g5 (up v (2 + i) v') ⟨L.e, up L.u i X, L.c⟩ ∧ Below N w (W'.setCell ⟨g4, i, none⟩ v') := by
  subst hu
  have hi6 : 2 + i < 6 := by omega
  have hb4 : Blk W' g4 #[v 2, v 3] 46 := h.b4.gone hg (fun e => (h.bx (2 + i) hi6 g4 e).2.1 rfl)
  have hz := h.size
  have hle := h.le
  refine ⟨?_, hb4.free i, h.und hi hg ho hn, (hb.grown hg (by omega) (fun r hr => (h.lt hi6 hr).1)).setCell (p := ⟨g4, i, none⟩) hle.2.1 _⟩
  rcases (show i = 0 ∨ i = 1 by omega) with rfl | rfl
  · exact hb4.cell 0
  · exact hb4.cell 1
/-- What counted becomes another row. -/
theorem cnt_set (h : Mem W N g3 g4 g5 v L) (hb : Below N w W) {i : Nat} (hi : i < 2) {u v' : Value} {X : List ByteArray} (hu : v (4 + i) = u) (ho : OwnS W' N v' X) (hg : W.grownBy W' u.ownBlock) (hn : ∀ k, v'.ownBlock = some k → u.ownBlock = some k ∨ W.heap.size ≤ k) :
    W'.cell? ⟨g5, i, none⟩ = some u ∧ W'.frozen? ⟨g5, i, none⟩ = false ∧ Mem (W'.setCell ⟨g5, i, none⟩ v') N g3 g4 g5 (up v (4 + i) v') ⟨L.e, L.u, up L.c i X⟩ ∧ Below N w (W'.setCell ⟨g5, i, none⟩ v') := by
  subst hu
  have hi6 : 4 + i < 6 := by omega
  have hb5 : Blk W' g5 #[v 4, v 5] 47 := h.b5.gone hg (fun e => (h.bx (4 + i) hi6 g5 e).2.2 rfl)
  have hz := h.size
  have hle := h.le
  refine ⟨?_, hb5.free i, h.cnt hi hg ho hn, (hb.grown hg (by omega) (fun r hr => (h.lt hi6 hr).1)).setCell (p := ⟨g5, i, none⟩) hle.2.2 _⟩
  rcases (show i = 0 ∨ i = 1 by omega) with rfl | rfl
  · exact hb5.cell 0
  · exact hb5.cell 1
/-- An end becomes another. -/
theorem end_set (h : Mem W N g3 g4 g5 v L) (hb : Below N w W) {m : Nat} (hm : m < 2) {v' : Value} {S : List ByteArray} {t k : Int} (ho : OwnS W N v' S) (hn : ∀ j, v'.ownBlock = some j → (∀ i, i < 6 → (v i).ownBlock ≠ some j) ∧ j ≠ g3 ∧ j ≠ g4 ∧ j ≠ g5) :
    Mem (((W.setCell ⟨g3, m * 3, none⟩ v').setCell ⟨g3, m * 3 + 1, none⟩ (.int .i64 t)).setCell ⟨g3, m * 3 + 2, none⟩ (.int .i64 k)) N g3 g4 g5 (up v m v') ⟨up L.e m ⟨S, t, k⟩, L.u, L.c⟩ ∧
    Below N w (((W.setCell ⟨g3, m * 3, none⟩ v').setCell ⟨g3, m * 3 + 1, none⟩ (.int .i64 t)).setCell ⟨g3, m * 3 + 2, none⟩ (.int .i64 k)) :=
  ⟨h.side hm ho hn, ((hb.setCell (p := ⟨g3, m * 3, none⟩) h.le.1 _).setCell (p := ⟨g3, m * 3 + 1, none⟩) h.le.1 _).setCell (p := ⟨g3, m * 3 + 2, none⟩) h.le.1 _⟩
/-- A value newer than the line shares no block with it. -/
theorem new_apart (h : Mem W N g3 g4 g5 v L) {z : Nat} (hz : W.heap.size ≤ z) {v' : Value} (hv : ∀ j, v'.ownBlock = some j → z ≤ j) : ∀ j, v'.ownBlock = some j → (∀ i, i < 6 → (v i).ownBlock ≠ some j) ∧ j ≠ g3 ∧ j ≠ g4 ∧ j ≠ g5 := fun j hj => by
  have h1 := hv j hj
  obtain ⟨z3, z4, z5⟩ := h.size
  exact ⟨fun i hi e => by have := (h.lt hi e).2; omega, by omega, by omega, by omega⟩
end
end Go.Proofs.Ytmecaioklmkdlaa.Ss

/-
  Layer 4: a disk of the reference. (Packed by gen_mp.py out of La, Lb, Lc, Ld, Le, Lf, Lh, Li, Lj, Lk.)
-/
import Derived.Test.YtdonkmkjblofpaaGreatDoorKt
import Derived.Deep.RegionHeld3
import Derived.Deep.RegionLaw
/-! ## La -/
namespace Go.Proofs.YtdonkmkjblofpaaGreatDoor.Dk
open Go.RowKit
set_option linter.unusedVariables false

def str (k : List UInt8) : ByteArray := ⟨k.toArray⟩
theorem str_list (k : List UInt8) : (str k).data.toList = k := by simp [str]
theorem str_of (s : ByteArray) : str s.data.toList = s := by simp [str]
def ent3 (P Q : List UInt8 → Value) (f : File) : List Value := [.string (str f.nm), P f.nm, Q f.nm]
theorem flat3 {α β : Type} (e : α → List β) (h3 : ∀ a, (e a).length = 3) : ∀ (L : List α) (j i : Nat) (a : α), i < 3 → L[j]? = some a → (L.flatMap e)[j * 3 + i]? = (e a)[i]?
  | [], _, _, _, _, h => by simp at h
  | y :: r, 0, i, a, hi, h => by
    simp at h; subst h
    rw [List.flatMap_cons, List.getElem?_append_left (by rw [h3]; omega)]
    congr 1; omega
  | y :: r, j + 1, i, a, hi, h => by
    rw [List.flatMap_cons, List.getElem?_append_right (by rw [h3]; omega), h3]
    rw [← flat3 e h3 r j i a hi (by simpa using h)]
    congr 1; omega
theorem flat3_set {α β : Type} (e e' : α → List β) (h3 : ∀ a, ∃ x y z, e a = [x, y, z]) (f : α) (a b c : β) (hf : e' f = [a, b, c]) : ∀ (L : List α) (j : Nat), L[j]? = some f → (∀ i g, L[i]? = some g → i ≠ j → e' g = e g) →
    L.flatMap e' = (((L.flatMap e).set (j * 3) a).set (j * 3 + 1) b).set (j * 3 + 2) c
  | [], _, h, _ => by simp at h
  | y :: r, 0, h, hn => by
    simp at h; subst h
    obtain ⟨x1, x2, x3, e1⟩ := h3 y
    have : r.flatMap e' = r.flatMap e := by
      simp only [List.flatMap]
      congr 1
      refine List.map_congr_left fun g hg => ?_
      obtain ⟨i, hi, rfl⟩ := List.mem_iff_getElem.1 hg
      exact hn (i + 1) _ (by simp [hi]) (by omega)
    rw [List.flatMap_cons, List.flatMap_cons, hf, e1, this]
    simp
  | y :: r, j + 1, h, hn => by
    obtain ⟨x1, x2, x3, e1⟩ := h3 y
    have ih := flat3_set e e' h3 f a b c hf r j (by simpa using h) (fun i g hg hi => hn (i + 1) g (by simpa using hg) (by omega))
    have e0 := hn 0 y rfl (by omega)
    rw [List.flatMap_cons, List.flatMap_cons, e0, e1, ih]
    have q0 : (j + 1) * 3 = j * 3 + 1 + 1 + 1 := by omega
    have q1 : (j + 1) * 3 + 1 = j * 3 + 1 + 1 + 1 + 1 := by omega
    have q2 : (j + 1) * 3 + 2 = j * 3 + 2 + 1 + 1 + 1 := by omega
    rw [q1, q2, q0]
    simp
theorem len3 (P Q : List UInt8 → Value) (f : File) : (ent3 P Q f).length = 3 := rfl

def rcells (fv : Value) (S : St) : Array Value := #[fv, .int .i64 S.room, .bool (!S.down), .int .i64 S.wr, .int .i64 (S.arm : Int), .int .i64 S.keep]
structure Part (w : World) (O : Nat → Prop) (v : Value) (l : List Int) : Prop where
  own : Own w v l
  ov : ∀ b, v.ownBlock = some b → O b
structure RFile (w : World) (O : Nat → Prop) (p q : Value) (f : File) : Prop where
  safe : Part w O p (f.l.take f.s)
  wait : Part w O q (f.l.drop f.s)
structure RRep (w : World) (O : Nat → Prop) (d : Nat) (fv : Value) (P Q : List UInt8 → Value) (S : St) : Prop where
  dom : ∀ i, O i → i < w.heap.size
  od : O d
  blk : w.heap[d]? = some (.cells (rcells fv S) 58 (0, 0))
  row : w.ownsRow 0 87 3 fv S.fs.length (S.fs.flatMap (ent3 P Q))
  ov : ∀ b, fv.ownBlock = some b → O b
  files : ∀ f ∈ S.fs, RFile w O (P f.nm) (Q f.nm) f
  good : Good S
def IsRef (w : World) (O : Nat → Prop) (d : Nat) (S : St) : Prop := ∃ fv P Q, RRep w O d fv P Q S

theorem row_move {w w' : World} {base : Nat} {e : TypeId} {k : Nat} {v : Value} {n : Nat} {xs : List Value} (h : w.ownsRow base e k v n xs) (hb : ∀ g, v.ownBlock = some g → w'.heap[g]? = w.heap[g]?) : w'.ownsRow base e k v n xs := by
  refine ⟨h.1, ?_⟩
  rcases h.2 with h0 | ⟨g, cap, cur, hv, hbg, hh, h1, h2, h3, h4⟩
  · exact .inl h0
  · exact .inr ⟨g, cap, cur, hv, hbg, (hb g (by rw [hv]; rfl)).trans hh, h1, h2, h3, h4⟩
theorem row_base {w : World} {base : Nat} {e : TypeId} {k : Nat} {v : Value} {n : Nat} {xs : List Value} (h : w.ownsRow base e k v n xs) : w.ownsRow 0 e k v n xs :=
  ⟨h.1, h.2.imp id fun ⟨g, cap, cur, hv, _, hh⟩ => ⟨g, cap, cur, hv, Nat.zero_le _, hh⟩⟩
theorem row_kind {w : World} {base : Nat} {e : TypeId} {k : Nat} {v : Value} {n : Nat} {xs : List Value} (h : w.ownsRow base e k v n xs) : ∀ g, v.ownBlock = some g → base ≤ g ∧ ∃ cur, w.heap[g]? = some (.cells cur e (0, 0)) := by
  intro g hg
  rcases h.2 with ⟨rfl, _⟩ | ⟨g', cap, cur, rfl, hb, hh, _⟩
  · cases hg
  · cases hg; exact ⟨hb, cur, hh⟩
theorem Part.move {w w' : World} {O O' : Nat → Prop} {v : Value} {l : List Int} (h : Part w O v l) (hO : ∀ i, O i → O' i) (hb : ∀ g, v.ownBlock = some g → w'.heap[g]? = w.heap[g]?) : Part w' O' v l := ⟨h.own.same hb, fun b e => hO b (h.ov b e)⟩
theorem RFile.move {w w' : World} {O O' : Nat → Prop} {p q : Value} {f : File} (h : RFile w O p q f) (hO : ∀ i, O i → O' i) (hb : ∀ i cur, O i → w.heap[i]? = some (.cells cur 5 (0, 0)) → w'.heap[i]? = w.heap[i]?) : RFile w' O' p q f :=
  ⟨h.safe.move hO fun g e => (h.safe.own.kind g e).elim fun cur hc => hb g cur (h.safe.ov g e) hc, h.wait.move hO fun g e => (h.wait.own.kind g e).elim fun cur hc => hb g cur (h.wait.ov g e) hc⟩
section
variable {w w' : World} {O : Nat → Prop} {d : Nat} {fv : Value} {P Q : List UInt8 → Value} {S S' : St}
theorem RRep.same (h : RRep w O d fv P Q S) (hs : w.heap.size ≤ w'.heap.size) (hb : ∀ i, O i → w'.heap[i]? = w.heap[i]?) : RRep w' O d fv P Q S :=
  ⟨fun i hi => Nat.lt_of_lt_of_le (h.dom i hi) hs, h.od, (hb d h.od).trans h.blk, row_move h.row fun g e => hb g (h.ov g e), h.ov, fun f hf => (h.files f hf).move (fun _ h => h) fun i _ hi _ => hb i hi, h.good⟩
theorem RRep.below (h : RRep w O d fv P Q S) (hb : Below w.heap.size w w') : RRep w' O d fv P Q S := h.same hb.size fun i hi => hb.block i (h.dom i hi)
theorem IsRef.turned {T : Nat → Prop} (h : IsRef w O d S) (ht : Turned T w w') (hd : ∀ i, O i → ¬ T i) : IsRef w' O d S := by
  obtain ⟨fv, P, Q, h⟩ := h
  exact ⟨fv, P, Q, h.same ht.size fun i hi => ht.block i (h.dom i hi) (hd i hi)⟩
theorem IsRef.below (h : IsRef w O d S) (hb : Below w.heap.size w w') : IsRef w' O d S := by
  obtain ⟨fv, P, Q, h⟩ := h
  exact ⟨fv, P, Q, h.below hb⟩
theorem IsRef.good (h : IsRef w O d S) : Good S := by obtain ⟨_, _, _, h⟩ := h; exact h.good
theorem IsRef.dom (h : IsRef w O d S) : ∀ i, O i → i < w.heap.size := by obtain ⟨_, _, _, h⟩ := h; exact h.dom
theorem RRep.cells (h : RRep w O d fv P Q S) : w.cell? ⟨d, 0, none⟩ = some fv ∧ w.cell? ⟨d, 1, none⟩ = some (.int .i64 S.room) ∧ w.cell? ⟨d, 2, none⟩ = some (.bool (!S.down)) ∧ w.cell? ⟨d, 3, none⟩ = some (.int .i64 S.wr) ∧
    w.cell? ⟨d, 4, none⟩ = some (.int .i64 (S.arm : Int)) ∧ w.cell? ⟨d, 5, none⟩ = some (.int .i64 S.keep) ∧ ∀ i, w.frozen? ⟨d, i, none⟩ = false :=
  ⟨Joins.cell_of_block h.blk 0, Joins.cell_of_block h.blk 1, Joins.cell_of_block h.blk 2, Joins.cell_of_block h.blk 3, Joins.cell_of_block h.blk 4, Joins.cell_of_block h.blk 5, fun i => Joins.unfrozen_of_block h.blk i⟩
theorem RRep.val (h : RRep w O d fv P Q S) : ∃ ad cap, fv = .slice ad S.fs.length cap := by
  rcases h.row.2 with ⟨e, h0⟩ | ⟨g, cap, cur, e, _⟩
  · exact ⟨none, 0, by rw [h0]; exact e⟩
  · exact ⟨_, cap, e⟩
theorem Part.val {v : Value} {l : List Int} (h : Part w O v l) : ∃ ad cap, v = .slice ad l.length cap := by
  obtain ⟨ad, cap, e, _⟩ := h.own.row
  exact ⟨ad, cap, e⟩
/-- The j-th file's cells. -/
theorem RRep.at (h : RRep w O d fv P Q S) {j : Nat} {f : File} (hj : S.fs[j]? = some f) : ∃ q cap, fv = .slice (some ⟨q, 0, none⟩) S.fs.length cap ∧ O q ∧ w.cell? ⟨q, j * 3, none⟩ = some (.string (str f.nm)) ∧ w.cell? ⟨q, j * 3 + 1, none⟩ = some (P f.nm) ∧ w.cell? ⟨q, j * 3 + 2, none⟩ = some (Q f.nm) ∧ (∀ i, w.frozen? ⟨q, i, none⟩ = false) ∧
    ∃ cur, w.heap[q]? = some (.cells cur 87 (0, 0)) := by
  have hlt : j < S.fs.length := (List.getElem?_eq_some_iff.1 hj).1
  rcases h.row.2 with ⟨e, h0⟩ | ⟨q, cap, cur, e, _, hh, _⟩
  · omega
  · have hc := h.row.cells (g := q) (by rw [e]; rfl)
    have c : ∀ i (hi : i < 3) u, (ent3 P Q f)[i]? = some u → w.cell? ⟨q, j * 3 + i, none⟩ = some u := fun i hi u hu => by
      have := hc (j * 3 + i) u (by rw [flat3 _ (len3 P Q) _ j i f hi hj]; exact hu)
      rw [show (⟨q, 0, none⟩ : Addr).add (j * 3 + i) = ⟨q, j * 3 + i, none⟩ by unfold Addr.add; split <;> simp_all] at this
      exact this
    exact ⟨q, cap, e, h.ov q (by rw [e]; rfl), c 0 (by decide) _ rfl, c 1 (by decide) _ rfl, c 2 (by decide) _ rfl, fun i => Joins.unfrozen_of_block hh i, cur, hh⟩
/-- The kinds of blocks are apart. -/
theorem RRep.ne (h : RRep w O d fv P Q S) : (∀ q, fv.ownBlock = some q → q ≠ d) ∧ (∀ i cur, w.heap[i]? = some (.cells cur 5 (0, 0)) → i ≠ d ∧ fv.ownBlock ≠ some i) := by
  refine ⟨fun q e e2 => ?_, fun i cur hc => ⟨fun e => ?_, fun e => ?_⟩⟩
  · obtain ⟨_, cur, hc⟩ := row_kind h.row q e
    rw [e2, h.blk] at hc; simp at hc
  · rw [e, h.blk] at hc; simp at hc
  · obtain ⟨_, cur', hc'⟩ := row_kind h.row i e
    rw [hc] at hc'; simp at hc'
theorem RRep.field (h : RRep w O d fv P Q S) (i : Nat) (x : Value) (hc : (rcells fv S).setIfInBounds i x = rcells fv S') (hf : S'.fs = S.fs) (ha : S'.arm ≤ 9223372036854775807) :
    RRep (w.setCell ⟨d, i, none⟩ x) O d fv P Q S' := by
  have hne := h.ne
  have hk : ∀ k, k ≠ d → (w.setCell ⟨d, i, none⟩ x).heap[k]? = w.heap[k]? := fun k hk => Below.heap_setCell w _ x k hk
  refine ⟨fun j hj => by have := h.dom j hj; simpa using this, h.od, by rw [← hc]; exact Joins.block_setCell h.blk x, ?_, h.ov, ?_, good_same h.good hf ha⟩
  · rw [hf]; exact row_move h.row fun g e => hk g (hne.1 g e)
  · rw [hf]; exact fun f hf' => (h.files f hf').move (fun _ h => h) fun i cur _ hc => hk i (hne.2 i cur hc).1
/-- Another row of files is stored. -/
theorem RRep.lay (h : RRep w O d fv P Q S) {w1 : World} (hb : Below w.heap.size w w1) {fv' : Value} {P' Q' : List UInt8 → Value} {fs' : List File} (hrow : w1.ownsRow w.heap.size 87 3 fv' fs'.length (fs'.flatMap (ent3 P' Q')))
    (hfs : ∀ f ∈ fs', RFile w1 (OwnUp O w w1) (P' f.nm) (Q' f.nm) f) (hg : Good { S with fs := fs' }) :
    RRep (w1.setCell ⟨d, 0, none⟩ fv') (OwnUp O w w1) d fv' P' Q' { S with fs := fs' } ∧ Step w O (w1.setCell ⟨d, 0, none⟩ fv') (OwnUp O w w1) := by
  have hd := h.dom d h.od
  have hblk : w1.heap[d]? = some (.cells (rcells fv S) 58 (0, 0)) := (hb.block d hd).trans h.blk
  have hk : ∀ k, k ≠ d → (w1.setCell ⟨d, 0, none⟩ fv').heap[k]? = w1.heap[k]? := fun k hk => Below.heap_setCell w1 _ fv' k hk
  have hkd := row_kind hrow
  refine ⟨⟨fun i hi => ?_, .inl h.od, Joins.block_setCell (i := 0) hblk fv', row_base (row_move hrow fun g e => hk g fun e2 => ?_), fun b e => .inr ⟨(hkd b e).1, ?_⟩, fun f hf => (hfs f hf).move (fun _ h => h) fun i cur _ hc => hk i fun e => ?_, hg⟩, ⟨⟨hb.os, hb.tape, hb.output, by simp; exact hb.size, fun k hk' hn => ?_⟩, fun k hk => hk.elim .inl fun h => .inr h.1⟩⟩
  · simp
    rcases hi with hi | hi
    · exact Nat.lt_of_lt_of_le (h.dom i hi) hb.size
    · exact hi.2
  · have := (hkd g e).1; omega
  · obtain ⟨_, cur, hc⟩ := hkd b e
    exact (Array.getElem?_eq_some_iff.1 hc).1
  · rw [e, hblk] at hc; simp at hc
  · rw [hk k fun e => hn (e ▸ h.od)]
    exact hb.block k hk'
/-- The j-th file is stored in its place. -/
theorem RRep.set (h : RRep w O d fv P Q S) {w1 : World} (hb : Below w.heap.size w w1) {j q cap : Nat} {f : File} (hj : S.fs[j]? = some f) (hfv : fv = .slice (some ⟨q, 0, none⟩) S.fs.length cap) (φ : File → File) (hφ : (φ f).nm = f.nm) {p r : Value}
    (hfs : RFile w1 (OwnUp O w w1) p r (φ f)) (hg : Good { S with fs := upd f.nm φ S.fs }) {w2 : World} (hw : w2 = ((w1.setCell ⟨q, j * 3, none⟩ (.string (str f.nm))).setCell ⟨q, j * 3 + 1, none⟩ p).setCell ⟨q, j * 3 + 2, none⟩ r) :
    RRep w2 (OwnUp O w w1) d fv (at1 P f.nm p) (at1 Q f.nm r) { S with fs := upd f.nm φ S.fs } ∧ Step w O w2 (OwnUp O w w1) := by
  subst hw
  have hdis := distinct h.good.sorted
  have hmem : f ∈ S.fs := List.mem_of_getElem? hj
  have hn : ∀ g ∈ S.fs, (if g.nm = f.nm then φ g else g).nm = g.nm := fun g hg => by
    split
    · rename_i e
      rw [mem_eq hdis hg hmem e, hφ]
    · rfl
  have h1 := h.below hb
  have hne := h1.ne
  have hob : fv.ownBlock = some q := by rw [hfv]; rfl
  have oq := h.ov q hob
  have hk : ∀ k, k ≠ q → (((w1.setCell ⟨q, j * 3, none⟩ (.string (str f.nm))).setCell ⟨q, j * 3 + 1, none⟩ p).setCell ⟨q, j * 3 + 2, none⟩ r).heap[k]? = w1.heap[k]? := fun k hk => by
    rw [Below.heap_setCell _ _ _ k hk, Below.heap_setCell _ _ _ k hk, Below.heap_setCell _ _ _ k hk]
  refine ⟨⟨fun i hi => ?_, .inl h.od, (hk d fun e => hne.1 q hob e.symm).trans h1.blk, ?_, fun b e => .inl (h.ov b e), fun g hg => ?_, hg⟩, ⟨⟨hb.os, hb.tape, hb.output, by simp; exact hb.size, fun k hk' hn => ?_⟩, fun k hk => hk.elim .inl fun h => .inr h.1⟩⟩
  · simp
    rcases hi with hi | hi
    · exact Nat.lt_of_lt_of_le (h.dom i hi) hb.size
    · exact hi.2
  · rcases h1.row.2 with ⟨e, _⟩ | ⟨q', cap', cur, e, hb0, hh, x1, x2, x3, x4⟩
    · rw [hfv] at e; cases e
    · rw [hfv] at e
      simp only [Value.slice.injEq, Option.some.injEq, Addr.mk.injEq, and_true, true_and] at e
      obtain ⟨rfl, rfl⟩ := e
      have b1 := Joins.block_setCell (i := j * 3) hh (.string (str f.nm))
      have b2 := Joins.block_setCell (i := j * 3 + 1) b1 p
      have b3 := Joins.block_setCell (i := j * 3 + 2) b2 r
      have hlen : (upd f.nm φ S.fs).length = S.fs.length := by simp [upd]
      have hflat : (upd f.nm φ S.fs).flatMap (ent3 (at1 P f.nm p) (at1 Q f.nm r)) = (((S.fs.flatMap (ent3 P Q)).set (j * 3) (.string (str f.nm))).set (j * 3 + 1) p).set (j * 3 + 2) r := by
        unfold upd
        rw [List.flatMap_map]
        refine flat3_set _ _ (fun a => ⟨_, _, _, rfl⟩) f _ _ _ ?_ S.fs j hj fun i g hg hi => ?_
        · show ent3 _ _ (if f.nm = f.nm then φ f else f) = _
          rw [if_pos rfl]
          simp [ent3, hφ, at1]
        · have hgm : g ∈ S.fs := List.mem_of_getElem? hg
          have hgn : g.nm ≠ f.nm := fun e => by
            obtain ⟨a1, a2⟩ := List.getElem?_eq_some_iff.1 hg
            obtain ⟨a3, a4⟩ := List.getElem?_eq_some_iff.1 hj
            rcases Nat.lt_or_gt_of_ne hi with hlt | hlt
            · exact List.pairwise_iff_getElem.1 hdis i j a1 a3 hlt (by rw [a2, a4]; exact e)
            · exact List.pairwise_iff_getElem.1 hdis j i a3 a1 hlt (by rw [a2, a4]; exact e.symm)
          show ent3 _ _ (if g.nm = f.nm then φ g else g) = _
          rw [if_neg hgn]
          simp [ent3, at1, hgn]
      refine ⟨by rw [hflat]; simpa [hlen] using h1.row.1, .inr ⟨q, cap, _, by rw [hfv, hlen], hb0, b3, by rw [hlen]; exact x1, x2, by simpa using x3, ?_⟩⟩
      rw [hflat, hlen, Array.toList_setIfInBounds, Array.toList_setIfInBounds, Array.toList_setIfInBounds, List.take_set, List.take_set, List.take_set, x4]
  · obtain ⟨g0, hg0, rfl⟩ := mem_upd.1 hg
    rw [hn g0 hg0]
    by_cases e : g0.nm = f.nm
    · have := mem_eq hdis hg0 hmem e
      subst this
      rw [if_pos rfl, at1_same, at1_same]
      exact hfs.move (fun _ h => h) fun i cur _ hc => hk i fun e => (hne.2 i cur hc).2 (e ▸ hob)
    · rw [if_neg e, at1_other e, at1_other e]
      exact (h1.files g0 hg0).move (fun _ h => .inl h) fun i cur _ hc => hk i fun e => (hne.2 i cur hc).2 (e ▸ hob)
  · rw [hk k fun e => hn (e ▸ oq)]
    exact hb.block k hk'

/-! ### the small functions -/
def NewRef (w : World) (room : Int) (e : Ending) (w' : World) : Prop := e = .returned (.pointer (some ⟨w.heap.size, 0, none⟩)) ∧ Below w.heap.size w w' ∧ w'.heap.size = w.heap.size + 1 ∧ IsRef w' (fun i => i = w.heap.size) w.heap.size (start room)
theorem ref_new (w : World) (room : Int) : Calls Tryz.prog 25 #[.int .i64 room] w (NewRef w room) := by
  have D : Hid (∀ w', w' = w.alloc (.cells (rcells (.slice none 0 0) (start room)) 58) → NewRef w room (.returned (.pointer (some ⟨w.heap.size, 0, none⟩))) w') := fun w' e => by
    subst e
    exact ⟨rfl, (Below.refl _ _).alloc (Nat.le_refl _) _, by simp, .slice none 0 0, fun _ => .slice none 0 0, fun _ => .slice none 0 0, (fun i hi => by subst hi; simp), rfl, (MapKept.heap_alloc w _).1, ⟨rfl, .inl ⟨rfl, rfl⟩⟩, (fun b e => by cases e), (fun f hf => by cases hf), good_start room⟩
  go_enter Tryz.func25, Tryz.ntmps25
  go_wp2
  go_ret
  exact D.out _ rfl
theorem ref_ready (h : RRep w O d fv P Q S) (s : ByteArray) (hs : s.size ≤ maxLen) :
    Calls Tryz.prog 57 #[.pointer (some ⟨d, 0, none⟩), .string s] w fun e w' => e = .returned (.int .i64 (ready s.data.toList S)) ∧ w = w' := by
  obtain ⟨_, _, c2, _⟩ := h.cells
  clear h
  unfold maxLen at hs
  unfold ready
  rw [bad_size]
  generalize S.down = dn at *
  by_cases h1 : s.size < 1
  · have t1 : decide ((s.size : Int) < 1) = true := by simp; omega
    have e : (decide (s.size < 1) || decide (16 < s.size)) = true := by simp [h1]
    rw [e]
    clear e
    go_enter Tryz.func57, Tryz.ntmps57
    go_wp2
    go_ret
    exact ⟨rfl, rfl⟩
  · have t1 : decide ((s.size : Int) < 1) = false := by simp; omega
    by_cases h2 : 16 < s.size
    · have t2 : decide ((16 : Int) < (s.size : Int)) = true := by simp; omega
      have e : (decide (s.size < 1) || decide (16 < s.size)) = true := by simp [h2]
      rw [e]
      clear e
      go_enter Tryz.func57, Tryz.ntmps57
      go_wp2
      go_ret
      exact ⟨rfl, rfl⟩
    · have t2 : decide ((16 : Int) < (s.size : Int)) = false := by simp; omega
      have e : (decide (s.size < 1) || decide (16 < s.size)) = false := by simp [h1]; omega
      rw [e]
      clear e
      cases dn
      all_goals
        go_enter Tryz.func57, Tryz.ntmps57
        go_wp2
        go_ret
        exact ⟨rfl, rfl⟩
def Tick (w : World) (O : Nat → Prop) (d : Nat) (S : St) (e : Ending) (w' : World) : Prop := e = .returned (.bool (failing S)) ∧ Turned O w w' ∧ ∀ fv P Q, RRep w O d fv P Q S → RRep w' O d fv P Q (tick S)
theorem ref_raw (h : RRep w O d fv P Q S) : Calls Tryz.prog 61 #[.pointer (some ⟨d, 0, none⟩)] w (Tick w O d S) := by
  obtain ⟨_, _, _, c3, c4, _, fz⟩ := h.cells
  have f3 := fz 3; have f4 := fz 4
  have harm := h.good.arm
  have hod := h.od
  have r3 : ∀ fv P Q, RRep w O d fv P Q S → RRep (w.setCell ⟨d, 3, none⟩ (.int .i64 (inc S.wr))) O d fv P Q { S with wr := inc S.wr } := fun fv P Q h => h.field 3 _ rfl rfl h.good.arm
  clear h fz
  by_cases h0 : S.arm = 0
  · have D : Hid (∀ w', w' = w.setCell ⟨d, 3, none⟩ (.int .i64 (inc S.wr)) → Tick w O d S (.returned (.bool false)) w') := Lib.hid fun w' hw => by
      subst hw
      refine ⟨by simp [failing, h0], Turned.setCell _ 3 hod _, fun fv P Q h => ?_⟩
      have e : tick S = { S with wr := inc S.wr } := by simp [tick, h0]
      rw [e]; exact r3 fv P Q h
    rw [h0] at c4
    clear r3 h0 harm hod
    go_enter Tryz.func61, Tryz.ntmps61
    go_wp2
    go_ret
    exact D.out _ rfl
  · obtain ⟨a, ha⟩ : ∃ a, S.arm = a + 1 := ⟨S.arm - 1, by omega⟩
    have D : Hid (∀ w', w' = (w.setCell ⟨d, 3, none⟩ (.int .i64 (inc S.wr))).setCell ⟨d, 4, none⟩ (.int .i64 (a : Int)) → Tick w O d S (.returned (.bool ((a : Int) == 0))) w') := Lib.hid fun w' hw => by
      subst hw
      refine ⟨?_, (Turned.setCell _ 3 hod _).trans (Turned.setCell _ 4 hod _), fun fv P Q h => ?_⟩
      · unfold failing; rw [ha]
        congr 2
        rw [Bool.eq_iff_iff]; simp
      · have e : tick S = { S with wr := inc S.wr, arm := a } := by simp [tick, ha]
        rw [e]; exact (r3 fv P Q h).field 4 _ rfl rfl (by show a ≤ _; omega)
    rw [ha] at c4 harm
    have ea : ((a + 1 : Nat) : Int) = (a : Int) + 1 := by omega
    have eb : (a : Int) + 1 - 1 = (a : Int) := by omega
    have ec : ((a : Int) + 1 == 0) = false := by simp; omega
    rw [ea] at c4
    clear r3 h0 hod ha ea
    go_enter Tryz.func61, Tryz.ntmps61
    go_wp2
    all_goals
      go_ret
      exact D.out _ rfl
end
end Go.Proofs.YtdonkmkjblofpaaGreatDoor.Dk
/-! ## Lb -/
namespace Go.Proofs.YtdonkmkjblofpaaGreatDoor.Dk
open Go.RowKit
set_option linter.unusedVariables false

theorem str_ne {k : List UInt8} {s : ByteArray} (h : k ≠ s.data.toList) : str k ≠ s := fun e => h (by rw [← e, str_list])
theorem txt_ne {a b : ByteArray} (h : a ≠ b) : (a.toList == b.toList) = false := by
  rw [ByteArray.toList_eq, ByteArray.toList_eq]
  simpa using fun e : a.data.toList = b.data.toList => h (by rw [← str_of a, e, str_of])
theorem info_f : (Tryz.prog.info? 87).map (fun i => (i.zero, i.size, i.bytes)) = some (some (.agg #[.string ByteArray.empty, .slice none 0 0, .slice none 0 0]), 3, 64) := by kernel_rfl
/-- append(files, one file). -/
theorem wp_fapp {ops : Array Oper} {rest : List Oper} {o : Oper} {a : Act} {Q : Exit → Act → World → Prop} {w : World} (hgd : o.guard = none) (s x : Operand)
    (ho : o.op = .call { callee := .builtin .append, args := #[s, x], argTypes := #[56, 56] }) (N : Nat) (v : Value) (n : Nat) (xs : List Value) (hs : a.eval s = v) (hown : w.ownsRow N 87 3 v n xs) (hn : n ≤ 1048576)
    (gb : Nat) (y1 y2 y3 : Value) (hx : a.eval x = .slice (some ⟨gb, 0, none⟩) 1 1) (hc : w.heap[gb]? = some (.cells #[y1, y2, y3] 87 (0, 0))) (h1 : y1.oneCell' = true) (h2 : y2.oneCell' = true) (h3 : y3.oneCell' = true) (hN : N ≤ w.heap.size)
    (h : ∀ v' w', w'.ownsRow N 87 3 v' (n + 1) (xs ++ [y1, y2, y3]) → (∃ ad cap, v' = .slice ad (n + 1) cap) → w.grownBy w' v.ownBlock → wpList Tryz.prog ops Q rest (a.put o.dst v') w') : wpList Tryz.prog ops Q (o :: rest) a w := by
  obtain ⟨i0, hi, hz0, hz1, hz2⟩ := info_parts info_f
  refine wpList_append_own w hgd s x 56 ho N 87 i0 (.agg #[.string ByteArray.empty, .slice none 0 0, .slice none 0 0]) 3 64 Tryz.underlying56 hi hz0 hz1 hz2 (by kernel_rfl) (by decide) v n xs hs hown ⟨gb, 0, none⟩ 1 1 [y1, y2, y3] hx rfl ?_ ?_ (by unfold maxLen; omega) (by omega) hN ?_
  · intro i y hy
    have hc0 : w.cell? ⟨gb, 0, none⟩ = some y1 := Joins.cell_of_block hc 0
    have hc1 : w.cell? ⟨gb, 1, none⟩ = some y2 := Joins.cell_of_block hc 1
    have hc2 : w.cell? ⟨gb, 2, none⟩ = some y3 := Joins.cell_of_block hc 2
    match i, hy with
    | 0, hy => simp at hy; subst hy; exact hc0
    | 1, hy => simp at hy; subst hy; exact hc1
    | 2, hy => simp at hy; subst hy; exact hc2
    | i + 3, hy => simp at hy
  · intro y hy; simp at hy; rcases hy with rfl | rfl | rfl <;> assumption
  · intro v' w' r1 r2 r3
    refine h v' w' r1 ?_ r2
    rcases r1.2 with ⟨e, h0⟩ | ⟨g, cap, cur, e, _⟩
    · omega
    · exact ⟨_, cap, e⟩
theorem row_lower {w : World} {base b : Nat} {e : TypeId} {k : Nat} {v : Value} {n : Nat} {xs : List Value} (h : w.ownsRow base e k v n xs) (hb : b ≤ base) : w.ownsRow b e k v n xs :=
  ⟨h.1, h.2.imp id fun ⟨g, cap, cur, hv, h0, hh⟩ => ⟨g, cap, cur, hv, Nat.le_trans hb h0, hh⟩⟩
theorem heap_two (w : World) (a b : Obj) : ((w.alloc a).alloc b).heap[w.heap.size + 1]? = some b := by
  have := (MapKept.heap_alloc (w.alloc a) b).1
  rwa [show (w.alloc a).heap.size = w.heap.size + 1 by simp] at this
theorem less_before : ∀ a b : List UInt8, Op.bytesLess a b = bytesBefore a b
  | [], [] => rfl
  | [], _ :: _ => rfl
  | _ :: _, [] => rfl
  | a :: r, b :: s => by unfold Op.bytesLess bytesBefore; rw [less_before r s]
theorem txt_less (a b : ByteArray) : Op.bytesLess a.toList b.toList = bytesBefore a.data.toList b.data.toList := by
  rw [ByteArray.toList_eq, ByteArray.toList_eq, less_before]
theorem below_row {N : Nat} {w w' : World} {e : TypeId} {k : Nat} {v : Value} {n : Nat} {xs : List Value} (h : w.ownsRow N e k v n xs) (hg : w.grownBy w' v.ownBlock) (hN : N ≤ w.heap.size) : Below N w w' :=
  ⟨hg.os, hg.tape, hg.output, hg.size, fun i hi => hg.block i (by omega) fun e => by have := (row_kind h i e.symm).1; omega⟩
section
variable {w w' : World} {O : Nat → Prop} {d : Nat} {fv : Value} {P Q : List UInt8 → Value} {S S' : St}
/-- A file's cells, in whatever world behind. -/
theorem RRep.look (h : RRep w O d fv P Q S) {j : Nat} (hj : j < S.fs.length) : ∃ f q cap p1 c1 p2 c2, S.fs[j]? = some f ∧ f ∈ S.fs ∧ fv = .slice (some ⟨q, 0, none⟩) S.fs.length cap ∧ O q ∧ P f.nm = .slice p1 (f.l.take f.s).length c1 ∧ Q f.nm = .slice p2 (f.l.drop f.s).length c2 ∧
    w.cell? ⟨q, j * 3, none⟩ = some (.string (str f.nm)) ∧ w.cell? ⟨q, j * 3 + 1, none⟩ = some (.slice p1 (f.l.take f.s).length c1) ∧ w.cell? ⟨q, j * 3 + 2, none⟩ = some (.slice p2 (f.l.drop f.s).length c2) ∧ (∀ i, w.frozen? ⟨q, i, none⟩ = false) := by
  have hf := List.getElem?_eq_getElem hj
  obtain ⟨q, cap, e, oq, a0, a1, a2, a3, _⟩ := h.at hf
  have hm := List.getElem_mem hj
  obtain ⟨p1, c1, e1⟩ := (h.files _ hm).safe.val
  obtain ⟨p2, c2, e2⟩ := (h.files _ hm).wait.val
  exact ⟨_, q, cap, p1, c1, p2, c2, hf, hm, e, oq, e1, e2, a0, by rw [← e1]; exact a1, by rw [← e2]; exact a2, a3⟩
theorem drop_step {α : Type} {L : List α} {j : Nat} {a : α} (h : L[j]? = some a) : L.drop j = a :: L.drop (j + 1) := by
  obtain ⟨h1, h2⟩ := List.getElem?_eq_some_iff.1 h
  rw [List.drop_eq_getElem_cons h1, h2]
def AtIt (w : World) (k : List UInt8) (S : St) (e : Ending) (w' : World) : Prop := (∃ r : Int, e = .returned (.int .i64 r) ∧ ((r = -1 ∧ look k S.fs = none) ∨ ∃ (j : Nat) (f : File), r = j ∧ S.fs[j]? = some f ∧ look k S.fs = some f)) ∧ Below w.heap.size w w'
set_option maxRecDepth 100000 in
set_option maxHeartbeats 1600000 in
theorem ref_at_it (h : RRep w O d fv P Q S) (s : ByteArray) :
    Calls Tryz.prog 58 #[.pointer (some ⟨d, 0, none⟩), .string s] w (AtIt w s.data.toList S) := by
  obtain ⟨n, hn⟩ : ∃ n, S.fs.length = n := ⟨_, rfl⟩
  have hfew := h.good.few
  obtain ⟨ad, cap, hfv⟩ := h.val
  have H := Lib.hid h
  have HN := Lib.hid hn; have HV := Lib.hid hfv
  obtain ⟨c0, _⟩ := h.cells
  rw [hfv, hn] at c0
  rw [hn] at hfew
  clear h hfv hn
  go_enter Tryz.func58, Tryz.ntmps58
  go_wp2
  go_loopg [12] n (fun m i wr => ∃ j : Nat, j + m = n ∧ i = .int .i64 (j : Int) ∧ Hid (Below w.heap.size w wr) ∧ Hid (look s.data.toList S.fs = look s.data.toList (S.fs.drop j)))
  case atStart => exact ⟨0, by omega, rfl, Lib.hid (Below.refl _ _), Lib.hid rfl⟩
  case round =>
    obtain ⟨j, hj, rfl, HB, HL⟩ := hrel
    by_cases hlt : j < n
    · obtain ⟨f, q, cap', p1, c1, p2, c2, hf, hm, e, oq, e1, e2, a0, a1, a2, a3⟩ := (H.out.below HB.out).look (by rw [HN.out]; exact hlt)
      have e3 := HV.out
      rw [e, HN.out] at e3
      simp only [Value.slice.injEq, true_and] at e3
      obtain ⟨rfl, rfl⟩ := e3
      have hd := drop_step hf
      have HF := Lib.hid hf
      by_cases hk : f.nm = s.data.toList
      · have et : str f.nm = s := by rw [hk, str_of]
        have hl : look s.data.toList S.fs = some f := by rw [HL.out, hd]; unfold look; rw [if_pos hk]
        have D : Hid (∀ w', Below w.heap.size w w' → AtIt w s.data.toList S (.returned (.int .i64 (j : Int))) w') := Lib.hid fun w' hb => ⟨⟨_, rfl, .inr ⟨j, f, rfl, HF.out, hl⟩⟩, hb⟩
        rw [et] at a0
        have B1 := fun c => Lib.hid (HB.out.alloc HB.out.size (.cells c 87))
        clear e e1 e2 hd hf hm hl HL oq hk et
        generalize (List.take f.s f.l).length = x1 at *
        generalize (List.drop f.s f.l).length = x2 at *
        go_wp2
        go_ret
        exact D.out _ (B1 _).out
      · have et := str_ne hk
        have HL1 : Hid (look s.data.toList S.fs = look s.data.toList (S.fs.drop (j + 1))) := Lib.hid (by rw [HL.out, hd]; rw [look, if_neg hk])
        have B1 := fun c => Lib.hid (HB.out.alloc HB.out.size (.cells c 87))
        clear e e1 e2 hd hf hm HL oq hk
        generalize (List.take f.s f.l).length = x1 at *
        generalize (List.drop f.s f.l).length = x2 at *
        generalize str f.nm = sn at *
        have t1 : (sn.toList == s.toList) = false := txt_ne et
        go_wp2
        go_roundg (n - (j + 1))
        case measure => omega
        case rel => exact ⟨j + 1, by omega, by go_num, B1 _, HL1⟩
    · obtain rfl : n = j := by omega
      have D : Hid (AtIt w s.data.toList S (.returned (.int .i64 (-1))) wr) := Lib.hid ⟨⟨_, rfl, .inl ⟨rfl, by rw [HL.out, ← HN.out, List.drop_length]; rfl⟩⟩, HB.out⟩
      go_wp2
      go_ret
      exact D.out
/-- The files that are laid anew. -/
def Laid (w wr : World) (P Q : List UInt8 → Value) (v : Value) (acc : List File) : Prop := Below w.heap.size w wr ∧ wr.ownsRow w.heap.size 87 3 v acc.length (acc.flatMap (ent3 P Q))
theorem Laid.below {wr w2 : World} {v : Value} {acc : List File} (h : Laid w wr P Q v acc) (hb : Below wr.heap.size wr w2) : Laid w w2 P Q v acc :=
  ⟨h.1.trans (hb.mono h.1.size), row_move h.2 fun g e => hb.block g (h.2.lt g e).2⟩
def RUnit (w : World) (O : Nat → Prop) (d : Nat) (S : St) (e : Ending) (w' : World) : Prop := e = .returned (.tuple #[]) ∧ ∃ O', Step w O w' O' ∧ IsRef w' O' d S
/-- As RUnit, with what stays: what was owned is owned, and no block but d has turned. -/
def RDrop (w : World) (O : Nat → Prop) (d : Nat) (S : St) (e : Ending) (w' : World) : Prop := e = .returned (.tuple #[]) ∧ ∃ O' fv P Q, Step w O w' O' ∧ RRep w' O' d fv P Q S ∧ (∀ i, O i → O' i) ∧ ∀ k, k < w.heap.size → k ≠ d → w'.heap[k]? = w.heap[k]?
theorem RDrop.unit {w w' : World} {O : Nat → Prop} {d : Nat} {S : St} {e : Ending} (h : RDrop w O d S e w') : RUnit w O d S e w' := by
  obtain ⟨h1, O', fv, P, Q, h2, h3, _, _⟩ := h
  exact ⟨h1, O', h2, fv, P, Q, h3⟩
theorem rows_doneK (h : RRep w O d fv P Q S) {w1 wr w' : World} (hb : Below w.heap.size w w1) {v : Value} {P' Q' : List UInt8 → Value} {acc : List File} (hl : Laid w1 wr P' Q' v acc) (hf : ∀ f ∈ acc, RFile w O (P' f.nm) (Q' f.nm) f) (hg : Good { S with fs := acc }) (hw : w' = wr.setCell ⟨d, 0, none⟩ v) :
    RDrop w O d { S with fs := acc } (.returned (.tuple #[])) w' := by
  subst hw
  have hbr : Below w.heap.size w wr := hb.trans (hl.1.mono hb.size)
  have := h.lay hbr (row_lower hl.2 hb.size) (fun f hm => (hf f hm).move (fun i hi => .inl hi) fun i cur hi _ => hbr.block i (h.dom i hi)) hg
  exact ⟨rfl, _, _, _, _, this.2, this.1, (fun i hi => .inl hi), fun k hk hd => (Below.heap_setCell wr _ v k hd).trans (hbr.block k hk)⟩
theorem rows_done (h : RRep w O d fv P Q S) {w1 wr w' : World} (hb : Below w.heap.size w w1) {v : Value} {P' Q' : List UInt8 → Value} {acc : List File} (hl : Laid w1 wr P' Q' v acc) (hf : ∀ f ∈ acc, RFile w O (P' f.nm) (Q' f.nm) f) (hg : Good { S with fs := acc }) (hw : w' = wr.setCell ⟨d, 0, none⟩ v) :
    RUnit w O d { S with fs := acc } (.returned (.tuple #[])) w' := (rows_doneK h hb hl hf hg hw).unit
set_option maxRecDepth 100000 in
set_option maxHeartbeats 1600000 in
theorem ref_dropK (h : RRep w O d fv P Q S) (s : ByteArray) :
    Calls Tryz.prog 88 #[.pointer (some ⟨d, 0, none⟩), .string s] w (RDrop w O d { S with fs := del s.data.toList S.fs }) := by
  obtain ⟨n, hn⟩ : ∃ n, S.fs.length = n := ⟨_, rfl⟩
  have hfew := h.good.few
  obtain ⟨ad, cap, hfv⟩ := h.val
  have H := Lib.hid h
  have HN := Lib.hid hn; have HV := Lib.hid hfv
  obtain ⟨c0, _, _, _, _, _, fz⟩ := h.cells
  have f0 := fz 0
  rw [hfv, hn] at c0
  rw [hn] at hfew
  clear h hfv hn fz
  go_enter Tryz.func88, Tryz.ntmps88
  go_wp2
  go_loopg [4, 12] n (fun m o i wr => ∃ (j : Nat) (acc : List File) (c : Nat) (ao : Option Addr) (co : Nat), j + m = n ∧ i = .int .i64 (j : Int) ∧ o = .slice ao c co ∧ c ≤ j ∧ Hid (acc.length = c) ∧ Hid (Laid w wr P Q (.slice ao c co) acc) ∧ Hid (acc ++ del s.data.toList (S.fs.drop j) = del s.data.toList S.fs))
  case atStart => exact ⟨0, [], 0, none, 0, by omega, rfl, rfl, Nat.le_refl _, Lib.hid rfl, Lib.hid ⟨Below.refl _ _, rfl, .inl ⟨rfl, rfl⟩⟩, Lib.hid rfl⟩
  case round =>
    obtain ⟨j, acc, c, ao, co, hj, rfl, rfl, hcj, HC, HB, HL⟩ := hrel
    by_cases hlt : j < n
    · obtain ⟨f, q, cap', p1, c1, p2, c2, hf, hm, e, oq, e1, e2, a0, a1, a2, a3⟩ := (H.out.below HB.out.1).look (by rw [HN.out]; exact hlt)
      have e3 := HV.out
      rw [e, HN.out] at e3
      simp only [Value.slice.injEq, true_and] at e3
      obtain ⟨rfl, rfl⟩ := e3
      have hd := drop_step hf
      obtain ⟨x1, hx1⟩ : ∃ x1, (List.take f.s f.l).length = x1 := ⟨_, rfl⟩
      obtain ⟨x2, hx2⟩ : ∃ x2, (List.drop f.s f.l).length = x2 := ⟨_, rfl⟩
      rw [hx1] at e1 a1
      rw [hx2] at e2 a2
      have B1 := fun c => Lib.hid (HB.out.below ((Below.refl _ _).alloc (Nat.le_refl _) (.cells c 87)))
      by_cases hk : f.nm = s.data.toList
      · have et : str f.nm = s := by rw [hk, str_of]
        have HL1 : Hid (acc ++ del s.data.toList (S.fs.drop (j + 1)) = del s.data.toList S.fs) := Lib.hid (by rw [← HL.out, hd]; simp [del, hk])
        rw [et] at a0
        clear e e1 e2 hd hf hm HL oq hk et hx1 hx2
        go_wp2
        go_roundg (n - (j + 1))
        case measure => omega
        case rel => exact ⟨j + 1, acc, c, ao, co, by omega, by go_num, rfl, by omega, HC, B1 _, HL1⟩
      · have et := str_ne hk
        have HL1 : Hid ((acc ++ [f]) ++ del s.data.toList (S.fs.drop (j + 1)) = del s.data.toList S.fs) := Lib.hid (by rw [← HL.out, hd]; simp [del, hk])
        have E1 := Lib.hid e1; have E2 := Lib.hid e2
        have SN : Hid (Value.string (str f.nm) = .string (str f.nm)) := Lib.hid rfl
        obtain ⟨sn, hsn⟩ : ∃ sn, str f.nm = sn := ⟨_, rfl⟩
        have HSN := Lib.hid hsn
        rw [hsn] at a0 et
        clear e e1 e2 hd hf hm HL oq hk hx1 hx2 hsn SN
        have t1 : (sn.toList == s.toList) = false := txt_ne et
        have b2 := (B1 #[.string sn, .slice p1 x1 c1, .slice p2 x2 c2]).out.below ((Below.refl _ _).alloc (Nat.le_refl _) (.cells #[.string sn, .slice p1 x1 c1, .slice p2 x2 c2] 87))
        have b4 := b2.2
        rw [HC.out] at b4
        have B2 := Lib.hid b2.1; have B4 := Lib.hid b4
        clear b2 b4
        go_wp2_with (at_builtin; go_loud (refine wp_fapp rfl (.tmp 20) (.tmp 22) rfl w.heap.size (.slice ao c co) c _ rfl B4.out (by omega) _ (.string sn) (.slice p1 x1 c1) (.slice p2 x2 c2) rfl (heap_two _ _ _) rfl rfl rfl B2.out.size ?_); rintro v' w3 hr ⟨ao', co', rfl⟩ hg; have HR3 := Lib.hid hr; have HG3 := Lib.hid hg; clear hr hg)
        have B3 : Hid (Laid w w3 P Q (.slice ao' (c + 1) co') (acc ++ [f])) := Lib.hid ⟨B2.out.trans (below_row B4.out HG3.out B2.out.size), by rw [List.length_append, HC.out, List.flatMap_append]; simpa [ent3, HSN.out, E1.out, E2.out] using HR3.out⟩
        have HC3 : Hid ((acc ++ [f]).length = c + 1) := Lib.hid (by simp [HC.out])
        go_roundg (n - (j + 1))
        case measure => omega
        case rel => exact ⟨j + 1, acc ++ [f], c + 1, ao', co', by omega, by go_num, rfl, by omega, HC3, B3, HL1⟩
    · obtain rfl : n = j := by omega
      have hl := HL.out
      rw [← HN.out, List.drop_length] at hl
      simp [del] at hl
      have D : Hid (∀ w', w' = wr.setCell ⟨d, 0, none⟩ (.slice ao c co) → RDrop w O d { S with fs := del s.data.toList S.fs } (.returned (.tuple #[])) w') := Lib.hid fun w' hw => by
        have := rows_doneK H.out (Below.refl _ _) HB.out (fun f hf => H.out.files f (by rw [hl] at hf; exact (mem_del.1 hf).1)) (by rw [hl]; exact good_del H.out.good _) hw
        rw [hl] at this; exact this
      have hb := HB.out.1
      have f0' : wr.frozen? ⟨d, 0, none⟩ = false := (World.frozen?_of_block (w := w) (a := ⟨d, 0, none⟩) (hb.block d (H.out.dom d H.out.od))).trans f0
      have c0' := (World.cell?_of_block (w := w) (a := ⟨d, 0, none⟩) (hb.block d (H.out.dom d H.out.od))).trans c0
      clear hl hb
      go_wp2
      first | go_end0 | refine bodyPost_ret (results_none rfl _ _ _) rfl ?_
      exact D.out _ rfl
theorem ref_drop (h : RRep w O d fv P Q S) (s : ByteArray) :
    Calls Tryz.prog 88 #[.pointer (some ⟨d, 0, none⟩), .string s] w (RUnit w O d { S with fs := del s.data.toList S.fs }) := (ref_dropK h s).mono fun _ _ h => h.unit

set_option maxRecDepth 100000 in
set_option maxHeartbeats 2000000 in
theorem ref_put (h : RRep w O d fv P Q S) (x : File) (xv yv : Value) (hx : RFile w O xv yv x) (hg : Good { S with fs := put x S.fs }) :
    Calls Tryz.prog 60 #[.pointer (some ⟨d, 0, none⟩), .agg #[.string (str x.nm), xv, yv]] w (RUnit w O d { S with fs := put x S.fs }) := by
  obtain ⟨n, hn⟩ : ∃ n, S.fs.length = n := ⟨_, rfl⟩
  have hfew := h.good.few
  obtain ⟨ad, cap, hfv⟩ := h.val
  have H := Lib.hid h; have HX := Lib.hid hx; have HG := Lib.hid hg
  have HN := Lib.hid hn; have HV := Lib.hid hfv
  obtain ⟨c0, _, _, _, _, _, fz⟩ := h.cells
  have f0 := fz 0
  rw [hfv, hn] at c0
  rw [hn] at hfew
  obtain ⟨xa, xc, exv⟩ := hx.safe.val
  obtain ⟨ya, yc, eyv⟩ := hx.wait.val
  obtain ⟨xl, hxl⟩ : ∃ xl, (List.take x.s x.l).length = xl := ⟨_, rfl⟩
  obtain ⟨yl, hyl⟩ : ∃ yl, (List.drop x.s x.l).length = yl := ⟨_, rfl⟩
  rw [hxl] at exv
  rw [hyl] at eyv
  have EXV := Lib.hid exv; have EYV := Lib.hid eyv
  obtain ⟨xn, hxn⟩ : ∃ xn, str x.nm = xn := ⟨_, rfl⟩
  have HXN := Lib.hid hxn
  have HXL : Hid (x.nm = xn.data.toList) := Lib.hid (by rw [← hxn, str_list])
  rw [hxn, exv, eyv]
  obtain ⟨P', hP'⟩ : ∃ P', P' = at1 P x.nm xv := ⟨_, rfl⟩
  obtain ⟨Q', hQ'⟩ : ∃ Q', Q' = at1 Q x.nm yv := ⟨_, rfl⟩
  have EX : Hid (ent3 P' Q' x = [.string xn, .slice xa xl xc, .slice ya yl yc]) := Lib.hid (by simp [ent3, hP', hQ', at1, hxn, exv, eyv])
  have EN : Hid (∀ f, f.nm ≠ x.nm → ent3 P' Q' f = ent3 P Q f) := Lib.hid fun f hf => by simp [ent3, hP', hQ', at1, hf]
  have DONE : Hid (∀ wr v w', Laid (w.alloc (.cells #[.string xn, .slice xa xl xc, .slice ya yl yc] 87)) wr P' Q' v (put x S.fs) → w' = wr.setCell ⟨d, 0, none⟩ v → RUnit w O d { S with fs := put x S.fs } (.returned (.tuple #[])) w') := Lib.hid fun wr v w' hl hw =>
    rows_done H.out ((Below.refl _ _).alloc (Nat.le_refl _) _) hl (fun f hf => by
      rcases mem_put.1 hf with rfl | ⟨hf, hne⟩
      · rw [hP', hQ', at1_same, at1_same]; exact HX.out
      · rw [hP', hQ', at1_other hne, at1_other hne]; exact H.out.files f hf) HG.out hw
  have c0b := ((Below.refl w.heap.size w).alloc (Nat.le_refl _) (.cells #[.string xn, .slice xa xl xc, .slice ya yl yc] 87)) |> fun hb => (World.cell?_of_block (w := w) (a := ⟨d, 0, none⟩) (hb.block d (h.dom d h.od))).trans c0
  clear h hx hg hfv hn fz exv eyv hxl hyl hxn hP' hQ' c0
  go_enter Tryz.func60, Tryz.ntmps60
  go_wp2
  go_loopg [4, 5, 13] n (fun m o lv i wr => ∃ (j : Nat) (acc : List File) (c : Nat) (ao : Option Addr) (co : Nat) (laid : Bool), j + m = n ∧ i = .int .i64 (j : Int) ∧ o = .slice ao c co ∧ lv = .bool laid ∧ c ≤ 2 * j ∧ Hid (acc.length = c) ∧
    Hid (Laid (w.alloc (.cells #[.string xn, .slice xa xl xc, .slice ya yl yc] 87)) wr P' Q' (.slice ao c co) acc) ∧ Hid (acc ++ (if laid then del x.nm (S.fs.drop j) else put x (S.fs.drop j)) = put x S.fs))
  case atStart => exact ⟨0, [], 0, none, 0, false, by omega, rfl, rfl, rfl, by omega, Lib.hid rfl, Lib.hid ⟨Below.refl _ _, rfl, .inl ⟨rfl, rfl⟩⟩, Lib.hid rfl⟩
  case round =>
    obtain ⟨j, acc, c, ao, co, laid, hj, rfl, rfl, rfl, hcj, HC, HB, HL⟩ := hrel
    have hbw : Below w.heap.size w wr := ((Below.refl w.heap.size w).alloc (Nat.le_refl _) _).trans (HB.out.1.mono (by simp))
    by_cases hlt : j < n
    · obtain ⟨f, q, cap', p1, c1, p2, c2, hf, hm, e, oq, e1, e2, a0, a1, a2, a3⟩ := (H.out.below hbw).look (by rw [HN.out]; exact hlt)
      have e3 := HV.out
      rw [e, HN.out] at e3
      simp only [Value.slice.injEq, true_and] at e3
      obtain ⟨rfl, rfl⟩ := e3
      have hd := drop_step hf
      obtain ⟨x1, hx1⟩ : ∃ x1, (List.take f.s f.l).length = x1 := ⟨_, rfl⟩
      obtain ⟨x2, hx2⟩ : ∃ x2, (List.drop f.s f.l).length = x2 := ⟨_, rfl⟩
      rw [hx1] at e1 a1
      rw [hx2] at e2 a2
      obtain ⟨fn, hfn⟩ : ∃ fn, str f.nm = fn := ⟨_, rfl⟩
      have hfl : f.nm = fn.data.toList := by rw [← hfn, str_list]
      rw [hfn] at a0
      -- the box of the file that is put, in the world behind the copy
      have B1 : Hid (Laid (w.alloc (.cells #[.string xn, .slice xa xl xc, .slice ya yl yc] 87)) (wr.alloc (.cells #[.string fn, .slice p1 x1 c1, .slice p2 x2 c2] 87)) P' Q' (.slice ao c co) acc) := Lib.hid (HB.out.below ((Below.refl _ _).alloc (Nat.le_refl _) _))
      have bx : ∀ w2, Below (w.alloc (.cells #[.string xn, .slice xa xl xc, .slice ya yl yc] 87)).heap.size (w.alloc (.cells #[.string xn, .slice xa xl xc, .slice ya yl yc] 87)) w2 → w2.heap[w.heap.size]? = some (.cells #[.string xn, .slice xa xl xc, .slice ya yl yc] 87 (0, 0)) := fun w2 hb => (hb.block _ (by simp)).trans (MapKept.heap_alloc w _).1
      have BX := Lib.hid bx
      have xb := bx _ B1.out.1
      have b0 := Joins.cell_of_block xb 0
      have b1 := Joins.cell_of_block xb 1
      have b2 := Joins.cell_of_block xb 2
      simp at b0 b1 b2
      have tl := txt_less xn fn
      rw [← hfl, ← HXL.out] at tl
      clear xb bx
      by_cases hk : f.nm = x.nm
      · have et : fn = xn := by rw [← str_of fn, ← hfl, hk, HXL.out, str_of]
        have hlx : bytesBefore x.nm f.nm = false := by rw [hk, WideAt.bytes_irrefl]
        rw [hlx] at tl
        have HL1 : Hid (acc ++ (if laid then del x.nm (S.fs.drop (j + 1)) else put x (S.fs.drop (j + 1))) = put x S.fs) := Lib.hid (by
          rw [← HL.out, hd]
          have : del x.nm (f :: S.fs.drop (j + 1)) = del x.nm (S.fs.drop (j + 1)) := by simp [del, hk]
          unfold put; rw [this])
        subst et
        clear e e1 e2 hd hf hm HL oq hk hx1 hx2 hlx hfn hfl
        cases laid
        all_goals
          go_wp2
          go_roundg (n - (j + 1))
          case measure => omega
          case rel => exact ⟨j + 1, acc, c, ao, co, _, by omega, by go_num, rfl, rfl, by omega, HC, B1, HL1⟩
      · have et : fn ≠ xn := fun e => hk (by rw [hfl, e, HXL.out])
        have t1 : (fn.toList == xn.toList) = false := txt_ne et
        have EF : Hid (ent3 P' Q' f = [.string fn, .slice p1 x1 c1, .slice p2 x2 c2]) := Lib.hid (by rw [EN.out f hk]; simp [ent3, hfn, e1, e2])
        have hdel : del x.nm (f :: S.fs.drop (j + 1)) = f :: del x.nm (S.fs.drop (j + 1)) := by simp [del, hk]
        have hcn : c ≤ 1000 := by omega
        cases laid with
        | true =>
          have HL1 : Hid ((acc ++ [f]) ++ (if true then del x.nm (S.fs.drop (j + 1)) else put x (S.fs.drop (j + 1))) = put x S.fs) := Lib.hid (by rw [← HL.out, hd]; simp [hdel])
          clear e e1 e2 hd hf hm HL oq hk hx1 hx2 hfn hfl hdel et
          have b2 := B1.out.below ((Below.refl _ _).alloc (Nat.le_refl _) (.cells #[.string fn, .slice p1 x1 c1, .slice p2 x2 c2] 87))
          have b4 := b2.2
          rw [HC.out] at b4
          have B23 := Lib.hid b2.1; have B43 := Lib.hid b4
          clear b2 b4
          go_wp2_with (at_builtin; refine wp_fapp rfl (.tmp 35) (.tmp 37) rfl (w.alloc (.cells #[.string xn, .slice xa xl xc, .slice ya yl yc] 87)).heap.size (.slice ao (c) co) (c) _ rfl B43.out (by omega) _ (.string fn) (.slice p1 x1 c1) (.slice p2 x2 c2) rfl (heap_two _ _ _) rfl rfl rfl B23.out.size ?_; rintro v' w3 hr ⟨ao', co', rfl⟩ hg; have HR3 := Lib.hid hr; have HG3 := Lib.hid hg; clear hr hg; have B33 : Hid (Laid (w.alloc (.cells #[.string xn, .slice xa xl xc, .slice ya yl yc] 87)) w3 P' Q' (.slice ao' (c + 1) co') (acc ++ [f])) := Lib.hid ⟨B23.out.trans (below_row B43.out HG3.out B23.out.size), by rw [List.length_append, HC.out, List.flatMap_append]; simpa [EF.out] using HR3.out⟩; have HC3 : Hid ((acc ++ [f]).length = c + 1) := Lib.hid (by rw [List.length_append, HC.out]; rfl))
          go_roundg (n - (j + 1))
          case measure => omega
          case rel => exact ⟨j + 1, acc ++ [f], c + 1, ao', co', true, by omega, by go_num, rfl, rfl, by omega, HC3, B33, HL1⟩
        | false =>
          cases hbf : bytesBefore x.nm f.nm with
          | false =>
            rw [hbf] at tl
            have HL1 : Hid ((acc ++ [f]) ++ (if false then del x.nm (S.fs.drop (j + 1)) else put x (S.fs.drop (j + 1))) = put x S.fs) := Lib.hid (by rw [← HL.out, hd]; simp [put, hdel, ins, hbf])
            clear e e1 e2 hd hf hm HL oq hk hx1 hx2 hfn hfl hdel et hbf
            have b2 := B1.out.below ((Below.refl _ _).alloc (Nat.le_refl _) (.cells #[.string fn, .slice p1 x1 c1, .slice p2 x2 c2] 87))
            have b4 := b2.2
            rw [HC.out] at b4
            have B23 := Lib.hid b2.1; have B43 := Lib.hid b4
            clear b2 b4
            go_wp2_with (at_builtin; refine wp_fapp rfl (.tmp 35) (.tmp 37) rfl (w.alloc (.cells #[.string xn, .slice xa xl xc, .slice ya yl yc] 87)).heap.size (.slice ao (c) co) (c) _ rfl B43.out (by omega) _ (.string fn) (.slice p1 x1 c1) (.slice p2 x2 c2) rfl (heap_two _ _ _) rfl rfl rfl B23.out.size ?_; rintro v' w3 hr ⟨ao', co', rfl⟩ hg; have HR3 := Lib.hid hr; have HG3 := Lib.hid hg; clear hr hg; have B33 : Hid (Laid (w.alloc (.cells #[.string xn, .slice xa xl xc, .slice ya yl yc] 87)) w3 P' Q' (.slice ao' (c + 1) co') (acc ++ [f])) := Lib.hid ⟨B23.out.trans (below_row B43.out HG3.out B23.out.size), by rw [List.length_append, HC.out, List.flatMap_append]; simpa [EF.out] using HR3.out⟩; have HC3 : Hid ((acc ++ [f]).length = c + 1) := Lib.hid (by rw [List.length_append, HC.out]; rfl))
            go_roundg (n - (j + 1))
            case measure => omega
            case rel => exact ⟨j + 1, acc ++ [f], c + 1, ao', co', false, by omega, by go_num, rfl, rfl, by omega, HC3, B33, HL1⟩
          | true =>
            rw [hbf] at tl
            have HL1 : Hid (((acc ++ [x]) ++ [f]) ++ (if true then del x.nm (S.fs.drop (j + 1)) else put x (S.fs.drop (j + 1))) = put x S.fs) := Lib.hid (by rw [← HL.out, hd]; simp [put, hdel, ins, hbf])
            clear e e1 e2 hd hf hm HL oq hk hx1 hx2 hfn hfl hdel et hbf
            have b2 := B1.out.below ((Below.refl _ _).alloc (Nat.le_refl _) (.cells #[.string xn, .slice xa xl xc, .slice ya yl yc] 87))
            have b4 := b2.2
            rw [HC.out] at b4
            have B23 := Lib.hid b2.1; have B43 := Lib.hid b4
            clear b2 b4
            go_wp2_with (first | (at_builtin; refine wp_fapp rfl (.tmp 26) (.tmp 28) rfl (w.alloc (.cells #[.string xn, .slice xa xl xc, .slice ya yl yc] 87)).heap.size (.slice ao (c) co) (c) _ rfl B43.out (by omega) _ (.string xn) (.slice xa xl xc) (.slice ya yl yc) rfl (heap_two _ _ _) rfl rfl rfl B23.out.size ?_; rintro v' w3 hr ⟨ao', co', rfl⟩ hg; have HR3 := Lib.hid hr; have HG3 := Lib.hid hg; clear hr hg; have B33 : Hid (Laid (w.alloc (.cells #[.string xn, .slice xa xl xc, .slice ya yl yc] 87)) w3 P' Q' (.slice ao' (c + 1) co') (acc ++ [x])) := Lib.hid ⟨B23.out.trans (below_row B43.out HG3.out B23.out.size), by rw [List.length_append, HC.out, List.flatMap_append]; simpa [EX.out] using HR3.out⟩; have HC3 : Hid ((acc ++ [x]).length = c + 1) := Lib.hid (by rw [List.length_append, HC.out]; rfl); have fb : w3.heap[wr.heap.size]? = some (.cells #[.string fn, .slice p1 x1 c1, .slice p2 x2 c2] 87 (0, 0)) := (HG3.out.block wr.heap.size (by simp; omega) (fun e => by have := (HB.out.2.lt _ e.symm).2; omega)).trans (((MapKept.heap_alloc _ _).2 _ (by simp)).trans (MapKept.heap_alloc wr _).1); have g0 := Joins.cell_of_block fb 0; have g1 := Joins.cell_of_block fb 1; have g2 := Joins.cell_of_block fb 2; have xb := BX.out _ B33.out.1; have k0 := Joins.cell_of_block xb 0; simp at g0 g1 g2 k0; clear fb xb; have b2 := B33.out.below ((Below.refl _ _).alloc (Nat.le_refl _) (.cells #[.string fn, .slice p1 x1 c1, .slice p2 x2 c2] 87)); have b4 := b2.2; rw [HC3.out] at b4; have B25 := Lib.hid b2.1; have B45 := Lib.hid b4; clear b2 b4) | (at_builtin; refine wp_fapp rfl (.tmp 35) (.tmp 37) rfl (w.alloc (.cells #[.string xn, .slice xa xl xc, .slice ya yl yc] 87)).heap.size (.slice ao' (c + 1) co') (c + 1) _ rfl B45.out (by omega) _ (.string fn) (.slice p1 x1 c1) (.slice p2 x2 c2) rfl (MapKept.heap_alloc _ _).1 rfl rfl rfl B25.out.size ?_; rintro v' w4 hr ⟨ao2, co2, rfl⟩ hg; have HR5 := Lib.hid hr; have HG5 := Lib.hid hg; clear hr hg; have B35 : Hid (Laid (w.alloc (.cells #[.string xn, .slice xa xl xc, .slice ya yl yc] 87)) w4 P' Q' (.slice ao2 (c + 1 + 1) co2) ((acc ++ [x]) ++ [f])) := Lib.hid ⟨B25.out.trans (below_row B45.out HG5.out B25.out.size), by rw [List.length_append, HC3.out, List.flatMap_append]; simpa [EF.out] using HR5.out⟩; have HC5 : Hid (((acc ++ [x]) ++ [f]).length = c + 1 + 1) := Lib.hid (by rw [List.length_append, HC3.out]; rfl)))
            go_roundg (n - (j + 1))
            case measure => omega
            case rel => exact ⟨j + 1, (acc ++ [x]) ++ [f], c + 1 + 1, ao2, co2, true, by omega, by go_num, rfl, rfl, by omega, HC5, B35, HL1⟩
    · obtain rfl : n = j := by omega
      have hl := HL.out
      rw [← HN.out, List.drop_length] at hl
      have hcn : c ≤ 1000 := by omega
      have DZ : Hid (∀ w2, Below (w.alloc (.cells #[.string xn, .slice xa xl xc, .slice ya yl yc] 87)).heap.size (w.alloc (.cells #[.string xn, .slice xa xl xc, .slice ya yl yc] 87)) w2 → w2.cell? ⟨d, 0, none⟩ = some (.slice ad n cap) ∧ w2.frozen? ⟨d, 0, none⟩ = false) := Lib.hid fun w2 hb => by
        have hb0 : Below w.heap.size w w2 := ((Below.refl w.heap.size w).alloc (Nat.le_refl _) _).trans (hb.mono (by simp))
        have hc := H.out.cells
        rw [HV.out, HN.out] at hc
        exact ⟨(World.cell?_of_block (w := w) (a := ⟨d, 0, none⟩) (hb0.block d (H.out.dom d H.out.od))).trans hc.1, (World.frozen?_of_block (w := w) (a := ⟨d, 0, none⟩) (hb0.block d (H.out.dom d H.out.od))).trans (hc.2.2.2.2.2.2 0)⟩
      cases laid with
      | true =>
        have hacc : acc = put x S.fs := by rw [← hl]; simp [del]
        have D : Hid (∀ w', w' = wr.setCell ⟨d, 0, none⟩ (.slice ao c co) → RUnit w O d { S with fs := put x S.fs } (.returned (.tuple #[])) w') := Lib.hid fun w' hw => DONE.out wr _ w' (hacc ▸ HB.out) hw
        obtain ⟨z0, z1⟩ := DZ.out _ HB.out.1
        clear hl hbw hacc
        go_wp2
        first | go_end0 | refine bodyPost_ret (results_none rfl _ _ _) rfl ?_
        exact D.out _ rfl
      | false =>
        have hacc : acc ++ [x] = put x S.fs := by rw [← hl]; rfl
        have HA := Lib.hid hacc
        have xb : wr.heap[w.heap.size]? = some (.cells #[.string xn, .slice xa xl xc, .slice ya yl yc] 87 (0, 0)) := (HB.out.1.block _ (by simp)).trans (MapKept.heap_alloc w _).1
        have k0 := Joins.cell_of_block xb 0
        have k1 := Joins.cell_of_block xb 1
        have k2 := Joins.cell_of_block xb 2
        simp at k0 k1 k2
        clear hl hbw hacc xb
        have b2 := HB.out.below ((Below.refl _ _).alloc (Nat.le_refl _) (.cells #[.string xn, .slice xa xl xc, .slice ya yl yc] 87))
        have b4 := b2.2
        rw [HC.out] at b4
        have B23 := Lib.hid b2.1; have B43 := Lib.hid b4
        clear b2 b4
        go_wp2_with (at_builtin; refine wp_fapp rfl (.tmp 42) (.tmp 44) rfl (w.alloc (.cells #[.string xn, .slice xa xl xc, .slice ya yl yc] 87)).heap.size (.slice ao (c) co) (c) _ rfl B43.out (by omega) _ (.string xn) (.slice xa xl xc) (.slice ya yl yc) rfl (MapKept.heap_alloc _ _).1 rfl rfl rfl B23.out.size ?_; rintro v' w3 hr ⟨ao', co', rfl⟩ hg; have HR3 := Lib.hid hr; have HG3 := Lib.hid hg; clear hr hg; have B33 : Hid (Laid (w.alloc (.cells #[.string xn, .slice xa xl xc, .slice ya yl yc] 87)) w3 P' Q' (.slice ao' (c + 1) co') (acc ++ [x])) := Lib.hid ⟨B23.out.trans (below_row B43.out HG3.out B23.out.size), by rw [List.length_append, HC.out, List.flatMap_append]; simpa [EX.out] using HR3.out⟩; have HC3 : Hid ((acc ++ [x]).length = c + 1) := Lib.hid (by rw [List.length_append, HC.out]; rfl); obtain ⟨z0, z1⟩ := DZ.out _ B33.out.1)
        have D : Hid (∀ w', w' = w3.setCell ⟨d, 0, none⟩ (.slice ao' (c + 1) co') → RUnit w O d { S with fs := put x S.fs } (.returned (.tuple #[])) w') := Lib.hid fun w' hw => DONE.out w3 _ w' (HA.out ▸ B33.out) hw
        first | go_end0 | refine bodyPost_ret (results_none rfl _ _ _) rfl ?_
        exact D.out _ rfl
end
end Go.Proofs.YtdonkmkjblofpaaGreatDoor.Dk
/-! ## Lc -/
namespace Go.Proofs.YtdonkmkjblofpaaGreatDoor.Dk
open Go.RowKit
set_option linter.unusedVariables false

theorem below_alloc {B : Nat} {w wx : World} {o : Obj} (h : Below B w wx) (hB : B ≤ w.heap.size) : Below B w (wx.alloc o) := h.alloc (Nat.le_trans hB h.size) o
/-- append(own bytes, bytes...) at a step of a region that draws. -/
theorem step_apd {ops : Array Oper} {o : Oper} {a : Act} {K : Act → World → Prop} {Q : Exit → Act → World → Prop} {E : Prop} {w : World} (hgd : o.guard = none) (s x : Operand)
    (ho : o.op = .call { callee := .builtin .append, args := #[s, x], argTypes := #[22, 22] }) (w0 : World) (base : Nat) (hB : Below base w0 w) (v : Value) (l : List Int) (hs : a.eval s = v) (hown : Ob.OwnB w base v l)
    (ad : Option Addr) (len cap : Nat) (zs : List Int) (hx : a.eval x = .slice ad len cap) (hrow : Fr.HasRow .u8 w ad len zs) (hn : ad = none → cap = 0)
    (hbytes : l.length + len ≤ 140737488355328) (hbase : base ≤ w0.heap.size)
    (h : ∀ v' w', Ob.OwnB w' base v' (l ++ zs.take len) → Below base w0 w' → w.grownBy w' v.ownBlock → K (a.put o.dst v') w') : if Region.wanted o (yielded ops a.tmps) = true then Oper.wp Tryz.prog o a w K Q else E := by
  have hw : Region.wanted o (yielded ops a.tmps) = true := by simp [Region.wanted, hgd]
  rw [if_pos hw]
  obtain ⟨i0, hi, hz0, hz1, hz2⟩ := info_parts info_u8
  obtain ⟨hr1, hr2, hr3⟩ := hrow
  have hln : (l ++ zs.take len).length = l.length + len := by simp; omega
  have hb' : base ≤ w.heap.size := Nat.le_trans hbase hB.size
  cases ad with
  | none =>
    obtain rfl : len = 0 := by
      rcases Nat.eq_zero_or_pos len with h0 | h0
      · exact h0
      · obtain ⟨b, off, e, _⟩ := hr3 h0; cases e
    obtain rfl := hn rfl
    have hrun := run_append_owned_none (P := Tryz.prog) (w := w) base 22 o.type 5 i0 1 Tryz.underlying22 hi v l.length (l.map (Value.int .u8)) hown
    unfold Oper.wp
    simp [execOp, ho, resolve, invoke, builtin, hs, hx, hrun, Result.andThen]
    exact h v w (by rw [List.take_zero, List.append_nil]; exact hown) hB (World.grownBy.refl _ _)
  | some ad =>
    obtain ⟨v', w', hr, h2, h3, _, _⟩ := run_append_own_at (P := Tryz.prog) w base 22 o.type 5 i0 (.int .u8 0) 1 1 Tryz.underlying22 hi hz0 hz1 hz2 rfl (by decide) v l.length (l.map (Value.int .u8)) hown ad len cap ((zs.take len).map (Value.int .u8)) (by simp; omega) (fun j u hj => by
      obtain ⟨h1, h2, rfl⟩ := Ob.take_at hj
      obtain ⟨b, off, e, hc⟩ := hr3 (by omega)
      cases e
      rw [show (⟨b, off, none⟩ : Addr).add j = ⟨b, off + j, none⟩ by simp [Addr.add]]
      exact hc j h1) (Ob.ints_one _) (by unfold maxLen; omega) (by omega) hb'
    unfold Oper.wp execOp
    simp only [ho, resolve, invoke, builtin, Sem.run_bind, Sem.run_pure, Result.andThen_ok, List.map_toArray, List.map_cons, List.map_nil, hs, hx, hr]
    refine h v' w' ?_ (hB.trans (below_row hown h3 hb')) h3
    unfold Ob.OwnB
    rw [hln, List.map_append]
    exact h2
theorem own_made_drew (w : World) {base : Nat} (hb : base ≤ w.heap.size) : Ob.OwnB (w.alloc (.cells #[] 5)).drew base (.slice (some ⟨w.heap.size, 0, none⟩) 0 0) [] := Ob.own_made w hb
section
variable {w w' : World} {O : Nat → Prop} {d : Nat} {fv : Value} {P Q : List UInt8 → Value} {S S' : St}
theorem Part.row {v : Value} {l : List Int} (h : Part w O v l) : ∃ ad cap, v = .slice ad l.length cap ∧ (ad = none → cap = 0) ∧ l.length ≤ cap ∧ cap ≤ maxLen ∧ Fr.HasRow .u8 w ad l.length l := by
  obtain ⟨ad, cap, e, h1, h2, h3, h4⟩ := h.own.row
  exact ⟨ad, cap, e, h2, h3, h4, h1⟩
/-- All that a call reads of the j-th file. -/
structure See (w : World) (d q n cap j : Nat) (nm : ByteArray) (p1 p2 : Option Addr) (x1 x2 c1 c2 : Nat) (l1 l2 : List Int) : Prop where
  z0 : w.cell? ⟨d, 0, none⟩ = some (.slice (some ⟨q, 0, none⟩) n cap)
  a0 : w.cell? ⟨q, j * 3, none⟩ = some (.string nm)
  a1 : w.cell? ⟨q, j * 3 + 1, none⟩ = some (.slice p1 x1 c1)
  a2 : w.cell? ⟨q, j * 3 + 2, none⟩ = some (.slice p2 x2 c2)
  fz : ∀ i, w.frozen? ⟨q, i, none⟩ = false
  r1 : Fr.HasRow .u8 w p1 x1 l1
  r2 : Fr.HasRow .u8 w p2 x2 l2
theorem RRep.see (h : RRep w O d fv P Q S) {j : Nat} {f : File} (hj : S.fs[j]? = some f) : ∃ q n cap p1 p2 x1 x2 c1 c2, S.fs.length = n ∧ n ≤ 16 ∧ j < n ∧ fv = .slice (some ⟨q, 0, none⟩) S.fs.length cap ∧ P f.nm = .slice p1 x1 c1 ∧ Q f.nm = .slice p2 x2 c2 ∧ (f.l.take f.s).length = x1 ∧ (f.l.drop f.s).length = x2 ∧ (p1 = none → c1 = 0) ∧ (p2 = none → c2 = 0) ∧
    x1 ≤ c1 ∧ x2 ≤ c2 ∧ c1 ≤ 9223372036854775807 ∧ c2 ≤ 9223372036854775807 ∧ Hid (x1 = f.s) ∧ x1 + x2 = f.l.length ∧ x1 + x2 ≤ 1048576 ∧ ∀ wx, Below w.heap.size w wx → See wx d q n cap j (str f.nm) p1 p2 x1 x2 c1 c2 (f.l.take f.s) (f.l.drop f.s) := by
  have hmem : f ∈ S.fs := List.mem_of_getElem? hj
  obtain ⟨q, cap, e, oq, a0, a1, a2, a3, _⟩ := h.at hj
  obtain ⟨p1, c1, e1, k1, k2, k3, r1⟩ := (h.files f hmem).safe.row
  obtain ⟨p2, c2, e2, m1, m2, m3, r2⟩ := (h.files f hmem).wait.row
  have hs := h.good.safe f hmem
  have hz := h.good.size f hmem
  refine ⟨q, _, cap, p1, p2, _, _, c1, c2, rfl, h.good.few, (List.getElem?_eq_some_iff.1 hj).1, e, e1, e2, rfl, rfl, k1, m1, k2, m2, by unfold maxLen at k3; exact k3, by unfold maxLen at m3; exact m3, Lib.hid (by simp; omega), by simp; omega, by simp; omega, fun wx hb => ?_⟩
  have hx := h.below hb
  obtain ⟨q', cap', e', _, b0, b1, b2, b3, _⟩ := hx.at hj
  have e3 := e'
  rw [e] at e3
  simp only [Value.slice.injEq, Option.some.injEq, Addr.mk.injEq, true_and, and_true] at e3
  obtain ⟨rfl, rfl⟩ := e3
  obtain ⟨z0, _⟩ := hx.cells
  obtain ⟨p1', c1', e1', _, _, _, r1'⟩ := (hx.files f hmem).safe.row
  obtain ⟨p2', c2', e2', _, _, _, r2'⟩ := (hx.files f hmem).wait.row
  rw [e1] at e1'; rw [e2] at e2'
  simp only [Value.slice.injEq, true_and] at e1' e2'
  obtain ⟨rfl, rfl⟩ := e1'
  obtain ⟨rfl, rfl⟩ := e2'
  exact ⟨by rw [z0, e], b0, by rw [← e1]; exact b1, by rw [← e2]; exact b2, b3, r1', r2'⟩
theorem ref_at_some (h : RRep w O d fv P Q S) (s : ByteArray) {f : File} (hl : look s.data.toList S.fs = some f) : ∃ j : Nat, S.fs[j]? = some f ∧ Calls Tryz.prog 58 #[.pointer (some ⟨d, 0, none⟩), .string s] w fun e w' => e = .returned (.int .i64 (j : Int)) ∧ Below w.heap.size w w' := by
  obtain ⟨hm, hn⟩ := look_some hl
  obtain ⟨j, hj, e⟩ := List.mem_iff_getElem.1 hm
  refine ⟨j, by rw [List.getElem?_eq_getElem hj, e], (ref_at_it h s).mono fun en w' ⟨⟨r, h1, h2⟩, hb⟩ => ⟨?_, hb⟩⟩
  rcases h2 with ⟨_, h3⟩ | ⟨j', f', rfl, h4, h5⟩
  · rw [hl] at h3; cases h3
  · rw [hl] at h5; cases h5
    obtain ⟨a1, a2⟩ := List.getElem?_eq_some_iff.1 h4
    have hdis := distinct h.good.sorted
    have : j' = j := by
      rcases Nat.lt_trichotomy j' j with h | h | h
      · exact absurd (by rw [a2, e]) (List.pairwise_iff_getElem.1 hdis j' j a1 hj h)
      · exact h
      · exact absurd (by rw [a2, e]) (List.pairwise_iff_getElem.1 hdis j j' hj a1 h)
    rw [h1, this]
theorem ref_at_none (h : RRep w O d fv P Q S) (s : ByteArray) (hl : look s.data.toList S.fs = none) : Calls Tryz.prog 58 #[.pointer (some ⟨d, 0, none⟩), .string s] w fun e w' => e = .returned (.int .i64 (-1)) ∧ Below w.heap.size w w' :=
  (ref_at_it h s).mono fun en w' ⟨⟨r, h1, h2⟩, hb⟩ => ⟨(by
    rcases h2 with ⟨rfl, _⟩ | ⟨j', f', rfl, h4, h5⟩
    · exact h1
    · rw [hl] at h5; cases h5), hb⟩

set_option maxRecDepth 100000 in
set_option maxHeartbeats 400000 in
theorem ref_read_yes (h : RRep w O d fv P Q S) (s : ByteArray) (hs : s.size ≤ maxLen) (ht : there s.data.toList S = 0) :
    Calls Tryz.prog 67 #[.pointer (some ⟨d, 0, none⟩), .string s] w (ReadIt w s.data.toList S) := by
  obtain ⟨hb, hd, f, hf⟩ := there_zero ht
  have cr := ref_ready h s hs
  have hr : ready s.data.toList S = 0 := by unfold ready; simp [hb, hd]
  rw [hr] at cr
  obtain ⟨j, hj, ca⟩ := ref_at_some h s hf
  obtain ⟨q, n, cap, p1, p2, x1, x2, c1, c2, hn, hfew, hjn, _, _, _, _, _, k1, k2, k3, k4, k5, k6, hx1, k8, k9, SEE⟩ := h.see hj
  have D : Hid (∀ v w', Ob.OwnB w' w.heap.size v f.l → Below w.heap.size w w' → ReadIt w s.data.toList S (.returned (.tuple #[v, .int .i64 0])) w') := Lib.hid fun v w' h1 h2 => ⟨v, by rw [ht], by unfold readL fileOf; rw [if_pos ht, hf]; exact h1, h2⟩
  have CR := Lib.hid cr; have CA := Lib.hid ca
  obtain ⟨l1, hl1⟩ : ∃ l1, List.take f.s f.l = l1 := ⟨_, rfl⟩
  obtain ⟨l2, hl2⟩ : ∃ l2, List.drop f.s f.l = l2 := ⟨_, rfl⟩
  have HL : Hid (l1.take x1 ++ l2.take x2 = f.l) := Lib.hid (by
    have hsf := h.good.safe f (look_some hf).1
    have hx1' := hx1.out
    rw [List.take_of_length_le (by rw [← hl1]; simp; omega), List.take_of_length_le (by rw [← hl2]; simp; omega), ← hl1, ← hl2, List.take_append_drop])
  rw [hl1, hl2] at SEE
  have SE := Lib.hid SEE
  clear cr ca h hf hj ht hb hd hr hs hl1 hl2 hn SEE k8
  have hj0 : (0 : Int) ≤ (j : Int) := by omega
  go_enter Tryz.func67, Tryz.ntmps67
  go_wp2_with (first | (go_at_call 57; (with_reducible refine CR.out.mono ?_); rintro e w' ⟨rfl, rfl⟩) | (go_at_call 58; (with_reducible refine CA.out.mono ?_); rintro e w1 ⟨rfl, hb1⟩; have hz := (SE.out _ hb1).z0; have ha := (SE.out _ hb1).a1; have hb2 := (SE.out _ hb1).a2))
  clear hz ha hb2
  have KS : Hid (∀ wx, Below w.heap.size w wx → Below w.heap.size w wx ∧ wx.cell? ⟨d, 0, none⟩ = some (.slice (some ⟨q, 0, none⟩) n cap) ∧ wx.cell? ⟨q, j * 3 + 1, none⟩ = some (.slice p1 x1 c1) ∧ wx.cell? ⟨q, j * 3 + 2, none⟩ = some (.slice p2 x2 c2)) := Lib.hid fun wx hb => ⟨hb, (SE.out _ hb).z0, (SE.out _ hb).a1, (SE.out _ hb).a2⟩
  have hsz1 := hb1.size
  go_region_held3 (fun wx => Below w.heap.size w wx ∧ wx.cell? ⟨d, 0, none⟩ = some (.slice (some ⟨q, 0, none⟩) n cap) ∧ wx.cell? ⟨q, j * 3 + 1, none⟩ = some (.slice p1 x1 c1) ∧ wx.cell? ⟨q, j * 3 + 2, none⟩ = some (.slice p2 x2 c2))
    (first | exact KS.out _ (by first | assumption | exact below_alloc (by assumption) (Nat.le_refl _) | exact Below.drew (by assumption) | exact Below.drew (below_alloc (by assumption) (Nat.le_refl _))) | (go_split_ands; exact KS.out _ (by first | assumption | exact below_alloc (by assumption) (Nat.le_refl _) | exact Below.drew (by assumption) | exact Below.drew (below_alloc (by assumption) (Nat.le_refl _)))))
    (first
      | (go_split_ands; refine step_apd (by rfl) (.tmp 19) (.tmp 27) (by rfl) w w.heap.size (by assumption) _ [] (by rfl) (own_made_drew _ (by assumption)) p1 x1 c1 l1 (by rfl) (SE.out _ (by assumption)).r1 k1 (by simp; omega) (Nat.le_refl _) ?_; intro v3 w3 ho3 hb3 hg3)
      | (go_split_ands; go_loud (refine step_apd (by rfl) (.tmp 28) (.tmp 36) (by rfl) w w.heap.size (by assumption) v3 ([] ++ l1.take x1) (by rfl) ho3 p2 x2 c2 l2 (by rfl) (SE.out _ (by assumption)).r2 k2 (by simp; omega) (Nat.le_refl _) ?_); intro v4 w4 ho4 hb4 hg4))
  have OW : Hid (Ob.OwnB w4 w.heap.size v4 f.l) := Lib.hid (by have := ho4; rw [List.nil_append, HL.out] at this; exact this)
  have HB4 := Lib.hid hb4
  go_split_ands
  go_wp2
  go_ret2
  exact D.out _ _ OW.out HB4.out
set_option maxRecDepth 100000 in
theorem ref_read (h : RRep w O d fv P Q S) (s : ByteArray) (hs : s.size ≤ maxLen) :
    Calls Tryz.prog 67 #[.pointer (some ⟨d, 0, none⟩), .string s] w (ReadIt w s.data.toList S) := by
  by_cases ht : there s.data.toList S = 0
  · exact ref_read_yes h s hs ht
  · have cr := ref_ready h s hs
    have D : Hid (∀ w', Below w.heap.size w w' → ReadIt w s.data.toList S (.returned (.tuple #[.slice none 0 0, .int .i64 (there s.data.toList S)])) w') := Lib.hid fun w' hb => ⟨_, rfl, by unfold readL; rw [if_neg ht]; exact ⟨rfl, .inl ⟨rfl, rfl⟩⟩, hb⟩
    by_cases hr : ready s.data.toList S = 0
    · have hl : look s.data.toList S.fs = none := by
        obtain ⟨hb, hd⟩ := ready_zero hr
        cases hl : look s.data.toList S.fs with
        | none => rfl
        | some f => exact absurd (by unfold there; simp [hb, hd, hl]) ht
      have e : there s.data.toList S = 21 := by
        obtain ⟨hb, hd⟩ := ready_zero hr
        unfold there; simp [hb, hd, hl]
      have ca := ref_at_none h s hl
      rw [hr] at cr
      rw [e] at D
      have CR := Lib.hid cr; have CA := Lib.hid ca
      clear cr ca h ht hr hl e hs
      go_enter Tryz.func67, Tryz.ntmps67
      go_wp2_with (first | (go_at_call 57; (with_reducible refine CR.out.mono ?_); rintro e w' ⟨rfl, rfl⟩) | (go_at_call 58; (with_reducible refine CA.out.mono ?_); rintro e w1 ⟨rfl, hb1⟩; have HB1 := Lib.hid hb1; clear hb1))
      go_ret2
      exact D.out _ HB1.out
    · have e : there s.data.toList S = ready s.data.toList S := by
        unfold there ready at *
        cases hb : badName s.data.toList
        · cases hd : S.down
          · simp [hb, hd] at hr
          · simp
        · simp
      rw [e] at D
      generalize ready s.data.toList S = r at *
      have CR := Lib.hid cr
      have t1 : (r == 0) = false := by simpa using hr
      have t2 : (r != 0) = true := by simpa using hr
      clear cr h ht hr e hs
      go_enter Tryz.func67, Tryz.ntmps67
      go_wp2_with (go_at_call 57; (with_reducible refine CR.out.mono ?_); rintro e w' ⟨rfl, rfl⟩)
      go_ret2
      exact D.out _ (Below.refl _ _)
theorem RRep.store (h : RRep w O d fv P Q S) (hsz : w'.heap.size = w.heap.size) (hblk : w'.heap[d]? = some (.cells (rcells fv S') 58 (0, 0))) (hk : ∀ k, k ≠ d → w'.heap[k]? = w.heap[k]?) (hf : S'.fs = S.fs) (ha : S'.arm ≤ 9223372036854775807) : RRep w' O d fv P Q S' := by
  have hne := h.ne
  refine ⟨fun j hj => by rw [hsz]; exact h.dom j hj, h.od, hblk, ?_, h.ov, ?_, good_same h.good hf ha⟩
  · rw [hf]; exact row_move h.row fun g e => hk g (hne.1 g e)
  · rw [hf]; exact fun f hf' => (h.files f hf').move (fun _ h => h) fun i cur _ hc => hk i (hne.2 i cur hc).1
theorem ref_arm (h : RRep w O d fv P Q S) (n keep : Int) (hn : n ≤ 9223372036854775807) : Calls Tryz.prog 35 #[.pointer (some ⟨d, 0, none⟩), .int .i64 n, .int .i64 keep] w (RUnit w O d (armS n keep S)) := by
  obtain ⟨_, _, _, _, c4, c5, fz⟩ := h.cells
  have f4 := fz 4; have f5 := fz 5
  have ha : (max n 0).toNat ≤ 9223372036854775807 := by omega
  have D1 : Hid (n < 0 → RUnit w O d (armS n keep S) (.returned (.tuple #[])) (((w.setCell ⟨d, 4, none⟩ (.int .i64 n)).setCell ⟨d, 4, none⟩ (.int .i64 0)).setCell ⟨d, 5, none⟩ (.int .i64 keep))) := Lib.hid fun h0 => by
    have e1 : (((max n 0).toNat : Nat) : Int) = 0 := by omega
    refine ⟨rfl, O, Step.of (((Turned.setCell _ 4 h.od _).trans (Turned.setCell _ 4 h.od _)).trans (Turned.setCell _ 5 h.od _)), fv, P, Q, h.store (by simp) ?_ (fun k hk => by rw [Below.heap_setCell _ _ _ k hk, Below.heap_setCell _ _ _ k hk, Below.heap_setCell _ _ _ k hk]) rfl ha⟩
    rw [Joins.block_setCell (i := 5) (Joins.block_setCell (i := 4) (Joins.block_setCell (i := 4) h.blk (.int .i64 n)) (.int .i64 0)) (.int .i64 keep)]
    simp [rcells, armS]; omega
  have D2 : Hid (¬ n < 0 → RUnit w O d (armS n keep S) (.returned (.tuple #[])) ((w.setCell ⟨d, 4, none⟩ (.int .i64 n)).setCell ⟨d, 5, none⟩ (.int .i64 keep))) := Lib.hid fun h0 => by
    have e1 : (((max n 0).toNat : Nat) : Int) = n := by omega
    refine ⟨rfl, O, Step.of ((Turned.setCell _ 4 h.od _).trans (Turned.setCell _ 5 h.od _)), fv, P, Q, h.store (by simp) ?_ (fun k hk => by rw [Below.heap_setCell _ _ _ k hk, Below.heap_setCell _ _ _ k hk]) rfl ha⟩
    rw [Joins.block_setCell (i := 5) (Joins.block_setCell (i := 4) h.blk (.int .i64 n)) (.int .i64 keep)]
    simp [rcells, armS]; omega
  clear h fz
  by_cases h0 : n < 0
  all_goals
    go_enter Tryz.func35, Tryz.ntmps35
    go_wp2
    (first | go_end0 | refine bodyPost_ret (results_none rfl _ _ _) rfl ?_)
    first | exact D1.out h0 | exact D2.out h0
end
end Go.Proofs.YtdonkmkjblofpaaGreatDoor.Dk
/-! ## Ld -/
namespace Go.Proofs.YtdonkmkjblofpaaGreatDoor.Dk
open Go.RowKit
set_option linter.unusedVariables false

theorem info_s : (Tryz.prog.info? 9).map (fun i => (i.zero, i.size, i.bytes)) = some (some (.string ByteArray.empty), 1, 16) := by kernel_rfl
/-- append(names, one name). -/
theorem wp_sapp {ops : Array Oper} {rest : List Oper} {o : Oper} {a : Act} {Q : Exit → Act → World → Prop} {w : World} (hgd : o.guard = none) (s x : Operand)
    (ho : o.op = .call { callee := .builtin .append, args := #[s, x], argTypes := #[73, 73] }) (N : Nat) (v : Value) (n : Nat) (xs : List Value) (hs : a.eval s = v) (hown : w.ownsRow N 9 1 v n xs) (hn : n ≤ 1048576)
    (gb : Nat) (y : ByteArray) (hx : a.eval x = .slice (some ⟨gb, 0, none⟩) 1 1) (hc : w.cell? ⟨gb, 0, none⟩ = some (.string y)) (hN : N ≤ w.heap.size)
    (h : ∀ v' w', w'.ownsRow N 9 1 v' (n + 1) (xs ++ [.string y]) → (∃ ad cap, v' = .slice ad (n + 1) cap) → w.grownBy w' v.ownBlock → wpList Tryz.prog ops Q rest (a.put o.dst v') w') : wpList Tryz.prog ops Q (o :: rest) a w := by
  obtain ⟨i0, hi, hz0, hz1, hz2⟩ := info_parts info_s
  refine wpList_append_own w hgd s x 73 ho N 9 i0 (.string ByteArray.empty) 1 16 Tryz.underlying73 hi hz0 hz1 hz2 rfl (by decide) v n xs hs hown ⟨gb, 0, none⟩ 1 1 [.string y] hx rfl ?_ ?_ (by unfold maxLen; omega) (by omega) hN ?_
  · intro i u hy
    match i, hy with
    | 0, hy => simp at hy; subst hy; exact hc
    | i + 1, hy => simp at hy
  · intro u hy; simp at hy; subst hy; rfl
  · intro v' w' r1 r2 r3
    refine h v' w' r1 ?_ r2
    rcases r1.2 with ⟨e, h0⟩ | ⟨g, cap, cur, e, _⟩
    · omega
    · exact ⟨_, cap, e⟩
section
variable {w w' : World} {O : Nat → Prop} {d : Nat} {fv : Value} {P Q : List UInt8 → Value} {S S' : St}
set_option maxRecDepth 100000 in
set_option maxHeartbeats 1600000 in
theorem ref_size (h : RRep w O d fv P Q S) :
    Calls Tryz.prog 59 #[.pointer (some ⟨d, 0, none⟩)] w fun e w' => e = .returned (.int .i64 (used S.fs : Int)) ∧ Below w.heap.size w w' := by
  obtain ⟨n, hn⟩ : ∃ n, S.fs.length = n := ⟨_, rfl⟩
  have hfew := h.good.few
  obtain ⟨ad, cap, hfv⟩ := h.val
  have HU := Lib.hid h.good.used_le
  have H := Lib.hid h
  have HN := Lib.hid hn; have HV := Lib.hid hfv
  obtain ⟨c0, _⟩ := h.cells
  rw [hfv, hn] at c0
  rw [hn] at hfew
  clear h hfv hn
  go_enter Tryz.func59, Tryz.ntmps59
  go_wp2
  go_loopg [3, 11] n (fun m t i wr => ∃ (j u : Nat), j + m = n ∧ i = .int .i64 (j : Int) ∧ t = .int .i64 (u : Int) ∧ u ≤ 16777216 ∧ Hid (Below w.heap.size w wr) ∧ Hid (u + used (S.fs.drop j) = used S.fs))
  case atStart => exact ⟨0, 0, by omega, rfl, rfl, by omega, Lib.hid (Below.refl _ _), Lib.hid (by simp)⟩
  case round =>
    obtain ⟨j, u, hj, rfl, rfl, hu, HB, HL⟩ := hrel
    by_cases hlt : j < n
    · obtain ⟨f, q, cap', p1, c1, p2, c2, hf, hm, e, oq, e1, e2, a0, a1, a2, a3⟩ := (H.out.below HB.out).look (by rw [HN.out]; exact hlt)
      have e3 := HV.out
      rw [e, HN.out] at e3
      simp only [Value.slice.injEq, true_and] at e3
      obtain ⟨rfl, rfl⟩ := e3
      have hd := drop_step hf
      have hs := H.out.good.safe f hm
      obtain ⟨x1, hx1⟩ : ∃ x1, (List.take f.s f.l).length = x1 := ⟨_, rfl⟩
      obtain ⟨x2, hx2⟩ : ∃ x2, (List.drop f.s f.l).length = x2 := ⟨_, rfl⟩
      rw [hx1] at e1 a1
      rw [hx2] at e2 a2
      have hsum : x1 + x2 = f.l.length := by rw [← hx1, ← hx2]; simp; omega
      have HL1 : Hid (u + x1 + x2 + used (S.fs.drop (j + 1)) = used S.fs) := Lib.hid (by rw [← HL.out, hd]; simp only [used]; omega)
      have hb : u + x1 + x2 ≤ 16777216 := by have := HL1.out; have := HU.out; omega
      have B1 := fun c => Lib.hid (HB.out.alloc HB.out.size (.cells c 87))
      clear e e1 e2 hd hf hm HL oq hx1 hx2 hs hsum
      generalize str f.nm = sn at *
      go_wp2
      go_roundg (n - (j + 1))
      case measure => omega
      case rel => exact ⟨j + 1, u + x1 + x2, by omega, by go_num, by go_num, hb, B1 _, HL1⟩
    · obtain rfl : n = j := by omega
      have D : Hid (u = used S.fs) := Lib.hid (by rw [← HL.out, ← HN.out, List.drop_length]; rfl)
      go_wp2
      go_ret
      exact ⟨by rw [← D.out] <;> rfl, HB.out⟩
def SRow (w wr : World) (v : Value) (c : Nat) (L : List (List UInt8)) : Prop := Below w.heap.size w wr ∧ wr.ownsRow w.heap.size 9 1 v c (L.map encStr)
theorem SRow.below {wr w2 : World} {v : Value} {c : Nat} {L : List (List UInt8)} (h : SRow w wr v c L) (hb : Below wr.heap.size wr w2) : SRow w w2 v c L :=
  ⟨h.1.trans (hb.mono h.1.size), row_move h.2 fun g e => hb.block g (h.2.lt g e).2⟩
set_option maxRecDepth 100000 in
set_option maxHeartbeats 1600000 in
theorem ref_names (h : RRep w O d fv P Q S) : Calls Tryz.prog 70 #[.pointer (some ⟨d, 0, none⟩)] w (NamesIt w S) := by
  obtain ⟨n, hn⟩ : ∃ n, S.fs.length = n := ⟨_, rfl⟩
  have hfew := h.good.few
  obtain ⟨ad, cap, hfv⟩ := h.val
  have H := Lib.hid h
  have HN := Lib.hid hn; have HV := Lib.hid hfv
  obtain ⟨c0, _, c2, _⟩ := h.cells
  rw [hfv, hn] at c0
  rw [hn] at hfew
  obtain ⟨dn, hdn⟩ : ∃ dn, S.down = dn := ⟨_, rfl⟩
  have HD := Lib.hid hdn
  clear h hfv hn c2 hdn
  go_enter Tryz.func70, Tryz.ntmps70
  go_wp2
  go_loopg [3, 11] n (fun m o i wr => ∃ (j c : Nat) (ao : Option Addr) (co : Nat) (L : List (List UInt8)), j + m = n ∧ i = .int .i64 (j : Int) ∧ o = .slice ao c co ∧ c ≤ j ∧ Hid (L.length = c) ∧ Hid (SRow w wr (.slice ao c co) c L) ∧ Hid (L ++ (if dn then [] else (S.fs.drop j).map File.nm) = namesL S))
  case atStart => exact ⟨0, 0, none, 0, [], by omega, rfl, rfl, by omega, Lib.hid rfl, Lib.hid ⟨Below.refl _ _, rfl, .inl ⟨rfl, rfl⟩⟩, Lib.hid (by unfold namesL; rw [HD.out]; cases dn <;> rfl)⟩
  case round =>
    obtain ⟨j, c, ao, co, L, hj, rfl, rfl, hcj, HC, HB, HL⟩ := hrel
    by_cases hlt : j < n
    · have h1 := H.out.below HB.out.1
      obtain ⟨f, q, cap', p1, c1, p2, c2, hf, hm, e, oq, e1, e2, a0, a1, a2, a3⟩ := h1.look (by rw [HN.out]; exact hlt)
      have e3 := HV.out
      rw [e, HN.out] at e3
      simp only [Value.slice.injEq, true_and] at e3
      obtain ⟨rfl, rfl⟩ := e3
      have hd := drop_step hf
      obtain ⟨x1, hx1⟩ : ∃ x1, (List.take f.s f.l).length = x1 := ⟨_, rfl⟩
      obtain ⟨x2, hx2⟩ : ∃ x2, (List.drop f.s f.l).length = x2 := ⟨_, rfl⟩
      rw [hx1] at a1
      rw [hx2] at a2
      have hba : Below w.heap.size w (wr.alloc (.cells #[.string (str f.nm), .slice p1 x1 c1, .slice p2 x2 c2] 87)) := HB.out.1.alloc HB.out.1.size _
      have z2 : (wr.alloc (.cells #[.string (str f.nm), .slice p1 x1 c1, .slice p2 x2 c2] 87)).cell? ⟨d, 2, none⟩ = some (.bool (!dn)) := by rw [← HD.out]; exact (H.out.below hba).cells.2.2.1
      have B1 : Hid (SRow w (wr.alloc (.cells #[.string (str f.nm), .slice p1 x1 c1, .slice p2 x2 c2] 87)) (.slice ao c co) c L) := Lib.hid (HB.out.below ((Below.refl _ _).alloc (Nat.le_refl _) _))
      cases dn with
      | true =>
        have HL1 : Hid (L ++ (if true then [] else (S.fs.drop (j + 1)).map File.nm) = namesL S) := Lib.hid (by rw [← HL.out]; rfl)
        clear e e1 e2 hd hf hm HL oq hx1 hx2 h1 hba
        generalize str f.nm = sn at *
        go_wp2
        go_roundg (n - (j + 1))
        case measure => omega
        case rel => exact ⟨j + 1, c, ao, co, L, by omega, by go_num, rfl, by omega, HC, B1, HL1⟩
      | false =>
        have HL1 : Hid ((L ++ [f.nm]) ++ (if false then [] else (S.fs.drop (j + 1)).map File.nm) = namesL S) := Lib.hid (by rw [← HL.out, hd]; simp)
        have HC1 : Hid ((L ++ [f.nm]).length = c + 1) := Lib.hid (by simp [HC.out])
        have b2 := B1.out.below ((Below.refl _ _).alloc (Nat.le_refl _) (.cells #[.string (str f.nm)] 9))
        have B2 := Lib.hid b2
        clear e e1 e2 hd hf hm HL oq hx1 hx2 h1 hba b2
        obtain ⟨sn, hsn⟩ : ∃ sn, str f.nm = sn := ⟨_, rfl⟩
        have HSN := Lib.hid hsn
        rw [hsn] at a0 z2 B2
        clear hsn
        go_wp2_with (at_builtin; go_loud (refine wp_sapp rfl (.tmp 19) (.tmp 22) rfl w.heap.size (.slice ao c co) c _ rfl B2.out.2 (by omega) _ sn rfl (Joins.cell_of_block (heap_two _ _ _) 0) B2.out.1.size ?_); rintro v' w3 hr ⟨ao', co', rfl⟩ hg; have B3 : Hid (SRow w w3 (.slice ao' (c + 1) co') (c + 1) (L ++ [f.nm])) := Lib.hid ⟨B2.out.1.trans (below_row B2.out.2 hg B2.out.1.size), by rw [List.map_append]; simpa [encStr, ← HSN.out, str] using hr⟩; clear hr hg)
        go_roundg (n - (j + 1))
        case measure => omega
        case rel => exact ⟨j + 1, c + 1, ao', co', L ++ [f.nm], by omega, by go_num, rfl, by omega, HC1, B3, HL1⟩
    · obtain rfl : n = j := by omega
      have D : Hid (NamesIt w S (.returned (.slice ao c co)) wr) := Lib.hid (by
        have hl := HL.out
        rw [← HN.out, List.drop_length] at hl
        have : L = namesL S := by rw [← hl]; cases dn <;> simp
        exact ⟨_, rfl, by rw [← this, HC.out]; exact HB.out.2, HB.out.1⟩)
      go_wp2
      go_ret
      exact D.out
end
end Go.Proofs.YtdonkmkjblofpaaGreatDoor.Dk
/-! ## Le -/
namespace Go.Proofs.YtdonkmkjblofpaaGreatDoor.Dk
open Go.RowKit
set_option linter.unusedVariables false

def RDid (w : World) (O : Nat → Prop) (d : Nat) (r : Int × St) (e : Ending) (w' : World) : Prop := e = .returned (.int .i64 r.1) ∧ ∃ O', Step w O w' O' ∧ IsRef w' O' d r.2
/-- Off's contract, wherever a disk lies. -/
def OffOk : Prop := ∀ (w : World) (O : Nat → Prop) (d : Nat) (fv : Value) (P Q : List UInt8 → Value) (S : St) (keep : Int), RRep w O d fv P Q S →
  Calls Tryz.prog 37 #[.pointer (some ⟨d, 0, none⟩), .int .i64 keep] w (RUnit w O d (off keep S))
theorem OffOk.at (h : OffOk) {w : World} {O : Nat → Prop} {d : Nat} {fv : Value} {P Q : List UInt8 → Value} {S : St} (keep : Int) (hr : RRep w O d fv P Q S) :
    Calls Tryz.prog 37 #[.pointer (some ⟨d, 0, none⟩), .int .i64 keep] w (RUnit w O d (off keep S)) := h w O d fv P Q S keep hr
section
variable {w w' : World} {O : Nat → Prop} {d : Nat} {fv : Value} {P Q : List UInt8 → Value} {S S' : St}
theorem there_ready {k : List UInt8} (hr : ready k S ≠ 0) : there k S = ready k S := by
  unfold there ready at *
  cases hb : badName k
  · cases hd : S.down
    · simp [hb, hd] at hr
    · simp
  · simp
theorem there_lacks {k : List UInt8} (ht : there k S ≠ 0) (hr : ready k S = 0) : look k S.fs = none ∧ there k S = 21 := by
  obtain ⟨hb, hd⟩ := ready_zero hr
  cases hl : look k S.fs with
  | none => exact ⟨rfl, by unfold there; simp [hb, hd, hl]⟩
  | some f => exact absurd (by unfold there; simp [hb, hd, hl]) ht
theorem there_ready0 {k : List UInt8} (ht : there k S = 0) : ready k S = 0 := by
  obtain ⟨hb, hd, _⟩ := there_zero ht
  unfold ready; simp [hb, hd]
set_option maxRecDepth 100000 in
set_option maxHeartbeats 1600000 in
theorem ref_remove (OF : OffOk) (h : RRep w O d fv P Q S) (s : ByteArray) (hs : s.size ≤ maxLen) :
    Calls Tryz.prog 68 #[.pointer (some ⟨d, 0, none⟩), .string s] w (RDid w O d (removeS s.data.toList S)) := by
  have cr := ref_ready h s hs
  by_cases ht : there s.data.toList S = 0
  · obtain ⟨_, _, f, hf⟩ := there_zero ht
    rw [there_ready0 ht] at cr
    obtain ⟨j, hj, ca⟩ := ref_at_some h s hf
    have H := Lib.hid h
    have CR := Lib.hid cr; have CA := Lib.hid ca; have OF := Lib.hid OF
    cases hfl : failing S with
    | true =>
      have e : removeS s.data.toList S = (20, wrote S) := by unfold removeS; rw [if_neg (by simp [ht]), if_pos hfl]
      have D : Hid (∀ w1 w2 w3, Below w.heap.size w w1 → Turned O w1 w2 → RUnit w2 O d (off S.keep (tick S)) (.returned (.tuple #[])) w3 → RDid w O d (removeS s.data.toList S) (.returned (.int .i64 20)) w3) := Lib.hid fun w1 w2 w3 h1 h2 ⟨_, O', h3, h4⟩ => by
        rw [e]
        exact ⟨rfl, O', ((Step.of (Turned.of_below h1)).trans (Step.of h2)).trans h3, by unfold wrote; rw [if_pos hfl]; exact h4⟩
      have TK : Hid (∀ w1, Below w.heap.size w w1 → Calls Tryz.prog 61 #[.pointer (some ⟨d, 0, none⟩)] w1 (fun e w2 => e = .returned (.bool true) ∧ Turned O w1 w2 ∧ RRep w2 O d fv P Q (tick S))) := Lib.hid fun w1 hb => (ref_raw (H.out.below hb)).mono fun e w2 ⟨x1, x2, x3⟩ => ⟨by rw [x1, hfl], x2, x3 _ _ _ (H.out.below hb)⟩
      clear h cr ca hf ht hj hfl e hs
      go_enter Tryz.func68, Tryz.ntmps68
      go_wp2_with (first
        | (go_at_call 57; (with_reducible refine CR.out.mono ?_); rintro e w' ⟨rfl, rfl⟩)
        | (go_at_call 58; (with_reducible refine CA.out.mono ?_); rintro e w1 ⟨rfl, hb1⟩; have HB1 := Lib.hid hb1; clear hb1)
        | (go_at_call 61; (with_reducible refine (TK.out _ HB1.out).mono ?_); rintro e w2 ⟨rfl, ht2, hr2⟩; have HT2 := Lib.hid ht2; have HR2 := Lib.hid hr2; have k5 : w2.cell? ⟨d, 5, none⟩ = some (.int .i64 S.keep) := hr2.cells.2.2.2.2.2.1; clear ht2 hr2)
        | (go_at_call 37; (with_reducible refine (OF.out.at S.keep HR2.out).mono ?_); rintro e w3 h3; have H3 := Lib.hid h3; obtain rfl := h3.1; clear h3))
      go_ret
      exact D.out _ _ _ HB1.out HT2.out H3.out
    | false =>
      have e : removeS s.data.toList S = (0, { tick S with fs := del s.data.toList S.fs }) := by unfold removeS; rw [if_neg (by simp [ht]), if_neg (by simp [hfl])]
      have D : Hid (∀ w1 w2 w3, Below w.heap.size w w1 → Turned O w1 w2 → RUnit w2 O d { tick S with fs := del s.data.toList (tick S).fs } (.returned (.tuple #[])) w3 → RDid w O d (removeS s.data.toList S) (.returned (.int .i64 0)) w3) := Lib.hid fun w1 w2 w3 h1 h2 ⟨_, O', h3, h4⟩ => by
        rw [e]
        exact ⟨rfl, O', ((Step.of (Turned.of_below h1)).trans (Step.of h2)).trans h3, h4⟩
      have TK : Hid (∀ w1, Below w.heap.size w w1 → Calls Tryz.prog 61 #[.pointer (some ⟨d, 0, none⟩)] w1 (fun e w2 => e = .returned (.bool false) ∧ Turned O w1 w2 ∧ RRep w2 O d fv P Q (tick S))) := Lib.hid fun w1 hb => (ref_raw (H.out.below hb)).mono fun e w2 ⟨x1, x2, x3⟩ => ⟨by rw [x1, hfl], x2, x3 _ _ _ (H.out.below hb)⟩
      clear h cr ca hf ht hj hfl e hs
      go_enter Tryz.func68, Tryz.ntmps68
      go_wp2_with (first
        | (go_at_call 57; (with_reducible refine CR.out.mono ?_); rintro e w' ⟨rfl, rfl⟩)
        | (go_at_call 58; (with_reducible refine CA.out.mono ?_); rintro e w1 ⟨rfl, hb1⟩; have HB1 := Lib.hid hb1; clear hb1)
        | (go_at_call 61; (with_reducible refine (TK.out _ HB1.out).mono ?_); rintro e w2 ⟨rfl, ht2, hr2⟩; have HT2 := Lib.hid ht2; have HR2 := Lib.hid hr2; clear ht2 hr2)
        | (go_at_call 88; (with_reducible refine (ref_drop HR2.out s).mono ?_); rintro e w3 h3; have H3 := Lib.hid h3; obtain rfl := h3.1; clear h3))
      go_ret
      exact D.out _ _ _ HB1.out HT2.out H3.out
  · have e1 : removeS s.data.toList S = (there s.data.toList S, S) := by unfold removeS; rw [if_pos ht]
    rw [e1]
    have D : Hid (∀ w', Below w.heap.size w w' → RDid w O d (there s.data.toList S, S) (.returned (.int .i64 (there s.data.toList S))) w') := Lib.hid fun w' hb => ⟨rfl, O, Step.of (Turned.of_below hb), _, _, _, h.below hb⟩
    by_cases hr : ready s.data.toList S = 0
    · obtain ⟨hl, e⟩ := there_lacks ht hr
      have ca := ref_at_none h s hl
      rw [hr] at cr
      rw [e] at D ⊢
      have CR := Lib.hid cr; have CA := Lib.hid ca
      clear cr ca h ht hr hl e e1 hs
      go_enter Tryz.func68, Tryz.ntmps68
      go_wp2_with (first | (go_at_call 57; (with_reducible refine CR.out.mono ?_); rintro e w' ⟨rfl, rfl⟩) | (go_at_call 58; (with_reducible refine CA.out.mono ?_); rintro e w1 ⟨rfl, hb1⟩; have HB1 := Lib.hid hb1; clear hb1))
      go_ret
      exact D.out _ HB1.out
    · have e := there_ready hr
      rw [e] at D ⊢
      generalize ready s.data.toList S = r at *
      have CR := Lib.hid cr
      have t1 : (r == 0) = false := by simpa using hr
      have t2 : (r != 0) = true := by simpa using hr
      clear cr h ht hr e e1 hs
      go_enter Tryz.func68, Tryz.ntmps68
      go_wp2_with (go_at_call 57; (with_reducible refine CR.out.mono ?_); rintro e w' ⟨rfl, rfl⟩)
      go_ret
      exact D.out _ (Below.refl _ _)
end
end Go.Proofs.YtdonkmkjblofpaaGreatDoor.Dk
/-! ## Lf -/
namespace Go.Proofs.YtdonkmkjblofpaaGreatDoor.Dk
open Go.RowKit
set_option linter.unusedVariables false

/-- The first j files are cut. -/
def cutTo (keep : Int) (j : Nat) (fs : List File) : List File := (fs.take j).map (cut keep) ++ fs.drop j
theorem cutTo_zero (keep : Int) (fs : List File) : cutTo keep 0 fs = fs := by simp [cutTo]
theorem cutTo_all (keep : Int) {j : Nat} {fs : List File} (h : fs.length ≤ j) : cutTo keep j fs = fs.map (cut keep) := by simp [cutTo, List.take_of_length_le h, List.drop_of_length_le h]
theorem cutTo_length (keep : Int) (j : Nat) (fs : List File) : (cutTo keep j fs).length = fs.length := by simp [cutTo]; omega
theorem cutTo_at (keep : Int) {j : Nat} {fs : List File} (hj : j < fs.length) : (cutTo keep j fs)[j]? = fs[j]? := by
  unfold cutTo
  rw [List.getElem?_append_right (by simp; omega), List.getElem?_drop]
  congr 1; simp; omega
theorem cutTo_step (keep : Int) {j : Nat} {fs : List File} (hd : fs.Pairwise fun a b => a.nm ≠ b.nm) {f : File} (hj : fs[j]? = some f) : upd f.nm (cut keep) (cutTo keep j fs) = cutTo keep (j + 1) fs := by
  obtain ⟨h1, h2⟩ := List.getElem?_eq_some_iff.1 hj
  have hp := List.pairwise_iff_getElem.1 hd
  unfold cutTo upd
  rw [List.map_append, List.take_succ_eq_append_getElem h1, List.drop_eq_getElem_cons h1, h2, List.map_append, List.append_assoc]
  congr 1
  · rw [List.map_map]
    refine List.map_congr_left fun g hg => ?_
    obtain ⟨i, hi, rfl⟩ := List.mem_iff_getElem.1 hg
    simp at hi ⊢
    intro e
    exact absurd (show (fs[i]'(by omega)).nm = (fs[j]).nm by rw [h2]; exact e) (hp i j (by omega) h1 (by omega))
  · rw [List.map_cons, if_pos rfl]
    simp only [List.map_cons, List.map_nil, List.cons_append, List.nil_append]
    congr 1
    have : ∀ L : List File, (∀ g ∈ L, g.nm ≠ f.nm) → L.map (fun g => if g.nm = f.nm then cut keep g else g) = L := fun L hL => by
      induction L with
      | nil => rfl
      | cons a r ih => rw [List.map_cons, if_neg (hL a (by simp)), ih fun g hg => hL g (by simp [hg])]
    refine this _ fun g hg => ?_
    obtain ⟨i, hi, rfl⟩ := List.mem_iff_getElem.1 hg
    simp at hi ⊢
    intro e
    exact absurd (show (fs[j]).nm = (fs[j + 1 + i]'(by omega)).nm by rw [h2]; exact e.symm) (hp j (j + 1 + i) h1 (by omega) (by omega))
def OffAt (w wr : World) (O : Nat → Prop) (d : Nat) (keep : Int) (S : St) (j : Nat) : Prop := ∃ O' fv P Q, RRep wr O' d fv P Q { S with fs := cutTo keep j S.fs } ∧ Step w O wr O'
/-- The box of the file that is cut. -/
def BoxAt (wo wr : World) (O : Nat → Prop) (nm : ByteArray) (q : Value) (l : List Int) (v : Value) : Prop := Below wo.heap.size wo wr ∧ wr.heap[wo.heap.size]? = some (.cells #[.string nm, v, q] 87 (0, 0)) ∧ Part wr (OwnUp O wo wr) v l
theorem BoxAt.cells {wo wr : World} {O : Nat → Prop} {nm : ByteArray} {q v : Value} {l : List Int} (h : BoxAt wo wr O nm q l v) : wr.cell? ⟨wo.heap.size, 0, none⟩ = some (.string nm) ∧ wr.cell? ⟨wo.heap.size, 1, none⟩ = some v ∧ wr.cell? ⟨wo.heap.size, 2, none⟩ = some q ∧ ∀ i, wr.frozen? ⟨wo.heap.size, i, none⟩ = false :=
  ⟨Joins.cell_of_block h.2.1 0, Joins.cell_of_block h.2.1 1, Joins.cell_of_block h.2.1 2, fun i => Joins.unfrozen_of_block h.2.1 i⟩
theorem BoxAt.store {wo wr w4 : World} {O : Nat → Prop} {nm : ByteArray} {q v v4 : Value} {l l4 : List Int} (h : BoxAt wo wr O nm q l v) (hb : Below wr.heap.size wr w4) (ho : Ob.OwnB w4 wr.heap.size v4 l4) : BoxAt wo (w4.setCell ⟨wo.heap.size, 1, none⟩ v4) O nm q l4 v4 := by
  have hlt : wo.heap.size < wr.heap.size := (Array.getElem?_eq_some_iff.1 h.2.1).1
  have hblk : w4.heap[wo.heap.size]? = some (.cells #[.string nm, v, q] 87 (0, 0)) := (hb.block _ hlt).trans h.2.1
  have hk : ∀ k, k ≠ wo.heap.size → (w4.setCell ⟨wo.heap.size, 1, none⟩ v4).heap[k]? = w4.heap[k]? := fun k hk => Below.heap_setCell w4 _ v4 k hk
  have hkd := row_kind ho
  refine ⟨(h.1.trans (hb.mono h.1.size)).setCell (Nat.le_refl _) _, Joins.block_setCell (i := 1) hblk v4, row_base (row_move ho fun g e => hk g fun e2 => ?_), fun b e => .inr ⟨?_, ?_⟩⟩
  · have := (hkd g e).1; omega
  · have := (hkd b e).1; omega
  · obtain ⟨_, cur, hc⟩ := hkd b e
    have := (Array.getElem?_eq_some_iff.1 hc).1
    simpa using this
theorem OffAt.next {w wo wr w3 : World} {O O' : Nat → Prop} {d q j cap : Nat} {fv v qv : Value} {P Q : List UInt8 → Value} {S : St} {keep : Int} {f : File} (hr : RRep wo O' d fv P Q { S with fs := cutTo keep j S.fs }) (hst : Step w O wo O')
    (hf : S.fs[j]? = some f) (hj : (cutTo keep j S.fs)[j]? = some f) (e0 : fv = .slice (some ⟨q, 0, none⟩) (cutTo keep j S.fs).length cap) (hd : S.fs.Pairwise fun a b => a.nm ≠ b.nm)
    (hb : BoxAt wo wr O' (str f.nm) qv (f.l.take (cutN keep f)) v)
    (hw : w3 = ((wr.drew.setCell ⟨q, j * 3, none⟩ (.string (str f.nm))).setCell ⟨q, j * 3 + 1, none⟩ v).setCell ⟨q, j * 3 + 2, none⟩ (.slice none 0 0)) : OffAt w w3 O d keep S (j + 1) := by
  have hg := hr.good
  have hgood : Good { S with fs := upd f.nm (cut keep) (cutTo keep j S.fs) } := good_upd hg (fun _ _ => rfl) (fun g hm => by rw [cut_len (hg.safe g hm)]; exact Nat.le_refl _) (fun g hm => by
    rw [cut_len (hg.safe g hm)]; have := (cutN_le (keep := keep) (hg.safe g hm)).2; have := hg.size g hm; omega)
  have hp : Part wr (OwnUp O' wo wr) v ((cut keep f).l.take (cut keep f).s) := by
    have : (cut keep f).l.take (cut keep f).s = f.l.take (cutN keep f) := by simp [cut, List.take_take]
    rw [this]; exact hb.2.2
  have hn : Part wr (OwnUp O' wo wr) (.slice none 0 0) ((cut keep f).l.drop (cut keep f).s) := by
    have : (cut keep f).l.drop (cut keep f).s = [] := by simp [cut]
    rw [this]
    exact ⟨⟨rfl, .inl ⟨rfl, rfl⟩⟩, fun b e => by cases e⟩
  have h1 := hr.set (w1 := wr.drew) hb.1.drew hj e0 (cut keep) rfl (p := v) (r := .slice none 0 0) ⟨hp.move (O' := OwnUp O' wo wr.drew) (fun _ h => h) fun _ _ => rfl, hn.move (O' := OwnUp O' wo wr.drew) (fun _ h => h) fun _ _ => rfl⟩ hgood hw
  rw [show upd f.nm (cut keep) ({ S with fs := cutTo keep j S.fs } : St).fs = cutTo keep (j + 1) S.fs from cutTo_step keep hd hf] at h1
  exact ⟨_, _, _, _, h1.1, hst.trans h1.2⟩
theorem OffAt.done {w wr : World} {O : Nat → Prop} {d n : Nat} {S : St} {keep : Int} (h : OffAt w wr O d keep S n) (hn : S.fs.length ≤ n) (hu : S.down = false) {w3 : World} (hw : w3 = (wr.setCell ⟨d, 2, none⟩ (.bool false)).setCell ⟨d, 4, none⟩ (.int .i64 0)) : RUnit w O d (off keep S) (.returned (.tuple #[])) w3 := by
  subst hw
  obtain ⟨O', fv, P, Q, hr, hst⟩ := h
  have h1 := hr.field (S' := { S with fs := cutTo keep n S.fs, down := true }) 2 (.bool false) (by simp [rcells]) rfl hr.good.arm
  have h2 := h1.field (S' := { S with fs := cutTo keep n S.fs, down := true, arm := 0 }) 4 (.int .i64 0) (by simp [rcells]) rfl (Nat.zero_le _)
  have e : off keep S = { S with fs := cutTo keep n S.fs, down := true, arm := 0 } := by unfold off; rw [if_neg (by simp [hu]), cutTo_all keep hn]
  rw [e]
  exact ⟨rfl, O', hst.trans (Step.of ((Turned.setCell _ 2 hr.od _).trans (Turned.setCell _ 4 hr.od _))), fv, P, Q, h2⟩
theorem own_blk {W : World} {base g : Nat} (h : W.heap[g]? = some (.cells #[] 5 (0, 0))) (hb : base ≤ g) : Ob.OwnB W base (.slice (some ⟨g, 0, none⟩) 0 0) [] :=
  ⟨rfl, .inr ⟨g, 0, #[], rfl, hb, h, Nat.le_refl _, by decide, rfl, rfl⟩⟩
theorem row_blk {W : World} {g : Nat} {z : Int} (h : W.heap[g]? = some (.cells #[.int .u8 z] 5 (0, 0))) : Fr.HasRow .u8 W (some ⟨g, 0, none⟩) 1 [z] := by
  refine ⟨Nat.le_refl _, by decide, fun _ => ⟨g, 0, rfl, fun j hj => ?_⟩⟩
  match j, hj with
  | 0, _ => exact Joins.cell_of_block h 0
theorem blk1 (w : World) (o : Obj) : (w.alloc o).heap[w.heap.size]? = some o := (MapKept.heap_alloc w o).1
theorem blkA (w : World) (o : Obj) : (w.alloc o).drew.heap[w.heap.size]? = some o := blk1 w o
theorem blkB (w : World) (a b : Obj) : ((w.alloc a).alloc b).drew.heap[w.heap.size + 1]? = some b := by
  have := blk1 (w.alloc a) b
  rwa [show (w.alloc a).heap.size = w.heap.size + 1 by simp] at this
theorem blkC (w : World) (a b : Obj) : ((w.alloc a).alloc b).drew.heap[w.heap.size]? = some a := ((MapKept.heap_alloc _ b).2 _ (by simp)).trans (blk1 w a)
/-- The byte's block behind the first append: made ahead of it, last or first. -/
theorem blk3 {w w3 : World} {a b : Obj} {n c : Nat} (h : ((w.alloc a).alloc b).drew.grownBy w3 (Value.slice (some ⟨w.heap.size, 0, none⟩) n c).ownBlock) : w3.heap[w.heap.size + 1]? = some b :=
  (h.block (w.heap.size + 1) (by show _ < ((w.alloc a).alloc b).heap.size; simp) (by simp [Value.ownBlock])).trans (blkB w a b)
theorem blk4 {w w3 : World} {a b : Obj} {n c : Nat} (h : ((w.alloc a).alloc b).drew.grownBy w3 (Value.slice (some ⟨w.heap.size + 1, 0, none⟩) n c).ownBlock) : w3.heap[w.heap.size]? = some a :=
  (h.block w.heap.size (by show _ < ((w.alloc a).alloc b).heap.size; simp; omega) (by simp [Value.ownBlock])).trans (blkC w a b)
attribute [local go_sem] World.cell?_alloc_some
section
variable {w w' : World} {O : Nat → Prop} {d : Nat} {fv : Value} {P Q : List UInt8 → Value} {S S' : St}
set_option maxRecDepth 100000 in
set_option maxHeartbeats 1600000 in
theorem ref_off_up (h : RRep w O d fv P Q S) (keep : Int) (hdn : S.down = false) :
    Calls Tryz.prog 37 #[.pointer (some ⟨d, 0, none⟩), .int .i64 keep] w (RUnit w O d (off keep S)) := by
  obtain ⟨n, hn⟩ : ∃ n, S.fs.length = n := ⟨_, rfl⟩
  have hfew := h.good.few
  obtain ⟨ad, cap, hfv⟩ := h.val
  have H := Lib.hid h
  have HN := Lib.hid hn; have HDN := Lib.hid hdn
  obtain ⟨c0, _, c2, _⟩ := h.cells
  rw [hfv, hn] at c0
  rw [hdn] at c2
  rw [hn] at hfew
  have HS : Hid (OffAt w w O d keep S 0) := Lib.hid ⟨O, fv, P, Q, by rw [cutTo_zero]; exact h, Step.refl w O⟩
  have hdis := Lib.hid (distinct h.good.sorted)
  have hsafe := Lib.hid h.good.safe
  clear h hfv hn hdn
  go_enter Tryz.func37, Tryz.ntmps37
  go_wp2
  go_loopg [17] n (fun m i wr => ∃ j : Nat, j + m = n ∧ i = .int .i64 (j : Int) ∧ Hid (OffAt w wr O d keep S j))
  case atStart => exact ⟨0, by omega, rfl, HS⟩
  case round =>
    obtain ⟨j, hj, rfl, HO⟩ := hrel
    obtain ⟨wo, rfl⟩ : ∃ wo, wo = wr := ⟨_, rfl⟩
    by_cases hlt : j < n
    · obtain ⟨O', fv', P', Q', hr, hst⟩ := HO.out
      obtain ⟨f, hf⟩ : ∃ f, S.fs[j]? = some f := ⟨_, List.getElem?_eq_getElem (by rw [HN.out]; exact hlt)⟩
      have hj' : (cutTo keep j S.fs)[j]? = some f := by rw [cutTo_at keep (by rw [HN.out]; exact hlt)]; exact hf
      obtain ⟨q, n', cap', p1, p2, x1, x2, c1, c2', hn', hfew', hjn, e0, e1, e2, hx1, hx2, k1, k2, k3, k4, k5, k6, HX1, k8, k9, SEE⟩ := hr.see hj'
      have hlen : n' = n := by rw [← hn', ← HN.out]; exact cutTo_length _ _ _
      subst hlen
      have hmem : f ∈ S.fs := List.mem_of_getElem? hf
      have hs := hsafe.out f hmem
      have HR := Lib.hid hr; have HST := Lib.hid hst
      have SE := Lib.hid SEE
      have s0 := SEE wo (Below.refl _ _)
      obtain ⟨nm, hnm⟩ : ∃ nm, str f.nm = nm := ⟨_, rfl⟩
      rw [hnm] at s0
      obtain ⟨z0, a0, a1, a2, fz, r1, r2⟩ := s0
      have HX := Lib.hid HX1.out
      have hsx : x1 + x2 = f.l.length := k8
      have B0 : Hid (BoxAt wo (wo.alloc (.cells #[.string nm, .slice p1 x1 c1, .slice p2 x2 c2'] 87)) O' nm (.slice p2 x2 c2') (f.l.take (x1 + 0)) (.slice p1 (x1 + 0) c1)) := Lib.hid ⟨(Below.refl _ _).alloc (Nat.le_refl _) _, (MapKept.heap_alloc wo _).1, by
        have := (hr.files f (by
          have := List.mem_of_getElem? hj'; exact this)).safe
        rw [e1, ← HX.out] at this
        exact this.move (fun i hi => .inl hi) fun g e => (MapKept.heap_alloc wo _).2 g (by have := this.own.lt g e; omega)⟩
      have HJ := Lib.hid hj'; have HF := Lib.hid hf; have E0 := Lib.hid e0; have HNM := Lib.hid hnm
      have hqd : q ≠ d := hr.ne.1 q (by rw [e0]; rfl)
      have hlq : q < wo.heap.size := Fr.lt_of_cell a0
      have hld : d < wo.heap.size := hr.dom d hr.od
      clear SEE hr hst e0 e1 e2 hj' hf hmem HX1 hn' hnm
      go_wp2
      go_loopg [6] x2 (fun m i wr => ∃ (k : Nat) (va : Option Addr) (vc : Nat), k + m = x2 ∧ i = .int .i64 (k : Int) ∧ (k : Int) ≤ max keep 0 ∧ Hid (BoxAt wo wr O' nm (.slice p2 x2 c2') (f.l.take (x1 + k)) (.slice va (x1 + k) vc)))
      case atStart => exact ⟨0, _, _, by omega, rfl, by omega, B0⟩
      case round =>
        obtain ⟨k, va, vc, hk, rfl, hkk, HB⟩ := hrel
        obtain ⟨b0, b1, b2, bf⟩ := HB.out.cells
        by_cases hin : k < x2 ∧ (k : Int) < keep
        · obtain ⟨h1, h2⟩ := hin
          · have SW := Lib.hid (SE.out _ HB.out.1)
            obtain ⟨qb, qo, hq, hqc⟩ := SW.out.r2.2.2 (by omega)
            have hqk := hqc k h1
            obtain ⟨z, hz⟩ : ∃ z, (List.drop f.s f.l).getD k 0 = z := ⟨_, rfl⟩
            rw [hz] at hqk
            have HZ := Lib.hid hz
            have hl1 : (f.l.take (x1 + k)).length = x1 + k := by simp; omega
            obtain ⟨lk, hlk⟩ : ∃ lk, f.l.take (x1 + k) = lk := ⟨_, rfl⟩
            rw [hlk] at hl1 HB
            have HLK := Lib.hid hlk
            have HL4 : Hid (lk ++ [z] = f.l.take (x1 + (k + 1))) := Lib.hid (by
              have hd0 : (List.drop f.s f.l)[k]? = some z := by
                rw [List.getD_eq_getElem?_getD] at hz
                have : k < (List.drop f.s f.l).length := by rw [hx2]; exact h1
                rw [List.getElem?_eq_getElem this] at hz ⊢
                simpa using hz
              rw [List.getElem?_drop, ← HX.out] at hd0
              obtain ⟨h3, h4⟩ := List.getElem?_eq_some_iff.1 hd0
              rw [show x1 + (k + 1) = (x1 + k) + 1 by omega, List.take_succ_eq_append_getElem h3, hlk, h4])
            obtain ⟨va', vc', ev, kv, kv2, kv3, rv⟩ := HB.out.2.2.row
            rw [hl1] at ev rv
            simp only [Value.slice.injEq, true_and] at ev
            obtain ⟨rfl, rfl⟩ := ev
            have RV : Hid (∀ wx, Below wr.heap.size wr wx → Fr.HasRow .u8 wx va (x1 + k) lk) := Lib.hid fun wx hb => rv.keep hb
            have hbw := HB.out.1
            have HQK := Lib.hid hqk; have HBX := Lib.hid HB.out.2.1
            have KS : Hid (∀ wx, Below wr.heap.size wr wx → wx.cell? ⟨wo.heap.size, 2, none⟩ = some (.slice (some ⟨qb, qo, none⟩) x2 c2') ∧ wx.cell? ⟨qb, qo + k, none⟩ = some (.int .u8 z)) := Lib.hid fun wx hb => ⟨(hb.cell (p := ⟨wo.heap.size, 2, none⟩) (Fr.lt_of_cell b2)).trans (by rw [← hq]; exact b2), (hb.cell (p := ⟨qb, qo + k, none⟩) (Fr.lt_of_cell HQK.out)).trans HQK.out⟩
            have s0 := (Below.refl wr.heap.size wr)
            have hl5 : (([] : List Int) ++ lk.take (x1 + k)).length + 1 ≤ 140737488355328 := by simp; omega
            have hl6 : (([] : List Int) ++ lk.take (x1 + k) ++ List.take 1 [z]).length = x1 + (k + 1) := by simp; omega
            have FZ : Hid (∀ wx, Below wr.heap.size wr wx → wx.frozen? ⟨wo.heap.size, 1, none⟩ = false ∧ wx.cell? ⟨wo.heap.size, 1, none⟩ = some (.slice va (x1 + k) vc)) := Lib.hid fun wx hb => ⟨(hb.frozen (p := ⟨wo.heap.size, 1, none⟩) (Fr.lt_of_cell b1)).trans (bf 1), (hb.cell (p := ⟨wo.heap.size, 1, none⟩) (Fr.lt_of_cell b1)).trans b1⟩
            have hl7 : ([] : List Int).length + (x1 + k) ≤ 140737488355328 := by simp; omega
            have hnn : ∀ {a : Addr}, (some a : Option Addr) = none → (1 : Nat) = 0 := fun h => by cases h
            have DB : Hid (∀ w4 va4 vc4, Below wr.heap.size wr w4 → Ob.OwnB w4 wr.heap.size (.slice va4 (x1 + (k + 1)) vc4) ([] ++ lk.take (x1 + k) ++ List.take 1 [z]) → BoxAt wo (w4.setCell ⟨wo.heap.size, 1, none⟩ (.slice va4 (x1 + (k + 1)) vc4)) O' nm (.slice p2 x2 c2') (f.l.take (x1 + (k + 1))) (.slice va4 (x1 + (k + 1)) vc4)) := Lib.hid fun w4 va4 vc4 hb ho => by
              have := HB.out.store hb ho
              rw [← HL4.out]
              simpa [List.take_of_length_le, hl1] using this
            subst hq
            clear hqc hz hlk rv hbw hx1 hx2
            go_wp2
            have c2a := (KS.out _ s0).1; have c2b := (KS.out _ s0).2
            go_region_law (first
                | (refine step_apd (by rfl) (.tmp 39) (.tmp 41) (by rfl) wr wr.heap.size (by (repeat (first | assumption | exact s0 | (refine below_alloc ?_ (Nat.le_refl _)) | refine Below.drew ?_))) (.slice (some ⟨_, 0, none⟩) 0 0) [] (by rfl) (own_blk (by first | exact blkA _ _ | exact blkB _ _ _ | exact blkC _ _ _) (by first | exact Nat.le_refl _ | (simp))) va (x1 + k) vc lk (by rfl) (RV.out _ (by (repeat (first | assumption | exact s0 | (refine below_alloc ?_ (Nat.le_refl _)) | refine Below.drew ?_)))) kv hl7 (Nat.le_refl _) ?_;
                   intro v3 w3 ho3 hb3 hg3; have c3a := (KS.out _ hb3).1; have c3b := (KS.out _ hb3).2; have c3c := (FZ.out _ hb3).2)
                | (refine step_apd (by rfl) (.tmp 42) (.tmp 48) (by rfl) wr wr.heap.size (by (repeat (first | assumption | exact s0 | (refine below_alloc ?_ (Nat.le_refl _)) | refine Below.drew ?_))) v3 ([] ++ lk.take (x1 + k)) (by rfl) (by first | exact ho3 | exact Ob.own_keep ho3 (below_alloc (Below.refl _ _) (Nat.le_refl _))) (some ⟨_, 0, none⟩) 1 1 [z] (by rfl) (row_blk (by first | exact blk1 _ _ | exact blk3 hg3 | exact blk4 hg3)) hnn hl5 (Nat.le_refl _) ?_;
                   intro v4 w4 ho4 hb4 hg4; obtain ⟨va4, vc4, e4, _⟩ := Ob.own_row ho4; rw [hl6] at e4; subst e4; have BX4 := Lib.hid (DB.out w4 va4 vc4 hb4 ho4); have fz4 := (FZ.out _ hb4).1; have fz5 := (FZ.out _ hb4).2))
            all_goals
              clear c2a c2b
              go_wp2
              go_roundg (x2 - (k + 1))
              case measure => omega
              case rel => exact ⟨k + 1, va4, vc4, by omega, by go_num, by omega, BX4⟩
        · have hkc : x1 + k = cutN keep f := by have := HX.out; unfold cutN; omega
          have SW := Lib.hid (SE.out _ HB.out.1)
          obtain ⟨z0', a0', a1', a2', fz', _, _⟩ := SW.out
          have fzd := fun i => Joins.unfrozen_of_block (HR.out.below HB.out.1).blk i
          have D9 : Hid (∀ w3, w3 = ((wr.drew.setCell ⟨q, j * 3, none⟩ (.string nm)).setCell ⟨q, j * 3 + 1, none⟩ (.slice va (x1 + k) vc)).setCell ⟨q, j * 3 + 2, none⟩ (.slice none 0 0) → OffAt w w3 O d keep S (j + 1)) := Lib.hid fun w3 e => by
            have hb := HB.out
            rw [hkc, ← HNM.out] at hb
            rw [hkc, ← HNM.out] at e
            exact OffAt.next HR.out HST.out HF.out HJ.out E0.out hdis.out hb e
          have hqb : q ≠ wo.heap.size := by omega
          have hdb : d ≠ wo.heap.size := by omega
          have fz0 := fz' (j * 3); have fz1 := fz' (j * 3 + 1); have fz2 := fz' (j * 3 + 2)
          have hj0 : (0 : Int) ≤ (j : Int) := by omega
          have hjn2 : (j : Int) < (n' : Int) := by omega
          clear fzd hx1 hx2 SW hkc fz' bf
          have KS : Hid (∀ wx : World, wx.cell? ⟨d, 0, none⟩ = some (.slice (some ⟨q, 0, none⟩) n' cap') ∧ wx.cell? ⟨wo.heap.size, 0, none⟩ = some (.string nm) ∧ wx.cell? ⟨wo.heap.size, 1, none⟩ = some (.slice va (x1 + k) vc) → ∀ x y z : Value, (((wx.setCell ⟨q, j * 3, none⟩ x).setCell ⟨q, j * 3 + 1, none⟩ y).setCell ⟨q, j * 3 + 2, none⟩ z).cell? ⟨d, 0, none⟩ = some (.slice (some ⟨q, 0, none⟩) n' cap') ∧ (((wx.setCell ⟨q, j * 3, none⟩ x).setCell ⟨q, j * 3 + 1, none⟩ y).setCell ⟨q, j * 3 + 2, none⟩ z).cell? ⟨wo.heap.size, 0, none⟩ = some (.string nm) ∧ (((wx.setCell ⟨q, j * 3, none⟩ x).setCell ⟨q, j * 3 + 1, none⟩ y).setCell ⟨q, j * 3 + 2, none⟩ z).cell? ⟨wo.heap.size, 1, none⟩ = some (.slice va (x1 + k) vc)) := Lib.hid fun wx hx x y z => by
            have far : ∀ (a : Addr), a.block ≠ q → (((wx.setCell ⟨q, j * 3, none⟩ x).setCell ⟨q, j * 3 + 1, none⟩ y).setCell ⟨q, j * 3 + 2, none⟩ z).cell? a = wx.cell? a := fun a ha => by
              rw [World.cell?_setCell_far _ _ _ _ (Ne.symm ha), World.cell?_setCell_far _ _ _ _ (Ne.symm ha), World.cell?_setCell_far _ _ _ _ (Ne.symm ha)]
            rw [far _ (Ne.symm hqd), far _ (Ne.symm hqb), far _ (Ne.symm hqb)]
            exact hx
          by_cases h1 : k < x2
          · have h2 : ¬ (k : Int) < keep := fun h => hin ⟨h1, h⟩
            clear hin
            go_wp2
            go_region_held3 (fun wx => wx.cell? ⟨d, 0, none⟩ = some (.slice (some ⟨q, 0, none⟩) n' cap') ∧ wx.cell? ⟨wo.heap.size, 0, none⟩ = some (.string nm) ∧ wx.cell? ⟨wo.heap.size, 1, none⟩ = some (.slice va (x1 + k) vc))
              (first | exact ⟨z0', b0, b1⟩ | exact KS.out _ ⟨z0', b0, b1⟩ _ _ _)
              (fail)
            go_split_ands
            go_wp2
            go_roundg (n' - (j + 1))
            case measure => omega
            case rel => exact ⟨j + 1, by omega, by go_num, Lib.hid (D9.out _ rfl)⟩
          · clear hin
            go_wp2
            go_region_held3 (fun wx => wx.cell? ⟨d, 0, none⟩ = some (.slice (some ⟨q, 0, none⟩) n' cap') ∧ wx.cell? ⟨wo.heap.size, 0, none⟩ = some (.string nm) ∧ wx.cell? ⟨wo.heap.size, 1, none⟩ = some (.slice va (x1 + k) vc))
              (first | exact ⟨z0', b0, b1⟩ | exact KS.out _ ⟨z0', b0, b1⟩ _ _ _)
              (fail)
            go_split_ands
            go_wp2
            go_roundg (n' - (j + 1))
            case measure => omega
            case rel => exact ⟨j + 1, by omega, by go_num, Lib.hid (D9.out _ rfl)⟩
    · obtain rfl : n = j := by omega
      have D : Hid (∀ w3, w3 = (wo.setCell ⟨d, 2, none⟩ (.bool false)).setCell ⟨d, 4, none⟩ (.int .i64 0) → RUnit w O d (off keep S) (.returned (.tuple #[])) w3) := Lib.hid fun w3 e => HO.out.done (by rw [HN.out]; exact Nat.le_refl _) HDN.out e
      have F2 : wo.frozen? ⟨d, 2, none⟩ = false ∧ wo.frozen? ⟨d, 4, none⟩ = false ∧ (∃ x, wo.cell? ⟨d, 2, none⟩ = some (.bool x)) ∧ ∃ x, wo.cell? ⟨d, 4, none⟩ = some (.int .i64 x) := by
        obtain ⟨O', fv', P', Q', hr, _⟩ := HO.out
        obtain ⟨_, _, y2, _, y4, _, yf⟩ := hr.cells
        exact ⟨yf 2, yf 4, ⟨_, y2⟩, _, y4⟩
      obtain ⟨f2, f4, ⟨y2, g2⟩, y4, g4⟩ := F2
      go_wp2
      (first | go_end0 | refine bodyPost_ret (results_none rfl _ _ _) rfl ?_)
      exact D.out _ rfl
theorem ref_off : OffOk := fun w O d fv P Q S keep h => by
  cases hdn : S.down with
  | false => exact ref_off_up h keep hdn
  | true =>
    obtain ⟨_, _, c2, _⟩ := h.cells
    rw [hdn] at c2
    have D : Hid (RUnit w O d (off keep S) (.returned (.tuple #[])) w) := Lib.hid ⟨rfl, O, Step.refl _ _, fv, P, Q, by unfold off; rw [if_pos hdn]; exact h⟩
    clear h hdn
    go_enter Tryz.func37, Tryz.ntmps37
    go_wp2
    (first | go_end0 | refine bodyPost_ret (results_none rfl _ _ _) rfl ?_)
    exact D.out
end
end Go.Proofs.YtdonkmkjblofpaaGreatDoor.Dk
/-! ## Lh -/
namespace Go.Proofs.YtdonkmkjblofpaaGreatDoor.Dk
open Go.RowKit
set_option linter.unusedVariables false

theorem part_own {w w' : World} {O : Nat → Prop} {base : Nat} {v : Value} {l : List Int} (h : Ob.OwnB w' base v l) (hb : w.heap.size ≤ base) : Part w' (OwnUp O w w') v l := by
  refine ⟨row_base h, fun b e => .inr ?_⟩
  obtain ⟨h1, cur, hc⟩ := row_kind h b e
  exact ⟨Nat.le_trans hb h1, (Array.getElem?_eq_some_iff.1 hc).1⟩
theorem part_nil (w : World) (O : Nat → Prop) : Part w O (.slice none 0 0) [] := ⟨⟨rfl, .inl ⟨rfl, rfl⟩⟩, fun b e => by cases e⟩
section
variable {w w' : World} {O : Nat → Prop} {d : Nat} {fv : Value} {P Q : List UInt8 → Value} {S S' : St}
/-- What a call reads of the j-th file, with the slices' values known. -/
theorem RRep.seen (h : RRep w O d fv P Q S) {j : Nat} {f : File} (hj : S.fs[j]? = some f) {q n cap : Nat} {p1 p2 : Option Addr} {x1 x2 c1 c2 : Nat} (hn : S.fs.length = n) (e0 : fv = .slice (some ⟨q, 0, none⟩) n cap) (e1 : P f.nm = .slice p1 x1 c1) (e2 : Q f.nm = .slice p2 x2 c2) :
    ∀ wx, Below w.heap.size w wx → See wx d q n cap j (str f.nm) p1 p2 x1 x2 c1 c2 (f.l.take f.s) (f.l.drop f.s) := by
  obtain ⟨q', n', cap', p1', p2', x1', x2', c1', c2', hn', _, _, e0', e1', e2', _, _, _, _, _, _, _, _, _, _, _, SEE⟩ := h.see hj
  rw [e0, ← hn] at e0'
  rw [e1] at e1'
  rw [e2] at e2'
  simp only [Value.slice.injEq, Option.some.injEq, Addr.mk.injEq, true_and, and_true] at e0' e1' e2'
  obtain ⟨rfl, rfl⟩ := e0'
  obtain ⟨rfl, rfl, rfl⟩ := e1'
  obtain ⟨rfl, rfl, rfl⟩ := e2'
  rw [← hn, hn']
  exact SEE
/-- The j-th file has been stored in its place. -/
theorem set_done {w2 w4 w3 : World} {S2 : St} (hst : Step w O w2 O) (hr : RRep w2 O d fv P Q S2) {j q cap : Nat} {f : File} (hj : S2.fs[j]? = some f) (e0 : fv = .slice (some ⟨q, 0, none⟩) S2.fs.length cap) (hb4 : Below w2.heap.size w2 w4) (φ : File → File) (hφ : (φ f).nm = f.nm) {p r : Value}
    (hfs : RFile w4 (OwnUp O w2 w4) p r (φ f)) (hg : Good { S2 with fs := upd f.nm φ S2.fs }) (hw : w3 = ((w4.setCell ⟨q, j * 3, none⟩ (.string (str f.nm))).setCell ⟨q, j * 3 + 1, none⟩ p).setCell ⟨q, j * 3 + 2, none⟩ r) {res : Int × St} (hres : res = (0, { S2 with fs := upd f.nm φ S2.fs })) : RDid w O d res (.returned (.int .i64 0)) w3 := by
  have h1 := hr.set hb4 hj e0 φ hφ hfs hg hw
  subst hres
  exact ⟨rfl, _, hst.trans h1.2, _, _, _, h1.1⟩
theorem far3 {wx : World} {q : Nat} {a : Addr} (i1 i2 i3 : Nat) (x y z : Value) (ha : a.block ≠ q) : (((wx.setCell ⟨q, i1, none⟩ x).setCell ⟨q, i2, none⟩ y).setCell ⟨q, i3, none⟩ z).cell? a = wx.cell? a := by
  rw [World.cell?_setCell_far _ _ _ _ (Ne.symm ha), World.cell?_setCell_far _ _ _ _ (Ne.symm ha), World.cell?_setCell_far _ _ _ _ (Ne.symm ha)]
theorem box_cells {wb w2 wx : World} {a b c : Value} {t : TypeId} (hwb : wb = w2.alloc (.cells #[a, b, c] t)) (hb : Below wb.heap.size wb wx) : wx.cell? ⟨w2.heap.size, 0, none⟩ = some a ∧ wx.cell? ⟨w2.heap.size, 1, none⟩ = some b ∧ wx.cell? ⟨w2.heap.size, 2, none⟩ = some c ∧ Below w2.heap.size w2 wx := by
  have hn : wb.heap[w2.heap.size]? = some (.cells #[a, b, c] t (0, 0)) := by rw [hwb]; exact (MapKept.heap_alloc w2 _).1
  have hx : wx.heap[w2.heap.size]? = some (.cells #[a, b, c] t (0, 0)) := (hb.block _ (Array.getElem?_eq_some_iff.1 hn).1).trans hn
  have h0 : Below w2.heap.size w2 wb := by rw [hwb]; exact (Below.refl _ _).alloc (Nat.le_refl _) _
  exact ⟨Joins.cell_of_block hx 0, Joins.cell_of_block hx 1, Joins.cell_of_block hx 2, h0.trans (hb.mono h0.size)⟩
/-- What every call has ahead of its raw write: the disk behind it, and what it then answers if the power goes. -/
theorem raw_tells (h : RRep w O d fv P Q S) (b : Bool) (hfl : failing S = b) : ∀ w1, Below w.heap.size w w1 → Calls Tryz.prog 61 #[.pointer (some ⟨d, 0, none⟩)] w1 (fun e w2 => e = .returned (.bool b) ∧ Turned O w1 w2 ∧ RRep w2 O d fv P Q (tick S)) :=
  fun w1 hb => (ref_raw (h.below hb)).mono fun e w2 ⟨x1, x2, x3⟩ => ⟨by rw [x1, hfl], x2, x3 _ _ _ (h.below hb)⟩
theorem failed (hfl : failing S = true) {res : Int × St} (e : res = (20, wrote S)) {w1 w2 w3 : World} (h1 : Below w.heap.size w w1) (h2 : Turned O w1 w2) (h : RUnit w2 O d (off S.keep (tick S)) (.returned (.tuple #[])) w3) : RDid w O d res (.returned (.int .i64 20)) w3 := by
  obtain ⟨_, O', h3, h4⟩ := h
  rw [e]
  exact ⟨rfl, O', ((Step.of (Turned.of_below h1)).trans (Step.of h2)).trans h3, by unfold wrote; rw [if_pos hfl]; exact h4⟩
theorem refused (h : RRep w O d fv P Q S) {res : Int × St} {c : Int} (e : res = (c, S)) {w' : World} (hb : Below w.heap.size w w') : RDid w O d res (.returned (.int .i64 c)) w' := by
  subst e
  exact ⟨rfl, O, Step.of (Turned.of_below hb), _, _, _, h.below hb⟩

set_option maxRecDepth 100000 in
set_option maxHeartbeats 1600000 in
theorem ref_sync_ok (h : RRep w O d fv P Q S) (s : ByteArray) (hs : s.size ≤ maxLen) (ht : there s.data.toList S = 0) (hfl : failing S = false) :
    Calls Tryz.prog 29 #[.pointer (some ⟨d, 0, none⟩), .string s] w (RDid w O d (syncS s.data.toList S)) := by
  obtain ⟨_, _, f, hf⟩ := there_zero ht
  have cr := ref_ready h s hs
  rw [there_ready0 ht] at cr
  obtain ⟨j, hj, ca⟩ := ref_at_some h s hf
  obtain ⟨q, n, cap, p1, p2, x1, x2, c1, c2, hn, hfew, hjn, e0, e1, e2, hx1, hx2, k1, k2, k3, k4, k5, k6, HX1, k8, k9, _⟩ := h.see hj
  have hfn := (look_some hf).2
  have hnm : str f.nm = s := by rw [hfn, str_of]
  obtain ⟨l1, hl1⟩ : ∃ l1, f.l.take f.s = l1 := ⟨_, rfl⟩
  obtain ⟨l2, hl2⟩ : ∃ l2, f.l.drop f.s = l2 := ⟨_, rfl⟩
  have SE : Hid (∀ w2, RRep w2 O d fv P Q (tick S) → ∀ wx, Below w2.heap.size w2 wx → See wx d q n cap j s p1 p2 x1 x2 c1 c2 l1 l2) := Lib.hid fun w2 hr => by
    have := hr.seen (S := tick S) hj hn (by rw [e0, hn]) e1 e2
    rwa [hnm, hl1, hl2] at this
  have D : Hid (∀ w2 w4 v4 w3, Step w O w2 O → RRep w2 O d fv P Q (tick S) → ∀ base, w2.heap.size ≤ base → Below w2.heap.size w2 w4 → Ob.OwnB w4 base v4 ([] ++ l1.take x1 ++ l2.take x2) → w3 = ((w4.setCell ⟨q, j * 3, none⟩ (.string s)).setCell ⟨q, j * 3 + 1, none⟩ v4).setCell ⟨q, j * 3 + 2, none⟩ (.slice none 0 0) → RDid w O d (syncS s.data.toList S) (.returned (.int .i64 0)) w3) := Lib.hid fun w2 w4 v4 w3 hst hr base hba hb4 ho hw => by
    have hsf := h.good.safe f (look_some hf).1
    have hx1' := HX1.out
    have hl : ([] ++ l1.take x1 ++ l2.take x2 : List Int) = f.l := by
      rw [List.nil_append, List.take_of_length_le (by rw [← hl1]; simp; omega), List.take_of_length_le (by rw [← hl2]; simp; omega), ← hl1, ← hl2, List.take_append_drop]
    rw [hl] at ho
    refine set_done hst hr hj (by rw [e0]; rfl) hb4 synced rfl ⟨?_, ?_⟩ ?_ (by rw [hnm]; exact hw) ?_
    · show Part _ _ _ (f.l.take f.l.length)
      rw [List.take_length]; exact part_own ho hba
    · show Part _ _ _ (f.l.drop f.l.length)
      rw [List.drop_length]; exact part_nil _ _
    · exact good_upd hr.good (fun _ _ => rfl) (fun g _ => Nat.le_refl _) (fun g hm => hr.good.size g hm)
    · unfold syncS; rw [if_neg (by simp [ht]), if_neg (by simp [hfl]), hfn]; rfl
  have hqd : q ≠ d := h.ne.1 q (by rw [e0]; rfl)
  have hlq : q < w.heap.size := by obtain ⟨q', _, e', _, a0, _⟩ := h.at hj; rw [e0] at e'; simp only [Value.slice.injEq, Option.some.injEq, Addr.mk.injEq, true_and, and_true] at e'; obtain ⟨rfl, _⟩ := e'; exact Fr.lt_of_cell a0
  have hld : d < w.heap.size := h.dom d h.od
  have TK := Lib.hid (raw_tells h false hfl)
  have CR := Lib.hid cr; have CA := Lib.hid ca
  have g3 : (([] : List Int) ++ l1.take x1 ++ l2.take x2).length = x1 + x2 := by rw [List.nil_append, List.length_append, List.length_take, List.length_take, ← hl1, ← hl2, hx1, hx2]; omega
  clear cr ca h hf ht hj hfl hs e0 e1 e2 hx1 hx2 HX1 hfn hnm hl1 hl2 hn k8
  go_enter Tryz.func29, Tryz.ntmps29
  go_wp2_with fail
  refine CR.out.mono ?_
  rintro e w' ⟨rfl, rfl⟩
  go_wp2_with fail
  refine CA.out.mono ?_
  rintro e w1 ⟨rfl, hb1⟩
  have HB1 := Lib.hid hb1
  have hs1 := hb1.size
  clear hb1
  go_wp2_with fail
  refine (TK.out _ HB1.out).mono ?_
  rintro e w2 ⟨rfl, ht2, hr2⟩
  have hs2 := ht2.size
  have ST := Lib.hid ((Step.of (Turned.of_below HB1.out)).trans (Step.of ht2)); have HR2 := Lib.hid hr2
  have S2 := Lib.hid (SE.out w2 hr2)
  obtain ⟨z0, a0, a1, a2, fz, _, _⟩ := S2.out w2 (Below.refl _ _)
  obtain ⟨wb, hwb⟩ : ∃ wb, wb = w2.alloc (.cells #[.string s, .slice p1 x1 c1, .slice p2 x2 c2] 87) := ⟨_, rfl⟩
  have HWB := Lib.hid hwb
  have PW : Hid (∀ wx, Below wb.heap.size wb wx → Below w2.heap.size w2 wx) := Lib.hid fun wx hb => (box_cells hwb hb).2.2.2
  have KS : Hid (∀ wx, Below wb.heap.size wb wx → wx.cell? ⟨d, 0, none⟩ = some (.slice (some ⟨q, 0, none⟩) n cap) ∧ wx.cell? ⟨w2.heap.size, 1, none⟩ = some (.slice p1 x1 c1) ∧ wx.cell? ⟨w2.heap.size, 2, none⟩ = some (.slice p2 x2 c2)) := Lib.hid fun wx hb => ⟨(S2.out wx (PW.out wx hb)).z0, (box_cells hwb hb).2.1, (box_cells hwb hb).2.2.1⟩
  have KS2 : Hid (∀ wx, Below wb.heap.size wb wx → ∀ x y z : Value, (((wx.setCell ⟨q, j * 3, none⟩ x).setCell ⟨q, j * 3 + 1, none⟩ y).setCell ⟨q, j * 3 + 2, none⟩ z).cell? ⟨d, 0, none⟩ = some (.slice (some ⟨q, 0, none⟩) n cap) ∧ (((wx.setCell ⟨q, j * 3, none⟩ x).setCell ⟨q, j * 3 + 1, none⟩ y).setCell ⟨q, j * 3 + 2, none⟩ z).cell? ⟨w2.heap.size, 1, none⟩ = some (.slice p1 x1 c1) ∧ (((wx.setCell ⟨q, j * 3, none⟩ x).setCell ⟨q, j * 3 + 1, none⟩ y).setCell ⟨q, j * 3 + 2, none⟩ z).cell? ⟨w2.heap.size, 2, none⟩ = some (.slice p2 x2 c2)) := Lib.hid fun wx hb x y z => by
    rw [far3 _ _ _ _ _ _ (Ne.symm hqd), far3 (a := ⟨w2.heap.size, 1, none⟩) _ _ _ _ _ _ (show w2.heap.size ≠ q by omega), far3 (a := ⟨w2.heap.size, 2, none⟩) _ _ _ _ _ _ (show w2.heap.size ≠ q by omega)]
    exact KS.out wx hb
  have hj0 : (0 : Int) ≤ (j : Int) := by omega
  have hj1 : (j : Int) < (n : Int) := by omega
  clear hwb ht2 hr2
  go_wp2
  rw [← HWB.out]
  clear z0 a0 a1 a2 fz
  have s0 := Below.refl wb.heap.size wb
  have g1 : ([] : List Int).length + x1 ≤ 140737488355328 := by simp; omega
  have g2 : (([] : List Int) ++ l1.take x1).length + x2 ≤ 140737488355328 := by simp; omega
  go_region_held3 (fun wx => wx.cell? ⟨d, 0, none⟩ = some (.slice (some ⟨q, 0, none⟩) n cap) ∧ wx.cell? ⟨w2.heap.size, 1, none⟩ = some (.slice p1 x1 c1) ∧ wx.cell? ⟨w2.heap.size, 2, none⟩ = some (.slice p2 x2 c2))
    (first | exact KS2.out _ hb4 _ _ _ | exact KS.out _ (by (repeat (first | assumption | exact s0 | (refine below_alloc ?_ (Nat.le_refl _)) | refine Below.drew ?_))))
    (first
      | (refine step_apd (by rfl) (.tmp 40) (.tmp 42) (by rfl) wb wb.heap.size (by (repeat (first | assumption | exact s0 | (refine below_alloc ?_ (Nat.le_refl _)) | refine Below.drew ?_))) _ [] (by rfl) (own_made_drew _ (Nat.le_refl _)) p1 x1 c1 l1 (by rfl) (S2.out _ (PW.out _ (by (repeat (first | assumption | exact s0 | (refine below_alloc ?_ (Nat.le_refl _)) | refine Below.drew ?_))))).r1 k1 g1 (Nat.le_refl _) ?_; intro v3 w3 ho3 hb3 hg3)
      | (refine step_apd (by rfl) (.tmp 43) (.tmp 45) (by rfl) wb wb.heap.size hb3 v3 ([] ++ l1.take x1) (by rfl) ho3 p2 x2 c2 l2 (by rfl) (S2.out _ (PW.out _ hb3)).r2 k2 g2 (Nat.le_refl _) ?_; intro v4 w4 ho4 hb4 hg4; obtain ⟨va4, vc4, e4, _⟩ := Ob.own_row ho4; rw [g3] at e4; subst e4; have s4 := S2.out _ (PW.out _ hb4); have t0 := s4.a0; have t1 := s4.a1; have t2 := s4.a2; have t3 := s4.fz (j * 3); have t4 := s4.fz (j * 3 + 1); have t5 := s4.fz (j * 3 + 2); clear s4))
  have HO4 := Lib.hid ho4; have HB4 := Lib.hid hb4
  have DD : Hid (RDid w O d (syncS s.data.toList S) (.returned (.int .i64 0)) (((w4.setCell ⟨q, j * 3, none⟩ (.string s)).setCell ⟨q, j * 3 + 1, none⟩ (.slice va4 (x1 + x2) vc4)).setCell ⟨q, j * 3 + 2, none⟩ (.slice none 0 0))) := Lib.hid (D.out w2 w4 (.slice va4 (x1 + x2) vc4) _ ST.out HR2.out wb.heap.size (by rw [HWB.out]; simp) (PW.out _ hb4) ho4 rfl)
  clear t0 t1 t2 t3 t4 t5 ho4 hb4 hg4 ho3 hb3 hg3
  go_split_ands
  go_wp2
  go_ret
  exact DD.out
end
end Go.Proofs.YtdonkmkjblofpaaGreatDoor.Dk
/-! ## Li -/
namespace Go.Proofs.YtdonkmkjblofpaaGreatDoor.Dk
open Go.RowKit
set_option linter.unusedVariables false
set_option linter.unusedSimpArgs false
section
variable {w w' : World} {O : Nat → Prop} {d : Nat} {fv : Value} {P Q : List UInt8 → Value} {S S' : St}
set_option maxRecDepth 100000 in
set_option maxHeartbeats 1600000 in
theorem ref_sync (OF : OffOk) (h : RRep w O d fv P Q S) (s : ByteArray) (hs : s.size ≤ maxLen) :
    Calls Tryz.prog 29 #[.pointer (some ⟨d, 0, none⟩), .string s] w (RDid w O d (syncS s.data.toList S)) := by
  by_cases ht : there s.data.toList S = 0
  · cases hfl : failing S with
    | false => exact ref_sync_ok h s hs ht hfl
    | true =>
      have cr := ref_ready h s hs
      obtain ⟨_, _, f, hf⟩ := there_zero ht
      rw [there_ready0 ht] at cr
      obtain ⟨j, hj, ca⟩ := ref_at_some h s hf
      have D : Hid (∀ w1 w2 w3, Below w.heap.size w w1 → Turned O w1 w2 → RUnit w2 O d (off S.keep (tick S)) (.returned (.tuple #[])) w3 → RDid w O d (syncS s.data.toList S) (.returned (.int .i64 20)) w3) := Lib.hid fun w1 w2 w3 h1 h2 h3 => failed hfl (by unfold syncS; rw [if_neg (by simp [ht]), if_pos hfl]) h1 h2 h3
      have TK := Lib.hid (raw_tells h true hfl)
      have CR := Lib.hid cr; have CA := Lib.hid ca; have OF := Lib.hid OF
      clear h cr ca hf ht hj hfl hs
      go_enter Tryz.func29, Tryz.ntmps29
      go_wp2_with (first
        | (go_at_call 57; (with_reducible refine CR.out.mono ?_); rintro e w' ⟨rfl, rfl⟩)
        | (go_at_call 58; (with_reducible refine CA.out.mono ?_); rintro e w1 ⟨rfl, hb1⟩; have HB1 := Lib.hid hb1; clear hb1)
        | (go_at_call 61; (with_reducible refine (TK.out _ HB1.out).mono ?_); rintro e w2 ⟨rfl, ht2, hr2⟩; have HT2 := Lib.hid ht2; have HR2 := Lib.hid hr2; have k5 : w2.cell? ⟨d, 5, none⟩ = some (.int .i64 S.keep) := hr2.cells.2.2.2.2.2.1; clear ht2 hr2)
        | (go_at_call 37; (with_reducible refine (OF.out.at S.keep HR2.out).mono ?_); rintro e w3 h3; have H3 := Lib.hid h3; obtain rfl := h3.1; clear h3))
      go_ret
      exact D.out _ _ _ HB1.out HT2.out H3.out
  · have cr := ref_ready h s hs
    have D : Hid (∀ w', Below w.heap.size w w' → RDid w O d (syncS s.data.toList S) (.returned (.int .i64 (there s.data.toList S))) w') := Lib.hid fun w' hb => refused h (by unfold syncS; rw [if_pos ht]) hb
    by_cases hr : ready s.data.toList S = 0
    · obtain ⟨hl, e⟩ := there_lacks ht hr
      have ca := ref_at_none h s hl
      rw [hr] at cr
      rw [e] at D
      have CR := Lib.hid cr; have CA := Lib.hid ca
      clear cr ca h ht hr hl e hs
      go_enter Tryz.func29, Tryz.ntmps29
      go_wp2_with (first | (go_at_call 57; (with_reducible refine CR.out.mono ?_); rintro e w' ⟨rfl, rfl⟩) | (go_at_call 58; (with_reducible refine CA.out.mono ?_); rintro e w1 ⟨rfl, hb1⟩; have HB1 := Lib.hid hb1; clear hb1))
      go_ret
      exact D.out _ HB1.out
    · have e := there_ready hr
      rw [e] at D
      generalize ready s.data.toList S = r at *
      have CR := Lib.hid cr
      have t1 : (r == 0) = false := by simpa using hr
      have t2 : (r != 0) = true := by simpa using hr
      clear cr h ht hr e hs
      go_enter Tryz.func29, Tryz.ntmps29
      go_wp2_with (go_at_call 57; (with_reducible refine CR.out.mono ?_); rintro e w' ⟨rfl, rfl⟩)
      go_ret
      exact D.out _ (Below.refl _ _)

/-! ### Truncate -/
theorem cut_row {k : IntKind} {wx : World} {p : Option Addr} {x N : Nat} {l : List Int} (h : Fr.HasRow k wx p x l) (hN : N ≤ x) : Fr.HasRow k wx p N l :=
  ⟨Nat.le_trans hN h.1, Nat.le_trans hN h.2.1, fun h0 => (h.2.2 (by omega)).elim fun b ⟨off, e, hc⟩ => ⟨b, off, e, fun j hj => hc j (by omega)⟩⟩
/-- The file that a call looks at, in a box of its own, and what the walk needs of it behind. -/
structure Look (w : World) (O : Nat → Prop) (d : Nat) (fv : Value) (P Q : List UInt8 → Value) (S : St) (s : ByteArray) (f : File) (j q n cap : Nat) (p1 p2 : Option Addr) (x1 x2 c1 c2 : Nat) (l1 l2 : List Int) : Prop where
  hj : S.fs[j]? = some f
  hn : S.fs.length = n
  few : n ≤ 16
  jn : j < n
  e0 : fv = .slice (some ⟨q, 0, none⟩) n cap
  e1 : P f.nm = .slice p1 x1 c1
  e2 : Q f.nm = .slice p2 x2 c2
  l1e : f.l.take f.s = l1
  l2e : f.l.drop f.s = l2
  n1 : p1 = none → c1 = 0
  n2 : p2 = none → c2 = 0
  x1c : x1 ≤ c1
  x2c : x2 ≤ c2
  c1m : c1 ≤ 9223372036854775807
  c2m : c2 ≤ 9223372036854775807
  x1s : x1 = f.s
  sum : x1 + x2 = f.l.length
  big : x1 + x2 ≤ 1048576
  fn : f.nm = s.data.toList
  nm : str f.nm = s
  see : ∀ w2 (S2 : St), RRep w2 O d fv P Q S2 → S2.fs = S.fs → ∀ wx, Below w2.heap.size w2 wx → See wx d q n cap j s p1 p2 x1 x2 c1 c2 l1 l2
  qd : q ≠ d
  lq : q < w.heap.size
  ld : d < w.heap.size
theorem RRep.looked (h : RRep w O d fv P Q S) {s : ByteArray} {j : Nat} {f : File} (hl : Dk.look s.data.toList S.fs = some f) (hj : S.fs[j]? = some f) : ∃ q n cap p1 p2 x1 x2 c1 c2 l1 l2, Look w O d fv P Q S s f j q n cap p1 p2 x1 x2 c1 c2 l1 l2 := by
  obtain ⟨q, n, cap, p1, p2, x1, x2, c1, c2, hn, hfew, hjn, e0, e1, e2, hx1, hx2, k1, k2, k3, k4, k5, k6, HX1, k8, k9, _⟩ := h.see hj
  have hfn := (look_some hl).2
  have hnm : str f.nm = s := by rw [hfn, str_of]
  rw [hn] at e0
  refine ⟨q, n, cap, p1, p2, x1, x2, c1, c2, _, _, hj, hn, hfew, hjn, e0, e1, e2, rfl, rfl, k1, k2, k3, k4, k5, k6, HX1.out, k8, k9, hfn, hnm, fun w2 S2 hr e => ?_, h.ne.1 q (by rw [e0]; rfl), ?_, h.dom d h.od⟩
  · have := hr.seen (by rw [e]; exact hj) (by rw [e]; exact hn) e0 e1 e2
    rwa [hnm] at this
  · obtain ⟨q', _, e', _, a0, _⟩ := h.at hj
    rw [e0] at e'
    simp only [Value.slice.injEq, Option.some.injEq, Addr.mk.injEq, true_and, and_true] at e'
    obtain ⟨rfl, _⟩ := e'
    exact Fr.lt_of_cell a0
theorem lenOf_look {k : List UInt8} {fs : List File} {f : File} (h : look k fs = some f) : lenOf k fs = f.l.length := by unfold lenOf; rw [h]
end
end Go.Proofs.YtdonkmkjblofpaaGreatDoor.Dk
/-! ## Lj -/
namespace Go.Proofs.YtdonkmkjblofpaaGreatDoor.Dk
open Go.RowKit
set_option linter.unusedVariables false
set_option linter.unusedSimpArgs false
section
variable {w w' : World} {O : Nat → Prop} {d : Nat} {fv : Value} {P Q : List UInt8 → Value} {S S' : St}
end
end Go.Proofs.YtdonkmkjblofpaaGreatDoor.Dk
/-! ## Lk -/
namespace Go.Proofs.YtdonkmkjblofpaaGreatDoor.Dk
open Go.RowKit
set_option linter.unusedVariables false
set_option linter.unusedSimpArgs false
section
variable {w w' : World} {O : Nat → Prop} {d : Nat} {fv : Value} {P Q : List UInt8 → Value} {S S' : St}
/-! ### Rename -/
theorem renameS_bad {k to : List UInt8} (hb : badName k = true ∨ badName to = true) : renameS k to S = (1, S) := by
  unfold renameS
  by_cases ht : badName to = true
  · rw [if_pos ht]
  · rcases hb with hb | hb
    · have : there k S = 1 := by unfold there; rw [if_pos hb]
      rw [if_neg ht, if_pos (by rw [this]; decide), this]
    · exact absurd hb ht
set_option maxRecDepth 100000 in
set_option maxHeartbeats 1600000 in
theorem ref_rename (OF : OffOk) (h : RRep w O d fv P Q S) (s t : ByteArray) (hs : s.size ≤ maxLen) (hst : t.size ≤ maxLen) :
    Calls Tryz.prog 69 #[.pointer (some ⟨d, 0, none⟩), .string s, .string t] w (RDid w O d (renameS s.data.toList t.data.toList S)) := by
  unfold maxLen at hs hst
  by_cases hbad : badName s.data.toList = true ∨ badName t.data.toList = true
  · have D : Hid (RDid w O d (renameS s.data.toList t.data.toList S) (.returned (.int .i64 1)) w) := Lib.hid (refused h (renameS_bad hbad) (Below.refl _ _))
    rw [bad_size, bad_size] at hbad
    clear h
    have cs : s.size < 1 ∨ (¬ s.size < 1 ∧ 16 < s.size) ∨ ((¬ s.size < 1 ∧ ¬ 16 < s.size) ∧ t.size < 1) ∨ ((¬ s.size < 1 ∧ ¬ 16 < s.size) ∧ ¬ t.size < 1 ∧ 16 < t.size) := by
      simp only [Bool.or_eq_true, decide_eq_true_eq] at hbad
      omega
    clear hbad
    rcases cs with c1 | ⟨c1, c2⟩ | ⟨⟨c1, c2⟩, c3⟩ | ⟨⟨c1, c2⟩, c3, c4⟩
    · have t1 : decide ((s.size : Int) < 1) = true := by rw [decide_eq_true_eq]; omega
      clear c1
      go_enter Tryz.func69, Tryz.ntmps69
      go_wp2
      go_ret
      exact D.out
    · have t1 : decide ((s.size : Int) < 1) = false := by rw [decide_eq_false_iff_not]; omega
      have t2 : decide ((16 : Int) < (s.size : Int)) = true := by rw [decide_eq_true_eq]; omega
      clear c1 c2
      go_enter Tryz.func69, Tryz.ntmps69
      go_wp2
      go_ret
      exact D.out
    · have t1 : decide ((s.size : Int) < 1) = false := by rw [decide_eq_false_iff_not]; omega
      have t2 : decide ((16 : Int) < (s.size : Int)) = false := by rw [decide_eq_false_iff_not]; omega
      have t3 : decide ((t.size : Int) < 1) = true := by rw [decide_eq_true_eq]; omega
      clear c1 c2 c3
      go_enter Tryz.func69, Tryz.ntmps69
      go_wp2
      go_ret
      exact D.out
    · have t1 : decide ((s.size : Int) < 1) = false := by rw [decide_eq_false_iff_not]; omega
      have t2 : decide ((16 : Int) < (s.size : Int)) = false := by rw [decide_eq_false_iff_not]; omega
      have t3 : decide ((t.size : Int) < 1) = false := by rw [decide_eq_false_iff_not]; omega
      have t4 : decide ((16 : Int) < (t.size : Int)) = true := by rw [decide_eq_true_eq]; omega
      clear c1 c2 c3 c4
      go_enter Tryz.func69, Tryz.ntmps69
      go_wp2
      go_ret
      exact D.out
  · have hbs : badName s.data.toList = false := by simpa using fun e => hbad (.inl e)
    have hbt : badName t.data.toList = false := by simpa using fun e => hbad (.inr e)
    have z := hbs; have z' := hbt
    rw [bad_size] at z z'
    simp only [Bool.or_eq_false_iff, decide_eq_false_iff_not] at z z'
    have t1 : decide ((s.size : Int) < 1) = false := by rw [decide_eq_false_iff_not]; omega
    have t2 : decide ((16 : Int) < (s.size : Int)) = false := by rw [decide_eq_false_iff_not]; omega
    have t3 : decide ((t.size : Int) < 1) = false := by rw [decide_eq_false_iff_not]; omega
    have t4 : decide ((16 : Int) < (t.size : Int)) = false := by rw [decide_eq_false_iff_not]; omega
    obtain ⟨_, _, k2, _⟩ := h.cells
    clear z z' hbad
    cases hdn : S.down with
    | true =>
      have D : Hid (RDid w O d (renameS s.data.toList t.data.toList S) (.returned (.int .i64 20)) w) := Lib.hid (refused h (by
        have e : there s.data.toList S = 20 := by unfold there; rw [if_neg (by simp [hbs]), if_pos hdn]
        unfold renameS; rw [if_neg (by simp [hbt]), if_pos (by rw [e]; decide), e]) (Below.refl _ _))
      rw [hdn] at k2
      clear h hdn hbs hbt
      go_enter Tryz.func69, Tryz.ntmps69
      go_wp2
      go_ret
      exact D.out
    | false =>
      rw [hdn] at k2
      cases hf : look s.data.toList S.fs with
      | none =>
        have ca := ref_at_none h s hf
        have D : Hid (∀ w', Below w.heap.size w w' → RDid w O d (renameS s.data.toList t.data.toList S) (.returned (.int .i64 21)) w') := Lib.hid fun w' hb => refused h (by
          have e : there s.data.toList S = 21 := by unfold there; rw [if_neg (by simp [hbs]), if_neg (by simp [hdn]), if_pos (by simp [hf])]
          unfold renameS; rw [if_neg (by simp [hbt]), if_pos (by rw [e]; decide), e]) hb
        have CA := Lib.hid ca
        clear h hdn hbs hbt hf ca
        go_enter Tryz.func69, Tryz.ntmps69
        go_wp2_with (go_at_call 58; (with_reducible refine CA.out.mono ?_); rintro e w1 ⟨rfl, hb1⟩; have HB1 := Lib.hid hb1; clear hb1)
        go_ret
        exact D.out _ HB1.out
      | some f =>
        have hth : there s.data.toList S = 0 := by unfold there; rw [if_neg (by simp [hbs]), if_neg (by simp [hdn]), if_neg (by simp [hf])]
        obtain ⟨j, hj, ca⟩ := ref_at_some h s hf
        cases hfl : failing S with
        | true =>
          have D : Hid (∀ w1 w2 w3, Below w.heap.size w w1 → Turned O w1 w2 → RUnit w2 O d (off S.keep (tick S)) (.returned (.tuple #[])) w3 → RDid w O d (renameS s.data.toList t.data.toList S) (.returned (.int .i64 20)) w3) := Lib.hid fun w1 w2 w3 h1 h2 h3 => failed hfl (by unfold renameS; rw [if_neg (by simp [hbt]), if_neg (by simp [hth]), if_pos hfl]) h1 h2 h3
          have TK := Lib.hid (raw_tells h true hfl)
          have CA := Lib.hid ca; have OF := Lib.hid OF
          clear h ca hf hth hj hfl hdn hbs hbt
          go_enter Tryz.func69, Tryz.ntmps69
          go_wp2_with (first
            | (go_at_call 58; (with_reducible refine CA.out.mono ?_); rintro e w1 ⟨rfl, hb1⟩; have HB1 := Lib.hid hb1; clear hb1)
            | (go_at_call 61; (with_reducible refine (TK.out _ HB1.out).mono ?_); rintro e w2 ⟨rfl, ht2, hr2⟩; have HT2 := Lib.hid ht2; have HR2 := Lib.hid hr2; have k5 : w2.cell? ⟨d, 5, none⟩ = some (.int .i64 S.keep) := hr2.cells.2.2.2.2.2.1; clear ht2 hr2)
            | (go_at_call 37; (with_reducible refine (OF.out.at S.keep HR2.out).mono ?_); rintro e w3 h3; have H3 := Lib.hid h3; obtain rfl := h3.1; clear h3))
          go_ret
          exact D.out _ _ _ HB1.out HT2.out H3.out
        | false =>
          obtain ⟨q, n, cap, p1, p2, x1, x2, c1, c2, l1, l2, K⟩ := h.looked hf hj
          have SE := Lib.hid (K.see)
          have hjn := K.jn; have hfew := K.few
          have hj0 : (0 : Int) ≤ (j : Int) := by omega
          have TK := Lib.hid (raw_tells h false hfl)
          have CA := Lib.hid ca
          have PUT : Hid (∀ w2 wb w3 : World, RRep w2 O d fv P Q (tick S) → Below w2.heap.size w2 wb → ∀ O' fv' P' Q', RRep w3 O' d fv' P' Q' { tick S with fs := del s.data.toList (tick S).fs } → (∀ i, O i → O' i) → (∀ k, k < wb.heap.size → k ≠ d → w3.heap[k]? = wb.heap[k]?) →
              Calls Tryz.prog 60 #[.pointer (some ⟨d, 0, none⟩), .agg #[.string t, .slice p1 x1 c1, .slice p2 x2 c2]] w3 (RUnit w3 O' d { tick S with fs := put (renamed t.data.toList f) (del s.data.toList S.fs) })) := Lib.hid fun w2 wb w3 hr2 hb O' fv' P' Q' hr3 hO hk => by
            have hmem := List.mem_of_getElem? K.hj
            have hfile := hr2.files f hmem
            have hmv : RFile w3 O' (P f.nm) (Q f.nm) f := hfile.move hO fun i cur hi hc => by
              have hlt := hr2.dom i hi
              rw [hk i (Nat.lt_of_lt_of_le hlt hb.size) (hr2.ne.2 i cur hc).1, hb.block i hlt]
            rw [K.e1, K.e2] at hmv
            have hgood : Good { ({ tick S with fs := del s.data.toList (tick S).fs } : St) with fs := put (renamed t.data.toList f) (del s.data.toList (tick S).fs) } := by
              refine good_put hr3.good hbt (hr2.good.safe f hmem) (hr2.good.size f hmem) ?_
              have a1 := length_del_le t.data.toList (del s.data.toList S.fs)
              have a2 := length_del_lt hf
              have a3 := hr2.good.few
              show (del t.data.toList (del s.data.toList S.fs)).length + 1 ≤ 16
              have a4 : (tick S).fs.length = S.fs.length := rfl
              omega
            have := ref_put hr3 (renamed t.data.toList f) _ _ ⟨hmv.safe, hmv.wait⟩ hgood
            rwa [show str (renamed t.data.toList f).nm = t from str_of t] at this
          have D : Hid (∀ w2 wb w3 w4 O', Step w O w2 O → Below w2.heap.size w2 wb → Step wb O w3 O' → RUnit w3 O' d { tick S with fs := put (renamed t.data.toList f) (del s.data.toList S.fs) } (.returned (.tuple #[])) w4 → RDid w O d (renameS s.data.toList t.data.toList S) (.returned (.int .i64 0)) w4) := Lib.hid fun w2 wb w3 w4 O' h1 h2 h3 ⟨_, O'', h4, h5⟩ => by
            have e : renameS s.data.toList t.data.toList S = (0, { tick S with fs := put (renamed t.data.toList f) (del s.data.toList S.fs) }) := by unfold renameS; rw [if_neg (by simp [hbt]), if_neg (by simp [hth]), if_neg (by simp [hfl]), hf]
            rw [e]
            exact ⟨rfl, O'', ((h1.trans (Step.of (Turned.of_below h2))).trans h3).trans h4, h5⟩
          have hlds : d < w.heap.size := K.ld
          clear h ca hf hth hj hfl hdn hbs hbt K
          go_enter Tryz.func69, Tryz.ntmps69
          go_wp2_with fail
          refine CA.out.mono ?_
          rintro e w1 ⟨rfl, hb1⟩
          have HB1 := Lib.hid hb1
          have hs1 := hb1.size
          clear hb1
          go_wp2_with fail
          refine (TK.out _ HB1.out).mono ?_
          rintro e w2 ⟨rfl, ht2, hr2⟩
          have hs2 := ht2.size
          have ST := Lib.hid ((Step.of (Turned.of_below HB1.out)).trans (Step.of ht2)); have HR2 := Lib.hid hr2
          obtain ⟨z0, a0, a1, a2, fz, _, _⟩ := SE.out w2 (tick S) hr2 rfl w2 (Below.refl _ _)
          obtain ⟨wb, hwb⟩ : ∃ wb, wb = w2.alloc (.cells #[.string s, .slice p1 x1 c1, .slice p2 x2 c2] 87) := ⟨_, rfl⟩
          have HWB := Lib.hid hwb
          have HB2 : Hid (Below w2.heap.size w2 wb) := Lib.hid (by rw [hwb]; exact (Below.refl _ _).alloc (Nat.le_refl _) _)
          have HBX : Hid (wb.heap[w2.heap.size]? = some (.cells #[.string s, .slice p1 x1 c1, .slice p2 x2 c2] 87 (0, 0))) := Lib.hid (by rw [hwb]; exact (MapKept.heap_alloc w2 _).1)
          clear ht2 hr2 hwb
          go_wp2_with fail
          rw [← HWB.out]
          clear z0 a0 a1 a2 fz
          refine (ref_dropK (HR2.out.below HB2.out) s).mono ?_
          rintro e w3 ⟨rfl, O', fv', P', Q', h3a, h3b, h3c, h3d⟩
          have ST3 := Lib.hid h3a
          have PT := Lib.hid (PUT.out w2 wb w3 HR2.out HB2.out O' fv' P' Q' h3b h3c h3d)
          have bx : w3.heap[w2.heap.size]? = some (.cells #[.string s, .slice p1 x1 c1, .slice p2 x2 c2] 87 (0, 0)) := (h3d _ (Array.getElem?_eq_some_iff.1 HBX.out).1 (by omega)).trans HBX.out
          have y1 : w3.cell? ⟨w2.heap.size, 1, none⟩ = some (.slice p1 x1 c1) := Joins.cell_of_block bx 1
          have y2 : w3.cell? ⟨w2.heap.size, 2, none⟩ = some (.slice p2 x2 c2) := Joins.cell_of_block bx 2
          clear bx h3a h3b h3c h3d
          go_wp2_with fail
          refine PT.out.mono ?_
          rintro e w4 h4
          have H4 := Lib.hid h4
          obtain rfl := h4.1
          clear h4 y1 y2
          go_wp2
          go_ret
          exact D.out w2 wb w3 w4 O' ST.out HB2.out ST3.out H4.out
end
end Go.Proofs.YtdonkmkjblofpaaGreatDoor.Dk

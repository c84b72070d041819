/-
  Layer 4: how a disk of the reference lies in memory; its small functions.
-/
import Derived.Test.YtjeemgcenmcplaaKt
namespace Go.Proofs.Ytjeemgcenmcplaa.Dk
open Go.RowKit
set_option linter.unusedVariables false

def str (k : List UInt8) : ByteArray := ⟨k.toArray⟩
theorem str_list (k : List UInt8) : (str k).data.toList = k := by simp [str]
theorem str_of (s : ByteArray) : str s.data.toList = s := by simp [str]
def ent3 (P Q : List UInt8 → Value) (f : File) : List Value := [.string (str f.nm), P f.nm, Q f.nm]
theorem flat3 {α β : Type} (e : α → List β) (h3 : ∀ a, (e a).length = 3) : ∀ (L : List α) (j i : Nat) (a : α), i < 3 → L[j]? = some a → (L.flatMap e)[j * 3 + i]? = (e a)[i]?
  | [], _, _, _, _, h => by simp at h
  | y :: r, 0, i, a, hi, h => by
    simp at h; subst h
    rw [List.flatMap_cons, List.getElem?_append_left (by rw [h3]; omega)]
    congr 1; omega
  | y :: r, j + 1, i, a, hi, h => by
    rw [List.flatMap_cons, List.getElem?_append_right (by rw [h3]; omega), h3]
    rw [← flat3 e h3 r j i a hi (by simpa using h)]
    congr 1; omega
theorem flat3_set {α β : Type} (e e' : α → List β) (h3 : ∀ a, ∃ x y z, e a = [x, y, z]) (f : α) (a b c : β) (hf : e' f = [a, b, c]) : ∀ (L : List α) (j : Nat), L[j]? = some f → (∀ i g, L[i]? = some g → i ≠ j → e' g = e g) →
    L.flatMap e' = (((L.flatMap e).set (j * 3) a).set (j * 3 + 1) b).set (j * 3 + 2) c
  | [], _, h, _ => by simp at h
  | y :: r, 0, h, hn => by
    simp at h; subst h
    obtain ⟨x1, x2, x3, e1⟩ := h3 y
    have : r.flatMap e' = r.flatMap e := by
      simp only [List.flatMap]
      congr 1
      refine List.map_congr_left fun g hg => ?_
      obtain ⟨i, hi, rfl⟩ := List.mem_iff_getElem.1 hg
      exact hn (i + 1) _ (by simp [hi]) (by omega)
    rw [List.flatMap_cons, List.flatMap_cons, hf, e1, this]
    simp
  | y :: r, j + 1, h, hn => by
    obtain ⟨x1, x2, x3, e1⟩ := h3 y
    have ih := flat3_set e e' h3 f a b c hf r j (by simpa using h) (fun i g hg hi => hn (i + 1) g (by simpa using hg) (by omega))
    have e0 := hn 0 y rfl (by omega)
    rw [List.flatMap_cons, List.flatMap_cons, e0, e1, ih]
    have q0 : (j + 1) * 3 = j * 3 + 1 + 1 + 1 := by omega
    have q1 : (j + 1) * 3 + 1 = j * 3 + 1 + 1 + 1 + 1 := by omega
    have q2 : (j + 1) * 3 + 2 = j * 3 + 2 + 1 + 1 + 1 := by omega
    rw [q1, q2, q0]
    simp
theorem len3 (P Q : List UInt8 → Value) (f : File) : (ent3 P Q f).length = 3 := rfl

def rcells (fv : Value) (S : St) : Array Value := #[fv, .int .i64 S.room, .bool (!S.down), .int .i64 S.wr, .int .i64 (S.arm : Int), .int .i64 S.keep]
structure Part (w : World) (O : Nat → Prop) (v : Value) (l : List Int) : Prop where
  own : Own w v l
  ov : ∀ b, v.ownBlock = some b → O b
structure RFile (w : World) (O : Nat → Prop) (p q : Value) (f : File) : Prop where
  safe : Part w O p (f.l.take f.s)
  wait : Part w O q (f.l.drop f.s)
structure RRep (w : World) (O : Nat → Prop) (d : Nat) (fv : Value) (P Q : List UInt8 → Value) (S : St) : Prop where
  dom : ∀ i, O i → i < w.heap.size
  od : O d
  blk : w.heap[d]? = some (.cells (rcells fv S) 49 (0, 0))
  row : w.ownsRow 0 65 3 fv S.fs.length (S.fs.flatMap (ent3 P Q))
  ov : ∀ b, fv.ownBlock = some b → O b
  files : ∀ f ∈ S.fs, RFile w O (P f.nm) (Q f.nm) f
  good : Good S
def IsRef (w : World) (O : Nat → Prop) (d : Nat) (S : St) : Prop := ∃ fv P Q, RRep w O d fv P Q S

theorem row_move {w w' : World} {base : Nat} {e : TypeId} {k : Nat} {v : Value} {n : Nat} {xs : List Value} (h : w.ownsRow base e k v n xs) (hb : ∀ g, v.ownBlock = some g → w'.heap[g]? = w.heap[g]?) : w'.ownsRow base e k v n xs := by
  refine ⟨h.1, ?_⟩
  rcases h.2 with h0 | ⟨g, cap, cur, hv, hbg, hh, h1, h2, h3, h4⟩
  · exact .inl h0
  · exact .inr ⟨g, cap, cur, hv, hbg, (hb g (by rw [hv]; rfl)).trans hh, h1, h2, h3, h4⟩
theorem row_base {w : World} {base : Nat} {e : TypeId} {k : Nat} {v : Value} {n : Nat} {xs : List Value} (h : w.ownsRow base e k v n xs) : w.ownsRow 0 e k v n xs :=
  ⟨h.1, h.2.imp id fun ⟨g, cap, cur, hv, _, hh⟩ => ⟨g, cap, cur, hv, Nat.zero_le _, hh⟩⟩
theorem row_kind {w : World} {base : Nat} {e : TypeId} {k : Nat} {v : Value} {n : Nat} {xs : List Value} (h : w.ownsRow base e k v n xs) : ∀ g, v.ownBlock = some g → base ≤ g ∧ ∃ cur, w.heap[g]? = some (.cells cur e (0, 0)) := by
  intro g hg
  rcases h.2 with ⟨rfl, _⟩ | ⟨g', cap, cur, rfl, hb, hh, _⟩
  · cases hg
  · cases hg; exact ⟨hb, cur, hh⟩
theorem Part.move {w w' : World} {O O' : Nat → Prop} {v : Value} {l : List Int} (h : Part w O v l) (hO : ∀ i, O i → O' i) (hb : ∀ g, v.ownBlock = some g → w'.heap[g]? = w.heap[g]?) : Part w' O' v l := ⟨h.own.same hb, fun b e => hO b (h.ov b e)⟩
theorem RFile.move {w w' : World} {O O' : Nat → Prop} {p q : Value} {f : File} (h : RFile w O p q f) (hO : ∀ i, O i → O' i) (hb : ∀ i cur, O i → w.heap[i]? = some (.cells cur 5 (0, 0)) → w'.heap[i]? = w.heap[i]?) : RFile w' O' p q f :=
  ⟨h.safe.move hO fun g e => (h.safe.own.kind g e).elim fun cur hc => hb g cur (h.safe.ov g e) hc, h.wait.move hO fun g e => (h.wait.own.kind g e).elim fun cur hc => hb g cur (h.wait.ov g e) hc⟩
section
variable {w w' : World} {O : Nat → Prop} {d : Nat} {fv : Value} {P Q : List UInt8 → Value} {S S' : St}
theorem RRep.same (h : RRep w O d fv P Q S) (hs : w.heap.size ≤ w'.heap.size) (hb : ∀ i, O i → w'.heap[i]? = w.heap[i]?) : RRep w' O d fv P Q S :=
  ⟨fun i hi => Nat.lt_of_lt_of_le (h.dom i hi) hs, h.od, (hb d h.od).trans h.blk, row_move h.row fun g e => hb g (h.ov g e), h.ov, fun f hf => (h.files f hf).move (fun _ h => h) fun i _ hi _ => hb i hi, h.good⟩
theorem RRep.below (h : RRep w O d fv P Q S) (hb : Below w.heap.size w w') : RRep w' O d fv P Q S := h.same hb.size fun i hi => hb.block i (h.dom i hi)
theorem IsRef.turned {T : Nat → Prop} (h : IsRef w O d S) (ht : Turned T w w') (hd : ∀ i, O i → ¬ T i) : IsRef w' O d S := by
  obtain ⟨fv, P, Q, h⟩ := h
  exact ⟨fv, P, Q, h.same ht.size fun i hi => ht.block i (h.dom i hi) (hd i hi)⟩
theorem IsRef.below (h : IsRef w O d S) (hb : Below w.heap.size w w') : IsRef w' O d S := by
  obtain ⟨fv, P, Q, h⟩ := h
  exact ⟨fv, P, Q, h.below hb⟩
theorem IsRef.good (h : IsRef w O d S) : Good S := by obtain ⟨_, _, _, h⟩ := h; exact h.good
theorem IsRef.dom (h : IsRef w O d S) : ∀ i, O i → i < w.heap.size := by obtain ⟨_, _, _, h⟩ := h; exact h.dom
theorem RRep.cells (h : RRep w O d fv P Q S) : w.cell? ⟨d, 0, none⟩ = some fv ∧ w.cell? ⟨d, 1, none⟩ = some (.int .i64 S.room) ∧ w.cell? ⟨d, 2, none⟩ = some (.bool (!S.down)) ∧ w.cell? ⟨d, 3, none⟩ = some (.int .i64 S.wr) ∧
    w.cell? ⟨d, 4, none⟩ = some (.int .i64 (S.arm : Int)) ∧ w.cell? ⟨d, 5, none⟩ = some (.int .i64 S.keep) ∧ ∀ i, w.frozen? ⟨d, i, none⟩ = false :=
  ⟨Joins.cell_of_block h.blk 0, Joins.cell_of_block h.blk 1, Joins.cell_of_block h.blk 2, Joins.cell_of_block h.blk 3, Joins.cell_of_block h.blk 4, Joins.cell_of_block h.blk 5, fun i => Joins.unfrozen_of_block h.blk i⟩
theorem RRep.val (h : RRep w O d fv P Q S) : ∃ ad cap, fv = .slice ad S.fs.length cap := by
  rcases h.row.2 with ⟨e, h0⟩ | ⟨g, cap, cur, e, _⟩
  · exact ⟨none, 0, by rw [h0]; exact e⟩
  · exact ⟨_, cap, e⟩
theorem Part.val {v : Value} {l : List Int} (h : Part w O v l) : ∃ ad cap, v = .slice ad l.length cap := by
  obtain ⟨ad, cap, e, _⟩ := h.own.row
  exact ⟨ad, cap, e⟩
/-- The j-th file's cells. -/
theorem RRep.at (h : RRep w O d fv P Q S) {j : Nat} {f : File} (hj : S.fs[j]? = some f) : ∃ q cap, fv = .slice (some ⟨q, 0, none⟩) S.fs.length cap ∧ O q ∧ w.cell? ⟨q, j * 3, none⟩ = some (.string (str f.nm)) ∧ w.cell? ⟨q, j * 3 + 1, none⟩ = some (P f.nm) ∧ w.cell? ⟨q, j * 3 + 2, none⟩ = some (Q f.nm) ∧ (∀ i, w.frozen? ⟨q, i, none⟩ = false) ∧
    ∃ cur, w.heap[q]? = some (.cells cur 65 (0, 0)) := by
  have hlt : j < S.fs.length := (List.getElem?_eq_some_iff.1 hj).1
  rcases h.row.2 with ⟨e, h0⟩ | ⟨q, cap, cur, e, _, hh, _⟩
  · omega
  · have hc := h.row.cells (g := q) (by rw [e]; rfl)
    have c : ∀ i (hi : i < 3) u, (ent3 P Q f)[i]? = some u → w.cell? ⟨q, j * 3 + i, none⟩ = some u := fun i hi u hu => by
      have := hc (j * 3 + i) u (by rw [flat3 _ (len3 P Q) _ j i f hi hj]; exact hu)
      rw [show (⟨q, 0, none⟩ : Addr).add (j * 3 + i) = ⟨q, j * 3 + i, none⟩ by unfold Addr.add; split <;> simp_all] at this
      exact this
    exact ⟨q, cap, e, h.ov q (by rw [e]; rfl), c 0 (by decide) _ rfl, c 1 (by decide) _ rfl, c 2 (by decide) _ rfl, fun i => Joins.unfrozen_of_block hh i, cur, hh⟩
/-- The kinds of blocks are apart. -/
theorem RRep.ne (h : RRep w O d fv P Q S) : (∀ q, fv.ownBlock = some q → q ≠ d) ∧ (∀ i cur, w.heap[i]? = some (.cells cur 5 (0, 0)) → i ≠ d ∧ fv.ownBlock ≠ some i) := by
  refine ⟨fun q e e2 => ?_, fun i cur hc => ⟨fun e => ?_, fun e => ?_⟩⟩
  · obtain ⟨_, cur, hc⟩ := row_kind h.row q e
    rw [e2, h.blk] at hc; simp at hc
  · rw [e, h.blk] at hc; simp at hc
  · obtain ⟨_, cur', hc'⟩ := row_kind h.row i e
    rw [hc] at hc'; simp at hc'
theorem RRep.field (h : RRep w O d fv P Q S) (i : Nat) (x : Value) (hc : (rcells fv S).setIfInBounds i x = rcells fv S') (hf : S'.fs = S.fs) (ha : S'.arm ≤ 9223372036854775807) :
    RRep (w.setCell ⟨d, i, none⟩ x) O d fv P Q S' := by
  have hne := h.ne
  have hk : ∀ k, k ≠ d → (w.setCell ⟨d, i, none⟩ x).heap[k]? = w.heap[k]? := fun k hk => Below.heap_setCell w _ x k hk
  refine ⟨fun j hj => by have := h.dom j hj; simpa using this, h.od, by rw [← hc]; exact Joins.block_setCell h.blk x, ?_, h.ov, ?_, good_same h.good hf ha⟩
  · rw [hf]; exact row_move h.row fun g e => hk g (hne.1 g e)
  · rw [hf]; exact fun f hf' => (h.files f hf').move (fun _ h => h) fun i cur _ hc => hk i (hne.2 i cur hc).1
/-- Another row of files is stored. -/
theorem RRep.lay (h : RRep w O d fv P Q S) {w1 : World} (hb : Below w.heap.size w w1) {fv' : Value} {P' Q' : List UInt8 → Value} {fs' : List File} (hrow : w1.ownsRow w.heap.size 65 3 fv' fs'.length (fs'.flatMap (ent3 P' Q')))
    (hfs : ∀ f ∈ fs', RFile w1 (OwnUp O w w1) (P' f.nm) (Q' f.nm) f) (hg : Good { S with fs := fs' }) :
    RRep (w1.setCell ⟨d, 0, none⟩ fv') (OwnUp O w w1) d fv' P' Q' { S with fs := fs' } ∧ Step w O (w1.setCell ⟨d, 0, none⟩ fv') (OwnUp O w w1) := by
  have hd := h.dom d h.od
  have hblk : w1.heap[d]? = some (.cells (rcells fv S) 49 (0, 0)) := (hb.block d hd).trans h.blk
  have hk : ∀ k, k ≠ d → (w1.setCell ⟨d, 0, none⟩ fv').heap[k]? = w1.heap[k]? := fun k hk => Below.heap_setCell w1 _ fv' k hk
  have hkd := row_kind hrow
  refine ⟨⟨fun i hi => ?_, .inl h.od, Joins.block_setCell (i := 0) hblk fv', row_base (row_move hrow fun g e => hk g fun e2 => ?_), fun b e => .inr ⟨(hkd b e).1, ?_⟩, fun f hf => (hfs f hf).move (fun _ h => h) fun i cur _ hc => hk i fun e => ?_, hg⟩, ⟨⟨hb.os, hb.tape, hb.output, by simp; exact hb.size, fun k hk' hn => ?_⟩, fun k hk => hk.elim .inl fun h => .inr h.1⟩⟩
  · simp
    rcases hi with hi | hi
    · exact Nat.lt_of_lt_of_le (h.dom i hi) hb.size
    · exact hi.2
  · have := (hkd g e).1; omega
  · obtain ⟨_, cur, hc⟩ := hkd b e
    exact (Array.getElem?_eq_some_iff.1 hc).1
  · rw [e, hblk] at hc; simp at hc
  · rw [hk k fun e => hn (e ▸ h.od)]
    exact hb.block k hk'
/-- The j-th file is stored in its place. -/
theorem RRep.set (h : RRep w O d fv P Q S) {w1 : World} (hb : Below w.heap.size w w1) {j q cap : Nat} {f : File} (hj : S.fs[j]? = some f) (hfv : fv = .slice (some ⟨q, 0, none⟩) S.fs.length cap) (φ : File → File) (hφ : (φ f).nm = f.nm) {p r : Value}
    (hfs : RFile w1 (OwnUp O w w1) p r (φ f)) (hg : Good { S with fs := upd f.nm φ S.fs }) {w2 : World} (hw : w2 = ((w1.setCell ⟨q, j * 3, none⟩ (.string (str f.nm))).setCell ⟨q, j * 3 + 1, none⟩ p).setCell ⟨q, j * 3 + 2, none⟩ r) :
    RRep w2 (OwnUp O w w1) d fv (at1 P f.nm p) (at1 Q f.nm r) { S with fs := upd f.nm φ S.fs } ∧ Step w O w2 (OwnUp O w w1) := by
  subst hw
  have hdis := distinct h.good.sorted
  have hmem : f ∈ S.fs := List.mem_of_getElem? hj
  have hn : ∀ g ∈ S.fs, (if g.nm = f.nm then φ g else g).nm = g.nm := fun g hg => by
    split
    · rename_i e
      rw [mem_eq hdis hg hmem e, hφ]
    · rfl
  have h1 := h.below hb
  have hne := h1.ne
  have hob : fv.ownBlock = some q := by rw [hfv]; rfl
  have oq := h.ov q hob
  have hk : ∀ k, k ≠ q → (((w1.setCell ⟨q, j * 3, none⟩ (.string (str f.nm))).setCell ⟨q, j * 3 + 1, none⟩ p).setCell ⟨q, j * 3 + 2, none⟩ r).heap[k]? = w1.heap[k]? := fun k hk => by
    rw [Below.heap_setCell _ _ _ k hk, Below.heap_setCell _ _ _ k hk, Below.heap_setCell _ _ _ k hk]
  refine ⟨⟨fun i hi => ?_, .inl h.od, (hk d fun e => hne.1 q hob e.symm).trans h1.blk, ?_, fun b e => .inl (h.ov b e), fun g hg => ?_, hg⟩, ⟨⟨hb.os, hb.tape, hb.output, by simp; exact hb.size, fun k hk' hn => ?_⟩, fun k hk => hk.elim .inl fun h => .inr h.1⟩⟩
  · simp
    rcases hi with hi | hi
    · exact Nat.lt_of_lt_of_le (h.dom i hi) hb.size
    · exact hi.2
  · rcases h1.row.2 with ⟨e, _⟩ | ⟨q', cap', cur, e, hb0, hh, x1, x2, x3, x4⟩
    · rw [hfv] at e; cases e
    · rw [hfv] at e
      simp only [Value.slice.injEq, Option.some.injEq, Addr.mk.injEq, and_true, true_and] at e
      obtain ⟨rfl, rfl⟩ := e
      have b1 := Joins.block_setCell (i := j * 3) hh (.string (str f.nm))
      have b2 := Joins.block_setCell (i := j * 3 + 1) b1 p
      have b3 := Joins.block_setCell (i := j * 3 + 2) b2 r
      have hlen : (upd f.nm φ S.fs).length = S.fs.length := by simp [upd]
      have hflat : (upd f.nm φ S.fs).flatMap (ent3 (at1 P f.nm p) (at1 Q f.nm r)) = (((S.fs.flatMap (ent3 P Q)).set (j * 3) (.string (str f.nm))).set (j * 3 + 1) p).set (j * 3 + 2) r := by
        unfold upd
        rw [List.flatMap_map]
        refine flat3_set _ _ (fun a => ⟨_, _, _, rfl⟩) f _ _ _ ?_ S.fs j hj fun i g hg hi => ?_
        · show ent3 _ _ (if f.nm = f.nm then φ f else f) = _
          rw [if_pos rfl]
          simp [ent3, hφ, at1]
        · have hgm : g ∈ S.fs := List.mem_of_getElem? hg
          have hgn : g.nm ≠ f.nm := fun e => by
            obtain ⟨a1, a2⟩ := List.getElem?_eq_some_iff.1 hg
            obtain ⟨a3, a4⟩ := List.getElem?_eq_some_iff.1 hj
            rcases Nat.lt_or_gt_of_ne hi with hlt | hlt
            · exact List.pairwise_iff_getElem.1 hdis i j a1 a3 hlt (by rw [a2, a4]; exact e)
            · exact List.pairwise_iff_getElem.1 hdis j i a3 a1 hlt (by rw [a2, a4]; exact e.symm)
          show ent3 _ _ (if g.nm = f.nm then φ g else g) = _
          rw [if_neg hgn]
          simp [ent3, at1, hgn]
      refine ⟨by rw [hflat]; simpa [hlen] using h1.row.1, .inr ⟨q, cap, _, by rw [hfv, hlen], hb0, b3, by rw [hlen]; exact x1, x2, by simpa using x3, ?_⟩⟩
      rw [hflat, hlen, Array.toList_setIfInBounds, Array.toList_setIfInBounds, Array.toList_setIfInBounds, List.take_set, List.take_set, List.take_set, x4]
  · obtain ⟨g0, hg0, rfl⟩ := mem_upd.1 hg
    rw [hn g0 hg0]
    by_cases e : g0.nm = f.nm
    · have := mem_eq hdis hg0 hmem e
      subst this
      rw [if_pos rfl, at1_same, at1_same]
      exact hfs.move (fun _ h => h) fun i cur _ hc => hk i fun e => (hne.2 i cur hc).2 (e ▸ hob)
    · rw [if_neg e, at1_other e, at1_other e]
      exact (h1.files g0 hg0).move (fun _ h => .inl h) fun i cur _ hc => hk i fun e => (hne.2 i cur hc).2 (e ▸ hob)
  · rw [hk k fun e => hn (e ▸ oq)]
    exact hb.block k hk'

/-! ### the small functions -/
def NewRef (w : World) (room : Int) (e : Ending) (w' : World) : Prop := e = .returned (.pointer (some ⟨w.heap.size, 0, none⟩)) ∧ Below w.heap.size w w' ∧ w'.heap.size = w.heap.size + 1 ∧ IsRef w' (fun i => i = w.heap.size) w.heap.size (start room)
theorem ref_new (w : World) (room : Int) : Calls Try.prog 7 #[.int .i64 room] w (NewRef w room) := by
  have D : Hid (∀ w', w' = w.alloc (.cells (rcells (.slice none 0 0) (start room)) 49) → NewRef w room (.returned (.pointer (some ⟨w.heap.size, 0, none⟩))) w') := fun w' e => by
    subst e
    exact ⟨rfl, (Below.refl _ _).alloc (Nat.le_refl _) _, by simp, .slice none 0 0, fun _ => .slice none 0 0, fun _ => .slice none 0 0, (fun i hi => by subst hi; simp), rfl, (MapKept.heap_alloc w _).1, ⟨rfl, .inl ⟨rfl, rfl⟩⟩, (fun b e => by cases e), (fun f hf => by cases hf), good_start room⟩
  go_enter Try.func7, Try.ntmps7
  go_wp2
  go_ret
  exact D.out _ rfl
theorem ref_ready (h : RRep w O d fv P Q S) (s : ByteArray) (hs : s.size ≤ maxLen) :
    Calls Try.prog 41 #[.pointer (some ⟨d, 0, none⟩), .string s] w fun e w' => e = .returned (.int .i64 (ready s.data.toList S)) ∧ w = w' := by
  obtain ⟨_, _, c2, _⟩ := h.cells
  clear h
  unfold maxLen at hs
  unfold ready
  rw [bad_size]
  generalize S.down = dn at *
  by_cases h1 : s.size < 1
  · have t1 : decide ((s.size : Int) < 1) = true := by simp; omega
    have e : (decide (s.size < 1) || decide (16 < s.size)) = true := by simp [h1]
    rw [e]
    clear e
    go_enter Try.func41, Try.ntmps41
    go_wp2
    go_ret
    exact ⟨rfl, rfl⟩
  · have t1 : decide ((s.size : Int) < 1) = false := by simp; omega
    by_cases h2 : 16 < s.size
    · have t2 : decide ((16 : Int) < (s.size : Int)) = true := by simp; omega
      have e : (decide (s.size < 1) || decide (16 < s.size)) = true := by simp [h2]
      rw [e]
      clear e
      go_enter Try.func41, Try.ntmps41
      go_wp2
      go_ret
      exact ⟨rfl, rfl⟩
    · have t2 : decide ((16 : Int) < (s.size : Int)) = false := by simp; omega
      have e : (decide (s.size < 1) || decide (16 < s.size)) = false := by simp [h1]; omega
      rw [e]
      clear e
      cases dn
      all_goals
        go_enter Try.func41, Try.ntmps41
        go_wp2
        go_ret
        exact ⟨rfl, rfl⟩
def Tick (w : World) (O : Nat → Prop) (d : Nat) (S : St) (e : Ending) (w' : World) : Prop := e = .returned (.bool (failing S)) ∧ Turned O w w' ∧ ∀ fv P Q, RRep w O d fv P Q S → RRep w' O d fv P Q (tick S)
theorem ref_raw (h : RRep w O d fv P Q S) : Calls Try.prog 45 #[.pointer (some ⟨d, 0, none⟩)] w (Tick w O d S) := by
  obtain ⟨_, _, _, c3, c4, _, fz⟩ := h.cells
  have f3 := fz 3; have f4 := fz 4
  have harm := h.good.arm
  have hod := h.od
  have r3 : ∀ fv P Q, RRep w O d fv P Q S → RRep (w.setCell ⟨d, 3, none⟩ (.int .i64 (inc S.wr))) O d fv P Q { S with wr := inc S.wr } := fun fv P Q h => h.field 3 _ rfl rfl h.good.arm
  clear h fz
  by_cases h0 : S.arm = 0
  · have D : Hid (∀ w', w' = w.setCell ⟨d, 3, none⟩ (.int .i64 (inc S.wr)) → Tick w O d S (.returned (.bool false)) w') := Lib.hid fun w' hw => by
      subst hw
      refine ⟨by simp [failing, h0], Turned.setCell _ 3 hod _, fun fv P Q h => ?_⟩
      have e : tick S = { S with wr := inc S.wr } := by simp [tick, h0]
      rw [e]; exact r3 fv P Q h
    rw [h0] at c4
    clear r3 h0 harm hod
    go_enter Try.func45, Try.ntmps45
    go_wp2
    go_ret
    exact D.out _ rfl
  · obtain ⟨a, ha⟩ : ∃ a, S.arm = a + 1 := ⟨S.arm - 1, by omega⟩
    have D : Hid (∀ w', w' = (w.setCell ⟨d, 3, none⟩ (.int .i64 (inc S.wr))).setCell ⟨d, 4, none⟩ (.int .i64 (a : Int)) → Tick w O d S (.returned (.bool ((a : Int) == 0))) w') := Lib.hid fun w' hw => by
      subst hw
      refine ⟨?_, (Turned.setCell _ 3 hod _).trans (Turned.setCell _ 4 hod _), fun fv P Q h => ?_⟩
      · unfold failing; rw [ha]
        congr 2
        rw [Bool.eq_iff_iff]; simp
      · have e : tick S = { S with wr := inc S.wr, arm := a } := by simp [tick, ha]
        rw [e]; exact (r3 fv P Q h).field 4 _ rfl rfl (by show a ≤ _; omega)
    rw [ha] at c4 harm
    have ea : ((a + 1 : Nat) : Int) = (a : Int) + 1 := by omega
    have eb : (a : Int) + 1 - 1 = (a : Int) := by omega
    have ec : ((a : Int) + 1 == 0) = false := by simp; omega
    rw [ea] at c4
    clear r3 h0 hod ha ea
    go_enter Try.func45, Try.ntmps45
    go_wp2
    all_goals
      go_ret
      exact D.out _ rfl
end
end Go.Proofs.Ytjeemgcenmcplaa.Dk

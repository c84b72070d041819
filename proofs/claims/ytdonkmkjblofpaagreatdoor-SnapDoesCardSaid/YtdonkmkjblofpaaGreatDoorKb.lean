/-
  Layer 4: how a disk of the program lies in memory, and what stays of it when memory turns.
-/
import Derived.Test.YtdonkmkjblofpaaGreatDoorChecked
import Derived.Test.YtdonkmkjblofpaaGreatDoorKa
import Derived.Test.YtdonkmkjblofpaaGreatDoorFr
import Derived.Maps.RangeWalk
import Derived.Maps.Ext
import Derived.Maps.OwnOps
import Derived.Maps.AppendAt
import Derived.Laws.AppendOwnNone
import Derived.Lib.Hide
import Derived.Lib.SmallJoins
import Derived.Sort.KeysCollected
namespace Go.Proofs.YtdonkmkjblofpaaGreatDoor.Dk
open Go.RowKit
open Go.Maps (Keyed)
set_option linter.unusedVariables false

/-! ### what turns and what stays -/
/-- Nothing that was there has turned but what O names. -/
structure Turned (O : Nat → Prop) (w w' : World) : Prop where
  os : w'.os = w.os
  tape : w'.tape = w.tape
  output : w'.output = w.output
  size : w.heap.size ≤ w'.heap.size
  block : ∀ k, k < w.heap.size → ¬ O k → w'.heap[k]? = w.heap[k]?
/-- One step of an object that owns O, and owns O' behind it: O' is of O and of what is new. -/
structure Step (w : World) (O : Nat → Prop) (w' : World) (O' : Nat → Prop) : Prop extends Turned O w w' where
  own : ∀ k, O' k → O k ∨ w.heap.size ≤ k
theorem Turned.refl (O : Nat → Prop) (w : World) : Turned O w w := ⟨rfl, rfl, rfl, Nat.le_refl _, fun _ _ _ => rfl⟩
theorem Turned.drewN (O : Nat → Prop) (w : World) (n : Nat) : Turned O w (w.drewN n) := ⟨rfl, rfl, rfl, Nat.le_refl _, fun _ _ _ => rfl⟩
theorem Step.refl (w : World) (O : Nat → Prop) : Step w O w O := ⟨Turned.refl O w, fun _ h => .inl h⟩
theorem Turned.trans {O : Nat → Prop} {a b c : World} (h : Turned O a b) (k : Turned O b c) : Turned O a c :=
  ⟨k.os.trans h.os, k.tape.trans h.tape, k.output.trans h.output, Nat.le_trans h.size k.size, fun i hi hn => (k.block i (Nat.lt_of_lt_of_le hi h.size) hn).trans (h.block i hi hn)⟩
theorem Step.trans {O O' O'' : Nat → Prop} {a b c : World} (h : Step a O b O') (k : Step b O' c O'') : Step a O c O'' :=
  ⟨⟨k.os.trans h.os, k.tape.trans h.tape, k.output.trans h.output, Nat.le_trans h.size k.size, fun i hi hn =>
    (k.block i (Nat.lt_of_lt_of_le hi h.size) (fun ho => by rcases h.own i ho with h1 | h1; exact hn h1; omega)).trans (h.block i hi hn)⟩,
   fun i hi => by rcases k.own i hi with h1 | h1; exact h.own i h1; exact .inr (Nat.le_trans h.size h1)⟩
theorem Step.of {O : Nat → Prop} {w w' : World} (h : Turned O w w') : Step w O w' O := ⟨h, fun _ h => .inl h⟩
theorem Turned.mono {O O' : Nat → Prop} {w w' : World} (h : Turned O w w') (hs : ∀ i, i < w.heap.size → O i → O' i) : Turned O' w w' := ⟨h.os, h.tape, h.output, h.size, fun i hi hn => h.block i hi fun ho => hn (hs i hi ho)⟩
theorem Turned.of_grown {O : Nat → Prop} {w w' : World} {row : Option Nat} (h : w.grownBy w' row) (hr : ∀ b, row = some b → O b) : Turned O w w' :=
  ⟨h.os, h.tape, h.output, h.size, fun k hk hn => h.block k hk fun e => hn (hr k e.symm)⟩
theorem Turned.setCell {O : Nat → Prop} (w : World) {g : Nat} (i : Nat) (hg : O g) (u : Value) : Turned O w (w.setCell ⟨g, i, none⟩ u) :=
  ⟨rfl, rfl, rfl, by simp, fun k _ hn => Below.heap_setCell w _ u k fun e => hn (by rw [e]; exact hg)⟩
theorem Turned.below {O : Nat → Prop} {w w' : World} {B : Nat} (h : Turned O w w') (hB : ∀ k, k < B → k < w.heap.size ∧ ¬ O k) : Below B w w' :=
  ⟨h.os, h.tape, h.output, h.size, fun k hk => h.block k (hB k hk).1 (hB k hk).2⟩
theorem Turned.grown {O : Nat → Prop} {w w' : World} (h : Turned O w w') {b : Nat} (hO : ∀ k, k < w.heap.size → O k → k = b) : w.grownBy w' (some b) :=
  ⟨h.os, h.tape, h.output, h.size, fun k hk hn => h.block k hk fun ho => hn (by rw [hO k hk ho])⟩
theorem Turned.of_below {O : Nat → Prop} {w w' : World} (h : Below w.heap.size w w') : Turned O w w' := ⟨h.os, h.tape, h.output, h.size, fun k hk _ => h.block k hk⟩

/-! ### the map of files -/
def Rp (v : Value) : Option (DataW Unit × List MemPlace) :=
  match v with
  | .pointer none => some (.nil, [])
  | .pointer (some ⟨g, 0, none⟩) => some (.lit (.int .i64 (g : Int)), [])
  | _ => none
theorem law : Keyed Tryz.prog 9 := Maps.string_keyed Tryz.underlying9
theorem zeroP (w : World) : (zeroValue 80).run Tryz.prog w = .ok (.pointer none) w := by kernel_rfl
theorem Rp_inv {v : Value} {g : Nat} {ps : List MemPlace} (h : Rp v = some (.lit (.int .i64 (g : Int)), ps)) : v = .pointer (some ⟨g, 0, none⟩) := by
  unfold Rp at h
  split at h
  · simp at h
  · simp at h; obtain ⟨h, _⟩ := h; have h := Int.ofNat.inj h; subst h; rfl
  · cases h
theorem Rp_nil {v : Value} {ps : List MemPlace} (h : Rp v = some (.nil, ps)) : v = .pointer none := by
  unfold Rp at h
  split at h
  · rfl
  · simp at h
  · cases h
def ent (G : List UInt8 → Nat) (f : File) : Lit × DataW Unit := (.string f.nm, .lit (.int .i64 (G f.nm : Int)))
def dat (G : List UInt8 → Nat) (fs : List File) : DataW Unit := .map (fs.map (ent G))
theorem atKey_look {G : List UInt8 → Nat} {k : List UInt8} {z : DataW Unit} : ∀ fs : List File, (dat G fs).atKey (.string k) z = match look k fs with | some f => .lit (.int .i64 (G f.nm : Int)) | none => z
  | [] => rfl
  | y :: r => by
    have ih := atKey_look (G := G) (k := k) (z := z) r
    unfold dat DataW.atKey at ih ⊢
    simp only [List.map_cons, List.find?_cons]
    unfold look
    by_cases e : y.nm = k
    · have : (ent G y).1.sameKey (.string k) = true := by simp [ent, Lit.sameKey, e]
      rw [this, if_pos e]
      rfl
    · have : (ent G y).1.sameKey (.string k) = false := by simp [ent, Lit.sameKey, e]
      rw [this, if_neg e]
      exact ih
theorem atKey_found {G : List UInt8 → Nat} {k : List UInt8} {z : DataW Unit} {fs : List File} {f : File} (h : look k fs = some f) : (dat G fs).atKey (.string k) z = .lit (.int .i64 (G f.nm : Int)) := by rw [atKey_look, h]
theorem atKey_lacks {G : List UInt8 → Nat} {k : List UInt8} {z : DataW Unit} {fs : List File} (h : look k fs = none) : (dat G fs).atKey (.string k) z = z := by rw [atKey_look, h]
theorem dat_del (G : List UInt8 → Nat) (k : List UInt8) (fs : List File) : (dat G fs).del (.string k) = dat G (del k fs) := by
  unfold dat DataW.del del
  simp only [List.filter_map]
  congr 2
theorem ent_ins (G : List UInt8 → Nat) (x : File) : ∀ fs : List File, DataW.insert (ent G x) (fs.map (ent G)) = (ins x fs).map (ent G)
  | [] => rfl
  | y :: r => by
    simp only [List.map_cons]
    unfold DataW.insert ins
    have : (ent G x).1.before (ent G y).1 = bytesBefore x.nm y.nm := rfl
    rw [this]
    split
    · simp
    · simp [ent_ins G x r]
theorem dat_put (G : List UInt8 → Nat) (x : File) (fs : List File) : (dat G fs).put (.string x.nm) (.lit (.int .i64 (G x.nm : Int))) = dat G (put x fs) := by
  have h := dat_del G x.nm fs
  unfold dat DataW.del at h
  simp only [DataW.map.injEq] at h
  unfold dat DataW.put put
  simp only
  rw [h]
  exact congrArg DataW.map (ent_ins G x _)
theorem dat_congr {G G' : List UInt8 → Nat} {fs : List File} (h : ∀ f ∈ fs, G' f.nm = G f.nm) : dat G' fs = dat G fs := by
  unfold dat
  congr 1
  exact List.map_congr_left fun f hf => by unfold ent; rw [h f hf]
theorem dat_map (G : List UInt8 → Nat) {φ : File → File} (fs : List File) (h : ∀ f ∈ fs, (φ f).nm = f.nm) : dat G (fs.map φ) = dat G fs := by
  unfold dat
  rw [List.map_map]
  congr 1
  exact List.map_congr_left fun f hf => by simp only [Function.comp]; unfold ent; rw [h f hf]
theorem has_look {G : List UInt8 → Nat} {k : List UInt8} : ∀ fs : List File, Maps.has (dat G fs) (.string k) = (look k fs).isSome
  | [] => rfl
  | y :: r => by
    have ih := has_look (G := G) (k := k) r
    unfold dat Maps.has at ih ⊢
    simp only [List.map_cons, List.any_cons]
    unfold look
    by_cases e : y.nm = k
    · have : (ent G y).1.sameKey (.string k) = true := by simp [ent, Lit.sameKey, e]
      rw [this, if_pos e]; rfl
    · have : (ent G y).1.sameKey (.string k) = false := by simp [ent, Lit.sameKey, e]
      rw [this, if_neg e, Bool.false_or]; exact ih
theorem size_dat (G : List UInt8 → Nat) (fs : List File) : Maps.size (dat G fs) = fs.length := by simp [dat, Maps.size]
/-- A map's bound, as tight as can be. -/
theorem owns_tight {w : World} {k : TypeId} {R : Value → Option (DataW Unit × List MemPlace)} {b n : Nat} {D : DataW Unit} (h : w.ownsMap Tryz.prog k R b n D) : w.ownsMap Tryz.prog k R b (Maps.size D) D := by
  obtain ⟨es, clock, hb, F, hs, rfl⟩ := h
  exact ⟨es, clock, hb, F, by simp [Maps.size, length_sorted], rfl⟩
theorem owns_same {w w' : World} {k : TypeId} {R : Value → Option (DataW Unit × List MemPlace)} {b n : Nat} {D : DataW Unit} (h : w.ownsMap Tryz.prog k R b n D) (hb : w'.heap[b]? = w.heap[b]?) : w'.ownsMap Tryz.prog k R b n D := by
  obtain ⟨es, clock, h1, F, hs, hD⟩ := h
  exact ⟨es, clock, hb.trans h1, F, hs, hD⟩

/-! ### a row of bytes that is owned -/
theorem info_u8 : (Tryz.prog.info? 5).map (fun i => (i.zero, i.size, i.bytes)) = some (some (.int .u8 0), 1, 1) := by kernel_rfl
def Own (w : World) (v : Value) (l : List Int) : Prop := w.ownsRow 0 5 1 v l.length (l.map (Value.int .u8))
theorem own_nil (w : World) : Own w (.slice none 0 0) [] := ⟨rfl, .inl ⟨rfl, rfl⟩⟩
theorem Own.same {w w' : World} {v : Value} {l : List Int} (h : Own w v l) (hb : ∀ b, v.ownBlock = some b → w'.heap[b]? = w.heap[b]?) : Own w' v l := by
  refine ⟨h.1, ?_⟩
  rcases h.2 with h0 | ⟨g, cap, cur, hv, hbg, hh, h1, h2, h3, h4⟩
  · exact .inl h0
  · exact .inr ⟨g, cap, cur, hv, hbg, (hb g (by rw [hv]; rfl)).trans hh, h1, h2, h3, h4⟩
theorem Own.lt {w : World} {v : Value} {l : List Int} (h : Own w v l) : ∀ b, v.ownBlock = some b → b < w.heap.size := by
  intro b hb
  rcases h.2 with ⟨rfl, _⟩ | ⟨g, cap, cur, rfl, hbg, hh, _⟩
  · cases hb
  · cases hb
    exact (Array.getElem?_eq_some_iff.1 hh).1
theorem Own.kind {w : World} {v : Value} {l : List Int} (h : Own w v l) : ∀ b, v.ownBlock = some b → ∃ cur, w.heap[b]? = some (.cells cur 5 (0, 0)) := by
  intro b hb
  rcases h.2 with ⟨rfl, _⟩ | ⟨g, cap, cur, rfl, hbg, hh, _⟩
  · cases hb
  · cases hb
    exact ⟨cur, hh⟩
theorem Own.row {w : World} {v : Value} {l : List Int} (h : Own w v l) : ∃ ad cap, v = .slice ad l.length cap ∧ Fr.HasRow .u8 w ad l.length l ∧ (ad = none → cap = 0) ∧ l.length ≤ cap ∧ cap ≤ maxLen := by
  rcases h.2 with ⟨rfl, h0⟩ | ⟨g, cap, cur, rfl, hb, hh, h1, h2, h3, h4⟩
  · have e : l = [] := List.eq_nil_of_length_eq_zero h0
    subst e
    exact ⟨none, 0, rfl, ⟨Nat.le_refl _, by decide, fun h => absurd h (by decide)⟩, fun _ => rfl, Nat.le_refl _, by decide⟩
  · refine ⟨some ⟨g, 0, none⟩, cap, rfl, ⟨Nat.le_refl _, by unfold maxLen at h2; omega, fun _ => ⟨g, 0, rfl, fun j hj => ?_⟩⟩, (fun h => by cases h), h1, h2⟩
    rw [Nat.zero_add, World.ownsRow.cellAt h j (by omega), List.getElem?_map, List.getElem?_eq_getElem hj]
    simp [List.getD, hj]
/-- The slice that is left of it. -/
theorem Own.short {w : World} {ad : Option Addr} {cap : Nat} {l : List Int} (h : Own w (.slice ad l.length cap) l) (n : Nat) (hn : n ≤ l.length) : Own w (.slice ad n cap) (l.take n) := by
  have e : (l.take n).length = n := by simp; omega
  refine ⟨by simp, ?_⟩
  rw [e]
  rcases h.2 with ⟨h0, h1⟩ | ⟨g, cap', cur, hv, hb, hh, h1, h2, h3, h4⟩
  · simp at h0
    left; simp [h0]; omega
  · simp at hv
    obtain ⟨rfl, rfl⟩ := hv
    refine .inr ⟨g, cap, cur, rfl, hb, hh, by omega, h2, h3, ?_⟩
    rw [Nat.mul_one] at h4 ⊢
    rw [List.map_take, ← h4, List.take_take]
    congr 1
    omega

/-! ### a disk in memory -/
def dcells (m : Nat) (S : St) : Array Value := #[.map (some m), .int .i64 S.room, .bool S.down, .int .i64 S.wr, .int .i64 (S.arm : Int), .int .i64 S.keep]
structure FileAt (w : World) (O : Nat → Prop) (g : Nat) (v : Value) (f : File) : Prop where
  og : O g
  blk : w.heap[g]? = some (.cells #[v, .int .i64 (f.s : Int)] 82 (0, 0))
  own : Own w v f.l
  ov : ∀ b, v.ownBlock = some b → O b
structure Rep (w : World) (O : Nat → Prop) (d m : Nat) (G : List UInt8 → Nat) (V : List UInt8 → Value) (S : St) : Prop where
  dom : ∀ i, O i → i < w.heap.size
  od : O d
  om : O m
  blk : w.heap[d]? = some (.cells (dcells m S) 79 (0, 0))
  map : w.ownsMap Tryz.prog 9 Rp m S.fs.length (dat G S.fs)
  files : ∀ f ∈ S.fs, FileAt w O (G f.nm) (V f.nm) f
  apart : ∀ f ∈ S.fs, ∀ f' ∈ S.fs, f.nm ≠ f'.nm → G f.nm ≠ G f'.nm ∧ ∀ b, (V f.nm).ownBlock = some b → (V f'.nm).ownBlock ≠ some b
  good : Good S
/-- A disk: at block d, owning O. -/
def IsDisk (w : World) (O : Nat → Prop) (d : Nat) (S : St) : Prop := ∃ m G V, Rep w O d m G V S

theorem FileAt.same {w w' : World} {O O' : Nat → Prop} {g : Nat} {v : Value} {f : File} (h : FileAt w O g v f) (hO : ∀ i, O i → O' i) (hb : ∀ i, O i → w'.heap[i]? = w.heap[i]?) : FileAt w' O' g v f :=
  ⟨hO g h.og, (hb g h.og).trans h.blk, h.own.same fun b e => hb b (h.ov b e), fun b e => hO b (h.ov b e)⟩
/-- Nothing of it has turned. -/
theorem Rep.same {w w' : World} {O : Nat → Prop} {d m : Nat} {G : List UInt8 → Nat} {V : List UInt8 → Value} {S : St} (h : Rep w O d m G V S) (hs : w.heap.size ≤ w'.heap.size) (hb : ∀ i, O i → w'.heap[i]? = w.heap[i]?) : Rep w' O d m G V S :=
  ⟨fun i hi => Nat.lt_of_lt_of_le (h.dom i hi) hs, h.od, h.om, (hb d h.od).trans h.blk, owns_same h.map (hb m h.om), fun f hf => (h.files f hf).same (fun _ h => h) hb, h.apart, h.good⟩
theorem Rep.below {w w' : World} {O : Nat → Prop} {d m : Nat} {G : List UInt8 → Nat} {V : List UInt8 → Value} {S : St} (h : Rep w O d m G V S) (hb : Below w.heap.size w w') : Rep w' O d m G V S := h.same hb.size fun i hi => hb.block i (h.dom i hi)
theorem IsDisk.turned {w w' : World} {O Q : Nat → Prop} {d : Nat} {S : St} (h : IsDisk w O d S) (ht : Turned Q w w') (hd : ∀ i, O i → ¬ Q i) : IsDisk w' O d S := by
  obtain ⟨m, G, V, h⟩ := h
  exact ⟨m, G, V, h.same ht.size fun i hi => ht.block i (h.dom i hi) (hd i hi)⟩
theorem IsDisk.below {w w' : World} {O : Nat → Prop} {d : Nat} {S : St} (h : IsDisk w O d S) (hb : Below w.heap.size w w') : IsDisk w' O d S := by
  obtain ⟨m, G, V, h⟩ := h
  exact ⟨m, G, V, h.below hb⟩
theorem IsDisk.dom {w : World} {O : Nat → Prop} {d : Nat} {S : St} (h : IsDisk w O d S) : ∀ i, O i → i < w.heap.size := by
  obtain ⟨m, G, V, h⟩ := h; exact h.dom
theorem IsDisk.good {w : World} {O : Nat → Prop} {d : Nat} {S : St} (h : IsDisk w O d S) : Good S := by
  obtain ⟨m, G, V, h⟩ := h; exact h.good
theorem Rep.cells {w : World} {O : Nat → Prop} {d m : Nat} {G : List UInt8 → Nat} {V : List UInt8 → Value} {S : St} (h : Rep w O d m G V S) :
    w.cell? ⟨d, 0, none⟩ = some (.map (some m)) ∧ w.cell? ⟨d, 1, none⟩ = some (.int .i64 S.room) ∧ w.cell? ⟨d, 2, none⟩ = some (.bool S.down) ∧ w.cell? ⟨d, 3, none⟩ = some (.int .i64 S.wr) ∧
    w.cell? ⟨d, 4, none⟩ = some (.int .i64 (S.arm : Int)) ∧ w.cell? ⟨d, 5, none⟩ = some (.int .i64 S.keep) ∧ ∀ i, w.frozen? ⟨d, i, none⟩ = false :=
  ⟨Joins.cell_of_block h.blk 0, Joins.cell_of_block h.blk 1, Joins.cell_of_block h.blk 2, Joins.cell_of_block h.blk 3, Joins.cell_of_block h.blk 4, Joins.cell_of_block h.blk 5, fun i => Joins.unfrozen_of_block h.blk i⟩
theorem FileAt.cells {w : World} {O : Nat → Prop} {g : Nat} {v : Value} {f : File} (h : FileAt w O g v f) :
    w.cell? ⟨g, 0, none⟩ = some v ∧ w.cell? ⟨g, 1, none⟩ = some (.int .i64 (f.s : Int)) ∧ ∀ i, w.frozen? ⟨g, i, none⟩ = false :=
  ⟨Joins.cell_of_block h.blk 0, Joins.cell_of_block h.blk 1, fun i => Joins.unfrozen_of_block h.blk i⟩
theorem Rep.find {w : World} {O : Nat → Prop} {d m : Nat} {G : List UInt8 → Nat} {V : List UInt8 → Value} {S : St} (h : Rep w O d m G V S) {s : ByteArray} (hs : s.size ≤ maxLen) {f : File} (hf : look s.data.toList S.fs = some f) :
    (Instr.lookup 77 (.map (some m)) (.string s) false).run Tryz.prog w = .ok (.pointer (some ⟨G f.nm, 0, none⟩)) w := by
  obtain ⟨v, ps, hrun, hv⟩ := h.map.lookup law Tryz.underlying77 (zeroP w) (zd := .nil) (zp := []) rfl (WideMaps.keyOf_string_mk Tryz.underlying9 hs)
  rw [atKey_found hf] at hv
  rw [hrun, Rp_inv hv]
theorem Rep.lacks {w : World} {O : Nat → Prop} {d m : Nat} {G : List UInt8 → Nat} {V : List UInt8 → Value} {S : St} (h : Rep w O d m G V S) {s : ByteArray} (hs : s.size ≤ maxLen) (hf : look s.data.toList S.fs = none) :
    (Instr.lookup 77 (.map (some m)) (.string s) false).run Tryz.prog w = .ok (.pointer none) w := by
  obtain ⟨v, ps, hrun, hv⟩ := h.map.lookup law Tryz.underlying77 (zeroP w) (zd := .nil) (zp := []) rfl (WideMaps.keyOf_string_mk Tryz.underlying9 hs)
  rw [atKey_lacks hf] at hv
  rw [hrun, Rp_nil hv]
/-- The three kinds of blocks are apart. -/
theorem Rep.ne {w : World} {O : Nat → Prop} {d m : Nat} {G : List UInt8 → Nat} {V : List UInt8 → Value} {S : St} (h : Rep w O d m G V S) :
    d ≠ m ∧ (∀ f ∈ S.fs, G f.nm ≠ d ∧ G f.nm ≠ m) ∧ (∀ f ∈ S.fs, ∀ b, (V f.nm).ownBlock = some b → b ≠ d ∧ b ≠ m ∧ ∀ f' ∈ S.fs, G f'.nm ≠ b) := by
  obtain ⟨es, clock, hm, _⟩ := h.map
  have hd := h.blk
  refine ⟨fun e => ?_, fun f hf => ⟨fun e => ?_, fun e => ?_⟩, fun f hf b hb => ?_⟩
  · rw [e, hm] at hd; cases hd
  · have := (h.files f hf).blk; rw [e, hd] at this; simp [dcells] at this
  · have := (h.files f hf).blk; rw [e, hm] at this; cases this
  · obtain ⟨cur, hc⟩ := (h.files f hf).own.kind b hb
    refine ⟨fun e => ?_, fun e => ?_, fun f' hf' e => ?_⟩
    · rw [e, hd] at hc; simp at hc
    · rw [e, hm] at hc; cases hc
    · have := (h.files f' hf').blk; rw [e, hc] at this; simp at this
/-- A field of the disk is stored. -/
theorem Rep.field {w : World} {O : Nat → Prop} {d m : Nat} {G : List UInt8 → Nat} {V : List UInt8 → Value} {S S' : St} (h : Rep w O d m G V S) (i : Nat) (x : Value) (hc : (dcells m S).setIfInBounds i x = dcells m S') (hf : S'.fs = S.fs) (ha : S'.arm ≤ 9223372036854775807) :
    Rep (w.setCell ⟨d, i, none⟩ x) O d m G V S' := by
  have hne := h.ne
  have hk : ∀ k, k ≠ d → (w.setCell ⟨d, i, none⟩ x).heap[k]? = w.heap[k]? := fun k hk => Below.heap_setCell w _ x k hk
  refine ⟨fun j hj => by have := h.dom j hj; simpa using this, h.od, h.om, by rw [← hc]; exact Joins.block_setCell h.blk x, ?_, fun f hf' => ?_, ?_, good_same h.good hf ha⟩
  · rw [hf]; exact owns_same h.map (hk m fun e => hne.1 e.symm)
  · rw [hf] at hf'
    have h1 := h.files f hf'
    exact ⟨h1.og, (hk _ (hne.2.1 f hf').1).trans h1.blk, h1.own.same fun b hb => hk b (hne.2.2 f hf' b hb).1, h1.ov⟩
  · rw [hf]; exact h.apart
/-- Another value at one name. -/
def at1 {α : Type} (V : List UInt8 → α) (k : List UInt8) (v : α) : List UInt8 → α := fun x => if x = k then v else V x
theorem at1_same {α : Type} (V : List UInt8 → α) (k : List UInt8) (v : α) : at1 V k v k = v := by simp [at1]
theorem at1_other {α : Type} {V : List UInt8 → α} {k x : List UInt8} {v : α} (h : x ≠ k) : at1 V k v x = V x := by simp [at1, h]
/-- One file is turned, in its own blocks and in new ones alone. -/
theorem Rep.file {w w' : World} {O O' : Nat → Prop} {d m : Nat} {G : List UInt8 → Nat} {V : List UInt8 → Value} {S : St} (h : Rep w O d m G V S) {f0 : File} (hf0 : f0 ∈ S.fs) (φ : File → File) (hφ : (φ f0).nm = f0.nm) (v : Value)
    (hs : Step w O w' O') (hO : ∀ i, O i → O' i) (hdom : ∀ i, O' i → i < w'.heap.size) (hb : ∀ i, O i → i ≠ G f0.nm → (V f0.nm).ownBlock ≠ some i → w'.heap[i]? = w.heap[i]?)
    (hfa : FileAt w' O' (G f0.nm) v (φ f0)) (hv : ∀ b, v.ownBlock = some b → (V f0.nm).ownBlock = some b ∨ w.heap.size ≤ b) (hg : Good { S with fs := S.fs.map fun f => if f.nm = f0.nm then φ f else f }) :
    Rep w' O' d m G (at1 V f0.nm v) { S with fs := S.fs.map fun f => if f.nm = f0.nm then φ f else f } := by
  have hne := h.ne
  have hdis := distinct h.good.sorted
  have hn : ∀ f ∈ S.fs, (if f.nm = f0.nm then φ f else f).nm = f.nm := fun f hf => by
    split
    · rename_i e
      have := mem_eq hdis hf hf0 e
      rw [this, hφ]
    · rfl
  have g0 := hne.2.1 f0 hf0
  have hb' : ∀ i, O i → i ≠ G f0.nm → (∀ b, (V f0.nm).ownBlock = some b → b ≠ i) → w'.heap[i]? = w.heap[i]? := fun i h1 h2 h3 => hb i h1 h2 fun e => h3 i e rfl
  refine ⟨hdom, hO _ h.od, hO _ h.om, (hb' d h.od (fun e => g0.1 e.symm) fun b e e2 => (hne.2.2 f0 hf0 b e).1 e2).trans h.blk, ?_, ?_, ?_, hg⟩
  · rw [dat_map G S.fs hn]
    simp only [List.length_map]
    exact owns_same h.map (hb' m h.om (fun e => g0.2 e.symm) fun b e e2 => (hne.2.2 f0 hf0 b e).2.1 e2)
  · intro f hf
    obtain ⟨f1, hf1, rfl⟩ := List.mem_map.1 hf
    rw [hn f1 hf1]
    by_cases e : f1.nm = f0.nm
    · have := mem_eq hdis hf1 hf0 e
      subst this
      rw [if_pos rfl, at1_same]
      exact hfa
    · rw [if_neg e, at1_other e]
      have h1 := h.files f1 hf1
      have ha := h.apart f1 hf1 f0 hf0 e
      have hG : w'.heap[G f1.nm]? = w.heap[G f1.nm]? := hb' _ h1.og ha.1 fun b e e2 => (hne.2.2 f0 hf0 b e).2.2 f1 hf1 e2.symm
      exact ⟨hO _ h1.og, hG.trans h1.blk, h1.own.same fun b hb1 => hb' b (h1.ov b hb1) (fun e2 => (hne.2.2 f1 hf1 b hb1).2.2 f0 hf0 e2.symm) fun b' e' e2 => ha.2 b hb1 (e2 ▸ e'), fun b hb1 => hO _ (h1.ov b hb1)⟩
  · intro f hf f' hf' hne'
    obtain ⟨f1, hf1, rfl⟩ := List.mem_map.1 hf
    obtain ⟨f2, hf2, rfl⟩ := List.mem_map.1 hf'
    rw [hn f1 hf1, hn f2 hf2] at hne' ⊢
    have ha := h.apart f1 hf1 f2 hf2 hne'
    refine ⟨ha.1, fun b hb1 hb2 => ?_⟩
    by_cases e1 : f1.nm = f0.nm
    · by_cases e2 : f2.nm = f0.nm
      · exact hne' (e1.trans e2.symm)
      · rw [e1, at1_same] at hb1
        rw [at1_other e2] at hb2
        rcases hv b hb1 with h1 | h1
        · exact (h.apart f2 hf2 f0 hf0 e2).2 b hb2 h1
        · have := h.dom b ((h.files f2 hf2).ov b hb2); omega
    · rw [at1_other e1] at hb1
      by_cases e2 : f2.nm = f0.nm
      · rw [e2, at1_same] at hb2
        rcases hv b hb2 with h1 | h1
        · exact (h.apart f1 hf1 f0 hf0 e1).2 b hb1 h1
        · have := h.dom b ((h.files f1 hf1).ov b hb1); omega
      · rw [at1_other e2] at hb2
        exact ha.2 b hb1 hb2
end Go.Proofs.YtdonkmkjblofpaaGreatDoor.Dk

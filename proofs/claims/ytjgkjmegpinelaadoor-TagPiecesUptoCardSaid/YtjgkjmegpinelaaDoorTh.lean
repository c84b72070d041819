/-
  Layer 7: bytes of the call's own in a row of which nothing is frozen (also one that a conversion of a string has made): appends of strings and of slices, stores, what is read.
-/
import Derived.Test.YtjgkjmegpinelaaDoorTd
import Derived.Test.YtjgkjmegpinelaaDoorFr
import Derived.Test.YtjgkjmegpinelaaDoorSb
import Derived.Lib.FrozenHead2
import Derived.Laws.IdiomStrings
import Derived.Laws.BytesArg
import Derived.Lib.ConvBytes
namespace Go.Proofs.YtjgkjmegpinelaaDoor.Tg
open Go.RowKit Dx Sx
set_option linter.unusedVariables false
set_option linter.unusedSimpArgs false

/-! ### Bytes that are read -/
def HasL (w : World) (a : Option Addr) (l : List UInt8) : Prop := Fr.HasRow .u8 w a l.length (toI l)
theorem toI_getD (l : List UInt8) (j : Nat) : (toI l).getD j 0 = ((l.getD j 0).toNat : Int) := by
  unfold toI
  rcases Nat.lt_or_ge j l.length with h | h
  · simp [List.getD, h]
  · simp [List.getD, h]
theorem bytes_toI (l : List UInt8) : Bytes (toI l) := fun j hj => by
  rw [toI_getD]
  have := (l.getD j 0).toNat_lt
  omega
theorem small_toI (l : List UInt8) : smallS ((toI l).take l.length) = (smallN l : Int) := by
  rw [List.take_of_length_le (by rw [toI_length]; omega), small_sum]
  unfold smallN toI
  have : ∀ l : List UInt8, (l.map fun c => (c.toNat : Int)).sum = ((l.map UInt8.toNat).sum : Nat) := by
    intro l
    induction l with
    | nil => rfl
    | cons c l ih => simp [ih]
  rw [this]; omega
theorem str_toI (l : List UInt8) : strOfNums (toI l) = bs l := by
  unfold strOfNums toI bs
  rw [List.map_map]
  congr 2
  have : ∀ l : List UInt8, l.map ((fun n : Int => UInt8.ofNat n.toNat) ∘ fun c : UInt8 => (c.toNat : Int)) = l := by
    intro l
    induction l with
    | nil => rfl
    | cons c l ih => simp [ih]
  exact this l
theorem toI_of {zs : List Int} (h : Bytes zs) : ∃ l : List UInt8, zs = toI l := by
  refine ⟨zs.map fun n => UInt8.ofNat n.toNat, ?_⟩
  unfold toI
  rw [List.map_map]
  refine (List.map_id' zs).symm.trans (List.map_congr_left ?_)
  intro z hz
  obtain ⟨j, hj, rfl⟩ := List.getElem_of_mem hz
  have := h j hj
  simp only [List.getD, List.getElem?_eq_getElem hj, Option.getD_some] at this
  simp only [Function.comp]
  rw [UInt8.toNat_ofNat']
  omega
theorem toI_take (l : List UInt8) (k : Nat) : toI (l.take k) = (toI l).take k := by unfold toI; rw [List.map_take]
theorem toI_drop (l : List UInt8) (k : Nat) : toI (l.drop k) = (toI l).drop k := by unfold toI; rw [List.map_drop]
theorem toI_app (a b : List UInt8) : toI (a ++ b) = toI a ++ toI b := by simp [toI]
theorem HasL.keep {w w' : World} {a : Option Addr} {l : List UInt8} (h : HasL w a l) (hb : Below w.heap.size w w') : HasL w' a l := Fr.HasRow.keep h hb
theorem HasL.at {w : World} {a : Option Addr} {l : List UInt8} (h : HasL w a l) (h0 : 0 < l.length) : ∃ b off, a = some ⟨b, off, none⟩ ∧ ∀ j, j < l.length → w.cell? ⟨b, off + j, none⟩ = some (.int .u8 ((l.getD j 0).toNat : Int)) := by
  obtain ⟨b, off, e, hc⟩ := h.2.2 h0
  exact ⟨b, off, e, fun j hj => by rw [hc j hj, toI_getD]⟩
theorem HasL.of_row {w : World} {a : Option Addr} {len cap : Nat} {zs : List Int} (h : Fr.IsRow .u8 w a len cap zs) : ∃ l : List UInt8, l.length = len ∧ HasL w a l := by
  have hb : Bytes zs := by
    rcases h with ⟨rfl, rfl, rfl, rfl⟩ | ⟨x, rfl, h1, h2, h3, h4, h5⟩
    · exact fun j hj => absurd hj (Nat.not_lt_zero _)
    · intro j hj
      have := bounds_u8 (h5 zs[j] (List.getElem_mem hj))
      simp only [List.getD, List.getElem?_eq_getElem hj, Option.getD_some]
      omega
  have hr := h.has
  obtain ⟨l, rfl⟩ := toI_of hb
  have hl := hr.1
  rw [toI_length] at hl
  refine ⟨l.take len, by rw [List.length_take]; omega, ?_⟩
  unfold HasL
  rw [List.length_take, Nat.min_eq_left hl]
  refine ⟨by rw [toI_length, List.length_take]; omega, hr.2.1, fun h0 => ?_⟩
  obtain ⟨b, off, e, hc⟩ := hr.2.2 h0
  refine ⟨b, off, e, fun j hj => ?_⟩
  rw [hc j hj, toI_take]
  simp [List.getD, hj]
/-- 'string(b)'. -/
theorem conv_at {w : World} {a : Option Addr} {l : List UInt8} {len cap : Nat} (h : HasL w a l) (hl : l.length = len) :
    (convert 25 9 (.slice a len cap)).run Tryd.prog w = .ok (.string (bs l)) w := by
  subst hl
  cases a with
  | none =>
    rcases Nat.eq_zero_or_pos l.length with h0 | h0
    · obtain rfl := List.eq_nil_of_length_eq_zero h0
      exact run_convert_bytes_nil _ _ _ Tryd.underlying25 Tryd.underlying5 _ _ _ Tryd.underlying9
    · obtain ⟨b, off, e, _⟩ := h.at h0; cases e
  | some ad =>
    rcases Nat.eq_zero_or_pos l.length with h0 | h0
    · obtain rfl := List.eq_nil_of_length_eq_zero h0
      exact run_convert_bytes_back w _ _ _ ad cap [] Tryd.underlying25 Tryd.underlying5 Tryd.underlying9 (fun j hj => absurd hj (Nat.not_lt_zero _))
    · obtain ⟨b, off, e, hc⟩ := h.at h0
      cases e
      refine run_convert_bytes_back w _ _ _ ⟨b, off, none⟩ cap l Tryd.underlying25 Tryd.underlying5 Tryd.underlying9 (fun j hj => ?_)
      rw [show (⟨b, off, none⟩ : Addr).add j = ⟨b, off + j, none⟩ by simp [Addr.add], hc j hj]
      simp [List.getD, hj]

/-! ### Bytes of the call's own -/
def FreeAt (fz : Nat × Nat) (lo hi : Nat) : Prop := ∀ j, lo ≤ j → j < hi → ¬ (fz.1 ≤ j ∧ j < fz.2)
def OwnG (w : World) (base : Nat) (v : Value) (l : List UInt8) : Prop :=
  (v = .slice none 0 0 ∧ l = []) ∨ ∃ g cap cur fz, v = .slice (some ⟨g, 0, none⟩) l.length cap ∧ base ≤ g ∧ w.heap[g]? = some (.cells cur 5 fz) ∧ FreeAt fz 0 cap ∧ l.length ≤ cap ∧ cap ≤ maxLen ∧ cur.size = cap ∧ cur.toList.take l.length = Lib.byteCells l
theorem OwnG.of_own {w : World} {base n : Nat} {v : Value} {l : List UInt8} (h : w.ownsRow base 5 1 v n (Lib.byteCells l)) : OwnG w base v l := by
  have hn : l.length = n := by have := h.1; rw [byteCells_length, Nat.mul_one] at this; exact this
  subst hn
  rcases h.2 with ⟨rfl, h0⟩ | ⟨g, cap, cur, rfl, hb, hh, h1, h2, h3, h4⟩
  · exact .inl ⟨rfl, List.eq_nil_of_length_eq_zero h0⟩
  · exact .inr ⟨g, cap, cur, (0, 0), rfl, hb, hh, (fun j _ _ h => absurd h.2 (Nat.not_lt_zero j)), h1, h2, by omega, by simpa using h4⟩
theorem OwnG.keep {w w' : World} {base : Nat} {v : Value} {l : List UInt8} (h : OwnG w base v l) (hb : Below w.heap.size w w') : OwnG w' base v l := by
  rcases h with h0 | ⟨g, cap, cur, fz, hv, hbg, hh, rest⟩
  · exact .inl h0
  · refine .inr ⟨g, cap, cur, fz, hv, hbg, ?_, rest⟩
    rw [hb.block g (Array.getElem?_eq_some_iff.1 hh).1]
    exact hh
theorem OwnG.low {w : World} {base base' : Nat} {v : Value} {l : List UInt8} (h : OwnG w base v l) (hb : base' ≤ base) : OwnG w base' v l := by
  rcases h with h0 | ⟨g, cap, cur, fz, hv, hbg, rest⟩
  · exact .inl h0
  · exact .inr ⟨g, cap, cur, fz, hv, by omega, rest⟩
theorem OwnG.other {w w' : World} {base : Nat} {v : Value} {l : List UInt8} (h : OwnG w base v l) (hs : ∀ k, v.ownBlock = some k → w'.heap[k]? = w.heap[k]?) : OwnG w' base v l := by
  rcases h with h0 | ⟨g, cap, cur, fz, rfl, hbg, hh, rest⟩
  · exact .inl h0
  · exact .inr ⟨g, cap, cur, fz, rfl, hbg, by rw [hs g rfl]; exact hh, rest⟩
theorem OwnG.lt {w : World} {base : Nat} {v : Value} {l : List UInt8} (h : OwnG w base v l) : ∀ k, v.ownBlock = some k → base ≤ k ∧ k < w.heap.size := by
  intro k hk
  rcases h with ⟨rfl, _⟩ | ⟨g, cap, cur, fz, rfl, hbg, hh, rest⟩
  · cases hk
  · cases hk
    exact ⟨hbg, (Array.getElem?_eq_some_iff.1 hh).1⟩
theorem cells_at {w : World} {g : Nat} {cur : Array Value} {T : TypeId} {fz : Nat × Nat} {l : List UInt8} (hh : w.heap[g]? = some (.cells cur T fz)) (ht : cur.toList.take l.length = Lib.byteCells l) :
    ∀ j, j < l.length → w.cell? ⟨g, j, none⟩ = some (.int .u8 ((l.getD j 0).toNat : Int)) := by
  intro j hj
  rw [Lib.cell_of_heap hh]
  have h1 : (cur.toList.take l.length)[j]? = (Lib.byteCells l)[j]? := by rw [ht]
  rw [List.getElem?_take, if_pos hj] at h1
  rw [← Array.getElem?_toList, h1]
  simp [Lib.byteCells, List.getD, hj]
/-- What is owned, as bytes that are read. -/
theorem OwnG.row {w : World} {base : Nat} {v : Value} {l : List UInt8} (h : OwnG w base v l) : ∃ a cap, v = .slice a l.length cap ∧ HasL w a l ∧ (a = none → cap = 0) ∧ l.length ≤ cap ∧ cap ≤ maxLen := by
  rcases h with ⟨rfl, rfl⟩ | ⟨g, cap, cur, fz, rfl, hbg, hh, h1, h2, h3, h4, h5⟩
  · exact ⟨none, 0, rfl, ⟨Nat.le_refl _, by decide, fun h => absurd h (by decide)⟩, fun _ => rfl, Nat.le_refl _, by decide⟩
  · refine ⟨some ⟨g, 0, none⟩, cap, rfl, ⟨by rw [toI_length]; omega, by unfold maxLen at h3; omega, fun _ => ⟨g, 0, rfl, fun j hj => ?_⟩⟩, (fun h => by cases h), h2, h3⟩
    rw [Nat.zero_add, cells_at hh h5 j hj, toI_getD]
/-- A store of a byte. -/
theorem OwnG.store {w : World} {base : Nat} {v : Value} {l : List UInt8} (h : OwnG w base v l) {j : Nat} (hj : j < l.length) : ∃ g cap, v = .slice (some ⟨g, 0, none⟩) l.length cap ∧ base ≤ g ∧ l.length ≤ cap ∧ cap ≤ maxLen ∧ w.cell? ⟨g, j, none⟩ = some (.int .u8 ((l.getD j 0).toNat : Int)) ∧ w.frozen? ⟨g, j, none⟩ = false ∧
    ∀ c : UInt8, OwnG (w.setCell ⟨g, j, none⟩ (.int .u8 (c.toNat : Int))) base v (l.set j c) := by
  rcases h with ⟨rfl, rfl⟩ | ⟨g, cap, cur, fz, rfl, hbg, hh, h1, h2, h3, h4, h5⟩
  · simp at hj
  · refine ⟨g, cap, rfl, hbg, h2, h3, cells_at hh h5 j hj, ?_, fun c => .inr ⟨g, cap, cur.setIfInBounds j (.int .u8 (c.toNat : Int)), fz, by rw [List.length_set], hbg, ?_, h1, by rw [List.length_set]; exact h2, h3, by rw [Array.size_setIfInBounds]; exact h4, ?_⟩⟩
    · obtain ⟨lo, hi⟩ := fz
      have := h1 j (Nat.zero_le _) (by omega)
      simp only [World.frozen?, hh]
      simp only at this
      rw [Bool.and_eq_false_iff, decide_eq_false_iff_not, decide_eq_false_iff_not]
      omega
    · rw [setCell_eq_setRow w g j cur _ fz _ hh]
      exact setRow_heap w g cur _ _ _ hh
    · rw [List.length_set, Array.toList_setIfInBounds, List.take_set, h5]
      unfold Lib.byteCells
      rw [List.map_set]

/-- Cells that are stored one by one, none of which is frozen. -/
theorem store_free (P : Program) (g o : Nat) (t : TypeId) (fz : Nat × Nat) : ∀ (vs : List Value) (i : Nat) (cur : Array Value) (w : World), w.heap[g]? = some (.cells cur t fz) → FreeAt fz (o + i) (o + i + vs.length) → o + i + vs.length ≤ cur.size → (∀ v ∈ vs, v.oneCell' = true) →
    (storeCells ⟨g, o, none⟩ vs i).run P w = .ok () (w.setRow g (cur.toList.take (o + i) ++ vs ++ cur.toList.drop (o + i + vs.length)).toArray) := by
  intro vs
  induction vs with
  | nil =>
    intro i cur w hg _ _ _
    simp only [storeCells, List.append_nil, List.length_nil, Nat.add_zero, List.take_append_drop, Array.toArray_toList]
    rw [setRow_self w g cur t fz hg]
    rfl
  | cons v rest ih =>
    intro i cur w hg hfz hl h1
    have hi : o + i < cur.size := by simp at hl; omega
    have hadd : (⟨g, o, none⟩ : Addr).add i = ⟨g, o + i, none⟩ := by simp [Addr.add]
    have hcell : w.cell? ⟨g, o + i, none⟩ = some cur[o + i] := by rw [Lib.cell_of_heap hg]; simp [hi]
    have hfro : w.frozen? ⟨g, o + i, none⟩ = false := by
      obtain ⟨lo, hi'⟩ := fz
      have := hfz (o + i) (Nat.le_refl _) (by simp)
      simp only [World.frozen?, hg]
      simp only at this
      rw [Bool.and_eq_false_iff, decide_eq_false_iff_not, decide_eq_false_iff_not]
      omega
    have hst : (store ((⟨g, o, none⟩ : Addr).add i) v).run P w = .ok () (w.setRow g (cur.setIfInBounds (o + i) v)) := by
      rw [hadd, run_store P w _ v _ (h1 v (by simp)), hcell]
      simp [hfro, setCell_eq_setRow w g (o + i) cur t fz v hg]
    have h2 := ih (i + 1) (cur.setIfInBounds (o + i) v) (w.setRow g (cur.setIfInBounds (o + i) v)) (setRow_heap w g cur _ t _ hg) (fun j hj1 hj2 => hfz j (by omega) (by simp at hj2 ⊢; omega)) (by simp at hl ⊢; omega) (fun x hx => h1 x (by simp [hx]))
    simp only [storeCells, Sem.run_bind, hst, Result.andThen_ok, h2, setRow_setRow]
    congr 3
    have e := list_seg_step cur.toList (o + i) v rest (by simp at hl ⊢; omega)
    simpa [Array.toList_setIfInBounds, Nat.add_assoc] using e
theorem own_grown {w w' : World} {base : Nat} {v : Value} {l : List UInt8} (h : OwnG w base v l) (hb : base ≤ w.heap.size) (hg : w.grownBy w' v.ownBlock) : Below base w w' :=
  (Below.refl base w).grown hg hb fun k hk => (h.lt k hk).1
/-- An append of a string. -/
theorem run_apd_str (w : World) (ty : TypeId) {base : Nat} {v : Value} {l : List UInt8} (hown : OwnG w base v l) (s : List UInt8) (hb : l.length + s.length ≤ 140737488355328) (hbase : base ≤ w.heap.size) :
    ∃ v' w', (Builtin.append_ #[25, 9] ty #[v, .string (bs s)]).run Tryd.prog w = .ok v' w' ∧ OwnG w' base v' (l ++ s) ∧ w.grownBy w' v.ownBlock := by
  obtain ⟨i0, hi, hz0, hz1, hz2⟩ := info_parts infoU8
  have hsz : (bs s).size = s.length := rfl
  rcases hown with ⟨rfl, rfl⟩ | ⟨g, cap, cur, fz, rfl, hbg, hg, hfz, hnc, hcm, hcs, htake⟩
  · obtain ⟨v', w', h1, h2, h3, h4⟩ := Lib.run_append_own_string (P := Tryd.prog) w base 25 9 ty 5 i0 Tryd.underlying25 Tryd.underlying9 hi hz0 hz1 hz2 (.slice none 0 0) 0 [] (World.ownsRow_nil _ _ _ _) (bs s) (by unfold maxLen; simp at hb; omega) (by simp at hb; omega) hbase
    exact ⟨v', w', h1, OwnG.of_own (n := 0 + (bs s).size) (by rw [List.nil_append, ← strCells_bs]; simpa using h2), h3⟩
  · by_cases hroom : l.length + s.length ≤ cap
    · have hf := Lib.run_firstCells_string (P := Tryd.prog) w 1 (bs s)
      have hst := store_free Tryd.prog g l.length 5 fz (Lib.strCells (bs s)) 0 cur w hg (fun j h1 h2 => hfz j (Nat.zero_le _) (by rw [Lib.strCells_length, hsz] at h2; omega)) (by rw [Lib.strCells_length, hsz]; omega) (Lib.strCells_oneCell _)
      simp only [Nat.add_zero, Lib.strCells_length] at hst
      have hr : (Builtin.append_ #[25, 9] ty #[.slice (some ⟨g, 0, none⟩) l.length cap, .string (bs s)]).run Tryd.prog w =
          .ok (.slice (some ⟨g, 0, none⟩) (l.length + (bs s).size) cap) (w.setRow g (cur.toList.take l.length ++ Lib.strCells (bs s) ++ cur.toList.drop (l.length + (bs s).size)).toArray) := by
        rw [← hsz] at hroom
        simp [Builtin.append_, run_underlying Tryd.underlying25, run_underlying Tryd.underlying9, sizeOf, typeInfo, hi, hz1, Builtin.lenOf, hroom, hf, Addr.add_lit, hst]
      refine ⟨_, _, hr, .inr ⟨g, cap, _, fz, by rw [List.length_append, hsz], hbg, setRow_heap w g cur _ _ _ hg, hfz, by rw [List.length_append]; omega, hcm, ?_, ?_⟩, ⟨rfl, rfl, rfl, by simp, fun k _ hk => setRow_other w g k _ (fun e => hk (by simp [Value.ownBlock, e]))⟩⟩
      · simp only [List.size_toArray, List.length_append, List.length_take, List.length_drop, Array.length_toList, Lib.strCells_length, hsz]
        omega
      · rw [htake, strCells_bs, byteCells_app]
        exact List.take_left' (byteCells_length _)
    · have holds : ∀ j u, (Lib.byteCells l)[j]? = some u → w.cell? ((⟨g, 0, none⟩ : Addr).add j) = some u := by
        intro j u hu
        have hj : j < l.length := by
          have := (List.getElem?_eq_some_iff.1 hu).1
          rwa [byteCells_length] at this
        rw [show (⟨g, 0, none⟩ : Addr).add j = ⟨g, j, none⟩ by unfold Addr.add; split <;> simp_all, cells_at hg htake j hj, ← hu]
        simp [Lib.byteCells, List.getD, hj]
      have hr := Lib.run_append_grow_string (P := Tryd.prog) w 25 9 ty 5 i0 (.int .u8 0) Tryd.underlying25 Tryd.underlying9 hi hz0 ⟨g, 0, none⟩ l.length cap (Lib.byteCells l) (by rw [hz1, byteCells_length]; omega) holds (bs s) (by rw [hsz]; omega) (by rw [hsz]; omega) (by rw [hz2]; exact growslice_fits (by rw [hsz]; omega) (by rw [hsz]; omega))
      have hge := grownCap_ge w (l.length + (bs s).size) cap 5
      have hcm2 : grownCap w (l.length + (bs s).size) cap 5 ≤ maxLen := grownCap_le_maxLen w _ cap _ (by unfold maxLen; rw [hsz]; omega)
      refine ⟨_, _, hr, .inr ⟨w.heap.size, _, _, (0, 0), by rw [List.length_append, hsz], hbase, heap_alloc_new w.drew _, (fun j _ _ h => absurd h.2 (Nat.not_lt_zero j)), by rw [List.length_append, ← hsz]; exact hge, hcm2, ?_, ?_⟩, ⟨rfl, rfl, rfl, by simp, fun k hk _ => Below.heap_alloc w.drew _ k hk⟩⟩
      · have hzc : (Value.int IntKind.u8 0).cells.size = 1 := rfl
        simp only [Array.size_append, List.size_toArray, size_zeroCells, hzc, byteCells_length, Lib.strCells_length]
        omega
      · simp only [Array.toList_append, List.append_assoc]
        rw [← List.append_assoc, strCells_bs, byteCells_app]
        exact List.take_left' (byteCells_length _)
/-- An append of bytes that are read. -/
theorem run_apd_row (w : World) (ty : TypeId) {base : Nat} {v : Value} {l : List UInt8} (hown : OwnG w base v l) (ad : Option Addr) (len c : Nat) (s : List UInt8) (hrow : HasL w ad s) (hlen : s.length = len) (hn : ad = none → c = 0) (hb : l.length + s.length ≤ 140737488355328) (hbase : base ≤ w.heap.size) :
    ∃ v' w', (Builtin.append_ #[25, 25] ty #[v, .slice ad len c]).run Tryd.prog w = .ok v' w' ∧ OwnG w' base v' (l ++ s) ∧ w.grownBy w' v.ownBlock := by
  subst hlen
  obtain ⟨i0, hi, hz0, hz1, hz2⟩ := info_parts infoU8
  cases ad with
  | none =>
    obtain rfl : s = [] := by
      rcases Nat.eq_zero_or_pos s.length with h0 | h0
      · exact List.eq_nil_of_length_eq_zero h0
      · obtain ⟨b, off, e, _⟩ := hrow.at h0; cases e
    obtain rfl := hn rfl
    refine ⟨v, w, ?_, by rw [List.append_nil]; exact hown, ⟨rfl, rfl, rfl, Nat.le_refl _, fun _ _ _ => rfl⟩⟩
    rcases hown with ⟨rfl, rfl⟩ | ⟨g, cap, cur, fz, rfl, hbg, hg, hfz, hnc, hcm, hcs, htake⟩
    · simp [Builtin.append_, run_underlying Tryd.underlying25, sizeOf, typeInfo, hi, Builtin.lenOf, Builtin.firstCells]
    · simp [Builtin.append_, run_underlying Tryd.underlying25, sizeOf, typeInfo, hi, Builtin.lenOf, Builtin.firstCells, hnc, storeCells]
  | some ad =>
  have hnews : ∀ j u, (Lib.byteCells s)[j]? = some u → w.cell? (ad.add j) = some u := by
    intro j u hu
    have hj : j < s.length := by
      have := (List.getElem?_eq_some_iff.1 hu).1
      rwa [byteCells_length] at this
    obtain ⟨b, off, e, hc⟩ := hrow.at (by omega)
    cases e
    rw [show (⟨b, off, none⟩ : Addr).add j = ⟨b, off + j, none⟩ by simp [Addr.add], hc j hj, ← hu]
    simp [Lib.byteCells, List.getD, hj]
  have hone : ∀ u ∈ Lib.byteCells s, u.oneCell' = true := by rw [← strCells_bs]; exact Lib.strCells_oneCell _
  rcases hown with ⟨rfl, rfl⟩ | ⟨g, cap, cur, fz, rfl, hbg, hg, hfz, hnc, hcm, hcs, htake⟩
  · obtain ⟨v', w', h1, h2, h3, h4⟩ := run_append_own (P := Tryd.prog) w base 25 ty 5 i0 (.int .u8 0) 1 1 Tryd.underlying25 hi hz0 hz1 hz2 rfl (by decide) (.slice none 0 0) 0 [] (World.ownsRow_nil _ _ _ _) ad s.length c (Lib.byteCells s) (by rw [byteCells_length]; omega) hnews hone (by unfold maxLen; simp at hb; omega) (by simp at hb; omega) hbase
    exact ⟨v', w', h1, OwnG.of_own (n := 0 + s.length) (by rw [List.nil_append]; simpa using h2), h3⟩
  · by_cases hroom : l.length + s.length ≤ cap
    · have hf := run_firstCells_some (P := Tryd.prog) w 1 s.length ad s.length c (Lib.byteCells s) (by rw [byteCells_length]; omega) hnews
      have hst := store_free Tryd.prog g l.length 5 fz (Lib.byteCells s) 0 cur w hg (fun j h1 h2 => hfz j (Nat.zero_le _) (by rw [byteCells_length] at h2; omega)) (by rw [byteCells_length]; omega) hone
      simp only [Nat.add_zero, byteCells_length] at hst
      have hr : (Builtin.append_ #[25, 25] ty #[.slice (some ⟨g, 0, none⟩) l.length cap, .slice (some ad) s.length c]).run Tryd.prog w =
          .ok (.slice (some ⟨g, 0, none⟩) (l.length + s.length) cap) (w.setRow g (cur.toList.take l.length ++ Lib.byteCells s ++ cur.toList.drop (l.length + s.length)).toArray) := by
        simp [Builtin.append_, run_underlying Tryd.underlying25, sizeOf, typeInfo, hi, hz1, Builtin.lenOf, hroom, hf, Addr.add_lit, hst]
      refine ⟨_, _, hr, .inr ⟨g, cap, _, fz, by rw [List.length_append], hbg, setRow_heap w g cur _ _ _ hg, hfz, by rw [List.length_append]; omega, hcm, ?_, ?_⟩, ⟨rfl, rfl, rfl, by simp, fun k _ hk => setRow_other w g k _ (fun e => hk (by simp [Value.ownBlock, e]))⟩⟩
      · simp only [List.size_toArray, List.length_append, List.length_take, List.length_drop, Array.length_toList, byteCells_length]
        omega
      · rw [htake, byteCells_app]
        exact List.take_left' (byteCells_length _)
    · have holds : ∀ j u, (Lib.byteCells l)[j]? = some u → w.cell? ((⟨g, 0, none⟩ : Addr).add j) = some u := by
        intro j u hu
        have hj : j < l.length := by
          have := (List.getElem?_eq_some_iff.1 hu).1
          rwa [byteCells_length] at this
        rw [show (⟨g, 0, none⟩ : Addr).add j = ⟨g, j, none⟩ by unfold Addr.add; split <;> simp_all, cells_at hg htake j hj, ← hu]
        simp [Lib.byteCells, List.getD, hj]
      have hr := run_append_grow (P := Tryd.prog) w 25 ty 5 i0 (.int .u8 0) Tryd.underlying25 hi hz0 ⟨g, 0, none⟩ l.length cap (Lib.byteCells l) (by rw [hz1, byteCells_length]; omega) holds ad s.length c (Lib.byteCells s) (by rw [hz1, byteCells_length]; omega) hnews (by omega) (by omega) (by rw [hz2]; exact growslice_fits (by omega) (by omega))
      have hge := grownCap_ge w (l.length + s.length) cap 5
      have hcm2 : grownCap w (l.length + s.length) cap 5 ≤ maxLen := grownCap_le_maxLen w _ cap _ (by unfold maxLen; omega)
      refine ⟨_, _, hr, .inr ⟨w.heap.size, _, _, (0, 0), by rw [List.length_append], hbase, heap_alloc_new w.drew _, (fun j _ _ h => absurd h.2 (Nat.not_lt_zero j)), by rw [List.length_append]; exact hge, hcm2, ?_, ?_⟩, ⟨rfl, rfl, rfl, by simp, fun k hk _ => Below.heap_alloc w.drew _ k hk⟩⟩
      · have hzc : (Value.int IntKind.u8 0).cells.size = 1 := rfl
        simp only [Array.size_append, List.size_toArray, size_zeroCells, hzc, byteCells_length]
        omega
      · simp only [Array.toList_append, List.append_assoc]
        rw [← List.append_assoc, byteCells_app]
        exact List.take_left' (byteCells_length _)
theorem wp_apd_str {w : World} {ops : Array Oper} {rest : List Oper} {o : Oper} {a : Act} {Q : Exit → Act → World → Prop} (hgd : o.guard = none) (sl x : Operand)
    (ho : o.op = .call { callee := .builtin .append, args := #[sl, x], argTypes := #[25, 9] }) (base : Nat) (v : Value) (l s : List UInt8) (hs : a.eval sl = v) (hown : OwnG w base v l) (hx : a.eval x = .string (bs s))
    (hb : l.length + s.length ≤ 140737488355328) (hbase : base ≤ w.heap.size)
    (h : ∀ v' w', OwnG w' base v' (l ++ s) → Below base w w' → wpList Tryd.prog ops Q rest (a.put o.dst v') w') : wpList Tryd.prog ops Q (o :: rest) a w := by
  refine wpList_plain hgd fun K hK => ?_
  obtain ⟨v', w', hr, h2, h3⟩ := run_apd_str w o.type hown s hb hbase
  unfold Oper.wp execOp
  simp only [ho, resolve, invoke, builtin, Sem.run_bind, Sem.run_pure, Result.andThen_ok, List.map_toArray, List.map_cons, List.map_nil, hs, hx, hr]
  exact hK _ _ (h v' w' h2 (own_grown hown hbase h3))
theorem wp_apd_row {w : World} {ops : Array Oper} {rest : List Oper} {o : Oper} {a : Act} {Q : Exit → Act → World → Prop} (hgd : o.guard = none) (sl x : Operand)
    (ho : o.op = .call { callee := .builtin .append, args := #[sl, x], argTypes := #[25, 25] }) (base : Nat) (v : Value) (l s : List UInt8) (hs : a.eval sl = v) (hown : OwnG w base v l)
    (ad : Option Addr) (len c : Nat) (hx : a.eval x = .slice ad len c) (hrow : HasL w ad s) (hlen : s.length = len) (hn : ad = none → c = 0)
    (hb : l.length + s.length ≤ 140737488355328) (hbase : base ≤ w.heap.size)
    (h : ∀ v' w', OwnG w' base v' (l ++ s) → w.grownBy w' v.ownBlock → Below base w w' → wpList Tryd.prog ops Q rest (a.put o.dst v') w') : wpList Tryd.prog ops Q (o :: rest) a w := by
  refine wpList_plain hgd fun K hK => ?_
  obtain ⟨v', w', hr, h2, h3⟩ := run_apd_row w o.type hown ad len c s hrow hlen hn hb hbase
  unfold Oper.wp execOp
  simp only [ho, resolve, invoke, builtin, Sem.run_bind, Sem.run_pure, Result.andThen_ok, List.map_toArray, List.map_cons, List.map_nil, hs, hx, hr]
  exact hK _ _ (h v' w' h2 h3 (own_grown hown hbase h3))
/-- '[]byte(s)': bytes of the call's own. -/
theorem conv_own (w : World) (l : List UInt8) (hl : l.length ≤ 140737488355328) {base : Nat} (hb : base ≤ w.heap.size) :
    ∃ v w', (convert 9 25 (.string (bs l))).run Tryd.prog w = .ok v w' ∧ OwnG w' base v l ∧ Below w.heap.size w w' ∧ w'.heap.size = w.heap.size + 1 := by
  have hsz : (bs l).size = l.length := rfl
  refine ⟨_, _, Lib.run_convert_string_bytes w 9 25 5 (bs l) Tryd.underlying9 Tryd.underlying25 Tryd.underlying5, ?_, ?_, ?_⟩
  · have hge := grownCap_ge w (bs l).size 0 5
    have hcm : grownCap w (bs l).size 0 5 ≤ maxLen := grownCap_le_maxLen w _ 0 _ (by unfold maxLen; rw [hsz]; omega)
    have hsize : (Lib.bytesCells w 5 (bs l)).size = grownCap w (bs l).size 0 5 := by
      unfold Lib.bytesCells
      rw [Array.size_append, Array.size_map, Array.size_replicate]
      show (bs l).size + _ = _
      omega
    refine .inr ⟨w.heap.size, _, _, _, rfl, hb, Lib.bytesWorld_at_new w _ _, ?_, hge, hcm, hsize, ?_⟩
    · intro j _ h2 h3
      simp only [hsize] at h3
      omega
    · unfold Lib.bytesCells
      rw [Array.toList_append, List.take_left' (by rw [Array.length_toList, Array.size_map]; rfl), Array.toList_map]
      rfl
  · exact ⟨rfl, rfl, rfl, by rw [Lib.bytesWorld_size]; omega, fun k hk => Lib.bytesWorld_at_old w _ _ k hk⟩
  · exact Lib.bytesWorld_size _ _ _
end Go.Proofs.YtjgkjmegpinelaaDoor.Tg

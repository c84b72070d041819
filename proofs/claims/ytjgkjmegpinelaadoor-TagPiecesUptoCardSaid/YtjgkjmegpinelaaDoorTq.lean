/-
  Layer 7: strings.Cut at '=', strconv.Atoi, strings.SplitSeq and TrimSuffix at this program; slices of fields of the call's own.
-/
import Derived.Test.YtjgkjmegpinelaaDoorTp
import Derived.BigQuiet
import Derived.Deep.QuietTactic
namespace Go.Proofs.YtjgkjmegpinelaaDoor.Tg
open Go.RowKit Go.Shelf Dx Sx Rf
set_option linter.unusedVariables false
set_option linter.unusedSimpArgs false

/-- What the library's variables hold. -/
structure Env (w : World) : Prop where
  pow : Pow w
  syn : ∃ ev, w.cell? ⟨2, 0, none⟩ = some ev ∧ (ev = .nilIface ∨ ∃ te pe, ev = .iface te pe)
  rng : ∃ ev, w.cell? ⟨3, 0, none⟩ = some ev ∧ (ev = .nilIface ∨ ∃ te pe, ev = .iface te pe)
  mxl : ∃ m : Int, w.cell? ⟨0, 0, none⟩ = some (.int .i64 m)
theorem Env.keep {w w' : World} (h : Env w) (hb : Below w.heap.size w w') : Env w' := by
  obtain ⟨e1, c1, o1⟩ := h.syn
  obtain ⟨e2, c2, o2⟩ := h.rng
  obtain ⟨m, c3⟩ := h.mxl
  exact ⟨pow_keep h.pow hb, ⟨e1, (hb.cell (Fr.lt_of_cell c1)).trans c1, o1⟩, ⟨e2, (hb.cell (Fr.lt_of_cell c2)).trans c2, o2⟩, ⟨m, (hb.cell (Fr.lt_of_cell c3)).trans c3⟩⟩
theorem bytesW_below (w : World) (e : TypeId) (s : ByteArray) : Below w.heap.size w (Lib.bytesWorld w e s) := ⟨rfl, rfl, rfl, by rw [Lib.bytesWorld_size]; omega, fun k hk => Lib.bytesWorld_at_old w _ _ k hk⟩
theorem atoi_any (l : List UInt8) (w : World) (hl : l.length ≤ 281474976710656) (h : Env w) :
    Calls Tryd.prog 59 #[.string (bs l)] w fun e w' => (∃ x, e = .returned (.tuple #[.int .i64 (atoiV l), x])) ∧ Below w.heap.size w w' := by
  unfold atoiV
  cases hc : Lib.atoiAll l with
  | ok v =>
    refine (Tryd.strconv_Atoi_ok (bs l) (by rw [bs_size]; omega) v hc w).mono ?_
    rintro e w' ⟨rfl, rfl | ⟨t, rfl⟩⟩
    · exact ⟨⟨_, rfl⟩, Below.refl _ _⟩
    · exact ⟨⟨_, rfl⟩, bytesW_below _ _ _⟩
  | range =>
    obtain ⟨ev, c, o⟩ := h.rng
    refine (Tryd.strconv_Atoi_range (bs l) (by rw [bs_size]; omega) hc ev w c o).mono ?_
    rintro e w' ⟨N, rfl, _, _, hb⟩
    exact ⟨⟨_, rfl⟩, hb⟩
  | _ =>
    obtain ⟨ev, c, o⟩ := h.syn
    refine (Any.strconv_Atoi_syntax Tryd.laysC172 (bs l) (by rw [bs_size]; omega) hc ev w c o).mono ?_
    rintro e w' ⟨N, rfl, _, _, hb⟩
    exact ⟨⟨_, rfl⟩, hb⟩
theorem cutE_index : ∀ {l : List UInt8} {i : Nat}, Lib.indexByte l 61 = (i : Int) → i < l.length ∧ cutE l = (l.take i, l.drop (i + 1)) := by
  intro s i h
  obtain ⟨h1, h2⟩ := Lib.indexByte_some h
  have hi : i < s.length := (List.getElem?_eq_some_iff.1 h1).1
  have h3 : s[i] = 61 := (List.getElem?_eq_some_iff.1 h1).2
  refine ⟨hi, ?_⟩
  have hno : (61 : UInt8) ∉ s.take i := by
    intro hm
    obtain ⟨j, hj, e⟩ := List.getElem_of_mem hm
    rw [List.length_take] at hj
    have := h2 j (by omega)
    rw [List.getElem_take] at e
    exact this (by rw [List.getElem?_eq_getElem (by omega), e])
  have e : s = s.take i ++ 61 :: s.drop (i + 1) := by
    conv => lhs; rw [← List.take_append_drop i s, List.drop_eq_getElem_cons hi, h3]
  conv => lhs; rw [e]
  exact cutE_at _ _ hno
theorem cutE_noindex {s : List UInt8} (h : Lib.indexByte s 61 = -1) : cutE s = (s, []) := by
  refine cutE_none s fun hm => ?_
  obtain ⟨j, hj, e⟩ := List.getElem_of_mem hm
  exact Lib.indexByte_none h j (by rw [List.getElem?_eq_getElem hj, e])
theorem scut_any (l : List UInt8) (w : World) (hl : l.length ≤ 4611686018427387904) :
    Calls Tryd.prog 74 #[.string (bs l), .string { data := #[61] }] w fun e w' => (∃ b, e = .returned (.tuple #[.string (bs (cutE l).1), .string (bs (cutE l).2), .bool b])) ∧ ∃ n, w' = w.drewN n := by
  have hI := fun w => Tryd.stringslite_Index_one (bs l) 61 w
  rw [show (bs l).data.toList = l from rfl] at hI
  have hge := Lib.indexByte_ge l 61
  by_cases hm : Lib.indexByte l 61 = -1
  · rw [cutE_noindex hm]
    rw [hm] at hI
    have e0 : bs [] = { data := #[] } := rfl
    simp only [e0]
    clear hge hm hl e0
    generalize bs l = L at *
    go_enter Tryd.func74, Tryd.ntmps74
    go_wp2_with (go_at_call 79; refine (hI _).mono ?_; rintro e w' ⟨rfl, rfl⟩)
    go_ret3
    exact ⟨⟨_, rfl⟩, 0, rfl⟩
  · obtain ⟨i, hi⟩ : ∃ i : Nat, Lib.indexByte l 61 = i := ⟨(Lib.indexByte l 61).toNat, by omega⟩
    obtain ⟨hlt, hcut⟩ := cutE_index hi
    rw [hcut]
    rw [hi] at hI
    have hS : (bs l).size = l.length := rfl
    have x1 : (bs l).extract 0 i = bs (l.take i) := by rw [bs_extract]; rfl
    have x2 : (bs l).extract (i + 1) l.length = bs (l.drop (i + 1)) := by
      rw [bs_extract, List.take_of_length_le (by simp)]
    simp only
    generalize bs (l.take i) = A at x1 ⊢
    generalize bs (l.drop (i + 1)) = B at x2 ⊢
    generalize bs l = L at hI hS x1 x2 ⊢
    generalize l.length = n at hl hlt hS x2
    clear hge hm hi hcut
    go_enter Tryd.func74, Tryd.ntmps74
    go_wp2_with (go_at_call 79; refine (hI _).mono ?_; rintro e w' ⟨rfl, rfl⟩)
    go_quiet (fail)
    go_wp2
    go_ret3
    exact ⟨⟨_, rfl⟩, _, rfl⟩
theorem cut_any (l : List UInt8) (w : World) (hl : l.length ≤ 4611686018427387904) :
    Calls Tryd.prog 58 #[.string (bs l), .string { data := #[61] }] w fun e w' => (∃ b, e = .returned (.tuple #[.string (bs (cutE l).1), .string (bs (cutE l).2), .bool b])) ∧ ∃ n, w' = w.drewN n := by
  have hc := fun w => scut_any l w hl
  generalize bs (cutE l).1 = A at hc ⊢
  generalize bs (cutE l).2 = B at hc ⊢
  generalize bs l = L at hc ⊢
  go_enter Tryd.func58, Tryd.ntmps58
  go_wp2_with (go_at_call 74; refine (hc _).mono ?_; rintro e w' ⟨⟨b, rfl⟩, n, rfl⟩)
  go_ret3
  exact ⟨⟨b, rfl⟩, n, rfl⟩
theorem trim_any (l : List UInt8) (w : World) (hl : l.length ≤ 9223372036854775807) :
    Calls Tryd.prog 57 #[.string (bs l), .string { data := #[1] }] w fun e w' => e = .returned (.string (bs (trim1 l))) ∧ w = w' := by
  refine (Tryd.strings_TrimSuffix (bs l) { data := #[1] } w hl).mono ?_
  rintro e w' ⟨rfl, rfl⟩
  exact ⟨rfl, rfl⟩
/-- SplitSeq: the function value, and its three boxes. -/
def SplitIt (w : World) (l : List UInt8) (e : Ending) (w' : World) : Prop :=
  e = .returned (.func (.func 85) #[] #[.pointer (some ⟨w.heap.size + 1, 0, none⟩), .pointer (some ⟨w.heap.size, 0, none⟩), .pointer (some ⟨w.heap.size + 2, 0, none⟩)]) ∧ Caps w' w.heap.size l ∧ Below w.heap.size w w' ∧ w'.heap.size = w.heap.size + 3
set_option maxRecDepth 100000 in
theorem splitSeq0_any (l : List UInt8) (w : World) :
    Calls Tryd.prog 72 #[.string (bs l), .string { data := #[1] }, .int .i64 0] w (SplitIt w l) := by
  have hcap : Caps (((w.alloc (.cells #[.string (bs l)] 9)).alloc (.cells #[.string { data := #[1] }] 9)).alloc (.cells #[.int .i64 0] 3)) w.heap.size l := by
    refine ⟨?_, ?_, ?_⟩
    · rw [Below.heap_alloc _ _ _ (by rw [World.size_alloc, World.size_alloc]; omega), Below.heap_alloc _ _ _ (by rw [World.size_alloc]; omega)]
      exact (MapKept.heap_alloc w _).1
    · rw [Below.heap_alloc _ _ _ (by rw [World.size_alloc, World.size_alloc]; omega)]
      have := (MapKept.heap_alloc (w.alloc (.cells #[.string (bs l)] 9)) (.cells #[.string { data := #[1] }] 9)).1
      rwa [World.size_alloc] at this
    · have := (MapKept.heap_alloc ((w.alloc (.cells #[.string (bs l)] 9)).alloc (.cells #[.string { data := #[1] }] 9)) (.cells #[.int .i64 0] 3)).1
      rwa [World.size_alloc, World.size_alloc] at this
  have HC := Lib.hid hcap; clear hcap
  unfold SplitIt
  go_enter Tryd.func72, Tryd.ntmps72
  go_wp2
  go_ret
  exact ⟨rfl, HC.out, (((Below.refl w.heap.size w).alloc (Nat.le_refl _) _).alloc (by simp) _).alloc (by simp; omega) _, by simp⟩
theorem splitSeq_any (l : List UInt8) (w : World) :
    Calls Tryd.prog 56 #[.string (bs l), .string { data := #[1] }] w (SplitIt w l) := by
  have hc := splitSeq0_any l w
  unfold SplitIt at hc ⊢
  go_enter Tryd.func56, Tryd.ntmps56
  go_wp2_with (go_at_call 72; refine hc.mono ?_; rintro e w' ⟨rfl, h1, h2, h3⟩; have H1 := Lib.hid h1; have H2 := Lib.hid h2; have H3 := Lib.hid h3; clear h1 h2 h3)
  go_ret
  exact ⟨rfl, H1.out, H2.out, H3.out⟩

/-! ### Fields of the call's own -/
def cells2 (f : Fld) : List Value := [.int .i64 f.1, .string (bs f.2)]
def OwnF (w : World) (base : Nat) (v : Value) (F : List Fld) : Prop := w.ownsRow base 50 2 v F.length (F.flatMap cells2)
theorem flat2 : ∀ (F : List Fld) (j i : Nat) (f : Fld), i < 2 → F[j]? = some f → (F.flatMap cells2)[j * 2 + i]? = (cells2 f)[i]?
  | [], j, i, f, _, h => by simp at h
  | g :: F, 0, i, f, hi, h => by
    simp at h; subst h
    rw [List.flatMap_cons, List.getElem?_append_left (by simp [cells2]; omega), Nat.zero_mul, Nat.zero_add]
  | g :: F, j + 1, i, f, hi, h => by
    rw [List.flatMap_cons, List.getElem?_append_right (by simp [cells2]; omega), ← flat2 F j i f hi (by simpa using h)]
    congr 1
    simp [cells2]; omega
theorem OwnF.has {w : World} {base : Nat} {v : Value} {F : List Fld} (h : OwnF w base v F) : ∃ a cap, v = .slice a F.length cap ∧ HasF w a F ∧ (a = none → cap = 0) ∧ F.length ≤ cap ∧ cap ≤ maxLen := by
  have h' := h
  rcases h.2 with ⟨rfl, h0⟩ | ⟨g, cap, cur, rfl, hb, hh, h1, h2, h3, h4⟩
  · have e : F = [] := List.eq_nil_of_length_eq_zero h0
    subst e
    exact ⟨none, 0, rfl, HasF.nil _ _, fun _ => rfl, Nat.le_refl _, by decide⟩
  · refine ⟨some ⟨g, 0, none⟩, cap, rfl, ⟨by unfold maxLen at h2; omega, fun _ => ⟨g, 0, rfl, fun j hj => ?_⟩⟩, (fun h => by cases h), h1, h2⟩
    have hf : F[j]? = some (F.getD j fld0) := by simp [List.getD, hj]
    have e0 := flat2 F j 0 _ (by decide) hf
    have e1 := flat2 F j 1 _ (by decide) hf
    rw [Nat.zero_add]
    refine ⟨?_, ?_⟩
    · rw [World.ownsRow.cellAt h' (j * 2) (by omega)]
      rw [Nat.add_zero] at e0
      rw [e0]; rfl
    · rw [World.ownsRow.cellAt h' (j * 2 + 1) (by omega), e1]; rfl
theorem infoF : (Tryd.prog.info? 50).map (fun i => (i.zero, i.size, i.bytes)) = some (some (.agg #[.int .i64 0, .string ByteArray.empty]), 2, 24) := by kernel_rfl
end Go.Proofs.YtjgkjmegpinelaaDoor.Tg

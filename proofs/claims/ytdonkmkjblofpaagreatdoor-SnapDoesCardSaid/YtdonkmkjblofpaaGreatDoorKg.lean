/-
  Layer 4: Truncate, Rename, Remove, at a disk in whatever state.
-/
import Derived.Test.YtdonkmkjblofpaaGreatDoorKf
namespace Go.Proofs.YtdonkmkjblofpaaGreatDoor.Dk
open Go.RowKit
set_option linter.unusedVariables false

section
variable {w : World} {O : Nat → Prop} {d m : Nat} {G : List UInt8 → Nat} {V : List UInt8 → Value} {S : St}

theorem key_of {s : ByteArray} (hs : s.size ≤ maxLen) : keyOf Tryz.prog 9 (.string s) = some (.string s.data.toList) := WideMaps.keyOf_string_mk Tryz.underlying9 hs
theorem FileAt.past {w w' : World} {g : Nat} {v : Value} {f : File} (h : FileAt w O g v f) {es : Array MapEntry} {clock : Nat} (hm : w.heap[m]? = some (.map es clock)) (hg : w.grownBy w' (some m)) (hdom : ∀ i, O i → i < w.heap.size) : FileAt w' O g v f := by
  have k3 : ∀ i, O i → i ≠ m → w'.heap[i]? = w.heap[i]? := fun i hi hn => hg.block i (hdom i hi) fun e => hn (Option.some.inj e)
  refine ⟨h.og, (k3 g h.og fun e => ?_).trans h.blk, h.own.same fun b hb => k3 b (h.ov b hb) fun e => ?_, h.ov⟩
  · have := h.blk; rw [e, hm] at this; cases this
  · obtain ⟨cur, hc⟩ := h.own.kind b hb; rw [e, hm] at hc; cases hc

set_option maxRecDepth 100000 in
theorem remove_any (h : Rep w O d m G V S) (s : ByteArray) (hs : s.size ≤ maxLen) :
    Calls Tryz.prog 87 #[.pointer (some ⟨d, 0, none⟩), .string s] w (Did w O d (removeS s.data.toList S)) := by
  by_cases ht : there s.data.toList S = 0
  · obtain ⟨hb, hd, f, hf⟩ := there_zero ht
    have cf := find_yes h s hs ht hf
    have cw := write_any h
    have CF := Lib.hid cf; have H := Lib.hid h
    cases hfl : failing S with
    | true =>
      have e : removeS s.data.toList S = (20, wrote S) := by unfold removeS; rw [if_neg (by simp [ht]), if_pos hfl]
      rw [show wcode S = 20 by simp [wcode, hfl]] at cw
      have CW := Lib.hid cw
      have D : Hid (∀ w', Turned O w w' → (∃ V', Rep w' O d m G V' (wrote S)) → Did w O d (removeS s.data.toList S) (.returned (.int .i64 20)) w') := fun w' h1 ⟨V', h2⟩ => by
        rw [e]; exact ⟨rfl, O, Step.of h1, m, G, V', h2⟩
      clear e cf cw h ht hb hd hf hfl hs
      go_enter Tryz.func87, Tryz.ntmps87
      go_wp2_with (first | (go_at_call 62; (with_reducible refine CF.out.mono ?_); rintro e w' ⟨rfl, rfl⟩) | (go_at_call 56; (with_reducible refine CW.out.mono ?_); rintro e w2 ⟨rfl, ht2, hr2⟩; have HT2 := Lib.hid ht2; have HR2 := Lib.hid hr2; clear ht2 hr2))
      go_ret
      exact D.out _ HT2.out HR2.out
    | false =>
      have e : removeS s.data.toList S = (0, { tick S with fs := del s.data.toList S.fs }) := by unfold removeS; rw [if_neg (by simp [ht]), if_neg (by simp [hfl])]
      rw [show wcode S = 0 by simp [wcode, hfl], wrote_up hfl] at cw
      have D : Hid (∀ w2, Turned O w w2 → ∀ V', Rep w2 O d m G V' (tick S) → ∀ w3, w3.ownsMap Tryz.prog 9 Rp m S.fs.length ((dat G S.fs).del (.string s.data.toList)) → w2.mapTurned w3 m → Did w O d (removeS s.data.toList S) (.returned (.int .i64 0)) w3) := fun w2 h1 V' h2 w3 ho htu => by
        rw [e]
        exact ⟨rfl, O, Step.of (h1.trans (Turned.of_grown htu.grown fun b e => by cases e; exact h2.om)), m, G, V', h2.strike s.data.toList ho htu.grown⟩
      have CW := Lib.hid cw; have HK := Lib.hid (key_of hs)
      clear e cf cw h ht hb hd hf hfl hs
      go_enter Tryz.func87, Tryz.ntmps87
      go_wp2_with (first | (go_at_call 62; (with_reducible refine CF.out.mono ?_); rintro e w' ⟨rfl, rfl⟩) | (go_at_call 56; (with_reducible refine CW.out.mono ?_); rintro e w2 ⟨rfl, ht2, V', hr2⟩; have HT2 := Lib.hid ht2; have HR2 := Lib.hid hr2; obtain ⟨k0, _⟩ := hr2.cells; clear ht2 hr2) | (at_delete; refine wpList_delete_own _ rfl _ _ 77 9 rfl 80 law Tryz.underlying77 Rp m S.fs.length (dat G S.fs) rfl HR2.out.map _ _ rfl HK.out ?_; intro w3 hown3 hturn3; have HO3 := Lib.hid hown3; have HU3 := Lib.hid hturn3; clear hown3 hturn3))
      go_ret
      exact D.out _ HT2.out V' HR2.out _ HO3.out HU3.out
  · have e : removeS s.data.toList S = (there s.data.toList S, S) := by unfold removeS; rw [if_pos (by simpa using ht)]
    have cf := find_no h s hs ht
    have D := Lib.hid (did_same h (r := removeS s.data.toList S) (by rw [e]))
    rw [show (removeS s.data.toList S).1 = there s.data.toList S by rw [e]] at D
    generalize there s.data.toList S = r at *
    have t1 : (r == 0) = false := by simpa using ht
    have t2 : (r != 0) = true := by simpa using ht
    have CF := Lib.hid cf
    clear e cf h ht hs
    go_enter Tryz.func87, Tryz.ntmps87
    go_wp2_with (go_at_call 62; (with_reducible refine CF.out.mono ?_); rintro e w' ⟨rfl, rfl⟩)
    go_ret
    exact D.out

/-- The world behind shorten's call in Truncate. -/
def shortW (w : World) (g : Nat) (n s : Nat) (v : Value) : World := (w.setCell ⟨g, 0, none⟩ v).setCell ⟨g, 1, none⟩ (.int .i64 ((min s n : Nat) : Int))
theorem short_file {w2 : World} {V' : List UInt8 → Value} {S' : St} (h2 : Rep w2 O d m G V' S') {f : File} (hmem : f ∈ S'.fs) (n : Nat) (hn : n ≤ f.l.length) :
    ∃ v', Calls Tryz.prog 75 #[.pointer (some ⟨G f.nm, 0, none⟩), .int .i64 (n : Int)] w2 (fun e w' => e = .returned (.tuple #[]) ∧ w' = shortW w2 (G f.nm) n f.s v') ∧
      Rep (shortW w2 (G f.nm) n f.s v') O d m G (at1 V' f.nm v') { S' with fs := upd f.nm (short n) S'.fs } ∧ Turned O w2 (shortW w2 (G f.nm) n f.s v') := by
  have hfa := h2.files f hmem
  have hne := h2.ne.2.2 f hmem
  obtain ⟨v', hcall, hown, hvb⟩ := shorten_any hfa n hn (h2.good.safe f hmem)
  refine ⟨v', hcall, ?_, (Turned.setCell _ 0 hfa.og _).trans (Turned.setCell _ 1 hfa.og _)⟩
  have hblk : (shortW w2 (G f.nm) n f.s v').heap[G f.nm]? = some (.cells #[v', .int .i64 (((short n f).s : Nat) : Int)] 82 (0, 0)) := by
    have b3 := Joins.block_setCell (i := 0) hfa.blk v'
    have b4 := Joins.block_setCell (i := 1) b3 (.int .i64 ((min f.s n : Nat) : Int))
    exact b4
  have hg : Good { S' with fs := S'.fs.map fun x => if x.nm = f.nm then short n x else x } := good_upd h2.good (fun _ _ => rfl) (fun x hx => by have := h2.good.safe x hx; simp only [short, List.length_take]; omega) (fun x hx => by have := h2.good.size x hx; simp only [short, List.length_take]; omega)
  exact file_stored h2 hmem (short n) rfl v' hown hvb (.int .i64 0) (shortW w2 (G f.nm) n f.s v') (by simp [shortW]) rfl rfl rfl (fun k hk => by unfold shortW; rw [Below.heap_setCell _ _ _ k hk, Below.heap_setCell _ _ _ k hk]) hblk hg

set_option maxRecDepth 100000 in
theorem trunc_any (h : Rep w O d m G V S) (s : ByteArray) (hs : s.size ≤ maxLen) (n : Int) :
    Calls Tryz.prog 103 #[.pointer (some ⟨d, 0, none⟩), .string s, .int .i64 n] w (Did w O d (truncS s.data.toList n S)) := by
  by_cases ht : there s.data.toList S = 0
  · obtain ⟨hb, hd, f, hf⟩ := there_zero ht
    have cf := find_yes h s hs ht hf
    have cw := write_any h
    obtain ⟨hmem, hnm⟩ := look_some hf
    have hlen : lenOf s.data.toList S.fs = f.l.length := by unfold lenOf; rw [hf]
    have hz := h.good.size f hmem
    have CF := Lib.hid cf; have H := Lib.hid h
    have hfa := h.files f hmem
    obtain ⟨ad, cap, hv, _⟩ := hfa.own.row
    obtain ⟨cf0, cf1, _⟩ := hfa.cells
    rw [hv] at cf0
    by_cases hbad : n < 0 ∨ (f.l.length : Int) < n
    · have e : truncS s.data.toList n S = (3, S) := by unfold truncS; rw [if_neg (by simp [ht]), hlen, if_pos hbad]
      have D := Lib.hid (did_same h (r := truncS s.data.toList n S) (by rw [e]))
      rw [show (truncS s.data.toList n S).1 = 3 by rw [e]] at D
      generalize f.l.length = ln at *
      clear cf cw h ht hb hd hf hmem hnm hfa hv e hlen hs
      rcases hbad with hbad | hbad
      · have t1 : decide (n < 0) = true := by simpa using hbad
        go_enter Tryz.func103, Tryz.ntmps103
        go_wp2_with (go_at_call 62; (with_reducible refine CF.out.mono ?_); rintro e w' ⟨rfl, rfl⟩)
        go_ret
        exact D.out
      · have h0 : ¬ n < 0 := by omega
        have t1 : decide (n < 0) = false := by simp; omega
        have t2 : decide ((ln : Int) < n) = true := by simpa using hbad
        go_enter Tryz.func103, Tryz.ntmps103
        go_wp2_with (go_at_call 62; (with_reducible refine CF.out.mono ?_); rintro e w' ⟨rfl, rfl⟩)
        go_ret
        exact D.out
    · obtain ⟨k, rfl⟩ : ∃ k : Nat, n = (k : Int) := ⟨n.toNat, by omega⟩
      have hk : k ≤ f.l.length := by omega
      cases hfl : failing S with
      | true =>
        have e : truncS s.data.toList (k : Int) S = (20, wrote S) := by unfold truncS; rw [if_neg (by simp [ht]), hlen, if_neg hbad, if_pos hfl]
        rw [show wcode S = 20 by simp [wcode, hfl]] at cw
        have CW := Lib.hid cw
        have D : Hid (∀ w', Turned O w w' → (∃ V', Rep w' O d m G V' (wrote S)) → Did w O d (truncS s.data.toList (k : Int) S) (.returned (.int .i64 20)) w') := fun w' h1 ⟨V', h2⟩ => by
          rw [e]; exact ⟨rfl, O, Step.of h1, m, G, V', h2⟩
        generalize f.l.length = ln at *
        have t2 : decide (ln < k) = false := by simp; omega
        have t3 : decide ((ln : Int) < (k : Int)) = false := by simp; omega
        clear e cf cw h ht hb hd hf hfl hs hmem hnm hfa hv hlen hbad
        go_enter Tryz.func103, Tryz.ntmps103
        go_wp2_with (first | (go_at_call 62; (with_reducible refine CF.out.mono ?_); rintro e w' ⟨rfl, rfl⟩) | (go_at_call 56; (with_reducible refine CW.out.mono ?_); rintro e w2 ⟨rfl, ht2, hr2⟩; have HT2 := Lib.hid ht2; have HR2 := Lib.hid hr2; clear ht2 hr2))
        go_ret
        exact D.out _ HT2.out HR2.out
      | false =>
        have e : truncS s.data.toList (k : Int) S = (0, { tick S with fs := upd s.data.toList (short k) S.fs }) := by
          unfold truncS; rw [if_neg (by simp [ht]), hlen, if_neg hbad, if_neg (by simp [hfl])]; rfl
        rw [show wcode S = 0 by simp [wcode, hfl], wrote_up hfl] at cw
        have D : Hid (∀ w2, Turned O w w2 → ∀ V', Rep w2 O d m G V' (tick S) → ∀ v', Rep (shortW w2 (G f.nm) k f.s v') O d m G (at1 V' f.nm v') { tick S with fs := upd f.nm (short k) (tick S).fs } → Turned O w2 (shortW w2 (G f.nm) k f.s v') →
            Did w O d (truncS s.data.toList (k : Int) S) (.returned (.int .i64 0)) (shortW w2 (G f.nm) k f.s v')) := fun w2 h1 V' h2 v' h3 h4 => by
          rw [e]
          rw [hnm] at h3
          exact ⟨rfl, O, Step.of (h1.trans h4), m, G, at1 V' s.data.toList v', by rw [hnm]; exact h3⟩
        have CW := Lib.hid cw; have HM := Lib.hid hmem; have HKL := Lib.hid hk
        obtain ⟨ln, hln⟩ : ∃ ln, f.l.length = ln := ⟨_, rfl⟩
        rw [hln] at cf0 hk hz
        have t2 : decide (ln < k) = false := by simp; omega
        have t3 : decide ((ln : Int) < (k : Int)) = false := by simp; omega
        clear e cf cw h ht hb hd hf hfl hs hmem hnm hfa hv hlen hbad hln
        go_enter Tryz.func103, Tryz.ntmps103
        go_wp2_with (first | (go_at_call 62; (with_reducible refine CF.out.mono ?_); rintro e w' ⟨rfl, rfl⟩) | (go_at_call 56; (with_reducible refine CW.out.mono ?_); rintro e w2 ⟨rfl, ht2, V', hr2⟩; have HT2 := Lib.hid ht2; have HR2 := Lib.hid hr2; obtain ⟨v', hcall, hrep, htur⟩ := short_file (f := f) hr2 HM.out k HKL.out; have HC := Lib.hid hcall; have HP := Lib.hid hrep; have HU := Lib.hid htur; clear ht2 hr2 hcall hrep htur) | (go_at_call 75; (with_reducible refine HC.out.mono ?_); rintro e w3 ⟨rfl, hw3⟩; have HW := Lib.hid hw3; clear hw3))
        go_ret
        have hw3 := HW.out
        subst hw3
        exact D.out _ HT2.out V' HR2.out v' HP.out HU.out
  · have e : truncS s.data.toList n S = (there s.data.toList S, S) := by unfold truncS; rw [if_pos (by simpa using ht)]
    have cf := find_no h s hs ht
    have D := Lib.hid (did_same h (r := truncS s.data.toList n S) (by rw [e]))
    rw [show (truncS s.data.toList n S).1 = there s.data.toList S by rw [e]] at D
    generalize there s.data.toList S = r at *
    have t1 : (r == 0) = false := by simpa using ht
    have t2 : (r != 0) = true := by simpa using ht
    have CF := Lib.hid cf
    clear e cf h ht hs
    go_enter Tryz.func103, Tryz.ntmps103
    go_wp2_with (go_at_call 62; (with_reducible refine CF.out.mono ?_); rintro e w' ⟨rfl, rfl⟩)
    go_ret
    exact D.out

set_option maxRecDepth 100000 in
theorem rename_any (h : Rep w O d m G V S) (s t : ByteArray) (hs : s.size ≤ maxLen) (htl : t.size ≤ maxLen) :
    Calls Tryz.prog 65 #[.pointer (some ⟨d, 0, none⟩), .string s, .string t] w (Did w O d (renameS s.data.toList t.data.toList S)) := by
  have cn := fun w => notName_any t w htl
  cases hbt : badName t.data.toList with
  | true =>
    rw [hbt] at cn
    have e : renameS s.data.toList t.data.toList S = (1, S) := by unfold renameS; rw [if_pos hbt]
    have D := Lib.hid (did_same h (r := renameS s.data.toList t.data.toList S) (by rw [e]))
    rw [show (renameS s.data.toList t.data.toList S).1 = 1 by rw [e]] at D
    have CN := Lib.hid cn
    clear e cn h hbt hs htl
    go_enter Tryz.func65, Tryz.ntmps65
    go_wp2_with (go_at_call 85; (with_reducible refine (CN.out _).mono ?_); rintro e w' ⟨rfl, rfl⟩)
    go_ret
    exact D.out
  | false =>
    rw [hbt] at cn
    have CN := Lib.hid cn; clear cn
    by_cases ht : there s.data.toList S = 0
    · obtain ⟨hb, hd, f, hf⟩ := there_zero ht
      have cf := find_yes h s hs ht hf
      have cw := write_any h
      obtain ⟨hmem, hnm⟩ := look_some hf
      have CF := Lib.hid cf; have H := Lib.hid h
      cases hfl : failing S with
      | true =>
        have e : renameS s.data.toList t.data.toList S = (20, wrote S) := by unfold renameS; rw [if_neg (by simp [hbt]), if_neg (by simp [ht]), if_pos hfl]
        rw [show wcode S = 20 by simp [wcode, hfl]] at cw
        have CW := Lib.hid cw
        have D : Hid (∀ w', Turned O w w' → (∃ V', Rep w' O d m G V' (wrote S)) → Did w O d (renameS s.data.toList t.data.toList S) (.returned (.int .i64 20)) w') := fun w' h1 ⟨V', h2⟩ => by
          rw [e]; exact ⟨rfl, O, Step.of h1, m, G, V', h2⟩
        clear e cf cw h ht hb hd hf hfl hs hmem hnm hbt htl
        go_enter Tryz.func65, Tryz.ntmps65
        go_wp2_with (first | (go_at_call 85; (with_reducible refine (CN.out _).mono ?_); rintro e w' ⟨rfl, rfl⟩) | (go_at_call 62; (with_reducible refine CF.out.mono ?_); rintro e w' ⟨rfl, rfl⟩) | (go_at_call 56; (with_reducible refine CW.out.mono ?_); rintro e w2 ⟨rfl, ht2, hr2⟩; have HT2 := Lib.hid ht2; have HR2 := Lib.hid hr2; clear ht2 hr2))
        go_ret
        exact D.out _ HT2.out HR2.out
      | false =>
        have e : renameS s.data.toList t.data.toList S = (0, { tick S with fs := put (renamed t.data.toList f) (del s.data.toList S.fs) }) := by
          unfold renameS; rw [if_neg (by simp [hbt]), if_neg (by simp [ht]), if_neg (by simp [hfl]), hf]
        rw [show wcode S = 0 by simp [wcode, hfl], wrote_up hfl] at cw
        have hlt := length_del_lt hf
        have hfew := h.good.few
        have D : Hid (∀ w2, Turned O w w2 → ∀ V', Rep w2 O d m G V' (tick S) → ∀ w3, w3.ownsMap Tryz.prog 9 Rp m S.fs.length ((dat G S.fs).del (.string s.data.toList)) → w2.mapTurned w3 m →
            ∀ w4, w4.ownsMap Tryz.prog 9 Rp m (S.fs.length + 1) (((dat G S.fs).del (.string s.data.toList)).put (.string t.data.toList) (.lit (.int .i64 (G f.nm : Int)))) → w3.grownBy w4 (some m) →
            Did w O d (renameS s.data.toList t.data.toList S) (.returned (.int .i64 0)) w4) := fun w2 h1 V' h2 w3 ho3 htu w4 ho4 hg4 => by
          rw [e]
          have h3 := h2.strike s.data.toList ho3 htu.grown
          obtain ⟨es, clock, hm2, _⟩ := h2.map
          have hfa3 := (h2.files f hmem).past hm2 htu.grown h2.dom
          have hx : FileAt w3 O (G f.nm) (V' f.nm) (renamed t.data.toList f) := ⟨hfa3.og, hfa3.blk, hfa3.own, hfa3.ov⟩
          have hgood : Good { tick S with fs := put (renamed t.data.toList f) (del s.data.toList S.fs) } := by
            have g1 := good_del h2.good s.data.toList
            refine good_put g1 (x := renamed t.data.toList f) hbt (h2.good.safe f hmem) (h2.good.size f hmem) ?_
            have := length_del_le (renamed t.data.toList f).nm (del s.data.toList S.fs)
            show (del (renamed t.data.toList f).nm (del s.data.toList S.fs)).length + 1 ≤ 16
            omega
          have r := h3.lay hfa3 (x := renamed t.data.toList f) (fun f' hf' hn' => by
            obtain ⟨hf1, hf2⟩ := mem_del.1 hf'
            have ha := h2.apart f' hf1 f hmem (by rw [hnm]; exact hf2)
            exact ⟨ha.1, fun b e1 e2 => ha.2 b e2 e1⟩) (fun _ h => h) h3.dom (fun _ _ _ _ => rfl) hx (fun b hb => .inl hb) (w3 := w4) (fun _ => by
              have := ho4; rw [dat_del] at this; exact this) hg4 hgood
          exact ⟨rfl, O, Step.of ((h1.trans (Turned.of_grown htu.grown fun b e => by cases e; exact h2.om)).trans (Turned.of_grown hg4 fun b e => by cases e; exact h2.om)), m, _, _, r⟩
        have CW := Lib.hid cw; have HK := Lib.hid (key_of hs); have HK2 := Lib.hid (key_of htl)
        have hml : S.fs.length < maxLen := by unfold maxLen; omega
        have HML := Lib.hid hml
        have HV : Hid (Rp (.pointer (some ⟨G f.nm, 0, none⟩)) = some (.lit (.int .i64 (G f.nm : Int)), [])) := Lib.hid rfl
        clear e cf cw h ht hb hd hf hfl hs hmem hnm hbt htl hlt hfew hml
        go_enter Tryz.func65, Tryz.ntmps65
        go_wp2_with (first | (go_at_call 85; (with_reducible refine (CN.out _).mono ?_); rintro e w' ⟨rfl, rfl⟩) | (go_at_call 62; (with_reducible refine CF.out.mono ?_); rintro e w' ⟨rfl, rfl⟩) | (go_at_call 56; (with_reducible refine CW.out.mono ?_); rintro e w2 ⟨rfl, ht2, V', hr2⟩; have HT2 := Lib.hid ht2; have HR2 := Lib.hid hr2; obtain ⟨k0, _⟩ := hr2.cells; clear ht2 hr2) | (at_delete; refine wpList_delete_own _ rfl _ _ 77 9 rfl 80 law Tryz.underlying77 Rp m S.fs.length (dat G S.fs) rfl HR2.out.map _ _ rfl HK.out ?_; intro w3 hown3 hturn3; obtain ⟨k1, _⟩ := (HR2.out.strike _ hown3 hturn3.grown).cells; have HO3 := Lib.hid hown3; have HU3 := Lib.hid hturn3; clear hown3 hturn3) | (at_mapUpdate; refine wpList_mapUpdate_own _ rfl _ _ _ 77 rfl 9 80 law Tryz.underlying77 Rp m S.fs.length _ rfl HO3.out HML.out _ _ _ rfl rfl HK2.out _ [] HV.out ?_; intro w4 hown4 hgrow4; have HO4 := Lib.hid hown4; have HG4 := Lib.hid hgrow4; clear hown4 hgrow4))
        go_ret
        exact D.out _ HT2.out V' HR2.out _ HO3.out HU3.out _ HO4.out HG4.out
    · have e : renameS s.data.toList t.data.toList S = (there s.data.toList S, S) := by unfold renameS; rw [if_neg (by simp [hbt]), if_pos (by simpa using ht)]
      have cf := find_no h s hs ht
      have D := Lib.hid (did_same h (r := renameS s.data.toList t.data.toList S) (by rw [e]))
      rw [show (renameS s.data.toList t.data.toList S).1 = there s.data.toList S by rw [e]] at D
      generalize there s.data.toList S = r at *
      have t1 : (r == 0) = false := by simpa using ht
      have t2 : (r != 0) = true := by simpa using ht
      have CF := Lib.hid cf
      clear e cf h ht hs hbt htl
      go_enter Tryz.func65, Tryz.ntmps65
      go_wp2_with (first | (go_at_call 85; (with_reducible refine (CN.out _).mono ?_); rintro e w' ⟨rfl, rfl⟩) | (go_at_call 62; (with_reducible refine CF.out.mono ?_); rintro e w' ⟨rfl, rfl⟩))
      go_ret
      exact D.out
end
end Go.Proofs.YtdonkmkjblofpaaGreatDoor.Dk

/-
  Layer 4: of the reference Append; a script's calls on it. (Packed by gen_mp.py out of Lm, Ln, Lo, Lp.)
-/
import Derived.Test.YtdonkmkjblofpaaGreatDoorLP
import Derived.Deep.RegionHeld3
import Derived.Test.YtdonkmkjblofpaaGreatDoorKt
/-! ## Lm -/
namespace Go.Proofs.YtdonkmkjblofpaaGreatDoor.Dk
open Go.RowKit
set_option linter.unusedVariables false
set_option linter.unusedSimpArgs false
theorem Step.up {w w1 : World} {O : Nat → Prop} (hb : Below w.heap.size w w1) : Step w O w1 (OwnUp O w w1) := ⟨Turned.of_below hb, fun k hk => hk.elim .inl fun h => .inr h.1⟩
attribute [local go_sem] World.cell?_alloc_some
theorem takeL {Pr : Program} {md : Region.Mode} {L : List Oper} {Q : Exit → Act → World → Prop} {S : World → Prop} {i : Nat} {oi : Oper} {v : Value} {fuel : Nat} {listed : Array Bool} {a : Act} {w : World} (hi : L[i]? = some oi)
    (hs : Region.noSelect L.toArray = true) (hf : Region.free md L.toArray listed i = true) (hr : (Region.ready md L.toArray listed).contains i = true)
    (hQ : ∀ c a w, Q (.panic c) (a.put oi.dst v) w → Q (.panic c) a w) (hy : YieldsIf Pr L.toArray S oi v a) (hS : S w)
    (h : wpAnyH Pr md L.toArray Q S fuel (listed.setIfInBounds i true) (a.put oi.dst v) w) : wpAnyH Pr md L.toArray Q S (fuel + 1) listed a w :=
  wpAnyH_take (by simpa using hi) hs hf hr hQ hy hS h
theorem consL {Pr : Program} {md : Region.Mode} {L : List Oper} {Q : Exit → Act → World → Prop} {S : World → Prop} {fuel : Nat} {listed : Array Bool} {a : Act} {w : World} {i : Nat} {o : Oper} {rs : List Nat} (ho : L[i]? = some o)
    (h : ∀ K' : Act → World → Prop, Shut (∀ a w, S w → (S w → wpAnyH Pr md L.toArray Q S fuel (listed.setIfInBounds i true) a w) → K' a w) → if Region.wanted o (yielded L.toArray a.tmps) = true then Oper.wp Pr o a w K' Q else K' (a.put o.dst undef) w)
    (hs : AllReadyH Pr md L.toArray Q S fuel listed a w rs) : AllReadyH Pr md L.toArray Q S fuel listed a w (i :: rs) := AllReadyH.cons (by simpa using ho) h hs
section
variable {w w' : World} {O : Nat → Prop} {d : Nat} {fv : Value} {P Q : List UInt8 → Value} {S S' : St}
theorem RRep.more (h : RRep w O d fv P Q S) {w1 : World} (hb : Below w.heap.size w w1) : RRep w1 (OwnUp O w w1) d fv P Q S := by
  have h1 := h.below hb
  exact ⟨fun i hi => hi.elim (fun h => h1.dom i h) fun h => h.2, .inl h1.od, h1.blk, h1.row, fun b e => .inl (h1.ov b e), fun f hf => (h1.files f hf).move (fun i hi => .inl hi) fun _ _ _ _ => rfl, h1.good⟩
set_option maxRecDepth 100000 in
set_option maxHeartbeats 1600000 in
theorem ref_app_some_long (h : RRep w O d fv P Q S) (s : ByteArray) (hs : s.size ≤ maxLen) (a : Option Addr) (len cap : Nat) (zs : List Int) (hrow : Fr.HasRow .u8 w a len zs) (hn : a = none → cap = 0) (hlb : len ≤ 140737488355328) (hr0 : ready s.data.toList S = 0) {f : File} (hf : look s.data.toList S.fs = some f) (hlen : 1048576 < (fileOf s.data.toList S.fs).l.length + len) :
    Calls Tryz.prog 27 #[.pointer (some ⟨d, 0, none⟩), .string s, .slice a len cap] w (RDid w O d (appendS s.data.toList (zs.take len) S)) := by
  have cr := ref_ready h s hs
  rw [hr0] at cr
  have hzl : (zs.take len).length = len := by rw [List.length_take]; have := hrow.1; omega
  have hF : fileOf s.data.toList S.fs = f := by unfold fileOf; rw [hf]
  obtain ⟨j, hj, ca⟩ := ref_at_some h s hf
  obtain ⟨q, n, cp, p1, p2, x1, x2, c1, c2, l1, l2, K⟩ := h.looked hf hj
  have hsum := K.sum; have hbig := K.big; have k3 := K.x1c; have k4 := K.x2c; have k5 := K.c1m; have k6 := K.c2m; have nn2 := K.n2
  have hjn := K.jn; have hfew := K.few; have hld := K.ld; have SE := Lib.hid (K.see)
  have hL : (fileOf s.data.toList S.fs).l.length = x1 + x2 := by rw [hF]; exact hsum.symm
  have he : appErr s.data.toList (zs.take len).length S = 3 := by unfold appErr; rw [if_neg (by simp [hr0]), hzl, if_pos hlen]
  have D : Hid (∀ w', Below w.heap.size w w' → RDid w O d (appendS s.data.toList (zs.take len) S) (.returned (.int .i64 3)) w') := Lib.hid fun w' hb => refused h (by unfold appendS; rw [if_pos (by rw [he]; decide), he]) hb
  have H := Lib.hid h; have HR := Lib.hid hrow; have hlm := hrow.2.1
  have t1 : decide ((x1 : Int) + (x2 : Int) + (len : Int) > 1048576) = true := by rw [decide_eq_true_eq]; omega
  have hj0 : (0 : Int) ≤ (j : Int) := by omega
  have hj1 : (j : Int) < (n : Int) := by omega
  have tj : decide ((j : Int) ≥ 0) = true := by rw [decide_eq_true_eq]; omega
  have tj2 : decide ((j : Int) < 0) = false := by rw [decide_eq_false_iff_not]; omega
  have he0 := K.e0
  have CR := Lib.hid cr; have CA := Lib.hid ca
  clear cr ca h hrow hs hr0 hf hlen he hzl hF hL hj K he0 hsum
  go_enter Tryz.func27, Tryz.ntmps27
  go_wp2_with fail
  refine CR.out.mono ?_
  rintro e w' ⟨rfl, rfl⟩
  go_wp2_with fail
  refine CA.out.mono ?_
  rintro e w1 ⟨rfl, hb1⟩
  have hs1 := hb1.size
  have hba : Below w.heap.size w (w1.alloc (.cells #[.string s, .slice none 0 0, .slice none 0 0] 87)) := hb1.alloc hb1.size _
  obtain ⟨z0, a0, a1, a2, fz, _, _⟩ := SE.out w S H.out rfl _ hba
  obtain ⟨wb, hwb⟩ : ∃ wb, wb = w1.alloc (.cells #[.string s, .slice p1 x1 c1, .slice p2 x2 c2] 87) := ⟨_, rfl⟩
  have hbb : Below w.heap.size w wb := by rw [hwb]; exact hb1.alloc hs1 _
  have hbx : wb.heap[w1.heap.size]? = some (.cells #[.string s, .slice p1 x1 c1, .slice p2 x2 c2] 87 (0, 0)) := by rw [hwb]; exact (MapKept.heap_alloc w1 _).1
  have HWB := Lib.hid hwb; have HBB := Lib.hid hbb; have HBX := Lib.hid hbx
  clear hba hwb hbb hbx hb1
  go_upto_region 8 with (fail)
  rw [← HWB.out]
  clear z0 a0 a1 a2 fz
  obtain ⟨g, hg⟩ : ∃ g, w1.heap.size = g := ⟨_, rfl⟩
  have hgw : w.heap.size ≤ g := by omega
  rw [hg] at HBX ⊢
  have BX : Hid (∀ wx, Below wb.heap.size wb wx → wx.heap[g]? = some (.cells #[.string s, (.slice p1 x1 c1), (.slice p2 x2 c2)] 87 (0, 0))) := Lib.hid fun wx hb => (hb.block _ (Array.getElem?_eq_some_iff.1 HBX.out).1).trans HBX.out
  have y1 : wb.cell? ⟨g, 1, none⟩ = some (.slice p1 x1 c1) := Joins.cell_of_block HBX.out 1
  have y2 : wb.cell? ⟨g, 2, none⟩ = some (.slice p2 x2 c2) := Joins.cell_of_block HBX.out 2
  clear hg
  go_wp2
  go_ret
  exact D.out _ HBB.out
set_option maxRecDepth 100000 in
set_option maxHeartbeats 1600000 in
theorem ref_app_some_room (h : RRep w O d fv P Q S) (s : ByteArray) (hs : s.size ≤ maxLen) (a : Option Addr) (len cap : Nat) (zs : List Int) (hrow : Fr.HasRow .u8 w a len zs) (hn : a = none → cap = 0) (hlb : len ≤ 140737488355328) (hr0 : ready s.data.toList S = 0) {f : File} (hf : look s.data.toList S.fs = some f) (hlen : ¬ 1048576 < (fileOf s.data.toList S.fs).l.length + len) (hroom : S.room < ((used S.fs + len : Nat) : Int)) :
    Calls Tryz.prog 27 #[.pointer (some ⟨d, 0, none⟩), .string s, .slice a len cap] w (RDid w O d (appendS s.data.toList (zs.take len) S)) := by
  have cr := ref_ready h s hs
  rw [hr0] at cr
  have hzl : (zs.take len).length = len := by rw [List.length_take]; have := hrow.1; omega
  have hF : fileOf s.data.toList S.fs = f := by unfold fileOf; rw [hf]
  obtain ⟨j, hj, ca⟩ := ref_at_some h s hf
  obtain ⟨q, n, cp, p1, p2, x1, x2, c1, c2, l1, l2, K⟩ := h.looked hf hj
  have hsum := K.sum; have hbig := K.big; have k3 := K.x1c; have k4 := K.x2c; have k5 := K.c1m; have k6 := K.c2m; have nn2 := K.n2
  have hjn := K.jn; have hfew := K.few; have hld := K.ld; have SE := Lib.hid (K.see)
  have hL : (fileOf s.data.toList S.fs).l.length = x1 + x2 := by rw [hF]; exact hsum.symm
  have he : appErr s.data.toList (zs.take len).length S = 22 := by unfold appErr; rw [if_neg (by simp [hr0]), hzl, if_neg hlen, if_neg (by simp [hf]), if_pos hroom]
  have D : Hid (∀ w', Below w.heap.size w w' → RDid w O d (appendS s.data.toList (zs.take len) S) (.returned (.int .i64 22)) w') := Lib.hid fun w' hb => refused h (by unfold appendS; rw [if_pos (by rw [he]; decide), he]) hb
  have H := Lib.hid h; have HR := Lib.hid hrow; have hlm := hrow.2.1
  have t1 : decide ((x1 : Int) + (x2 : Int) + (len : Int) > 1048576) = false := by rw [decide_eq_false_iff_not]; omega
  have hj0 : (0 : Int) ≤ (j : Int) := by omega
  have hj1 : (j : Int) < (n : Int) := by omega
  have tj : decide ((j : Int) ≥ 0) = true := by rw [decide_eq_true_eq]; omega
  have tj2 : decide ((j : Int) < 0) = false := by rw [decide_eq_false_iff_not]; omega
  obtain ⟨u, hu⟩ : ∃ u, used S.fs = u := ⟨_, rfl⟩
  have hul := h.good.used_le
  rw [hu] at hul hroom
  have SZ : Hid (∀ wx, Below w.heap.size w wx → Calls Tryz.prog 59 #[.pointer (some ⟨d, 0, none⟩)] wx fun e w' => e = .returned (.int .i64 (u : Int)) ∧ Below wx.heap.size wx w') := Lib.hid fun wx hb => by rw [← hu]; exact ref_size (H.out.below hb)
  have DC : Hid (∀ wx, Below w.heap.size w wx → wx.cell? ⟨d, 0, none⟩ = some fv ∧ wx.cell? ⟨d, 1, none⟩ = some (.int .i64 S.room)) := Lib.hid fun wx hb => ⟨(H.out.below hb).cells.1, (H.out.below hb).cells.2.1⟩
  obtain ⟨rm, hrm⟩ : ∃ rm, S.room = rm := ⟨_, rfl⟩
  rw [hrm] at DC hroom
  have t5 : decide ((u : Int) + (len : Int) > rm) = true := by rw [decide_eq_true_eq]; omega
  have hw1 : IntKind.i64.wrap ((u : Int) + (len : Int)) = (u : Int) + (len : Int) := IntWalk.i64_in _ (by omega)
  have he0 := K.e0
  rw [he0] at DC
  have CR := Lib.hid cr; have CA := Lib.hid ca
  clear cr ca h hrow hs hr0 hf hlen he hzl hF hL hj K he0 hroom hu hrm hsum
  go_enter Tryz.func27, Tryz.ntmps27
  go_wp2_with fail
  refine CR.out.mono ?_
  rintro e w' ⟨rfl, rfl⟩
  go_wp2_with fail
  refine CA.out.mono ?_
  rintro e w1 ⟨rfl, hb1⟩
  have hs1 := hb1.size
  have hba : Below w.heap.size w (w1.alloc (.cells #[.string s, .slice none 0 0, .slice none 0 0] 87)) := hb1.alloc hb1.size _
  obtain ⟨z0, a0, a1, a2, fz, _, _⟩ := SE.out w S H.out rfl _ hba
  obtain ⟨wb, hwb⟩ : ∃ wb, wb = w1.alloc (.cells #[.string s, .slice p1 x1 c1, .slice p2 x2 c2] 87) := ⟨_, rfl⟩
  have hbb : Below w.heap.size w wb := by rw [hwb]; exact hb1.alloc hs1 _
  have hbx : wb.heap[w1.heap.size]? = some (.cells #[.string s, .slice p1 x1 c1, .slice p2 x2 c2] 87 (0, 0)) := by rw [hwb]; exact (MapKept.heap_alloc w1 _).1
  have HWB := Lib.hid hwb; have HBB := Lib.hid hbb; have HBX := Lib.hid hbx
  clear hba hwb hbb hbx hb1
  go_upto_region 8 with (fail)
  rw [← HWB.out]
  clear z0 a0 a1 a2 fz
  obtain ⟨g, hg⟩ : ∃ g, w1.heap.size = g := ⟨_, rfl⟩
  have hgw : w.heap.size ≤ g := by omega
  rw [hg] at HBX ⊢
  have BX : Hid (∀ wx, Below wb.heap.size wb wx → wx.heap[g]? = some (.cells #[.string s, (.slice p1 x1 c1), (.slice p2 x2 c2)] 87 (0, 0))) := Lib.hid fun wx hb => (hb.block _ (Array.getElem?_eq_some_iff.1 HBX.out).1).trans HBX.out
  have y1 : wb.cell? ⟨g, 1, none⟩ = some (.slice p1 x1 c1) := Joins.cell_of_block HBX.out 1
  have y2 : wb.cell? ⟨g, 2, none⟩ = some (.slice p2 x2 c2) := Joins.cell_of_block HBX.out 2
  clear hg
  go_wp2
  have s0 := Below.refl wb.heap.size wb
  have PW : Hid (∀ wx, Below wb.heap.size wb wx → Below w.heap.size w wx) := Lib.hid fun wx hb => HBB.out.trans (hb.mono HBB.out.size)
  refine wp_region_noPanic ?_
  refine wp_region_held_drew (S := fun wx => wx.cell? ⟨d, 0, none⟩ = some (.slice (some ⟨q, 0, none⟩) n cp) ∧ wx.cell? ⟨d, 1, none⟩ = some (.int .i64 rm)) (by kernel_rfl) (DC.out _ (PW.out _ (Below.drew s0))) (fun hHeld => ?_)
  refine takeL (i := 0) (v := .int .i64 (j : Int)) rfl (by kernel_rfl) (by kernel_rfl) (by kernel_rfl) (fun _ _ _ h => h) (Or.inl ⟨by rfl, ?_⟩) hHeld ?_
  · intro w hSw
    (try dsimp only at hSw)
    go_simp
  (try simp only [Act.put, List.setIfInBounds_toArray, List.set_cons_zero, List.set_cons_succ])
  refine takeL (i := 1) (v := .bool false) rfl (by kernel_rfl) (by kernel_rfl) (by kernel_rfl) (fun _ _ _ h => h) (Or.inl ⟨by rfl, ?_⟩) hHeld ?_
  · intro w hSw
    (try dsimp only at hSw)
    go_simp
  (try simp only [Act.put, List.setIfInBounds_toArray, List.set_cons_zero, List.set_cons_succ])
  refine takeL (i := 2) (v := .bool false) rfl (by kernel_rfl) (by kernel_rfl) (by kernel_rfl) (fun _ _ _ h => h) (Or.inl ⟨by rfl, ?_⟩) hHeld ?_
  · intro w hSw
    (try dsimp only at hSw)
    go_simp
  (try simp only [Act.put, List.setIfInBounds_toArray, List.set_cons_zero, List.set_cons_succ])
  refine takeL (i := 3) (v := undef) rfl (by kernel_rfl) (by kernel_rfl) (by kernel_rfl) (fun _ _ _ h => h) (Or.inr ⟨by rfl, rfl⟩) hHeld ?_
  (try simp only [Act.put, List.setIfInBounds_toArray, List.set_cons_zero, List.set_cons_succ])
  refine takeL (i := 4) (v := undef) rfl (by kernel_rfl) (by kernel_rfl) (by kernel_rfl) (fun _ _ _ h => h) (Or.inr ⟨by rfl, rfl⟩) hHeld ?_
  (try simp only [Act.put, List.setIfInBounds_toArray, List.set_cons_zero, List.set_cons_succ])
  refine takeL (i := 5) (v := undef) rfl (by kernel_rfl) (by kernel_rfl) (by kernel_rfl) (fun _ _ _ h => h) (Or.inr ⟨by rfl, rfl⟩) hHeld ?_
  (try simp only [Act.put, List.setIfInBounds_toArray, List.set_cons_zero, List.set_cons_succ])
  refine takeL (i := 6) (v := undef) rfl (by kernel_rfl) (by kernel_rfl) (by kernel_rfl) (fun _ _ _ h => h) (Or.inr ⟨by rfl, rfl⟩) hHeld ?_
  (try simp only [Act.put, List.setIfInBounds_toArray, List.set_cons_zero, List.set_cons_succ])
  refine takeL (i := 7) (v := undef) rfl (by kernel_rfl) (by kernel_rfl) (by kernel_rfl) (fun _ _ _ h => h) (Or.inr ⟨by rfl, rfl⟩) hHeld ?_
  (try simp only [Act.put, List.setIfInBounds_toArray, List.set_cons_zero, List.set_cons_succ])
  refine takeL (i := 8) (v := undef) rfl (by kernel_rfl) (by kernel_rfl) (by kernel_rfl) (fun _ _ _ h => h) (Or.inr ⟨by rfl, rfl⟩) hHeld ?_
  (try simp only [Act.put, List.setIfInBounds_toArray, List.set_cons_zero, List.set_cons_succ])
  refine takeL (i := 9) (v := .bool false) rfl (by kernel_rfl) (by kernel_rfl) (by kernel_rfl) (fun _ _ _ h => h) (Or.inl ⟨by rfl, ?_⟩) hHeld ?_
  · intro w hSw
    (try dsimp only at hSw)
    go_simp
  (try simp only [Act.put, List.setIfInBounds_toArray, List.set_cons_zero, List.set_cons_succ])
  refine takeL (i := 10) (v := .bool false) rfl (by kernel_rfl) (by kernel_rfl) (by kernel_rfl) (fun _ _ _ h => h) (Or.inl ⟨by rfl, ?_⟩) hHeld ?_
  · intro w hSw
    (try dsimp only at hSw)
    go_simp
  (try simp only [Act.put, List.setIfInBounds_toArray, List.set_cons_zero, List.set_cons_succ])
  refine takeL (i := 11) (v := .pointer (some ⟨d, 0, none⟩)) rfl (by kernel_rfl) (by kernel_rfl) (by kernel_rfl) (fun _ _ _ h => h) (Or.inl ⟨by rfl, ?_⟩) hHeld ?_
  · intro w hSw
    (try dsimp only at hSw)
    go_simp
  (try simp only [Act.put, List.setIfInBounds_toArray, List.set_cons_zero, List.set_cons_succ])
  refine takeL (i := 13) (v := .slice a len cap) rfl (by kernel_rfl) (by kernel_rfl) (by kernel_rfl) (fun _ _ _ h => h) (Or.inl ⟨by rfl, ?_⟩) hHeld ?_
  · intro w hSw
    (try dsimp only at hSw)
    go_simp
  (try simp only [Act.put, List.setIfInBounds_toArray, List.set_cons_zero, List.set_cons_succ])
  refine takeL (i := 14) (v := .int .i64 (len : Int)) rfl (by kernel_rfl) (by kernel_rfl) (by kernel_rfl) (fun _ _ _ h => h) (Or.inl ⟨by rfl, ?_⟩) hHeld ?_
  · intro w hSw
    (try dsimp only at hSw)
    go_simp
  (try simp only [Act.put, List.setIfInBounds_toArray, List.set_cons_zero, List.set_cons_succ])
  refine takeL (i := 16) (v := .pointer (some ⟨d, 0, none⟩)) rfl (by kernel_rfl) (by kernel_rfl) (by kernel_rfl) (fun _ _ _ h => h) (Or.inl ⟨by rfl, ?_⟩) hHeld ?_
  · intro w hSw
    (try dsimp only at hSw)
    go_simp
  (try simp only [Act.put, List.setIfInBounds_toArray, List.set_cons_zero, List.set_cons_succ])
  refine takeL (i := 17) (v := .pointer (some ⟨d, 0, none⟩)) rfl (by kernel_rfl) (by kernel_rfl) (by kernel_rfl) (fun _ _ _ h => h) (Or.inl ⟨by rfl, ?_⟩) hHeld ?_
  · intro w hSw
    (try dsimp only at hSw)
    go_simp
  (try simp only [Act.put, List.setIfInBounds_toArray, List.set_cons_zero, List.set_cons_succ])
  refine takeL (i := 18) (v := .pointer (some ⟨d, 1, none⟩)) rfl (by kernel_rfl) (by kernel_rfl) (by kernel_rfl) (fun _ _ _ h => h) (Or.inl ⟨by rfl, ?_⟩) hHeld ?_
  · intro w hSw
    (try dsimp only at hSw)
    go_simp
  (try simp only [Act.put, List.setIfInBounds_toArray, List.set_cons_zero, List.set_cons_succ])
  refine takeL (i := 19) (v := .int .i64 rm) rfl (by kernel_rfl) (by kernel_rfl) (by kernel_rfl) (fun _ _ _ h => h) (Or.inl ⟨by rfl, ?_⟩) hHeld ?_
  · intro w hSw
    (try dsimp only at hSw)
    go_simp
  (try simp only [Act.put, List.setIfInBounds_toArray, List.set_cons_zero, List.set_cons_succ])
  refine wpAnyH_ready (rs := [12]) (by kernel_rfl) (by simp) ?_
  refine consL rfl (fun K hK => ?_) AllReadyH.nil
  go_simp
  refine (SZ.out _ (PW.out _ (Below.drew s0))).mono ?_
  rintro e w5 ⟨rfl, hb5'⟩
  have hb5 : Below wb.heap.size wb w5 := s0.drew.trans (hb5'.mono (Nat.le_refl _))
  refine hK.out _ _ (DC.out _ (PW.out _ hb5)) (fun hHeld => ?_)
  clear hK K hb5'
  (try simp only [Act.put, List.setIfInBounds_toArray, List.set_cons_zero, List.set_cons_succ])
  refine takeL (i := 15) (v := .int .i64 ((u : Int) + (len : Int))) rfl (by kernel_rfl) (by kernel_rfl) (by kernel_rfl) (fun _ _ _ h => h) (Or.inl ⟨by rfl, ?_⟩) hHeld ?_
  · intro w hSw
    (try dsimp only at hSw)
    go_simp
  (try simp only [Act.put, List.setIfInBounds_toArray, List.set_cons_zero, List.set_cons_succ])
  refine takeL (i := 20) (v := .bool true) rfl (by kernel_rfl) (by kernel_rfl) (by kernel_rfl) (fun _ _ _ h => h) (Or.inl ⟨by rfl, ?_⟩) hHeld ?_
  · intro w hSw
    (try dsimp only at hSw)
    go_simp
  (try simp only [Act.put, List.setIfInBounds_toArray, List.set_cons_zero, List.set_cons_succ])
  refine takeL (i := 21) (v := .bool true) rfl (by kernel_rfl) (by kernel_rfl) (by kernel_rfl) (fun _ _ _ h => h) (Or.inl ⟨by rfl, ?_⟩) hHeld ?_
  · intro w hSw
    (try dsimp only at hSw)
    go_simp
  (try simp only [Act.put, List.setIfInBounds_toArray, List.set_cons_zero, List.set_cons_succ])
  refine wpAnyH_done (by kernel_rfl) ?_ _
  refine NoPanic.normal ?_
  clear hHeld
  have HB5 := Lib.hid (PW.out _ hb5)
  clear hb5
  go_wp2
  go_ret
  exact D.out _ HB5.out
set_option maxRecDepth 100000 in
set_option maxHeartbeats 1600000 in
theorem ref_app_some_ok0 (h : RRep w O d fv P Q S) (s : ByteArray) (hs : s.size ≤ maxLen) (a : Option Addr) (len cap : Nat) (zs : List Int) (hrow : Fr.HasRow .u8 w a len zs) (hn : a = none → cap = 0) (hlb : len ≤ 140737488355328) (hr0 : ready s.data.toList S = 0) {f : File} (hf : look s.data.toList S.fs = some f) (hlen : ¬ 1048576 < (fileOf s.data.toList S.fs).l.length + len) (hroom : ¬ S.room < ((used S.fs + len : Nat) : Int)) (hfl : failing S = false) :
    Calls Tryz.prog 27 #[.pointer (some ⟨d, 0, none⟩), .string s, .slice a len cap] w (RDid w O d (appendS s.data.toList (zs.take len) S)) := by
  have cr := ref_ready h s hs
  rw [hr0] at cr
  have hzl : (zs.take len).length = len := by rw [List.length_take]; have := hrow.1; omega
  have hF : fileOf s.data.toList S.fs = f := by unfold fileOf; rw [hf]
  obtain ⟨j, hj, ca⟩ := ref_at_some h s hf
  obtain ⟨q, n, cp, p1, p2, x1, x2, c1, c2, l1, l2, K⟩ := h.looked hf hj
  have hsum := K.sum; have hbig := K.big; have k3 := K.x1c; have k4 := K.x2c; have k5 := K.c1m; have k6 := K.c2m; have nn2 := K.n2
  have hjn := K.jn; have hfew := K.few; have hld := K.ld; have SE := Lib.hid (K.see)
  have hL : (fileOf s.data.toList S.fs).l.length = x1 + x2 := by rw [hF]; exact hsum.symm
  have he : appErr s.data.toList (zs.take len).length S = 0 := by unfold appErr; rw [if_neg (by simp [hr0]), hzl, if_neg hlen, if_neg (by simp [hf]), if_neg hroom]
  have hgood := good_append h.good he
  have PUT : Hid (∀ wp v base, w.heap.size ≤ base → Below w.heap.size w wp → Ob.OwnB wp base v ([] ++ l2.take x2 ++ zs.take len) → Calls Tryz.prog 60 #[.pointer (some ⟨d, 0, none⟩), .agg #[.string s, (.slice p1 x1 c1), v]] wp (RUnit wp (OwnUp O w wp) d { S with fs := put (longer (fileOf s.data.toList S.fs) (zs.take len)) S.fs })) := Lib.hid fun wp v base hba hb ho => by
    have hm := h.more hb
    have hfile := (hm.files f (List.mem_of_getElem? K.hj)).safe
    rw [K.e1] at hfile
    have hsf := h.good.safe f (List.mem_of_getElem? K.hj)
    have e1 : (f.l ++ zs.take len).take f.s = f.l.take f.s := List.take_append_of_le_length hsf
    have e2 : (f.l ++ zs.take len).drop f.s = [] ++ l2.take x2 ++ zs.take len := by
      have hx := K.x1s
      have e3 : l2.take x2 = l2 := List.take_of_length_le (by rw [← K.l2e, List.length_drop]; omega)
      rw [List.drop_append_of_le_length hsf, List.nil_append, e3, K.l2e]
    have := ref_put hm (longer (fileOf s.data.toList S.fs) (zs.take len)) (.slice p1 x1 c1) v (by
      rw [hF]
      exact ⟨by show Part _ _ _ ((f.l ++ zs.take len).take f.s); rw [e1]; exact hfile, by show Part _ _ _ ((f.l ++ zs.take len).drop f.s); rw [e2]; exact part_own ho hba⟩) hgood
    rwa [show str (longer (fileOf s.data.toList S.fs) (zs.take len)).nm = s by show str (fileOf s.data.toList S.fs).nm = s; rw [fileOf_nm, str_of]] at this
  have FLS : failing { S with fs := put (longer (fileOf s.data.toList S.fs) (zs.take len)) S.fs } = false := by rw [← hfl]; rfl
  have KEEP : ({ S with fs := put (longer (fileOf s.data.toList S.fs) (zs.take len)) S.fs } : St).keep = S.keep := rfl
  have D : Hid (∀ S1, { S with fs := put (longer (fileOf s.data.toList S.fs) (zs.take len)) S.fs } = S1 → ∀ wp w8 O8 w9, Below w.heap.size w wp → Step wp (OwnUp O w wp) w8 O8 → Turned O8 w8 w9 → IsRef w9 O8 d (tick S1) → RDid w O d (appendS s.data.toList (zs.take len) S) (.returned (.int .i64 0)) w9) := Lib.hid fun S1 e1 wp w8 O8 w9 h1 h2 h3 h5 => by
    have e : appendS s.data.toList (zs.take len) S = (0, wrote S1) := by
      unfold appendS; rw [if_neg (by rw [he]; decide), e1]; unfold wcode; rw [if_neg (by simp [hfl])]
    have ew : wrote S1 = tick S1 := by unfold wrote; rw [← e1, if_neg (by rw [FLS]; simp)]
    rw [e, ew]
    exact ⟨rfl, _, ((Step.up h1).trans h2).trans (Step.of h3), h5⟩
  have H := Lib.hid h; have HR := Lib.hid hrow; have hlm := hrow.2.1
  have t1 : decide ((x1 : Int) + (x2 : Int) + (len : Int) > 1048576) = false := by rw [decide_eq_false_iff_not]; omega
  have hj0 : (0 : Int) ≤ (j : Int) := by omega
  have hj1 : (j : Int) < (n : Int) := by omega
  have tj : decide ((j : Int) ≥ 0) = true := by rw [decide_eq_true_eq]; omega
  have tj2 : decide ((j : Int) < 0) = false := by rw [decide_eq_false_iff_not]; omega
  obtain ⟨u, hu⟩ : ∃ u, used S.fs = u := ⟨_, rfl⟩
  have hul := h.good.used_le
  rw [hu] at hul hroom
  have SZ : Hid (∀ wx, Below w.heap.size w wx → Calls Tryz.prog 59 #[.pointer (some ⟨d, 0, none⟩)] wx fun e w' => e = .returned (.int .i64 (u : Int)) ∧ Below wx.heap.size wx w') := Lib.hid fun wx hb => by rw [← hu]; exact ref_size (H.out.below hb)
  have DC : Hid (∀ wx, Below w.heap.size w wx → wx.cell? ⟨d, 0, none⟩ = some fv ∧ wx.cell? ⟨d, 1, none⟩ = some (.int .i64 S.room)) := Lib.hid fun wx hb => ⟨(H.out.below hb).cells.1, (H.out.below hb).cells.2.1⟩
  obtain ⟨rm, hrm⟩ : ∃ rm, S.room = rm := ⟨_, rfl⟩
  rw [hrm] at DC hroom
  have t5 : decide ((u : Int) + (len : Int) > rm) = false := by rw [decide_eq_false_iff_not]; omega
  have hw1 : IntKind.i64.wrap ((u : Int) + (len : Int)) = (u : Int) + (len : Int) := IntWalk.i64_in _ (by omega)
  have he0 := K.e0
  rw [he0] at DC
  have G3 : Hid ((([] : List Int) ++ l2.take x2 ++ zs.take len).length = x2 + len) := Lib.hid (by have h1 := K.l2e; have h3 := K.x1s; rw [List.nil_append, List.length_append, hzl, List.length_take, ← h1, List.length_drop]; omega)
  have hsm : x1 + x2 + len ≤ 1048576 := by omega
  obtain ⟨S1, hS1⟩ : ∃ S1, ({ S with fs := put (longer (fileOf s.data.toList S.fs) (zs.take len)) S.fs } : St) = S1 := ⟨_, rfl⟩
  rw [hS1] at PUT FLS KEEP
  have DD := Lib.hid (D.out S1 hS1)
  have FLS := Lib.hid FLS; have KEEP := Lib.hid KEEP
  have CR := Lib.hid cr; have CA := Lib.hid ca
  clear cr ca h hrow hs hr0 hf hlen he hzl hF hL hj K he0 hroom hu hrm hfl hgood hS1 D hsum
  go_enter Tryz.func27, Tryz.ntmps27
  go_wp2_with fail
  refine CR.out.mono ?_
  rintro e w' ⟨rfl, rfl⟩
  go_wp2_with fail
  refine CA.out.mono ?_
  rintro e w1 ⟨rfl, hb1⟩
  have hs1 := hb1.size
  have hba : Below w.heap.size w (w1.alloc (.cells #[.string s, .slice none 0 0, .slice none 0 0] 87)) := hb1.alloc hb1.size _
  obtain ⟨z0, a0, a1, a2, fz, _, _⟩ := SE.out w S H.out rfl _ hba
  obtain ⟨wb, hwb⟩ : ∃ wb, wb = w1.alloc (.cells #[.string s, .slice p1 x1 c1, .slice p2 x2 c2] 87) := ⟨_, rfl⟩
  have hbb : Below w.heap.size w wb := by rw [hwb]; exact hb1.alloc hs1 _
  have hbx : wb.heap[w1.heap.size]? = some (.cells #[.string s, .slice p1 x1 c1, .slice p2 x2 c2] 87 (0, 0)) := by rw [hwb]; exact (MapKept.heap_alloc w1 _).1
  have HWB := Lib.hid hwb; have HBB := Lib.hid hbb; have HBX := Lib.hid hbx
  clear hba hwb hbb hbx hb1
  go_upto_region 8 with (fail)
  rw [← HWB.out]
  clear z0 a0 a1 a2 fz
  obtain ⟨g, hg⟩ : ∃ g, w1.heap.size = g := ⟨_, rfl⟩
  have hgw : w.heap.size ≤ g := by omega
  rw [hg] at HBX ⊢
  have BX : Hid (∀ wx, Below wb.heap.size wb wx → wx.heap[g]? = some (.cells #[.string s, (.slice p1 x1 c1), (.slice p2 x2 c2)] 87 (0, 0))) := Lib.hid fun wx hb => (hb.block _ (Array.getElem?_eq_some_iff.1 HBX.out).1).trans HBX.out
  have y1 : wb.cell? ⟨g, 1, none⟩ = some (.slice p1 x1 c1) := Joins.cell_of_block HBX.out 1
  have y2 : wb.cell? ⟨g, 2, none⟩ = some (.slice p2 x2 c2) := Joins.cell_of_block HBX.out 2
  clear hg
  go_wp2
  have s0 := Below.refl wb.heap.size wb
  have PW : Hid (∀ wx, Below wb.heap.size wb wx → Below w.heap.size w wx) := Lib.hid fun wx hb => HBB.out.trans (hb.mono HBB.out.size)
  refine wp_region_noPanic ?_
  refine wp_region_held_drew (S := fun wx => wx.cell? ⟨d, 0, none⟩ = some (.slice (some ⟨q, 0, none⟩) n cp) ∧ wx.cell? ⟨d, 1, none⟩ = some (.int .i64 rm)) (by kernel_rfl) (DC.out _ (PW.out _ (Below.drew s0))) (fun hHeld => ?_)
  refine takeL (i := 0) (v := .int .i64 (j : Int)) rfl (by kernel_rfl) (by kernel_rfl) (by kernel_rfl) (fun _ _ _ h => h) (Or.inl ⟨by rfl, ?_⟩) hHeld ?_
  · intro w hSw
    (try dsimp only at hSw)
    go_simp
  (try simp only [Act.put, List.setIfInBounds_toArray, List.set_cons_zero, List.set_cons_succ])
  refine takeL (i := 1) (v := .bool false) rfl (by kernel_rfl) (by kernel_rfl) (by kernel_rfl) (fun _ _ _ h => h) (Or.inl ⟨by rfl, ?_⟩) hHeld ?_
  · intro w hSw
    (try dsimp only at hSw)
    go_simp
  (try simp only [Act.put, List.setIfInBounds_toArray, List.set_cons_zero, List.set_cons_succ])
  refine takeL (i := 2) (v := .bool false) rfl (by kernel_rfl) (by kernel_rfl) (by kernel_rfl) (fun _ _ _ h => h) (Or.inl ⟨by rfl, ?_⟩) hHeld ?_
  · intro w hSw
    (try dsimp only at hSw)
    go_simp
  (try simp only [Act.put, List.setIfInBounds_toArray, List.set_cons_zero, List.set_cons_succ])
  refine takeL (i := 3) (v := undef) rfl (by kernel_rfl) (by kernel_rfl) (by kernel_rfl) (fun _ _ _ h => h) (Or.inr ⟨by rfl, rfl⟩) hHeld ?_
  (try simp only [Act.put, List.setIfInBounds_toArray, List.set_cons_zero, List.set_cons_succ])
  refine takeL (i := 4) (v := undef) rfl (by kernel_rfl) (by kernel_rfl) (by kernel_rfl) (fun _ _ _ h => h) (Or.inr ⟨by rfl, rfl⟩) hHeld ?_
  (try simp only [Act.put, List.setIfInBounds_toArray, List.set_cons_zero, List.set_cons_succ])
  refine takeL (i := 5) (v := undef) rfl (by kernel_rfl) (by kernel_rfl) (by kernel_rfl) (fun _ _ _ h => h) (Or.inr ⟨by rfl, rfl⟩) hHeld ?_
  (try simp only [Act.put, List.setIfInBounds_toArray, List.set_cons_zero, List.set_cons_succ])
  refine takeL (i := 6) (v := undef) rfl (by kernel_rfl) (by kernel_rfl) (by kernel_rfl) (fun _ _ _ h => h) (Or.inr ⟨by rfl, rfl⟩) hHeld ?_
  (try simp only [Act.put, List.setIfInBounds_toArray, List.set_cons_zero, List.set_cons_succ])
  refine takeL (i := 7) (v := undef) rfl (by kernel_rfl) (by kernel_rfl) (by kernel_rfl) (fun _ _ _ h => h) (Or.inr ⟨by rfl, rfl⟩) hHeld ?_
  (try simp only [Act.put, List.setIfInBounds_toArray, List.set_cons_zero, List.set_cons_succ])
  refine takeL (i := 8) (v := undef) rfl (by kernel_rfl) (by kernel_rfl) (by kernel_rfl) (fun _ _ _ h => h) (Or.inr ⟨by rfl, rfl⟩) hHeld ?_
  (try simp only [Act.put, List.setIfInBounds_toArray, List.set_cons_zero, List.set_cons_succ])
  refine takeL (i := 9) (v := .bool false) rfl (by kernel_rfl) (by kernel_rfl) (by kernel_rfl) (fun _ _ _ h => h) (Or.inl ⟨by rfl, ?_⟩) hHeld ?_
  · intro w hSw
    (try dsimp only at hSw)
    go_simp
  (try simp only [Act.put, List.setIfInBounds_toArray, List.set_cons_zero, List.set_cons_succ])
  refine takeL (i := 10) (v := .bool false) rfl (by kernel_rfl) (by kernel_rfl) (by kernel_rfl) (fun _ _ _ h => h) (Or.inl ⟨by rfl, ?_⟩) hHeld ?_
  · intro w hSw
    (try dsimp only at hSw)
    go_simp
  (try simp only [Act.put, List.setIfInBounds_toArray, List.set_cons_zero, List.set_cons_succ])
  refine takeL (i := 11) (v := .pointer (some ⟨d, 0, none⟩)) rfl (by kernel_rfl) (by kernel_rfl) (by kernel_rfl) (fun _ _ _ h => h) (Or.inl ⟨by rfl, ?_⟩) hHeld ?_
  · intro w hSw
    (try dsimp only at hSw)
    go_simp
  (try simp only [Act.put, List.setIfInBounds_toArray, List.set_cons_zero, List.set_cons_succ])
  refine takeL (i := 13) (v := .slice a len cap) rfl (by kernel_rfl) (by kernel_rfl) (by kernel_rfl) (fun _ _ _ h => h) (Or.inl ⟨by rfl, ?_⟩) hHeld ?_
  · intro w hSw
    (try dsimp only at hSw)
    go_simp
  (try simp only [Act.put, List.setIfInBounds_toArray, List.set_cons_zero, List.set_cons_succ])
  refine takeL (i := 14) (v := .int .i64 (len : Int)) rfl (by kernel_rfl) (by kernel_rfl) (by kernel_rfl) (fun _ _ _ h => h) (Or.inl ⟨by rfl, ?_⟩) hHeld ?_
  · intro w hSw
    (try dsimp only at hSw)
    go_simp
  (try simp only [Act.put, List.setIfInBounds_toArray, List.set_cons_zero, List.set_cons_succ])
  refine takeL (i := 16) (v := .pointer (some ⟨d, 0, none⟩)) rfl (by kernel_rfl) (by kernel_rfl) (by kernel_rfl) (fun _ _ _ h => h) (Or.inl ⟨by rfl, ?_⟩) hHeld ?_
  · intro w hSw
    (try dsimp only at hSw)
    go_simp
  (try simp only [Act.put, List.setIfInBounds_toArray, List.set_cons_zero, List.set_cons_succ])
  refine takeL (i := 17) (v := .pointer (some ⟨d, 0, none⟩)) rfl (by kernel_rfl) (by kernel_rfl) (by kernel_rfl) (fun _ _ _ h => h) (Or.inl ⟨by rfl, ?_⟩) hHeld ?_
  · intro w hSw
    (try dsimp only at hSw)
    go_simp
  (try simp only [Act.put, List.setIfInBounds_toArray, List.set_cons_zero, List.set_cons_succ])
  refine takeL (i := 18) (v := .pointer (some ⟨d, 1, none⟩)) rfl (by kernel_rfl) (by kernel_rfl) (by kernel_rfl) (fun _ _ _ h => h) (Or.inl ⟨by rfl, ?_⟩) hHeld ?_
  · intro w hSw
    (try dsimp only at hSw)
    go_simp
  (try simp only [Act.put, List.setIfInBounds_toArray, List.set_cons_zero, List.set_cons_succ])
  refine takeL (i := 19) (v := .int .i64 rm) rfl (by kernel_rfl) (by kernel_rfl) (by kernel_rfl) (fun _ _ _ h => h) (Or.inl ⟨by rfl, ?_⟩) hHeld ?_
  · intro w hSw
    (try dsimp only at hSw)
    go_simp
  (try simp only [Act.put, List.setIfInBounds_toArray, List.set_cons_zero, List.set_cons_succ])
  refine wpAnyH_ready (rs := [12]) (by kernel_rfl) (by simp) ?_
  refine consL rfl (fun K hK => ?_) AllReadyH.nil
  go_simp
  refine (SZ.out _ (PW.out _ (Below.drew s0))).mono ?_
  rintro e w5 ⟨rfl, hb5'⟩
  have hb5 : Below wb.heap.size wb w5 := s0.drew.trans (hb5'.mono (Nat.le_refl _))
  refine hK.out _ _ (DC.out _ (PW.out _ hb5)) (fun hHeld => ?_)
  clear hK K hb5'
  (try simp only [Act.put, List.setIfInBounds_toArray, List.set_cons_zero, List.set_cons_succ])
  refine takeL (i := 15) (v := .int .i64 ((u : Int) + (len : Int))) rfl (by kernel_rfl) (by kernel_rfl) (by kernel_rfl) (fun _ _ _ h => h) (Or.inl ⟨by rfl, ?_⟩) hHeld ?_
  · intro w hSw
    (try dsimp only at hSw)
    go_simp
  (try simp only [Act.put, List.setIfInBounds_toArray, List.set_cons_zero, List.set_cons_succ])
  refine takeL (i := 20) (v := .bool false) rfl (by kernel_rfl) (by kernel_rfl) (by kernel_rfl) (fun _ _ _ h => h) (Or.inl ⟨by rfl, ?_⟩) hHeld ?_
  · intro w hSw
    (try dsimp only at hSw)
    go_simp
  (try simp only [Act.put, List.setIfInBounds_toArray, List.set_cons_zero, List.set_cons_succ])
  refine takeL (i := 21) (v := .bool false) rfl (by kernel_rfl) (by kernel_rfl) (by kernel_rfl) (fun _ _ _ h => h) (Or.inl ⟨by rfl, ?_⟩) hHeld ?_
  · intro w hSw
    (try dsimp only at hSw)
    go_simp
  (try simp only [Act.put, List.setIfInBounds_toArray, List.set_cons_zero, List.set_cons_succ])
  refine wpAnyH_done (by kernel_rfl) ?_ _
  refine NoPanic.normal ?_
  clear hHeld
  have bx5 := BX.out _ hb5
  have u1 : w5.cell? ⟨g, 1, none⟩ = some (.slice p1 x1 c1) := Joins.cell_of_block bx5 1
  have u2 : w5.cell? ⟨g, 2, none⟩ = some (.slice p2 x2 c2) := Joins.cell_of_block bx5 2
  have g1 : ([] : List Int).length + x2 ≤ 140737488355328 := by simp only [List.length_nil]; omega
  have g2 : (([] : List Int) ++ l2.take x2).length + len ≤ 140737488355328 := by simp only [List.nil_append, List.length_take]; omega
  clear y1 y2 bx5
  go_wp2_with (first
    | (at_builtin; refine Ob.wp_apd rfl (.tmp 63) (.tmp 65) rfl w5.heap.size (.slice (some ⟨w5.heap.size, 0, none⟩) 0 0) [] rfl (Ob.own_made w5 (Nat.le_refl _)) p2 x2 c2 l2 rfl ((SE.out w S H.out rfl _ (PW.out _ (hb5.alloc hb5.size _))).r2) nn2 g1 (by simp) ?_; intro v6 w6 ho6 hb6; have HO6 := Lib.hid ho6; have hs6 : w5.heap.size ≤ w6.heap.size := Nat.le_trans (by simp) hb6.size; have HB6 : Hid (Below wb.heap.size wb w6) := Lib.hid ((hb5.alloc hb5.size _).trans (hb6.mono hb5.size)); clear ho6 hb6)
    | (at_builtin; refine Ob.wp_apd rfl (.tmp 66) (.tmp 67) rfl w5.heap.size v6 ([] ++ l2.take x2) rfl HO6.out a len cap zs rfl (HR.out.keep (PW.out _ HB6.out)) hn g2 hs6 ?_; intro v7 w7 ho7 hb7; have HO7 := Lib.hid ho7; have HB7 : Hid (Below wb.heap.size wb w7) := Lib.hid (HB6.out.trans (hb7.mono hb5.size)); obtain ⟨va7, vc7, e7, _⟩ := Ob.own_row ho7; rw [G3.out] at e7; subst e7; clear ho7 hb7; have bx7 := BX.out _ HB7.out; have v1 : w7.cell? ⟨g, 0, none⟩ = some (.string s) := Joins.cell_of_block bx7 0; have v2 : w7.cell? ⟨g, 1, none⟩ = some (.slice p1 x1 c1) := Joins.cell_of_block bx7 1; have v3 : w7.cell? ⟨g, 2, none⟩ = some (.slice p2 x2 c2) := Joins.cell_of_block bx7 2; have v4 := Joins.unfrozen_of_block bx7 2; clear bx7))
  obtain ⟨wp, hwp⟩ : ∃ wp, wp = w7.setCell ⟨g, 2, none⟩ (.slice va7 (x2 + len) vc7) := ⟨_, rfl⟩
  rw [← hwp]
  have hgb : g < wb.heap.size := (Array.getElem?_eq_some_iff.1 HBX.out).1
  have h5s := hb5.size
  have BP : Hid (Below w.heap.size w wp) := Lib.hid (by rw [hwp]; exact (PW.out _ HB7.out).setCell hgw (.slice va7 (x2 + len) vc7))
  have OP : Hid (Ob.OwnB wp w5.heap.size (.slice va7 (x2 + len) vc7) ([] ++ l2.take x2 ++ zs.take len)) := Lib.hid (by
    rw [hwp]
    exact row_move HO7.out fun b e => Below.heap_setCell w7 ⟨g, 2, none⟩ (.slice va7 (x2 + len) vc7) b (by have := (row_kind HO7.out b e).1; show b ≠ g; omega))
  have hws : w.heap.size ≤ w5.heap.size := by have := HBB.out.size; omega
  clear v1 v2 v3 v4 u1 u2 hb5
  refine (PUT.out wp (.slice va7 (x2 + len) vc7) _ hws BP.out OP.out).mono ?_
  rintro e w8 ⟨rfl, O8, st8, fv8, P8, Q8, hr8⟩
  have ST8 := Lib.hid st8; have HR8 := Lib.hid hr8
  clear st8 hr8 hwp
  go_wp2_with fail
  refine (ref_raw HR8.out).mono ?_
  rintro e w9 ⟨he9, ht9, hr9⟩
  rw [FLS.out] at he9
  subst he9
  have HT9 := Lib.hid ht9; have HR9 := Lib.hid (hr9 _ _ _ HR8.out)
  clear ht9 hr9
  go_wp2
  go_ret
  exact DD.out wp w8 O8 w9 BP.out ST8.out HT9.out ⟨_, _, _, HR9.out⟩
set_option maxRecDepth 100000 in
set_option maxHeartbeats 1600000 in
theorem ref_app_some_ok1 (OF : OffOk) (h : RRep w O d fv P Q S) (s : ByteArray) (hs : s.size ≤ maxLen) (a : Option Addr) (len cap : Nat) (zs : List Int) (hrow : Fr.HasRow .u8 w a len zs) (hn : a = none → cap = 0) (hlb : len ≤ 140737488355328) (hr0 : ready s.data.toList S = 0) {f : File} (hf : look s.data.toList S.fs = some f) (hlen : ¬ 1048576 < (fileOf s.data.toList S.fs).l.length + len) (hroom : ¬ S.room < ((used S.fs + len : Nat) : Int)) (hfl : failing S = true) :
    Calls Tryz.prog 27 #[.pointer (some ⟨d, 0, none⟩), .string s, .slice a len cap] w (RDid w O d (appendS s.data.toList (zs.take len) S)) := by
  have cr := ref_ready h s hs
  rw [hr0] at cr
  have hzl : (zs.take len).length = len := by rw [List.length_take]; have := hrow.1; omega
  have hF : fileOf s.data.toList S.fs = f := by unfold fileOf; rw [hf]
  obtain ⟨j, hj, ca⟩ := ref_at_some h s hf
  obtain ⟨q, n, cp, p1, p2, x1, x2, c1, c2, l1, l2, K⟩ := h.looked hf hj
  have hsum := K.sum; have hbig := K.big; have k3 := K.x1c; have k4 := K.x2c; have k5 := K.c1m; have k6 := K.c2m; have nn2 := K.n2
  have hjn := K.jn; have hfew := K.few; have hld := K.ld; have SE := Lib.hid (K.see)
  have hL : (fileOf s.data.toList S.fs).l.length = x1 + x2 := by rw [hF]; exact hsum.symm
  have he : appErr s.data.toList (zs.take len).length S = 0 := by unfold appErr; rw [if_neg (by simp [hr0]), hzl, if_neg hlen, if_neg (by simp [hf]), if_neg hroom]
  have hgood := good_append h.good he
  have PUT : Hid (∀ wp v base, w.heap.size ≤ base → Below w.heap.size w wp → Ob.OwnB wp base v ([] ++ l2.take x2 ++ zs.take len) → Calls Tryz.prog 60 #[.pointer (some ⟨d, 0, none⟩), .agg #[.string s, (.slice p1 x1 c1), v]] wp (RUnit wp (OwnUp O w wp) d { S with fs := put (longer (fileOf s.data.toList S.fs) (zs.take len)) S.fs })) := Lib.hid fun wp v base hba hb ho => by
    have hm := h.more hb
    have hfile := (hm.files f (List.mem_of_getElem? K.hj)).safe
    rw [K.e1] at hfile
    have hsf := h.good.safe f (List.mem_of_getElem? K.hj)
    have e1 : (f.l ++ zs.take len).take f.s = f.l.take f.s := List.take_append_of_le_length hsf
    have e2 : (f.l ++ zs.take len).drop f.s = [] ++ l2.take x2 ++ zs.take len := by
      have hx := K.x1s
      have e3 : l2.take x2 = l2 := List.take_of_length_le (by rw [← K.l2e, List.length_drop]; omega)
      rw [List.drop_append_of_le_length hsf, List.nil_append, e3, K.l2e]
    have := ref_put hm (longer (fileOf s.data.toList S.fs) (zs.take len)) (.slice p1 x1 c1) v (by
      rw [hF]
      exact ⟨by show Part _ _ _ ((f.l ++ zs.take len).take f.s); rw [e1]; exact hfile, by show Part _ _ _ ((f.l ++ zs.take len).drop f.s); rw [e2]; exact part_own ho hba⟩) hgood
    rwa [show str (longer (fileOf s.data.toList S.fs) (zs.take len)).nm = s by show str (fileOf s.data.toList S.fs).nm = s; rw [fileOf_nm, str_of]] at this
  have FLS : failing { S with fs := put (longer (fileOf s.data.toList S.fs) (zs.take len)) S.fs } = true := by rw [← hfl]; rfl
  have KEEP : ({ S with fs := put (longer (fileOf s.data.toList S.fs) (zs.take len)) S.fs } : St).keep = S.keep := rfl
  have D : Hid (∀ S1, { S with fs := put (longer (fileOf s.data.toList S.fs) (zs.take len)) S.fs } = S1 → ∀ wp w8 O8 w9, Below w.heap.size w wp → Step wp (OwnUp O w wp) w8 O8 → Turned O8 w8 w9 → ∀ w10, RUnit w9 O8 d (off S.keep (tick S1)) (.returned (.tuple #[])) w10 → RDid w O d (appendS s.data.toList (zs.take len) S) (.returned (.int .i64 20)) w10) := Lib.hid fun S1 e1 wp w8 O8 w9 h1 h2 h3 w10 ⟨_, O10, h4, h5⟩ => by
    have e : appendS s.data.toList (zs.take len) S = (20, wrote S1) := by
      unfold appendS; rw [if_neg (by rw [he]; decide), e1]; unfold wcode; rw [if_pos (by simp [hfl])]
    have ew : wrote S1 = off S.keep (tick S1) := by unfold wrote; rw [← e1, if_pos (by rw [FLS])]
    rw [e, ew]
    exact ⟨rfl, _, (((Step.up h1).trans h2).trans (Step.of h3)).trans h4, h5⟩
  have H := Lib.hid h; have HR := Lib.hid hrow; have hlm := hrow.2.1
  have t1 : decide ((x1 : Int) + (x2 : Int) + (len : Int) > 1048576) = false := by rw [decide_eq_false_iff_not]; omega
  have hj0 : (0 : Int) ≤ (j : Int) := by omega
  have hj1 : (j : Int) < (n : Int) := by omega
  have tj : decide ((j : Int) ≥ 0) = true := by rw [decide_eq_true_eq]; omega
  have tj2 : decide ((j : Int) < 0) = false := by rw [decide_eq_false_iff_not]; omega
  obtain ⟨u, hu⟩ : ∃ u, used S.fs = u := ⟨_, rfl⟩
  have hul := h.good.used_le
  rw [hu] at hul hroom
  have SZ : Hid (∀ wx, Below w.heap.size w wx → Calls Tryz.prog 59 #[.pointer (some ⟨d, 0, none⟩)] wx fun e w' => e = .returned (.int .i64 (u : Int)) ∧ Below wx.heap.size wx w') := Lib.hid fun wx hb => by rw [← hu]; exact ref_size (H.out.below hb)
  have DC : Hid (∀ wx, Below w.heap.size w wx → wx.cell? ⟨d, 0, none⟩ = some fv ∧ wx.cell? ⟨d, 1, none⟩ = some (.int .i64 S.room)) := Lib.hid fun wx hb => ⟨(H.out.below hb).cells.1, (H.out.below hb).cells.2.1⟩
  obtain ⟨rm, hrm⟩ : ∃ rm, S.room = rm := ⟨_, rfl⟩
  rw [hrm] at DC hroom
  have t5 : decide ((u : Int) + (len : Int) > rm) = false := by rw [decide_eq_false_iff_not]; omega
  have hw1 : IntKind.i64.wrap ((u : Int) + (len : Int)) = (u : Int) + (len : Int) := IntWalk.i64_in _ (by omega)
  have he0 := K.e0
  rw [he0] at DC
  have G3 : Hid ((([] : List Int) ++ l2.take x2 ++ zs.take len).length = x2 + len) := Lib.hid (by have h1 := K.l2e; have h3 := K.x1s; rw [List.nil_append, List.length_append, hzl, List.length_take, ← h1, List.length_drop]; omega)
  have hsm : x1 + x2 + len ≤ 1048576 := by omega
  obtain ⟨S1, hS1⟩ : ∃ S1, ({ S with fs := put (longer (fileOf s.data.toList S.fs) (zs.take len)) S.fs } : St) = S1 := ⟨_, rfl⟩
  rw [hS1] at PUT FLS KEEP
  have DD := Lib.hid (D.out S1 hS1)
  have FLS := Lib.hid FLS; have KEEP := Lib.hid KEEP
  obtain ⟨kp, hkp⟩ : ∃ kp, S.keep = kp := ⟨_, rfl⟩
  rw [hkp] at DD KEEP
  have CR := Lib.hid cr; have CA := Lib.hid ca
  have OF := Lib.hid OF
  clear cr ca h hrow hs hr0 hf hlen he hzl hF hL hj K he0 hroom hu hrm hfl hgood hS1 D hkp hsum
  go_enter Tryz.func27, Tryz.ntmps27
  go_wp2_with fail
  refine CR.out.mono ?_
  rintro e w' ⟨rfl, rfl⟩
  go_wp2_with fail
  refine CA.out.mono ?_
  rintro e w1 ⟨rfl, hb1⟩
  have hs1 := hb1.size
  have hba : Below w.heap.size w (w1.alloc (.cells #[.string s, .slice none 0 0, .slice none 0 0] 87)) := hb1.alloc hb1.size _
  obtain ⟨z0, a0, a1, a2, fz, _, _⟩ := SE.out w S H.out rfl _ hba
  obtain ⟨wb, hwb⟩ : ∃ wb, wb = w1.alloc (.cells #[.string s, .slice p1 x1 c1, .slice p2 x2 c2] 87) := ⟨_, rfl⟩
  have hbb : Below w.heap.size w wb := by rw [hwb]; exact hb1.alloc hs1 _
  have hbx : wb.heap[w1.heap.size]? = some (.cells #[.string s, .slice p1 x1 c1, .slice p2 x2 c2] 87 (0, 0)) := by rw [hwb]; exact (MapKept.heap_alloc w1 _).1
  have HWB := Lib.hid hwb; have HBB := Lib.hid hbb; have HBX := Lib.hid hbx
  clear hba hwb hbb hbx hb1
  go_upto_region 8 with (fail)
  rw [← HWB.out]
  clear z0 a0 a1 a2 fz
  obtain ⟨g, hg⟩ : ∃ g, w1.heap.size = g := ⟨_, rfl⟩
  have hgw : w.heap.size ≤ g := by omega
  rw [hg] at HBX ⊢
  have BX : Hid (∀ wx, Below wb.heap.size wb wx → wx.heap[g]? = some (.cells #[.string s, (.slice p1 x1 c1), (.slice p2 x2 c2)] 87 (0, 0))) := Lib.hid fun wx hb => (hb.block _ (Array.getElem?_eq_some_iff.1 HBX.out).1).trans HBX.out
  have y1 : wb.cell? ⟨g, 1, none⟩ = some (.slice p1 x1 c1) := Joins.cell_of_block HBX.out 1
  have y2 : wb.cell? ⟨g, 2, none⟩ = some (.slice p2 x2 c2) := Joins.cell_of_block HBX.out 2
  clear hg
  go_wp2
  have s0 := Below.refl wb.heap.size wb
  have PW : Hid (∀ wx, Below wb.heap.size wb wx → Below w.heap.size w wx) := Lib.hid fun wx hb => HBB.out.trans (hb.mono HBB.out.size)
  refine wp_region_noPanic ?_
  refine wp_region_held_drew (S := fun wx => wx.cell? ⟨d, 0, none⟩ = some (.slice (some ⟨q, 0, none⟩) n cp) ∧ wx.cell? ⟨d, 1, none⟩ = some (.int .i64 rm)) (by kernel_rfl) (DC.out _ (PW.out _ (Below.drew s0))) (fun hHeld => ?_)
  refine takeL (i := 0) (v := .int .i64 (j : Int)) rfl (by kernel_rfl) (by kernel_rfl) (by kernel_rfl) (fun _ _ _ h => h) (Or.inl ⟨by rfl, ?_⟩) hHeld ?_
  · intro w hSw
    (try dsimp only at hSw)
    go_simp
  (try simp only [Act.put, List.setIfInBounds_toArray, List.set_cons_zero, List.set_cons_succ])
  refine takeL (i := 1) (v := .bool false) rfl (by kernel_rfl) (by kernel_rfl) (by kernel_rfl) (fun _ _ _ h => h) (Or.inl ⟨by rfl, ?_⟩) hHeld ?_
  · intro w hSw
    (try dsimp only at hSw)
    go_simp
  (try simp only [Act.put, List.setIfInBounds_toArray, List.set_cons_zero, List.set_cons_succ])
  refine takeL (i := 2) (v := .bool false) rfl (by kernel_rfl) (by kernel_rfl) (by kernel_rfl) (fun _ _ _ h => h) (Or.inl ⟨by rfl, ?_⟩) hHeld ?_
  · intro w hSw
    (try dsimp only at hSw)
    go_simp
  (try simp only [Act.put, List.setIfInBounds_toArray, List.set_cons_zero, List.set_cons_succ])
  refine takeL (i := 3) (v := undef) rfl (by kernel_rfl) (by kernel_rfl) (by kernel_rfl) (fun _ _ _ h => h) (Or.inr ⟨by rfl, rfl⟩) hHeld ?_
  (try simp only [Act.put, List.setIfInBounds_toArray, List.set_cons_zero, List.set_cons_succ])
  refine takeL (i := 4) (v := undef) rfl (by kernel_rfl) (by kernel_rfl) (by kernel_rfl) (fun _ _ _ h => h) (Or.inr ⟨by rfl, rfl⟩) hHeld ?_
  (try simp only [Act.put, List.setIfInBounds_toArray, List.set_cons_zero, List.set_cons_succ])
  refine takeL (i := 5) (v := undef) rfl (by kernel_rfl) (by kernel_rfl) (by kernel_rfl) (fun _ _ _ h => h) (Or.inr ⟨by rfl, rfl⟩) hHeld ?_
  (try simp only [Act.put, List.setIfInBounds_toArray, List.set_cons_zero, List.set_cons_succ])
  refine takeL (i := 6) (v := undef) rfl (by kernel_rfl) (by kernel_rfl) (by kernel_rfl) (fun _ _ _ h => h) (Or.inr ⟨by rfl, rfl⟩) hHeld ?_
  (try simp only [Act.put, List.setIfInBounds_toArray, List.set_cons_zero, List.set_cons_succ])
  refine takeL (i := 7) (v := undef) rfl (by kernel_rfl) (by kernel_rfl) (by kernel_rfl) (fun _ _ _ h => h) (Or.inr ⟨by rfl, rfl⟩) hHeld ?_
  (try simp only [Act.put, List.setIfInBounds_toArray, List.set_cons_zero, List.set_cons_succ])
  refine takeL (i := 8) (v := undef) rfl (by kernel_rfl) (by kernel_rfl) (by kernel_rfl) (fun _ _ _ h => h) (Or.inr ⟨by rfl, rfl⟩) hHeld ?_
  (try simp only [Act.put, List.setIfInBounds_toArray, List.set_cons_zero, List.set_cons_succ])
  refine takeL (i := 9) (v := .bool false) rfl (by kernel_rfl) (by kernel_rfl) (by kernel_rfl) (fun _ _ _ h => h) (Or.inl ⟨by rfl, ?_⟩) hHeld ?_
  · intro w hSw
    (try dsimp only at hSw)
    go_simp
  (try simp only [Act.put, List.setIfInBounds_toArray, List.set_cons_zero, List.set_cons_succ])
  refine takeL (i := 10) (v := .bool false) rfl (by kernel_rfl) (by kernel_rfl) (by kernel_rfl) (fun _ _ _ h => h) (Or.inl ⟨by rfl, ?_⟩) hHeld ?_
  · intro w hSw
    (try dsimp only at hSw)
    go_simp
  (try simp only [Act.put, List.setIfInBounds_toArray, List.set_cons_zero, List.set_cons_succ])
  refine takeL (i := 11) (v := .pointer (some ⟨d, 0, none⟩)) rfl (by kernel_rfl) (by kernel_rfl) (by kernel_rfl) (fun _ _ _ h => h) (Or.inl ⟨by rfl, ?_⟩) hHeld ?_
  · intro w hSw
    (try dsimp only at hSw)
    go_simp
  (try simp only [Act.put, List.setIfInBounds_toArray, List.set_cons_zero, List.set_cons_succ])
  refine takeL (i := 13) (v := .slice a len cap) rfl (by kernel_rfl) (by kernel_rfl) (by kernel_rfl) (fun _ _ _ h => h) (Or.inl ⟨by rfl, ?_⟩) hHeld ?_
  · intro w hSw
    (try dsimp only at hSw)
    go_simp
  (try simp only [Act.put, List.setIfInBounds_toArray, List.set_cons_zero, List.set_cons_succ])
  refine takeL (i := 14) (v := .int .i64 (len : Int)) rfl (by kernel_rfl) (by kernel_rfl) (by kernel_rfl) (fun _ _ _ h => h) (Or.inl ⟨by rfl, ?_⟩) hHeld ?_
  · intro w hSw
    (try dsimp only at hSw)
    go_simp
  (try simp only [Act.put, List.setIfInBounds_toArray, List.set_cons_zero, List.set_cons_succ])
  refine takeL (i := 16) (v := .pointer (some ⟨d, 0, none⟩)) rfl (by kernel_rfl) (by kernel_rfl) (by kernel_rfl) (fun _ _ _ h => h) (Or.inl ⟨by rfl, ?_⟩) hHeld ?_
  · intro w hSw
    (try dsimp only at hSw)
    go_simp
  (try simp only [Act.put, List.setIfInBounds_toArray, List.set_cons_zero, List.set_cons_succ])
  refine takeL (i := 17) (v := .pointer (some ⟨d, 0, none⟩)) rfl (by kernel_rfl) (by kernel_rfl) (by kernel_rfl) (fun _ _ _ h => h) (Or.inl ⟨by rfl, ?_⟩) hHeld ?_
  · intro w hSw
    (try dsimp only at hSw)
    go_simp
  (try simp only [Act.put, List.setIfInBounds_toArray, List.set_cons_zero, List.set_cons_succ])
  refine takeL (i := 18) (v := .pointer (some ⟨d, 1, none⟩)) rfl (by kernel_rfl) (by kernel_rfl) (by kernel_rfl) (fun _ _ _ h => h) (Or.inl ⟨by rfl, ?_⟩) hHeld ?_
  · intro w hSw
    (try dsimp only at hSw)
    go_simp
  (try simp only [Act.put, List.setIfInBounds_toArray, List.set_cons_zero, List.set_cons_succ])
  refine takeL (i := 19) (v := .int .i64 rm) rfl (by kernel_rfl) (by kernel_rfl) (by kernel_rfl) (fun _ _ _ h => h) (Or.inl ⟨by rfl, ?_⟩) hHeld ?_
  · intro w hSw
    (try dsimp only at hSw)
    go_simp
  (try simp only [Act.put, List.setIfInBounds_toArray, List.set_cons_zero, List.set_cons_succ])
  refine wpAnyH_ready (rs := [12]) (by kernel_rfl) (by simp) ?_
  refine consL rfl (fun K hK => ?_) AllReadyH.nil
  go_simp
  refine (SZ.out _ (PW.out _ (Below.drew s0))).mono ?_
  rintro e w5 ⟨rfl, hb5'⟩
  have hb5 : Below wb.heap.size wb w5 := s0.drew.trans (hb5'.mono (Nat.le_refl _))
  refine hK.out _ _ (DC.out _ (PW.out _ hb5)) (fun hHeld => ?_)
  clear hK K hb5'
  (try simp only [Act.put, List.setIfInBounds_toArray, List.set_cons_zero, List.set_cons_succ])
  refine takeL (i := 15) (v := .int .i64 ((u : Int) + (len : Int))) rfl (by kernel_rfl) (by kernel_rfl) (by kernel_rfl) (fun _ _ _ h => h) (Or.inl ⟨by rfl, ?_⟩) hHeld ?_
  · intro w hSw
    (try dsimp only at hSw)
    go_simp
  (try simp only [Act.put, List.setIfInBounds_toArray, List.set_cons_zero, List.set_cons_succ])
  refine takeL (i := 20) (v := .bool false) rfl (by kernel_rfl) (by kernel_rfl) (by kernel_rfl) (fun _ _ _ h => h) (Or.inl ⟨by rfl, ?_⟩) hHeld ?_
  · intro w hSw
    (try dsimp only at hSw)
    go_simp
  (try simp only [Act.put, List.setIfInBounds_toArray, List.set_cons_zero, List.set_cons_succ])
  refine takeL (i := 21) (v := .bool false) rfl (by kernel_rfl) (by kernel_rfl) (by kernel_rfl) (fun _ _ _ h => h) (Or.inl ⟨by rfl, ?_⟩) hHeld ?_
  · intro w hSw
    (try dsimp only at hSw)
    go_simp
  (try simp only [Act.put, List.setIfInBounds_toArray, List.set_cons_zero, List.set_cons_succ])
  refine wpAnyH_done (by kernel_rfl) ?_ _
  refine NoPanic.normal ?_
  clear hHeld
  have bx5 := BX.out _ hb5
  have u1 : w5.cell? ⟨g, 1, none⟩ = some (.slice p1 x1 c1) := Joins.cell_of_block bx5 1
  have u2 : w5.cell? ⟨g, 2, none⟩ = some (.slice p2 x2 c2) := Joins.cell_of_block bx5 2
  have g1 : ([] : List Int).length + x2 ≤ 140737488355328 := by simp only [List.length_nil]; omega
  have g2 : (([] : List Int) ++ l2.take x2).length + len ≤ 140737488355328 := by simp only [List.nil_append, List.length_take]; omega
  clear y1 y2 bx5
  go_wp2_with (first
    | (at_builtin; refine Ob.wp_apd rfl (.tmp 63) (.tmp 65) rfl w5.heap.size (.slice (some ⟨w5.heap.size, 0, none⟩) 0 0) [] rfl (Ob.own_made w5 (Nat.le_refl _)) p2 x2 c2 l2 rfl ((SE.out w S H.out rfl _ (PW.out _ (hb5.alloc hb5.size _))).r2) nn2 g1 (by simp) ?_; intro v6 w6 ho6 hb6; have HO6 := Lib.hid ho6; have hs6 : w5.heap.size ≤ w6.heap.size := Nat.le_trans (by simp) hb6.size; have HB6 : Hid (Below wb.heap.size wb w6) := Lib.hid ((hb5.alloc hb5.size _).trans (hb6.mono hb5.size)); clear ho6 hb6)
    | (at_builtin; refine Ob.wp_apd rfl (.tmp 66) (.tmp 67) rfl w5.heap.size v6 ([] ++ l2.take x2) rfl HO6.out a len cap zs rfl (HR.out.keep (PW.out _ HB6.out)) hn g2 hs6 ?_; intro v7 w7 ho7 hb7; have HO7 := Lib.hid ho7; have HB7 : Hid (Below wb.heap.size wb w7) := Lib.hid (HB6.out.trans (hb7.mono hb5.size)); obtain ⟨va7, vc7, e7, _⟩ := Ob.own_row ho7; rw [G3.out] at e7; subst e7; clear ho7 hb7; have bx7 := BX.out _ HB7.out; have v1 : w7.cell? ⟨g, 0, none⟩ = some (.string s) := Joins.cell_of_block bx7 0; have v2 : w7.cell? ⟨g, 1, none⟩ = some (.slice p1 x1 c1) := Joins.cell_of_block bx7 1; have v3 : w7.cell? ⟨g, 2, none⟩ = some (.slice p2 x2 c2) := Joins.cell_of_block bx7 2; have v4 := Joins.unfrozen_of_block bx7 2; clear bx7))
  obtain ⟨wp, hwp⟩ : ∃ wp, wp = w7.setCell ⟨g, 2, none⟩ (.slice va7 (x2 + len) vc7) := ⟨_, rfl⟩
  rw [← hwp]
  have hgb : g < wb.heap.size := (Array.getElem?_eq_some_iff.1 HBX.out).1
  have h5s := hb5.size
  have BP : Hid (Below w.heap.size w wp) := Lib.hid (by rw [hwp]; exact (PW.out _ HB7.out).setCell hgw (.slice va7 (x2 + len) vc7))
  have OP : Hid (Ob.OwnB wp w5.heap.size (.slice va7 (x2 + len) vc7) ([] ++ l2.take x2 ++ zs.take len)) := Lib.hid (by
    rw [hwp]
    exact row_move HO7.out fun b e => Below.heap_setCell w7 ⟨g, 2, none⟩ (.slice va7 (x2 + len) vc7) b (by have := (row_kind HO7.out b e).1; show b ≠ g; omega))
  have hws : w.heap.size ≤ w5.heap.size := by have := HBB.out.size; omega
  clear v1 v2 v3 v4 u1 u2 hb5
  refine (PUT.out wp (.slice va7 (x2 + len) vc7) _ hws BP.out OP.out).mono ?_
  rintro e w8 ⟨rfl, O8, st8, fv8, P8, Q8, hr8⟩
  have ST8 := Lib.hid st8; have HR8 := Lib.hid hr8
  clear st8 hr8 hwp
  go_wp2_with fail
  refine (ref_raw HR8.out).mono ?_
  rintro e w9 ⟨he9, ht9, hr9⟩
  rw [FLS.out] at he9
  subst he9
  have HT9 := Lib.hid ht9; have HR9 := Lib.hid (hr9 _ _ _ HR8.out)
  clear ht9 hr9
  have k5 : w9.cell? ⟨d, 5, none⟩ = some (.int .i64 kp) := by have := HR9.out.cells.2.2.2.2.2.1; rw [this]; show some (Value.int .i64 S1.keep) = _; rw [KEEP.out]
  go_wp2_with fail
  refine (OF.out.at kp HR9.out).mono ?_
  rintro e w10 h10
  have H10 := Lib.hid h10
  obtain rfl := h10.1
  clear h10 k5
  go_wp2
  go_ret
  exact DD.out wp w8 O8 w9 BP.out ST8.out HT9.out w10 H10.out
set_option maxRecDepth 100000 in
set_option maxHeartbeats 1600000 in
theorem ref_app_none_long (h : RRep w O d fv P Q S) (s : ByteArray) (hs : s.size ≤ maxLen) (a : Option Addr) (len cap : Nat) (zs : List Int) (hrow : Fr.HasRow .u8 w a len zs) (hn : a = none → cap = 0) (hlb : len ≤ 140737488355328) (hr0 : ready s.data.toList S = 0) (hf : look s.data.toList S.fs = none) (hlen : 1048576 < (fileOf s.data.toList S.fs).l.length + len) :
    Calls Tryz.prog 27 #[.pointer (some ⟨d, 0, none⟩), .string s, .slice a len cap] w (RDid w O d (appendS s.data.toList (zs.take len) S)) := by
  have cr := ref_ready h s hs
  rw [hr0] at cr
  have hzl : (zs.take len).length = len := by rw [List.length_take]; have := hrow.1; omega
  have hF : fileOf s.data.toList S.fs = ⟨s.data.toList, [], 0⟩ := by unfold fileOf; rw [hf]
  have ca := ref_at_none h s hf
  obtain ⟨n, hnn⟩ : ∃ n, S.fs.length = n := ⟨_, rfl⟩
  have hfew := h.good.few
  have hld := h.dom d h.od
  have hL : (fileOf s.data.toList S.fs).l.length = 0 := by rw [hF]; rfl
  rw [hnn] at hfew
  have he : appErr s.data.toList (zs.take len).length S = 3 := by unfold appErr; rw [if_neg (by simp [hr0]), hzl, if_pos hlen]
  have D : Hid (∀ w', Below w.heap.size w w' → RDid w O d (appendS s.data.toList (zs.take len) S) (.returned (.int .i64 3)) w') := Lib.hid fun w' hb => refused h (by unfold appendS; rw [if_pos (by rw [he]; decide), he]) hb
  have H := Lib.hid h; have HR := Lib.hid hrow; have hlm := hrow.2.1
  have t1 : decide ((len : Int) > 1048576) = true := by rw [decide_eq_true_eq]; omega
  have CR := Lib.hid cr; have CA := Lib.hid ca
  clear cr ca h hrow hs hr0 hf hlen he hzl hF hL hnn
  go_enter Tryz.func27, Tryz.ntmps27
  go_wp2_with fail
  refine CR.out.mono ?_
  rintro e w' ⟨rfl, rfl⟩
  go_wp2_with fail
  refine CA.out.mono ?_
  rintro e w1 ⟨rfl, hb1⟩
  have hs1 := hb1.size
  obtain ⟨wb, hwb⟩ : ∃ wb, wb = w1.alloc (.cells #[.string s, .slice none 0 0, .slice none 0 0] 87) := ⟨_, rfl⟩
  have hbb : Below w.heap.size w wb := by rw [hwb]; exact hb1.alloc hs1 _
  have hbx : wb.heap[w1.heap.size]? = some (.cells #[.string s, .slice none 0 0, .slice none 0 0] 87 (0, 0)) := by rw [hwb]; exact (MapKept.heap_alloc w1 _).1
  have HWB := Lib.hid hwb; have HBB := Lib.hid hbb; have HBX := Lib.hid hbx
  clear hwb hbb hbx hb1
  go_upto_region 8 with (fail)
  rw [← HWB.out]
  obtain ⟨g, hg⟩ : ∃ g, w1.heap.size = g := ⟨_, rfl⟩
  have hgw : w.heap.size ≤ g := by omega
  rw [hg] at HBX ⊢
  have BX : Hid (∀ wx, Below wb.heap.size wb wx → wx.heap[g]? = some (.cells #[.string s, (.slice none 0 0), (.slice none 0 0)] 87 (0, 0))) := Lib.hid fun wx hb => (hb.block _ (Array.getElem?_eq_some_iff.1 HBX.out).1).trans HBX.out
  have y1 : wb.cell? ⟨g, 1, none⟩ = some (.slice none 0 0) := Joins.cell_of_block HBX.out 1
  have y2 : wb.cell? ⟨g, 2, none⟩ = some (.slice none 0 0) := Joins.cell_of_block HBX.out 2
  clear hg
  go_wp2
  go_ret
  exact D.out _ HBB.out
set_option maxRecDepth 100000 in
set_option maxHeartbeats 1600000 in
theorem ref_app_none_files (h : RRep w O d fv P Q S) (s : ByteArray) (hs : s.size ≤ maxLen) (a : Option Addr) (len cap : Nat) (zs : List Int) (hrow : Fr.HasRow .u8 w a len zs) (hn : a = none → cap = 0) (hlb : len ≤ 140737488355328) (hr0 : ready s.data.toList S = 0) (hf : look s.data.toList S.fs = none) (hlen : ¬ 1048576 < (fileOf s.data.toList S.fs).l.length + len) (hfiles : 16 ≤ S.fs.length) :
    Calls Tryz.prog 27 #[.pointer (some ⟨d, 0, none⟩), .string s, .slice a len cap] w (RDid w O d (appendS s.data.toList (zs.take len) S)) := by
  have cr := ref_ready h s hs
  rw [hr0] at cr
  have hzl : (zs.take len).length = len := by rw [List.length_take]; have := hrow.1; omega
  have hF : fileOf s.data.toList S.fs = ⟨s.data.toList, [], 0⟩ := by unfold fileOf; rw [hf]
  have ca := ref_at_none h s hf
  obtain ⟨n, hnn⟩ : ∃ n, S.fs.length = n := ⟨_, rfl⟩
  have hfew := h.good.few
  have hld := h.dom d h.od
  have hL : (fileOf s.data.toList S.fs).l.length = 0 := by rw [hF]; rfl
  rw [hnn] at hfew
  have he : appErr s.data.toList (zs.take len).length S = 22 := by unfold appErr; rw [if_neg (by simp [hr0]), hzl, if_neg hlen, if_pos ⟨by simp [hf], hfiles⟩]
  have D : Hid (∀ w', Below w.heap.size w w' → RDid w O d (appendS s.data.toList (zs.take len) S) (.returned (.int .i64 22)) w') := Lib.hid fun w' hb => refused h (by unfold appendS; rw [if_pos (by rw [he]; decide), he]) hb
  have H := Lib.hid h; have HR := Lib.hid hrow; have hlm := hrow.2.1
  have t1 : decide ((len : Int) > 1048576) = false := by rw [decide_eq_false_iff_not]; omega
  have t2 : decide ((n : Int) ≥ 16) = true := by rw [decide_eq_true_eq]; omega
  obtain ⟨u, hu⟩ : ∃ u, used S.fs = u := ⟨_, rfl⟩
  have hul := h.good.used_le
  rw [hu] at hul
  have SZ : Hid (∀ wx, Below w.heap.size w wx → Calls Tryz.prog 59 #[.pointer (some ⟨d, 0, none⟩)] wx fun e w' => e = .returned (.int .i64 (u : Int)) ∧ Below wx.heap.size wx w') := Lib.hid fun wx hb => by rw [← hu]; exact ref_size (H.out.below hb)
  have DC : Hid (∀ wx, Below w.heap.size w wx → wx.cell? ⟨d, 0, none⟩ = some fv ∧ wx.cell? ⟨d, 1, none⟩ = some (.int .i64 S.room)) := Lib.hid fun wx hb => ⟨(H.out.below hb).cells.1, (H.out.below hb).cells.2.1⟩
  obtain ⟨rm, hrm⟩ : ∃ rm, S.room = rm := ⟨_, rfl⟩
  rw [hrm] at DC
  obtain ⟨ad0, cp0, hv0⟩ := h.val
  rw [hnn] at hv0
  rw [hv0] at DC
  have CR := Lib.hid cr; have CA := Lib.hid ca
  clear cr ca h hrow hs hr0 hf hlen he hzl hF hL hnn hv0 hfiles hu hrm
  go_enter Tryz.func27, Tryz.ntmps27
  go_wp2_with fail
  refine CR.out.mono ?_
  rintro e w' ⟨rfl, rfl⟩
  go_wp2_with fail
  refine CA.out.mono ?_
  rintro e w1 ⟨rfl, hb1⟩
  have hs1 := hb1.size
  obtain ⟨wb, hwb⟩ : ∃ wb, wb = w1.alloc (.cells #[.string s, .slice none 0 0, .slice none 0 0] 87) := ⟨_, rfl⟩
  have hbb : Below w.heap.size w wb := by rw [hwb]; exact hb1.alloc hs1 _
  have hbx : wb.heap[w1.heap.size]? = some (.cells #[.string s, .slice none 0 0, .slice none 0 0] 87 (0, 0)) := by rw [hwb]; exact (MapKept.heap_alloc w1 _).1
  have HWB := Lib.hid hwb; have HBB := Lib.hid hbb; have HBX := Lib.hid hbx
  clear hwb hbb hbx hb1
  go_upto_region 8 with (fail)
  rw [← HWB.out]
  obtain ⟨g, hg⟩ : ∃ g, w1.heap.size = g := ⟨_, rfl⟩
  have hgw : w.heap.size ≤ g := by omega
  rw [hg] at HBX ⊢
  have BX : Hid (∀ wx, Below wb.heap.size wb wx → wx.heap[g]? = some (.cells #[.string s, (.slice none 0 0), (.slice none 0 0)] 87 (0, 0))) := Lib.hid fun wx hb => (hb.block _ (Array.getElem?_eq_some_iff.1 HBX.out).1).trans HBX.out
  have y1 : wb.cell? ⟨g, 1, none⟩ = some (.slice none 0 0) := Joins.cell_of_block HBX.out 1
  have y2 : wb.cell? ⟨g, 2, none⟩ = some (.slice none 0 0) := Joins.cell_of_block HBX.out 2
  clear hg
  go_wp2
  have s0 := Below.refl wb.heap.size wb
  have PW : Hid (∀ wx, Below wb.heap.size wb wx → Below w.heap.size w wx) := Lib.hid fun wx hb => HBB.out.trans (hb.mono HBB.out.size)
  refine wp_region_noPanic ?_
  refine wp_region_held_drew (S := fun wx => wx.cell? ⟨d, 0, none⟩ = some (.slice ad0 n cp0) ∧ wx.cell? ⟨d, 1, none⟩ = some (.int .i64 rm)) (by kernel_rfl) (DC.out _ (PW.out _ (Below.drew s0))) (fun hHeld => ?_)
  refine takeL (i := 0) (v := .int .i64 (-1)) rfl (by kernel_rfl) (by kernel_rfl) (by kernel_rfl) (fun _ _ _ h => h) (Or.inl ⟨by rfl, ?_⟩) hHeld ?_
  · intro w hSw
    (try dsimp only at hSw)
    go_simp
  (try simp only [Act.put, List.setIfInBounds_toArray, List.set_cons_zero, List.set_cons_succ])
  refine takeL (i := 1) (v := .bool true) rfl (by kernel_rfl) (by kernel_rfl) (by kernel_rfl) (fun _ _ _ h => h) (Or.inl ⟨by rfl, ?_⟩) hHeld ?_
  · intro w hSw
    (try dsimp only at hSw)
    go_simp
  (try simp only [Act.put, List.setIfInBounds_toArray, List.set_cons_zero, List.set_cons_succ])
  refine takeL (i := 2) (v := .bool true) rfl (by kernel_rfl) (by kernel_rfl) (by kernel_rfl) (fun _ _ _ h => h) (Or.inl ⟨by rfl, ?_⟩) hHeld ?_
  · intro w hSw
    (try dsimp only at hSw)
    go_simp
  (try simp only [Act.put, List.setIfInBounds_toArray, List.set_cons_zero, List.set_cons_succ])
  refine takeL (i := 3) (v := .pointer (some ⟨d, 0, none⟩)) rfl (by kernel_rfl) (by kernel_rfl) (by kernel_rfl) (fun _ _ _ h => h) (Or.inl ⟨by rfl, ?_⟩) hHeld ?_
  · intro w hSw
    (try dsimp only at hSw)
    go_simp
  (try simp only [Act.put, List.setIfInBounds_toArray, List.set_cons_zero, List.set_cons_succ])
  refine takeL (i := 4) (v := .pointer (some ⟨d, 0, none⟩)) rfl (by kernel_rfl) (by kernel_rfl) (by kernel_rfl) (fun _ _ _ h => h) (Or.inl ⟨by rfl, ?_⟩) hHeld ?_
  · intro w hSw
    (try dsimp only at hSw)
    go_simp
  (try simp only [Act.put, List.setIfInBounds_toArray, List.set_cons_zero, List.set_cons_succ])
  refine takeL (i := 5) (v := .pointer (some ⟨d, 0, none⟩)) rfl (by kernel_rfl) (by kernel_rfl) (by kernel_rfl) (fun _ _ _ h => h) (Or.inl ⟨by rfl, ?_⟩) hHeld ?_
  · intro w hSw
    (try dsimp only at hSw)
    go_simp
  (try simp only [Act.put, List.setIfInBounds_toArray, List.set_cons_zero, List.set_cons_succ])
  refine takeL (i := 6) (v := (.slice ad0 n cp0)) rfl (by kernel_rfl) (by kernel_rfl) (by kernel_rfl) (fun _ _ _ h => h) (Or.inl ⟨by rfl, ?_⟩) hHeld ?_
  · intro w hSw
    (try dsimp only at hSw)
    go_simp
  (try simp only [Act.put, List.setIfInBounds_toArray, List.set_cons_zero, List.set_cons_succ])
  refine takeL (i := 7) (v := .int .i64 (n : Int)) rfl (by kernel_rfl) (by kernel_rfl) (by kernel_rfl) (fun _ _ _ h => h) (Or.inl ⟨by rfl, ?_⟩) hHeld ?_
  · intro w hSw
    (try dsimp only at hSw)
    go_simp
  (try simp only [Act.put, List.setIfInBounds_toArray, List.set_cons_zero, List.set_cons_succ])
  refine takeL (i := 8) (v := .bool true) rfl (by kernel_rfl) (by kernel_rfl) (by kernel_rfl) (fun _ _ _ h => h) (Or.inl ⟨by rfl, ?_⟩) hHeld ?_
  · intro w hSw
    (try dsimp only at hSw)
    go_simp
  (try simp only [Act.put, List.setIfInBounds_toArray, List.set_cons_zero, List.set_cons_succ])
  refine takeL (i := 9) (v := .bool true) rfl (by kernel_rfl) (by kernel_rfl) (by kernel_rfl) (fun _ _ _ h => h) (Or.inl ⟨by rfl, ?_⟩) hHeld ?_
  · intro w hSw
    (try dsimp only at hSw)
    go_simp
  (try simp only [Act.put, List.setIfInBounds_toArray, List.set_cons_zero, List.set_cons_succ])
  refine takeL (i := 10) (v := .bool true) rfl (by kernel_rfl) (by kernel_rfl) (by kernel_rfl) (fun _ _ _ h => h) (Or.inl ⟨by rfl, ?_⟩) hHeld ?_
  · intro w hSw
    (try dsimp only at hSw)
    go_simp
  (try simp only [Act.put, List.setIfInBounds_toArray, List.set_cons_zero, List.set_cons_succ])
  refine takeL (i := 11) (v := undef) rfl (by kernel_rfl) (by kernel_rfl) (by kernel_rfl) (fun _ _ _ h => h) (Or.inr ⟨by rfl, rfl⟩) hHeld ?_
  (try simp only [Act.put, List.setIfInBounds_toArray, List.set_cons_zero, List.set_cons_succ])
  refine takeL (i := 12) (v := undef) rfl (by kernel_rfl) (by kernel_rfl) (by kernel_rfl) (fun _ _ _ h => h) (Or.inr ⟨by rfl, rfl⟩) hHeld ?_
  (try simp only [Act.put, List.setIfInBounds_toArray, List.set_cons_zero, List.set_cons_succ])
  refine takeL (i := 13) (v := undef) rfl (by kernel_rfl) (by kernel_rfl) (by kernel_rfl) (fun _ _ _ h => h) (Or.inr ⟨by rfl, rfl⟩) hHeld ?_
  (try simp only [Act.put, List.setIfInBounds_toArray, List.set_cons_zero, List.set_cons_succ])
  refine takeL (i := 14) (v := undef) rfl (by kernel_rfl) (by kernel_rfl) (by kernel_rfl) (fun _ _ _ h => h) (Or.inr ⟨by rfl, rfl⟩) hHeld ?_
  (try simp only [Act.put, List.setIfInBounds_toArray, List.set_cons_zero, List.set_cons_succ])
  refine takeL (i := 15) (v := undef) rfl (by kernel_rfl) (by kernel_rfl) (by kernel_rfl) (fun _ _ _ h => h) (Or.inr ⟨by rfl, rfl⟩) hHeld ?_
  (try simp only [Act.put, List.setIfInBounds_toArray, List.set_cons_zero, List.set_cons_succ])
  refine takeL (i := 16) (v := undef) rfl (by kernel_rfl) (by kernel_rfl) (by kernel_rfl) (fun _ _ _ h => h) (Or.inr ⟨by rfl, rfl⟩) hHeld ?_
  (try simp only [Act.put, List.setIfInBounds_toArray, List.set_cons_zero, List.set_cons_succ])
  refine takeL (i := 17) (v := undef) rfl (by kernel_rfl) (by kernel_rfl) (by kernel_rfl) (fun _ _ _ h => h) (Or.inr ⟨by rfl, rfl⟩) hHeld ?_
  (try simp only [Act.put, List.setIfInBounds_toArray, List.set_cons_zero, List.set_cons_succ])
  refine takeL (i := 18) (v := undef) rfl (by kernel_rfl) (by kernel_rfl) (by kernel_rfl) (fun _ _ _ h => h) (Or.inr ⟨by rfl, rfl⟩) hHeld ?_
  (try simp only [Act.put, List.setIfInBounds_toArray, List.set_cons_zero, List.set_cons_succ])
  refine takeL (i := 19) (v := undef) rfl (by kernel_rfl) (by kernel_rfl) (by kernel_rfl) (fun _ _ _ h => h) (Or.inr ⟨by rfl, rfl⟩) hHeld ?_
  (try simp only [Act.put, List.setIfInBounds_toArray, List.set_cons_zero, List.set_cons_succ])
  refine takeL (i := 20) (v := undef) rfl (by kernel_rfl) (by kernel_rfl) (by kernel_rfl) (fun _ _ _ h => h) (Or.inr ⟨by rfl, rfl⟩) hHeld ?_
  (try simp only [Act.put, List.setIfInBounds_toArray, List.set_cons_zero, List.set_cons_succ])
  refine takeL (i := 21) (v := .bool true) rfl (by kernel_rfl) (by kernel_rfl) (by kernel_rfl) (fun _ _ _ h => h) (Or.inl ⟨by rfl, ?_⟩) hHeld ?_
  · intro w hSw
    (try dsimp only at hSw)
    go_simp
  (try simp only [Act.put, List.setIfInBounds_toArray, List.set_cons_zero, List.set_cons_succ])
  refine wpAnyH_done (by kernel_rfl) ?_ _
  refine NoPanic.normal ?_
  clear hHeld
  go_wp2
  go_ret
  exact D.out _ (PW.out _ (Below.drew s0))
set_option maxRecDepth 100000 in
set_option maxHeartbeats 1600000 in
theorem ref_app_none_room (h : RRep w O d fv P Q S) (s : ByteArray) (hs : s.size ≤ maxLen) (a : Option Addr) (len cap : Nat) (zs : List Int) (hrow : Fr.HasRow .u8 w a len zs) (hn : a = none → cap = 0) (hlb : len ≤ 140737488355328) (hr0 : ready s.data.toList S = 0) (hf : look s.data.toList S.fs = none) (hlen : ¬ 1048576 < (fileOf s.data.toList S.fs).l.length + len) (hfiles : ¬ 16 ≤ S.fs.length) (hroom : S.room < ((used S.fs + len : Nat) : Int)) :
    Calls Tryz.prog 27 #[.pointer (some ⟨d, 0, none⟩), .string s, .slice a len cap] w (RDid w O d (appendS s.data.toList (zs.take len) S)) := by
  have cr := ref_ready h s hs
  rw [hr0] at cr
  have hzl : (zs.take len).length = len := by rw [List.length_take]; have := hrow.1; omega
  have hF : fileOf s.data.toList S.fs = ⟨s.data.toList, [], 0⟩ := by unfold fileOf; rw [hf]
  have ca := ref_at_none h s hf
  obtain ⟨n, hnn⟩ : ∃ n, S.fs.length = n := ⟨_, rfl⟩
  have hfew := h.good.few
  have hld := h.dom d h.od
  have hL : (fileOf s.data.toList S.fs).l.length = 0 := by rw [hF]; rfl
  rw [hnn] at hfew
  have he : appErr s.data.toList (zs.take len).length S = 22 := by unfold appErr; rw [if_neg (by simp [hr0]), hzl, if_neg hlen, if_neg (by exact fun e => hfiles e.2), if_pos hroom]
  have D : Hid (∀ w', Below w.heap.size w w' → RDid w O d (appendS s.data.toList (zs.take len) S) (.returned (.int .i64 22)) w') := Lib.hid fun w' hb => refused h (by unfold appendS; rw [if_pos (by rw [he]; decide), he]) hb
  have H := Lib.hid h; have HR := Lib.hid hrow; have hlm := hrow.2.1
  have t1 : decide ((len : Int) > 1048576) = false := by rw [decide_eq_false_iff_not]; omega
  have t2 : decide ((n : Int) ≥ 16) = false := by rw [decide_eq_false_iff_not]; omega
  obtain ⟨u, hu⟩ : ∃ u, used S.fs = u := ⟨_, rfl⟩
  have hul := h.good.used_le
  rw [hu] at hul hroom
  have SZ : Hid (∀ wx, Below w.heap.size w wx → Calls Tryz.prog 59 #[.pointer (some ⟨d, 0, none⟩)] wx fun e w' => e = .returned (.int .i64 (u : Int)) ∧ Below wx.heap.size wx w') := Lib.hid fun wx hb => by rw [← hu]; exact ref_size (H.out.below hb)
  have DC : Hid (∀ wx, Below w.heap.size w wx → wx.cell? ⟨d, 0, none⟩ = some fv ∧ wx.cell? ⟨d, 1, none⟩ = some (.int .i64 S.room)) := Lib.hid fun wx hb => ⟨(H.out.below hb).cells.1, (H.out.below hb).cells.2.1⟩
  obtain ⟨rm, hrm⟩ : ∃ rm, S.room = rm := ⟨_, rfl⟩
  rw [hrm] at DC hroom
  have t5 : decide ((u : Int) + (len : Int) > rm) = true := by rw [decide_eq_true_eq]; omega
  have hw1 : IntKind.i64.wrap ((u : Int) + (len : Int)) = (u : Int) + (len : Int) := IntWalk.i64_in _ (by omega)
  obtain ⟨ad0, cp0, hv0⟩ := h.val
  rw [hnn] at hv0
  rw [hv0] at DC
  have CR := Lib.hid cr; have CA := Lib.hid ca
  clear cr ca h hrow hs hr0 hf hlen he hzl hF hL hnn hv0 hroom hu hrm hfiles
  go_enter Tryz.func27, Tryz.ntmps27
  go_wp2_with fail
  refine CR.out.mono ?_
  rintro e w' ⟨rfl, rfl⟩
  go_wp2_with fail
  refine CA.out.mono ?_
  rintro e w1 ⟨rfl, hb1⟩
  have hs1 := hb1.size
  obtain ⟨wb, hwb⟩ : ∃ wb, wb = w1.alloc (.cells #[.string s, .slice none 0 0, .slice none 0 0] 87) := ⟨_, rfl⟩
  have hbb : Below w.heap.size w wb := by rw [hwb]; exact hb1.alloc hs1 _
  have hbx : wb.heap[w1.heap.size]? = some (.cells #[.string s, .slice none 0 0, .slice none 0 0] 87 (0, 0)) := by rw [hwb]; exact (MapKept.heap_alloc w1 _).1
  have HWB := Lib.hid hwb; have HBB := Lib.hid hbb; have HBX := Lib.hid hbx
  clear hwb hbb hbx hb1
  go_upto_region 8 with (fail)
  rw [← HWB.out]
  obtain ⟨g, hg⟩ : ∃ g, w1.heap.size = g := ⟨_, rfl⟩
  have hgw : w.heap.size ≤ g := by omega
  rw [hg] at HBX ⊢
  have BX : Hid (∀ wx, Below wb.heap.size wb wx → wx.heap[g]? = some (.cells #[.string s, (.slice none 0 0), (.slice none 0 0)] 87 (0, 0))) := Lib.hid fun wx hb => (hb.block _ (Array.getElem?_eq_some_iff.1 HBX.out).1).trans HBX.out
  have y1 : wb.cell? ⟨g, 1, none⟩ = some (.slice none 0 0) := Joins.cell_of_block HBX.out 1
  have y2 : wb.cell? ⟨g, 2, none⟩ = some (.slice none 0 0) := Joins.cell_of_block HBX.out 2
  clear hg
  go_wp2
  have s0 := Below.refl wb.heap.size wb
  have PW : Hid (∀ wx, Below wb.heap.size wb wx → Below w.heap.size w wx) := Lib.hid fun wx hb => HBB.out.trans (hb.mono HBB.out.size)
  refine wp_region_noPanic ?_
  refine wp_region_held_drew (S := fun wx => wx.cell? ⟨d, 0, none⟩ = some (.slice ad0 n cp0) ∧ wx.cell? ⟨d, 1, none⟩ = some (.int .i64 rm)) (by kernel_rfl) (DC.out _ (PW.out _ (Below.drew s0))) (fun hHeld => ?_)
  refine takeL (i := 0) (v := .int .i64 (-1)) rfl (by kernel_rfl) (by kernel_rfl) (by kernel_rfl) (fun _ _ _ h => h) (Or.inl ⟨by rfl, ?_⟩) hHeld ?_
  · intro w hSw
    (try dsimp only at hSw)
    go_simp
  (try simp only [Act.put, List.setIfInBounds_toArray, List.set_cons_zero, List.set_cons_succ])
  refine takeL (i := 1) (v := .bool true) rfl (by kernel_rfl) (by kernel_rfl) (by kernel_rfl) (fun _ _ _ h => h) (Or.inl ⟨by rfl, ?_⟩) hHeld ?_
  · intro w hSw
    (try dsimp only at hSw)
    go_simp
  (try simp only [Act.put, List.setIfInBounds_toArray, List.set_cons_zero, List.set_cons_succ])
  refine takeL (i := 2) (v := .bool true) rfl (by kernel_rfl) (by kernel_rfl) (by kernel_rfl) (fun _ _ _ h => h) (Or.inl ⟨by rfl, ?_⟩) hHeld ?_
  · intro w hSw
    (try dsimp only at hSw)
    go_simp
  (try simp only [Act.put, List.setIfInBounds_toArray, List.set_cons_zero, List.set_cons_succ])
  refine takeL (i := 3) (v := .pointer (some ⟨d, 0, none⟩)) rfl (by kernel_rfl) (by kernel_rfl) (by kernel_rfl) (fun _ _ _ h => h) (Or.inl ⟨by rfl, ?_⟩) hHeld ?_
  · intro w hSw
    (try dsimp only at hSw)
    go_simp
  (try simp only [Act.put, List.setIfInBounds_toArray, List.set_cons_zero, List.set_cons_succ])
  refine takeL (i := 4) (v := .pointer (some ⟨d, 0, none⟩)) rfl (by kernel_rfl) (by kernel_rfl) (by kernel_rfl) (fun _ _ _ h => h) (Or.inl ⟨by rfl, ?_⟩) hHeld ?_
  · intro w hSw
    (try dsimp only at hSw)
    go_simp
  (try simp only [Act.put, List.setIfInBounds_toArray, List.set_cons_zero, List.set_cons_succ])
  refine takeL (i := 5) (v := .pointer (some ⟨d, 0, none⟩)) rfl (by kernel_rfl) (by kernel_rfl) (by kernel_rfl) (fun _ _ _ h => h) (Or.inl ⟨by rfl, ?_⟩) hHeld ?_
  · intro w hSw
    (try dsimp only at hSw)
    go_simp
  (try simp only [Act.put, List.setIfInBounds_toArray, List.set_cons_zero, List.set_cons_succ])
  refine takeL (i := 6) (v := (.slice ad0 n cp0)) rfl (by kernel_rfl) (by kernel_rfl) (by kernel_rfl) (fun _ _ _ h => h) (Or.inl ⟨by rfl, ?_⟩) hHeld ?_
  · intro w hSw
    (try dsimp only at hSw)
    go_simp
  (try simp only [Act.put, List.setIfInBounds_toArray, List.set_cons_zero, List.set_cons_succ])
  refine takeL (i := 7) (v := .int .i64 (n : Int)) rfl (by kernel_rfl) (by kernel_rfl) (by kernel_rfl) (fun _ _ _ h => h) (Or.inl ⟨by rfl, ?_⟩) hHeld ?_
  · intro w hSw
    (try dsimp only at hSw)
    go_simp
  (try simp only [Act.put, List.setIfInBounds_toArray, List.set_cons_zero, List.set_cons_succ])
  refine takeL (i := 8) (v := .bool false) rfl (by kernel_rfl) (by kernel_rfl) (by kernel_rfl) (fun _ _ _ h => h) (Or.inl ⟨by rfl, ?_⟩) hHeld ?_
  · intro w hSw
    (try dsimp only at hSw)
    go_simp
  (try simp only [Act.put, List.setIfInBounds_toArray, List.set_cons_zero, List.set_cons_succ])
  refine takeL (i := 9) (v := .bool false) rfl (by kernel_rfl) (by kernel_rfl) (by kernel_rfl) (fun _ _ _ h => h) (Or.inl ⟨by rfl, ?_⟩) hHeld ?_
  · intro w hSw
    (try dsimp only at hSw)
    go_simp
  (try simp only [Act.put, List.setIfInBounds_toArray, List.set_cons_zero, List.set_cons_succ])
  refine takeL (i := 10) (v := .bool false) rfl (by kernel_rfl) (by kernel_rfl) (by kernel_rfl) (fun _ _ _ h => h) (Or.inl ⟨by rfl, ?_⟩) hHeld ?_
  · intro w hSw
    (try dsimp only at hSw)
    go_simp
  (try simp only [Act.put, List.setIfInBounds_toArray, List.set_cons_zero, List.set_cons_succ])
  refine takeL (i := 11) (v := .pointer (some ⟨d, 0, none⟩)) rfl (by kernel_rfl) (by kernel_rfl) (by kernel_rfl) (fun _ _ _ h => h) (Or.inl ⟨by rfl, ?_⟩) hHeld ?_
  · intro w hSw
    (try dsimp only at hSw)
    go_simp
  (try simp only [Act.put, List.setIfInBounds_toArray, List.set_cons_zero, List.set_cons_succ])
  refine takeL (i := 13) (v := .slice a len cap) rfl (by kernel_rfl) (by kernel_rfl) (by kernel_rfl) (fun _ _ _ h => h) (Or.inl ⟨by rfl, ?_⟩) hHeld ?_
  · intro w hSw
    (try dsimp only at hSw)
    go_simp
  (try simp only [Act.put, List.setIfInBounds_toArray, List.set_cons_zero, List.set_cons_succ])
  refine takeL (i := 14) (v := .int .i64 (len : Int)) rfl (by kernel_rfl) (by kernel_rfl) (by kernel_rfl) (fun _ _ _ h => h) (Or.inl ⟨by rfl, ?_⟩) hHeld ?_
  · intro w hSw
    (try dsimp only at hSw)
    go_simp
  (try simp only [Act.put, List.setIfInBounds_toArray, List.set_cons_zero, List.set_cons_succ])
  refine takeL (i := 16) (v := .pointer (some ⟨d, 0, none⟩)) rfl (by kernel_rfl) (by kernel_rfl) (by kernel_rfl) (fun _ _ _ h => h) (Or.inl ⟨by rfl, ?_⟩) hHeld ?_
  · intro w hSw
    (try dsimp only at hSw)
    go_simp
  (try simp only [Act.put, List.setIfInBounds_toArray, List.set_cons_zero, List.set_cons_succ])
  refine takeL (i := 17) (v := .pointer (some ⟨d, 0, none⟩)) rfl (by kernel_rfl) (by kernel_rfl) (by kernel_rfl) (fun _ _ _ h => h) (Or.inl ⟨by rfl, ?_⟩) hHeld ?_
  · intro w hSw
    (try dsimp only at hSw)
    go_simp
  (try simp only [Act.put, List.setIfInBounds_toArray, List.set_cons_zero, List.set_cons_succ])
  refine takeL (i := 18) (v := .pointer (some ⟨d, 1, none⟩)) rfl (by kernel_rfl) (by kernel_rfl) (by kernel_rfl) (fun _ _ _ h => h) (Or.inl ⟨by rfl, ?_⟩) hHeld ?_
  · intro w hSw
    (try dsimp only at hSw)
    go_simp
  (try simp only [Act.put, List.setIfInBounds_toArray, List.set_cons_zero, List.set_cons_succ])
  refine takeL (i := 19) (v := .int .i64 rm) rfl (by kernel_rfl) (by kernel_rfl) (by kernel_rfl) (fun _ _ _ h => h) (Or.inl ⟨by rfl, ?_⟩) hHeld ?_
  · intro w hSw
    (try dsimp only at hSw)
    go_simp
  (try simp only [Act.put, List.setIfInBounds_toArray, List.set_cons_zero, List.set_cons_succ])
  refine wpAnyH_ready (rs := [12]) (by kernel_rfl) (by simp) ?_
  refine consL rfl (fun K hK => ?_) AllReadyH.nil
  go_simp
  refine (SZ.out _ (PW.out _ (Below.drew s0))).mono ?_
  rintro e w5 ⟨rfl, hb5'⟩
  have hb5 : Below wb.heap.size wb w5 := s0.drew.trans (hb5'.mono (Nat.le_refl _))
  refine hK.out _ _ (DC.out _ (PW.out _ hb5)) (fun hHeld => ?_)
  clear hK K hb5'
  (try simp only [Act.put, List.setIfInBounds_toArray, List.set_cons_zero, List.set_cons_succ])
  refine takeL (i := 15) (v := .int .i64 ((u : Int) + (len : Int))) rfl (by kernel_rfl) (by kernel_rfl) (by kernel_rfl) (fun _ _ _ h => h) (Or.inl ⟨by rfl, ?_⟩) hHeld ?_
  · intro w hSw
    (try dsimp only at hSw)
    go_simp
  (try simp only [Act.put, List.setIfInBounds_toArray, List.set_cons_zero, List.set_cons_succ])
  refine takeL (i := 20) (v := .bool true) rfl (by kernel_rfl) (by kernel_rfl) (by kernel_rfl) (fun _ _ _ h => h) (Or.inl ⟨by rfl, ?_⟩) hHeld ?_
  · intro w hSw
    (try dsimp only at hSw)
    go_simp
  (try simp only [Act.put, List.setIfInBounds_toArray, List.set_cons_zero, List.set_cons_succ])
  refine takeL (i := 21) (v := .bool true) rfl (by kernel_rfl) (by kernel_rfl) (by kernel_rfl) (fun _ _ _ h => h) (Or.inl ⟨by rfl, ?_⟩) hHeld ?_
  · intro w hSw
    (try dsimp only at hSw)
    go_simp
  (try simp only [Act.put, List.setIfInBounds_toArray, List.set_cons_zero, List.set_cons_succ])
  refine wpAnyH_done (by kernel_rfl) ?_ _
  refine NoPanic.normal ?_
  clear hHeld
  have HB5 := Lib.hid (PW.out _ hb5)
  clear hb5
  go_wp2
  go_ret
  exact D.out _ HB5.out
set_option maxRecDepth 100000 in
set_option maxHeartbeats 1600000 in
theorem ref_app_none_ok0 (h : RRep w O d fv P Q S) (s : ByteArray) (hs : s.size ≤ maxLen) (a : Option Addr) (len cap : Nat) (zs : List Int) (hrow : Fr.HasRow .u8 w a len zs) (hn : a = none → cap = 0) (hlb : len ≤ 140737488355328) (hr0 : ready s.data.toList S = 0) (hf : look s.data.toList S.fs = none) (hlen : ¬ 1048576 < (fileOf s.data.toList S.fs).l.length + len) (hfiles : ¬ 16 ≤ S.fs.length) (hroom : ¬ S.room < ((used S.fs + len : Nat) : Int)) (hfl : failing S = false) :
    Calls Tryz.prog 27 #[.pointer (some ⟨d, 0, none⟩), .string s, .slice a len cap] w (RDid w O d (appendS s.data.toList (zs.take len) S)) := by
  have cr := ref_ready h s hs
  rw [hr0] at cr
  have hzl : (zs.take len).length = len := by rw [List.length_take]; have := hrow.1; omega
  have hF : fileOf s.data.toList S.fs = ⟨s.data.toList, [], 0⟩ := by unfold fileOf; rw [hf]
  have ca := ref_at_none h s hf
  obtain ⟨n, hnn⟩ : ∃ n, S.fs.length = n := ⟨_, rfl⟩
  have hfew := h.good.few
  have hld := h.dom d h.od
  have hL : (fileOf s.data.toList S.fs).l.length = 0 := by rw [hF]; rfl
  rw [hnn] at hfew
  have he : appErr s.data.toList (zs.take len).length S = 0 := by unfold appErr; rw [if_neg (by simp [hr0]), hzl, if_neg hlen, if_neg (by exact fun e => hfiles e.2), if_neg hroom]
  have hgood := good_append h.good he
  have PUT : Hid (∀ wp v base, w.heap.size ≤ base → Below w.heap.size w wp → Ob.OwnB wp base v ([] ++ ([] : List Int).take 0 ++ zs.take len) → Calls Tryz.prog 60 #[.pointer (some ⟨d, 0, none⟩), .agg #[.string s, (.slice none 0 0), v]] wp (RUnit wp (OwnUp O w wp) d { S with fs := put (longer (fileOf s.data.toList S.fs) (zs.take len)) S.fs })) := Lib.hid fun wp v base hba hb ho => by
    have hm := h.more hb
    have := ref_put hm (longer (fileOf s.data.toList S.fs) (zs.take len)) (.slice none 0 0) v (by
      rw [hF]
      exact ⟨part_nil _ _, by show Part _ _ _ ([] ++ zs.take len); have ho' := ho; simp only [List.take_nil, List.nil_append] at ho' ⊢; exact part_own ho' hba⟩) hgood
    rwa [show str (longer (fileOf s.data.toList S.fs) (zs.take len)).nm = s by show str (fileOf s.data.toList S.fs).nm = s; rw [fileOf_nm, str_of]] at this
  have FLS : failing { S with fs := put (longer (fileOf s.data.toList S.fs) (zs.take len)) S.fs } = false := by rw [← hfl]; rfl
  have KEEP : ({ S with fs := put (longer (fileOf s.data.toList S.fs) (zs.take len)) S.fs } : St).keep = S.keep := rfl
  have D : Hid (∀ S1, { S with fs := put (longer (fileOf s.data.toList S.fs) (zs.take len)) S.fs } = S1 → ∀ wp w8 O8 w9, Below w.heap.size w wp → Step wp (OwnUp O w wp) w8 O8 → Turned O8 w8 w9 → IsRef w9 O8 d (tick S1) → RDid w O d (appendS s.data.toList (zs.take len) S) (.returned (.int .i64 0)) w9) := Lib.hid fun S1 e1 wp w8 O8 w9 h1 h2 h3 h5 => by
    have e : appendS s.data.toList (zs.take len) S = (0, wrote S1) := by
      unfold appendS; rw [if_neg (by rw [he]; decide), e1]; unfold wcode; rw [if_neg (by simp [hfl])]
    have ew : wrote S1 = tick S1 := by unfold wrote; rw [← e1, if_neg (by rw [FLS]; simp)]
    rw [e, ew]
    exact ⟨rfl, _, ((Step.up h1).trans h2).trans (Step.of h3), h5⟩
  have H := Lib.hid h; have HR := Lib.hid hrow; have hlm := hrow.2.1
  have t1 : decide ((len : Int) > 1048576) = false := by rw [decide_eq_false_iff_not]; omega
  have t2 : decide ((n : Int) ≥ 16) = false := by rw [decide_eq_false_iff_not]; omega
  obtain ⟨u, hu⟩ : ∃ u, used S.fs = u := ⟨_, rfl⟩
  have hul := h.good.used_le
  rw [hu] at hul hroom
  have SZ : Hid (∀ wx, Below w.heap.size w wx → Calls Tryz.prog 59 #[.pointer (some ⟨d, 0, none⟩)] wx fun e w' => e = .returned (.int .i64 (u : Int)) ∧ Below wx.heap.size wx w') := Lib.hid fun wx hb => by rw [← hu]; exact ref_size (H.out.below hb)
  have DC : Hid (∀ wx, Below w.heap.size w wx → wx.cell? ⟨d, 0, none⟩ = some fv ∧ wx.cell? ⟨d, 1, none⟩ = some (.int .i64 S.room)) := Lib.hid fun wx hb => ⟨(H.out.below hb).cells.1, (H.out.below hb).cells.2.1⟩
  obtain ⟨rm, hrm⟩ : ∃ rm, S.room = rm := ⟨_, rfl⟩
  rw [hrm] at DC hroom
  have t5 : decide ((u : Int) + (len : Int) > rm) = false := by rw [decide_eq_false_iff_not]; omega
  have hw1 : IntKind.i64.wrap ((u : Int) + (len : Int)) = (u : Int) + (len : Int) := IntWalk.i64_in _ (by omega)
  obtain ⟨ad0, cp0, hv0⟩ := h.val
  rw [hnn] at hv0
  rw [hv0] at DC
  have G3 : Hid ((([] : List Int) ++ ([] : List Int).take 0 ++ zs.take len).length = len) := Lib.hid (by rw [List.take_nil, List.append_nil, List.nil_append, hzl])
  have hsm : len ≤ 1048576 := by omega
  obtain ⟨S1, hS1⟩ : ∃ S1, ({ S with fs := put (longer (fileOf s.data.toList S.fs) (zs.take len)) S.fs } : St) = S1 := ⟨_, rfl⟩
  rw [hS1] at PUT FLS KEEP
  have DD := Lib.hid (D.out S1 hS1)
  have FLS := Lib.hid FLS; have KEEP := Lib.hid KEEP
  have CR := Lib.hid cr; have CA := Lib.hid ca
  clear cr ca h hrow hs hr0 hf hlen he hzl hF hL hnn hv0 hroom hu hrm hfl hgood hS1 D hfiles
  go_enter Tryz.func27, Tryz.ntmps27
  go_wp2_with fail
  refine CR.out.mono ?_
  rintro e w' ⟨rfl, rfl⟩
  go_wp2_with fail
  refine CA.out.mono ?_
  rintro e w1 ⟨rfl, hb1⟩
  have hs1 := hb1.size
  obtain ⟨wb, hwb⟩ : ∃ wb, wb = w1.alloc (.cells #[.string s, .slice none 0 0, .slice none 0 0] 87) := ⟨_, rfl⟩
  have hbb : Below w.heap.size w wb := by rw [hwb]; exact hb1.alloc hs1 _
  have hbx : wb.heap[w1.heap.size]? = some (.cells #[.string s, .slice none 0 0, .slice none 0 0] 87 (0, 0)) := by rw [hwb]; exact (MapKept.heap_alloc w1 _).1
  have HWB := Lib.hid hwb; have HBB := Lib.hid hbb; have HBX := Lib.hid hbx
  clear hwb hbb hbx hb1
  go_upto_region 8 with (fail)
  rw [← HWB.out]
  obtain ⟨g, hg⟩ : ∃ g, w1.heap.size = g := ⟨_, rfl⟩
  have hgw : w.heap.size ≤ g := by omega
  rw [hg] at HBX ⊢
  have BX : Hid (∀ wx, Below wb.heap.size wb wx → wx.heap[g]? = some (.cells #[.string s, (.slice none 0 0), (.slice none 0 0)] 87 (0, 0))) := Lib.hid fun wx hb => (hb.block _ (Array.getElem?_eq_some_iff.1 HBX.out).1).trans HBX.out
  have y1 : wb.cell? ⟨g, 1, none⟩ = some (.slice none 0 0) := Joins.cell_of_block HBX.out 1
  have y2 : wb.cell? ⟨g, 2, none⟩ = some (.slice none 0 0) := Joins.cell_of_block HBX.out 2
  clear hg
  go_wp2
  have s0 := Below.refl wb.heap.size wb
  have PW : Hid (∀ wx, Below wb.heap.size wb wx → Below w.heap.size w wx) := Lib.hid fun wx hb => HBB.out.trans (hb.mono HBB.out.size)
  refine wp_region_noPanic ?_
  refine wp_region_held_drew (S := fun wx => wx.cell? ⟨d, 0, none⟩ = some (.slice ad0 n cp0) ∧ wx.cell? ⟨d, 1, none⟩ = some (.int .i64 rm)) (by kernel_rfl) (DC.out _ (PW.out _ (Below.drew s0))) (fun hHeld => ?_)
  refine takeL (i := 0) (v := .int .i64 (-1)) rfl (by kernel_rfl) (by kernel_rfl) (by kernel_rfl) (fun _ _ _ h => h) (Or.inl ⟨by rfl, ?_⟩) hHeld ?_
  · intro w hSw
    (try dsimp only at hSw)
    go_simp
  (try simp only [Act.put, List.setIfInBounds_toArray, List.set_cons_zero, List.set_cons_succ])
  refine takeL (i := 1) (v := .bool true) rfl (by kernel_rfl) (by kernel_rfl) (by kernel_rfl) (fun _ _ _ h => h) (Or.inl ⟨by rfl, ?_⟩) hHeld ?_
  · intro w hSw
    (try dsimp only at hSw)
    go_simp
  (try simp only [Act.put, List.setIfInBounds_toArray, List.set_cons_zero, List.set_cons_succ])
  refine takeL (i := 2) (v := .bool true) rfl (by kernel_rfl) (by kernel_rfl) (by kernel_rfl) (fun _ _ _ h => h) (Or.inl ⟨by rfl, ?_⟩) hHeld ?_
  · intro w hSw
    (try dsimp only at hSw)
    go_simp
  (try simp only [Act.put, List.setIfInBounds_toArray, List.set_cons_zero, List.set_cons_succ])
  refine takeL (i := 3) (v := .pointer (some ⟨d, 0, none⟩)) rfl (by kernel_rfl) (by kernel_rfl) (by kernel_rfl) (fun _ _ _ h => h) (Or.inl ⟨by rfl, ?_⟩) hHeld ?_
  · intro w hSw
    (try dsimp only at hSw)
    go_simp
  (try simp only [Act.put, List.setIfInBounds_toArray, List.set_cons_zero, List.set_cons_succ])
  refine takeL (i := 4) (v := .pointer (some ⟨d, 0, none⟩)) rfl (by kernel_rfl) (by kernel_rfl) (by kernel_rfl) (fun _ _ _ h => h) (Or.inl ⟨by rfl, ?_⟩) hHeld ?_
  · intro w hSw
    (try dsimp only at hSw)
    go_simp
  (try simp only [Act.put, List.setIfInBounds_toArray, List.set_cons_zero, List.set_cons_succ])
  refine takeL (i := 5) (v := .pointer (some ⟨d, 0, none⟩)) rfl (by kernel_rfl) (by kernel_rfl) (by kernel_rfl) (fun _ _ _ h => h) (Or.inl ⟨by rfl, ?_⟩) hHeld ?_
  · intro w hSw
    (try dsimp only at hSw)
    go_simp
  (try simp only [Act.put, List.setIfInBounds_toArray, List.set_cons_zero, List.set_cons_succ])
  refine takeL (i := 6) (v := (.slice ad0 n cp0)) rfl (by kernel_rfl) (by kernel_rfl) (by kernel_rfl) (fun _ _ _ h => h) (Or.inl ⟨by rfl, ?_⟩) hHeld ?_
  · intro w hSw
    (try dsimp only at hSw)
    go_simp
  (try simp only [Act.put, List.setIfInBounds_toArray, List.set_cons_zero, List.set_cons_succ])
  refine takeL (i := 7) (v := .int .i64 (n : Int)) rfl (by kernel_rfl) (by kernel_rfl) (by kernel_rfl) (fun _ _ _ h => h) (Or.inl ⟨by rfl, ?_⟩) hHeld ?_
  · intro w hSw
    (try dsimp only at hSw)
    go_simp
  (try simp only [Act.put, List.setIfInBounds_toArray, List.set_cons_zero, List.set_cons_succ])
  refine takeL (i := 8) (v := .bool false) rfl (by kernel_rfl) (by kernel_rfl) (by kernel_rfl) (fun _ _ _ h => h) (Or.inl ⟨by rfl, ?_⟩) hHeld ?_
  · intro w hSw
    (try dsimp only at hSw)
    go_simp
  (try simp only [Act.put, List.setIfInBounds_toArray, List.set_cons_zero, List.set_cons_succ])
  refine takeL (i := 9) (v := .bool false) rfl (by kernel_rfl) (by kernel_rfl) (by kernel_rfl) (fun _ _ _ h => h) (Or.inl ⟨by rfl, ?_⟩) hHeld ?_
  · intro w hSw
    (try dsimp only at hSw)
    go_simp
  (try simp only [Act.put, List.setIfInBounds_toArray, List.set_cons_zero, List.set_cons_succ])
  refine takeL (i := 10) (v := .bool false) rfl (by kernel_rfl) (by kernel_rfl) (by kernel_rfl) (fun _ _ _ h => h) (Or.inl ⟨by rfl, ?_⟩) hHeld ?_
  · intro w hSw
    (try dsimp only at hSw)
    go_simp
  (try simp only [Act.put, List.setIfInBounds_toArray, List.set_cons_zero, List.set_cons_succ])
  refine takeL (i := 11) (v := .pointer (some ⟨d, 0, none⟩)) rfl (by kernel_rfl) (by kernel_rfl) (by kernel_rfl) (fun _ _ _ h => h) (Or.inl ⟨by rfl, ?_⟩) hHeld ?_
  · intro w hSw
    (try dsimp only at hSw)
    go_simp
  (try simp only [Act.put, List.setIfInBounds_toArray, List.set_cons_zero, List.set_cons_succ])
  refine takeL (i := 13) (v := .slice a len cap) rfl (by kernel_rfl) (by kernel_rfl) (by kernel_rfl) (fun _ _ _ h => h) (Or.inl ⟨by rfl, ?_⟩) hHeld ?_
  · intro w hSw
    (try dsimp only at hSw)
    go_simp
  (try simp only [Act.put, List.setIfInBounds_toArray, List.set_cons_zero, List.set_cons_succ])
  refine takeL (i := 14) (v := .int .i64 (len : Int)) rfl (by kernel_rfl) (by kernel_rfl) (by kernel_rfl) (fun _ _ _ h => h) (Or.inl ⟨by rfl, ?_⟩) hHeld ?_
  · intro w hSw
    (try dsimp only at hSw)
    go_simp
  (try simp only [Act.put, List.setIfInBounds_toArray, List.set_cons_zero, List.set_cons_succ])
  refine takeL (i := 16) (v := .pointer (some ⟨d, 0, none⟩)) rfl (by kernel_rfl) (by kernel_rfl) (by kernel_rfl) (fun _ _ _ h => h) (Or.inl ⟨by rfl, ?_⟩) hHeld ?_
  · intro w hSw
    (try dsimp only at hSw)
    go_simp
  (try simp only [Act.put, List.setIfInBounds_toArray, List.set_cons_zero, List.set_cons_succ])
  refine takeL (i := 17) (v := .pointer (some ⟨d, 0, none⟩)) rfl (by kernel_rfl) (by kernel_rfl) (by kernel_rfl) (fun _ _ _ h => h) (Or.inl ⟨by rfl, ?_⟩) hHeld ?_
  · intro w hSw
    (try dsimp only at hSw)
    go_simp
  (try simp only [Act.put, List.setIfInBounds_toArray, List.set_cons_zero, List.set_cons_succ])
  refine takeL (i := 18) (v := .pointer (some ⟨d, 1, none⟩)) rfl (by kernel_rfl) (by kernel_rfl) (by kernel_rfl) (fun _ _ _ h => h) (Or.inl ⟨by rfl, ?_⟩) hHeld ?_
  · intro w hSw
    (try dsimp only at hSw)
    go_simp
  (try simp only [Act.put, List.setIfInBounds_toArray, List.set_cons_zero, List.set_cons_succ])
  refine takeL (i := 19) (v := .int .i64 rm) rfl (by kernel_rfl) (by kernel_rfl) (by kernel_rfl) (fun _ _ _ h => h) (Or.inl ⟨by rfl, ?_⟩) hHeld ?_
  · intro w hSw
    (try dsimp only at hSw)
    go_simp
  (try simp only [Act.put, List.setIfInBounds_toArray, List.set_cons_zero, List.set_cons_succ])
  refine wpAnyH_ready (rs := [12]) (by kernel_rfl) (by simp) ?_
  refine consL rfl (fun K hK => ?_) AllReadyH.nil
  go_simp
  refine (SZ.out _ (PW.out _ (Below.drew s0))).mono ?_
  rintro e w5 ⟨rfl, hb5'⟩
  have hb5 : Below wb.heap.size wb w5 := s0.drew.trans (hb5'.mono (Nat.le_refl _))
  refine hK.out _ _ (DC.out _ (PW.out _ hb5)) (fun hHeld => ?_)
  clear hK K hb5'
  (try simp only [Act.put, List.setIfInBounds_toArray, List.set_cons_zero, List.set_cons_succ])
  refine takeL (i := 15) (v := .int .i64 ((u : Int) + (len : Int))) rfl (by kernel_rfl) (by kernel_rfl) (by kernel_rfl) (fun _ _ _ h => h) (Or.inl ⟨by rfl, ?_⟩) hHeld ?_
  · intro w hSw
    (try dsimp only at hSw)
    go_simp
  (try simp only [Act.put, List.setIfInBounds_toArray, List.set_cons_zero, List.set_cons_succ])
  refine takeL (i := 20) (v := .bool false) rfl (by kernel_rfl) (by kernel_rfl) (by kernel_rfl) (fun _ _ _ h => h) (Or.inl ⟨by rfl, ?_⟩) hHeld ?_
  · intro w hSw
    (try dsimp only at hSw)
    go_simp
  (try simp only [Act.put, List.setIfInBounds_toArray, List.set_cons_zero, List.set_cons_succ])
  refine takeL (i := 21) (v := .bool false) rfl (by kernel_rfl) (by kernel_rfl) (by kernel_rfl) (fun _ _ _ h => h) (Or.inl ⟨by rfl, ?_⟩) hHeld ?_
  · intro w hSw
    (try dsimp only at hSw)
    go_simp
  (try simp only [Act.put, List.setIfInBounds_toArray, List.set_cons_zero, List.set_cons_succ])
  refine wpAnyH_done (by kernel_rfl) ?_ _
  refine NoPanic.normal ?_
  clear hHeld
  have bx5 := BX.out _ hb5
  have u1 : w5.cell? ⟨g, 1, none⟩ = some (.slice none 0 0) := Joins.cell_of_block bx5 1
  have u2 : w5.cell? ⟨g, 2, none⟩ = some (.slice none 0 0) := Joins.cell_of_block bx5 2
  have g1 : ([] : List Int).length + 0 ≤ 140737488355328 := by simp only [List.length_nil]; omega
  have g2 : (([] : List Int) ++ ([] : List Int).take 0).length + len ≤ 140737488355328 := by simp only [List.nil_append, List.length_take]; omega
  clear y1 y2 bx5
  go_wp2_with (first
    | (at_builtin; refine Ob.wp_apd rfl (.tmp 63) (.tmp 65) rfl w5.heap.size (.slice (some ⟨w5.heap.size, 0, none⟩) 0 0) [] rfl (Ob.own_made w5 (Nat.le_refl _)) none 0 0 ([] : List Int) rfl (none_row _) (fun _ => rfl) g1 (by simp) ?_; intro v6 w6 ho6 hb6; have HO6 := Lib.hid ho6; have hs6 : w5.heap.size ≤ w6.heap.size := Nat.le_trans (by simp) hb6.size; have HB6 : Hid (Below wb.heap.size wb w6) := Lib.hid ((hb5.alloc hb5.size _).trans (hb6.mono hb5.size)); clear ho6 hb6)
    | (at_builtin; refine Ob.wp_apd rfl (.tmp 66) (.tmp 67) rfl w5.heap.size v6 ([] ++ ([] : List Int).take 0) rfl HO6.out a len cap zs rfl (HR.out.keep (PW.out _ HB6.out)) hn g2 hs6 ?_; intro v7 w7 ho7 hb7; have HO7 := Lib.hid ho7; have HB7 : Hid (Below wb.heap.size wb w7) := Lib.hid (HB6.out.trans (hb7.mono hb5.size)); obtain ⟨va7, vc7, e7, _⟩ := Ob.own_row ho7; rw [G3.out] at e7; subst e7; clear ho7 hb7; have bx7 := BX.out _ HB7.out; have v1 : w7.cell? ⟨g, 0, none⟩ = some (.string s) := Joins.cell_of_block bx7 0; have v2 : w7.cell? ⟨g, 1, none⟩ = some (.slice none 0 0) := Joins.cell_of_block bx7 1; have v3 : w7.cell? ⟨g, 2, none⟩ = some (.slice none 0 0) := Joins.cell_of_block bx7 2; have v4 := Joins.unfrozen_of_block bx7 2; clear bx7))
  obtain ⟨wp, hwp⟩ : ∃ wp, wp = w7.setCell ⟨g, 2, none⟩ (.slice va7 len vc7) := ⟨_, rfl⟩
  rw [← hwp]
  have hgb : g < wb.heap.size := (Array.getElem?_eq_some_iff.1 HBX.out).1
  have h5s := hb5.size
  have BP : Hid (Below w.heap.size w wp) := Lib.hid (by rw [hwp]; exact (PW.out _ HB7.out).setCell hgw (.slice va7 len vc7))
  have OP : Hid (Ob.OwnB wp w5.heap.size (.slice va7 len vc7) ([] ++ ([] : List Int).take 0 ++ zs.take len)) := Lib.hid (by
    rw [hwp]
    exact row_move HO7.out fun b e => Below.heap_setCell w7 ⟨g, 2, none⟩ (.slice va7 len vc7) b (by have := (row_kind HO7.out b e).1; show b ≠ g; omega))
  have hws : w.heap.size ≤ w5.heap.size := by have := HBB.out.size; omega
  clear v1 v2 v3 v4 u1 u2 hb5
  refine (PUT.out wp (.slice va7 len vc7) _ hws BP.out OP.out).mono ?_
  rintro e w8 ⟨rfl, O8, st8, fv8, P8, Q8, hr8⟩
  have ST8 := Lib.hid st8; have HR8 := Lib.hid hr8
  clear st8 hr8 hwp
  go_wp2_with fail
  refine (ref_raw HR8.out).mono ?_
  rintro e w9 ⟨he9, ht9, hr9⟩
  rw [FLS.out] at he9
  subst he9
  have HT9 := Lib.hid ht9; have HR9 := Lib.hid (hr9 _ _ _ HR8.out)
  clear ht9 hr9
  go_wp2
  go_ret
  exact DD.out wp w8 O8 w9 BP.out ST8.out HT9.out ⟨_, _, _, HR9.out⟩
set_option maxRecDepth 100000 in
set_option maxHeartbeats 1600000 in
theorem ref_app_none_ok1 (OF : OffOk) (h : RRep w O d fv P Q S) (s : ByteArray) (hs : s.size ≤ maxLen) (a : Option Addr) (len cap : Nat) (zs : List Int) (hrow : Fr.HasRow .u8 w a len zs) (hn : a = none → cap = 0) (hlb : len ≤ 140737488355328) (hr0 : ready s.data.toList S = 0) (hf : look s.data.toList S.fs = none) (hlen : ¬ 1048576 < (fileOf s.data.toList S.fs).l.length + len) (hfiles : ¬ 16 ≤ S.fs.length) (hroom : ¬ S.room < ((used S.fs + len : Nat) : Int)) (hfl : failing S = true) :
    Calls Tryz.prog 27 #[.pointer (some ⟨d, 0, none⟩), .string s, .slice a len cap] w (RDid w O d (appendS s.data.toList (zs.take len) S)) := by
  have cr := ref_ready h s hs
  rw [hr0] at cr
  have hzl : (zs.take len).length = len := by rw [List.length_take]; have := hrow.1; omega
  have hF : fileOf s.data.toList S.fs = ⟨s.data.toList, [], 0⟩ := by unfold fileOf; rw [hf]
  have ca := ref_at_none h s hf
  obtain ⟨n, hnn⟩ : ∃ n, S.fs.length = n := ⟨_, rfl⟩
  have hfew := h.good.few
  have hld := h.dom d h.od
  have hL : (fileOf s.data.toList S.fs).l.length = 0 := by rw [hF]; rfl
  rw [hnn] at hfew
  have he : appErr s.data.toList (zs.take len).length S = 0 := by unfold appErr; rw [if_neg (by simp [hr0]), hzl, if_neg hlen, if_neg (by exact fun e => hfiles e.2), if_neg hroom]
  have hgood := good_append h.good he
  have PUT : Hid (∀ wp v base, w.heap.size ≤ base → Below w.heap.size w wp → Ob.OwnB wp base v ([] ++ ([] : List Int).take 0 ++ zs.take len) → Calls Tryz.prog 60 #[.pointer (some ⟨d, 0, none⟩), .agg #[.string s, (.slice none 0 0), v]] wp (RUnit wp (OwnUp O w wp) d { S with fs := put (longer (fileOf s.data.toList S.fs) (zs.take len)) S.fs })) := Lib.hid fun wp v base hba hb ho => by
    have hm := h.more hb
    have := ref_put hm (longer (fileOf s.data.toList S.fs) (zs.take len)) (.slice none 0 0) v (by
      rw [hF]
      exact ⟨part_nil _ _, by show Part _ _ _ ([] ++ zs.take len); have ho' := ho; simp only [List.take_nil, List.nil_append] at ho' ⊢; exact part_own ho' hba⟩) hgood
    rwa [show str (longer (fileOf s.data.toList S.fs) (zs.take len)).nm = s by show str (fileOf s.data.toList S.fs).nm = s; rw [fileOf_nm, str_of]] at this
  have FLS : failing { S with fs := put (longer (fileOf s.data.toList S.fs) (zs.take len)) S.fs } = true := by rw [← hfl]; rfl
  have KEEP : ({ S with fs := put (longer (fileOf s.data.toList S.fs) (zs.take len)) S.fs } : St).keep = S.keep := rfl
  have D : Hid (∀ S1, { S with fs := put (longer (fileOf s.data.toList S.fs) (zs.take len)) S.fs } = S1 → ∀ wp w8 O8 w9, Below w.heap.size w wp → Step wp (OwnUp O w wp) w8 O8 → Turned O8 w8 w9 → ∀ w10, RUnit w9 O8 d (off S.keep (tick S1)) (.returned (.tuple #[])) w10 → RDid w O d (appendS s.data.toList (zs.take len) S) (.returned (.int .i64 20)) w10) := Lib.hid fun S1 e1 wp w8 O8 w9 h1 h2 h3 w10 ⟨_, O10, h4, h5⟩ => by
    have e : appendS s.data.toList (zs.take len) S = (20, wrote S1) := by
      unfold appendS; rw [if_neg (by rw [he]; decide), e1]; unfold wcode; rw [if_pos (by simp [hfl])]
    have ew : wrote S1 = off S.keep (tick S1) := by unfold wrote; rw [← e1, if_pos (by rw [FLS])]
    rw [e, ew]
    exact ⟨rfl, _, (((Step.up h1).trans h2).trans (Step.of h3)).trans h4, h5⟩
  have H := Lib.hid h; have HR := Lib.hid hrow; have hlm := hrow.2.1
  have t1 : decide ((len : Int) > 1048576) = false := by rw [decide_eq_false_iff_not]; omega
  have t2 : decide ((n : Int) ≥ 16) = false := by rw [decide_eq_false_iff_not]; omega
  obtain ⟨u, hu⟩ : ∃ u, used S.fs = u := ⟨_, rfl⟩
  have hul := h.good.used_le
  rw [hu] at hul hroom
  have SZ : Hid (∀ wx, Below w.heap.size w wx → Calls Tryz.prog 59 #[.pointer (some ⟨d, 0, none⟩)] wx fun e w' => e = .returned (.int .i64 (u : Int)) ∧ Below wx.heap.size wx w') := Lib.hid fun wx hb => by rw [← hu]; exact ref_size (H.out.below hb)
  have DC : Hid (∀ wx, Below w.heap.size w wx → wx.cell? ⟨d, 0, none⟩ = some fv ∧ wx.cell? ⟨d, 1, none⟩ = some (.int .i64 S.room)) := Lib.hid fun wx hb => ⟨(H.out.below hb).cells.1, (H.out.below hb).cells.2.1⟩
  obtain ⟨rm, hrm⟩ : ∃ rm, S.room = rm := ⟨_, rfl⟩
  rw [hrm] at DC hroom
  have t5 : decide ((u : Int) + (len : Int) > rm) = false := by rw [decide_eq_false_iff_not]; omega
  have hw1 : IntKind.i64.wrap ((u : Int) + (len : Int)) = (u : Int) + (len : Int) := IntWalk.i64_in _ (by omega)
  obtain ⟨ad0, cp0, hv0⟩ := h.val
  rw [hnn] at hv0
  rw [hv0] at DC
  have G3 : Hid ((([] : List Int) ++ ([] : List Int).take 0 ++ zs.take len).length = len) := Lib.hid (by rw [List.take_nil, List.append_nil, List.nil_append, hzl])
  have hsm : len ≤ 1048576 := by omega
  obtain ⟨S1, hS1⟩ : ∃ S1, ({ S with fs := put (longer (fileOf s.data.toList S.fs) (zs.take len)) S.fs } : St) = S1 := ⟨_, rfl⟩
  rw [hS1] at PUT FLS KEEP
  have DD := Lib.hid (D.out S1 hS1)
  have FLS := Lib.hid FLS; have KEEP := Lib.hid KEEP
  obtain ⟨kp, hkp⟩ : ∃ kp, S.keep = kp := ⟨_, rfl⟩
  rw [hkp] at DD KEEP
  have CR := Lib.hid cr; have CA := Lib.hid ca
  have OF := Lib.hid OF
  clear cr ca h hrow hs hr0 hf hlen he hzl hF hL hnn hv0 hroom hu hrm hfl hgood hS1 D hfiles hkp
  go_enter Tryz.func27, Tryz.ntmps27
  go_wp2_with fail
  refine CR.out.mono ?_
  rintro e w' ⟨rfl, rfl⟩
  go_wp2_with fail
  refine CA.out.mono ?_
  rintro e w1 ⟨rfl, hb1⟩
  have hs1 := hb1.size
  obtain ⟨wb, hwb⟩ : ∃ wb, wb = w1.alloc (.cells #[.string s, .slice none 0 0, .slice none 0 0] 87) := ⟨_, rfl⟩
  have hbb : Below w.heap.size w wb := by rw [hwb]; exact hb1.alloc hs1 _
  have hbx : wb.heap[w1.heap.size]? = some (.cells #[.string s, .slice none 0 0, .slice none 0 0] 87 (0, 0)) := by rw [hwb]; exact (MapKept.heap_alloc w1 _).1
  have HWB := Lib.hid hwb; have HBB := Lib.hid hbb; have HBX := Lib.hid hbx
  clear hwb hbb hbx hb1
  go_upto_region 8 with (fail)
  rw [← HWB.out]
  obtain ⟨g, hg⟩ : ∃ g, w1.heap.size = g := ⟨_, rfl⟩
  have hgw : w.heap.size ≤ g := by omega
  rw [hg] at HBX ⊢
  have BX : Hid (∀ wx, Below wb.heap.size wb wx → wx.heap[g]? = some (.cells #[.string s, (.slice none 0 0), (.slice none 0 0)] 87 (0, 0))) := Lib.hid fun wx hb => (hb.block _ (Array.getElem?_eq_some_iff.1 HBX.out).1).trans HBX.out
  have y1 : wb.cell? ⟨g, 1, none⟩ = some (.slice none 0 0) := Joins.cell_of_block HBX.out 1
  have y2 : wb.cell? ⟨g, 2, none⟩ = some (.slice none 0 0) := Joins.cell_of_block HBX.out 2
  clear hg
  go_wp2
  have s0 := Below.refl wb.heap.size wb
  have PW : Hid (∀ wx, Below wb.heap.size wb wx → Below w.heap.size w wx) := Lib.hid fun wx hb => HBB.out.trans (hb.mono HBB.out.size)
  refine wp_region_noPanic ?_
  refine wp_region_held_drew (S := fun wx => wx.cell? ⟨d, 0, none⟩ = some (.slice ad0 n cp0) ∧ wx.cell? ⟨d, 1, none⟩ = some (.int .i64 rm)) (by kernel_rfl) (DC.out _ (PW.out _ (Below.drew s0))) (fun hHeld => ?_)
  refine takeL (i := 0) (v := .int .i64 (-1)) rfl (by kernel_rfl) (by kernel_rfl) (by kernel_rfl) (fun _ _ _ h => h) (Or.inl ⟨by rfl, ?_⟩) hHeld ?_
  · intro w hSw
    (try dsimp only at hSw)
    go_simp
  (try simp only [Act.put, List.setIfInBounds_toArray, List.set_cons_zero, List.set_cons_succ])
  refine takeL (i := 1) (v := .bool true) rfl (by kernel_rfl) (by kernel_rfl) (by kernel_rfl) (fun _ _ _ h => h) (Or.inl ⟨by rfl, ?_⟩) hHeld ?_
  · intro w hSw
    (try dsimp only at hSw)
    go_simp
  (try simp only [Act.put, List.setIfInBounds_toArray, List.set_cons_zero, List.set_cons_succ])
  refine takeL (i := 2) (v := .bool true) rfl (by kernel_rfl) (by kernel_rfl) (by kernel_rfl) (fun _ _ _ h => h) (Or.inl ⟨by rfl, ?_⟩) hHeld ?_
  · intro w hSw
    (try dsimp only at hSw)
    go_simp
  (try simp only [Act.put, List.setIfInBounds_toArray, List.set_cons_zero, List.set_cons_succ])
  refine takeL (i := 3) (v := .pointer (some ⟨d, 0, none⟩)) rfl (by kernel_rfl) (by kernel_rfl) (by kernel_rfl) (fun _ _ _ h => h) (Or.inl ⟨by rfl, ?_⟩) hHeld ?_
  · intro w hSw
    (try dsimp only at hSw)
    go_simp
  (try simp only [Act.put, List.setIfInBounds_toArray, List.set_cons_zero, List.set_cons_succ])
  refine takeL (i := 4) (v := .pointer (some ⟨d, 0, none⟩)) rfl (by kernel_rfl) (by kernel_rfl) (by kernel_rfl) (fun _ _ _ h => h) (Or.inl ⟨by rfl, ?_⟩) hHeld ?_
  · intro w hSw
    (try dsimp only at hSw)
    go_simp
  (try simp only [Act.put, List.setIfInBounds_toArray, List.set_cons_zero, List.set_cons_succ])
  refine takeL (i := 5) (v := .pointer (some ⟨d, 0, none⟩)) rfl (by kernel_rfl) (by kernel_rfl) (by kernel_rfl) (fun _ _ _ h => h) (Or.inl ⟨by rfl, ?_⟩) hHeld ?_
  · intro w hSw
    (try dsimp only at hSw)
    go_simp
  (try simp only [Act.put, List.setIfInBounds_toArray, List.set_cons_zero, List.set_cons_succ])
  refine takeL (i := 6) (v := (.slice ad0 n cp0)) rfl (by kernel_rfl) (by kernel_rfl) (by kernel_rfl) (fun _ _ _ h => h) (Or.inl ⟨by rfl, ?_⟩) hHeld ?_
  · intro w hSw
    (try dsimp only at hSw)
    go_simp
  (try simp only [Act.put, List.setIfInBounds_toArray, List.set_cons_zero, List.set_cons_succ])
  refine takeL (i := 7) (v := .int .i64 (n : Int)) rfl (by kernel_rfl) (by kernel_rfl) (by kernel_rfl) (fun _ _ _ h => h) (Or.inl ⟨by rfl, ?_⟩) hHeld ?_
  · intro w hSw
    (try dsimp only at hSw)
    go_simp
  (try simp only [Act.put, List.setIfInBounds_toArray, List.set_cons_zero, List.set_cons_succ])
  refine takeL (i := 8) (v := .bool false) rfl (by kernel_rfl) (by kernel_rfl) (by kernel_rfl) (fun _ _ _ h => h) (Or.inl ⟨by rfl, ?_⟩) hHeld ?_
  · intro w hSw
    (try dsimp only at hSw)
    go_simp
  (try simp only [Act.put, List.setIfInBounds_toArray, List.set_cons_zero, List.set_cons_succ])
  refine takeL (i := 9) (v := .bool false) rfl (by kernel_rfl) (by kernel_rfl) (by kernel_rfl) (fun _ _ _ h => h) (Or.inl ⟨by rfl, ?_⟩) hHeld ?_
  · intro w hSw
    (try dsimp only at hSw)
    go_simp
  (try simp only [Act.put, List.setIfInBounds_toArray, List.set_cons_zero, List.set_cons_succ])
  refine takeL (i := 10) (v := .bool false) rfl (by kernel_rfl) (by kernel_rfl) (by kernel_rfl) (fun _ _ _ h => h) (Or.inl ⟨by rfl, ?_⟩) hHeld ?_
  · intro w hSw
    (try dsimp only at hSw)
    go_simp
  (try simp only [Act.put, List.setIfInBounds_toArray, List.set_cons_zero, List.set_cons_succ])
  refine takeL (i := 11) (v := .pointer (some ⟨d, 0, none⟩)) rfl (by kernel_rfl) (by kernel_rfl) (by kernel_rfl) (fun _ _ _ h => h) (Or.inl ⟨by rfl, ?_⟩) hHeld ?_
  · intro w hSw
    (try dsimp only at hSw)
    go_simp
  (try simp only [Act.put, List.setIfInBounds_toArray, List.set_cons_zero, List.set_cons_succ])
  refine takeL (i := 13) (v := .slice a len cap) rfl (by kernel_rfl) (by kernel_rfl) (by kernel_rfl) (fun _ _ _ h => h) (Or.inl ⟨by rfl, ?_⟩) hHeld ?_
  · intro w hSw
    (try dsimp only at hSw)
    go_simp
  (try simp only [Act.put, List.setIfInBounds_toArray, List.set_cons_zero, List.set_cons_succ])
  refine takeL (i := 14) (v := .int .i64 (len : Int)) rfl (by kernel_rfl) (by kernel_rfl) (by kernel_rfl) (fun _ _ _ h => h) (Or.inl ⟨by rfl, ?_⟩) hHeld ?_
  · intro w hSw
    (try dsimp only at hSw)
    go_simp
  (try simp only [Act.put, List.setIfInBounds_toArray, List.set_cons_zero, List.set_cons_succ])
  refine takeL (i := 16) (v := .pointer (some ⟨d, 0, none⟩)) rfl (by kernel_rfl) (by kernel_rfl) (by kernel_rfl) (fun _ _ _ h => h) (Or.inl ⟨by rfl, ?_⟩) hHeld ?_
  · intro w hSw
    (try dsimp only at hSw)
    go_simp
  (try simp only [Act.put, List.setIfInBounds_toArray, List.set_cons_zero, List.set_cons_succ])
  refine takeL (i := 17) (v := .pointer (some ⟨d, 0, none⟩)) rfl (by kernel_rfl) (by kernel_rfl) (by kernel_rfl) (fun _ _ _ h => h) (Or.inl ⟨by rfl, ?_⟩) hHeld ?_
  · intro w hSw
    (try dsimp only at hSw)
    go_simp
  (try simp only [Act.put, List.setIfInBounds_toArray, List.set_cons_zero, List.set_cons_succ])
  refine takeL (i := 18) (v := .pointer (some ⟨d, 1, none⟩)) rfl (by kernel_rfl) (by kernel_rfl) (by kernel_rfl) (fun _ _ _ h => h) (Or.inl ⟨by rfl, ?_⟩) hHeld ?_
  · intro w hSw
    (try dsimp only at hSw)
    go_simp
  (try simp only [Act.put, List.setIfInBounds_toArray, List.set_cons_zero, List.set_cons_succ])
  refine takeL (i := 19) (v := .int .i64 rm) rfl (by kernel_rfl) (by kernel_rfl) (by kernel_rfl) (fun _ _ _ h => h) (Or.inl ⟨by rfl, ?_⟩) hHeld ?_
  · intro w hSw
    (try dsimp only at hSw)
    go_simp
  (try simp only [Act.put, List.setIfInBounds_toArray, List.set_cons_zero, List.set_cons_succ])
  refine wpAnyH_ready (rs := [12]) (by kernel_rfl) (by simp) ?_
  refine consL rfl (fun K hK => ?_) AllReadyH.nil
  go_simp
  refine (SZ.out _ (PW.out _ (Below.drew s0))).mono ?_
  rintro e w5 ⟨rfl, hb5'⟩
  have hb5 : Below wb.heap.size wb w5 := s0.drew.trans (hb5'.mono (Nat.le_refl _))
  refine hK.out _ _ (DC.out _ (PW.out _ hb5)) (fun hHeld => ?_)
  clear hK K hb5'
  (try simp only [Act.put, List.setIfInBounds_toArray, List.set_cons_zero, List.set_cons_succ])
  refine takeL (i := 15) (v := .int .i64 ((u : Int) + (len : Int))) rfl (by kernel_rfl) (by kernel_rfl) (by kernel_rfl) (fun _ _ _ h => h) (Or.inl ⟨by rfl, ?_⟩) hHeld ?_
  · intro w hSw
    (try dsimp only at hSw)
    go_simp
  (try simp only [Act.put, List.setIfInBounds_toArray, List.set_cons_zero, List.set_cons_succ])
  refine takeL (i := 20) (v := .bool false) rfl (by kernel_rfl) (by kernel_rfl) (by kernel_rfl) (fun _ _ _ h => h) (Or.inl ⟨by rfl, ?_⟩) hHeld ?_
  · intro w hSw
    (try dsimp only at hSw)
    go_simp
  (try simp only [Act.put, List.setIfInBounds_toArray, List.set_cons_zero, List.set_cons_succ])
  refine takeL (i := 21) (v := .bool false) rfl (by kernel_rfl) (by kernel_rfl) (by kernel_rfl) (fun _ _ _ h => h) (Or.inl ⟨by rfl, ?_⟩) hHeld ?_
  · intro w hSw
    (try dsimp only at hSw)
    go_simp
  (try simp only [Act.put, List.setIfInBounds_toArray, List.set_cons_zero, List.set_cons_succ])
  refine wpAnyH_done (by kernel_rfl) ?_ _
  refine NoPanic.normal ?_
  clear hHeld
  have bx5 := BX.out _ hb5
  have u1 : w5.cell? ⟨g, 1, none⟩ = some (.slice none 0 0) := Joins.cell_of_block bx5 1
  have u2 : w5.cell? ⟨g, 2, none⟩ = some (.slice none 0 0) := Joins.cell_of_block bx5 2
  have g1 : ([] : List Int).length + 0 ≤ 140737488355328 := by simp only [List.length_nil]; omega
  have g2 : (([] : List Int) ++ ([] : List Int).take 0).length + len ≤ 140737488355328 := by simp only [List.nil_append, List.length_take]; omega
  clear y1 y2 bx5
  go_wp2_with (first
    | (at_builtin; refine Ob.wp_apd rfl (.tmp 63) (.tmp 65) rfl w5.heap.size (.slice (some ⟨w5.heap.size, 0, none⟩) 0 0) [] rfl (Ob.own_made w5 (Nat.le_refl _)) none 0 0 ([] : List Int) rfl (none_row _) (fun _ => rfl) g1 (by simp) ?_; intro v6 w6 ho6 hb6; have HO6 := Lib.hid ho6; have hs6 : w5.heap.size ≤ w6.heap.size := Nat.le_trans (by simp) hb6.size; have HB6 : Hid (Below wb.heap.size wb w6) := Lib.hid ((hb5.alloc hb5.size _).trans (hb6.mono hb5.size)); clear ho6 hb6)
    | (at_builtin; refine Ob.wp_apd rfl (.tmp 66) (.tmp 67) rfl w5.heap.size v6 ([] ++ ([] : List Int).take 0) rfl HO6.out a len cap zs rfl (HR.out.keep (PW.out _ HB6.out)) hn g2 hs6 ?_; intro v7 w7 ho7 hb7; have HO7 := Lib.hid ho7; have HB7 : Hid (Below wb.heap.size wb w7) := Lib.hid (HB6.out.trans (hb7.mono hb5.size)); obtain ⟨va7, vc7, e7, _⟩ := Ob.own_row ho7; rw [G3.out] at e7; subst e7; clear ho7 hb7; have bx7 := BX.out _ HB7.out; have v1 : w7.cell? ⟨g, 0, none⟩ = some (.string s) := Joins.cell_of_block bx7 0; have v2 : w7.cell? ⟨g, 1, none⟩ = some (.slice none 0 0) := Joins.cell_of_block bx7 1; have v3 : w7.cell? ⟨g, 2, none⟩ = some (.slice none 0 0) := Joins.cell_of_block bx7 2; have v4 := Joins.unfrozen_of_block bx7 2; clear bx7))
  obtain ⟨wp, hwp⟩ : ∃ wp, wp = w7.setCell ⟨g, 2, none⟩ (.slice va7 len vc7) := ⟨_, rfl⟩
  rw [← hwp]
  have hgb : g < wb.heap.size := (Array.getElem?_eq_some_iff.1 HBX.out).1
  have h5s := hb5.size
  have BP : Hid (Below w.heap.size w wp) := Lib.hid (by rw [hwp]; exact (PW.out _ HB7.out).setCell hgw (.slice va7 len vc7))
  have OP : Hid (Ob.OwnB wp w5.heap.size (.slice va7 len vc7) ([] ++ ([] : List Int).take 0 ++ zs.take len)) := Lib.hid (by
    rw [hwp]
    exact row_move HO7.out fun b e => Below.heap_setCell w7 ⟨g, 2, none⟩ (.slice va7 len vc7) b (by have := (row_kind HO7.out b e).1; show b ≠ g; omega))
  have hws : w.heap.size ≤ w5.heap.size := by have := HBB.out.size; omega
  clear v1 v2 v3 v4 u1 u2 hb5
  refine (PUT.out wp (.slice va7 len vc7) _ hws BP.out OP.out).mono ?_
  rintro e w8 ⟨rfl, O8, st8, fv8, P8, Q8, hr8⟩
  have ST8 := Lib.hid st8; have HR8 := Lib.hid hr8
  clear st8 hr8 hwp
  go_wp2_with fail
  refine (ref_raw HR8.out).mono ?_
  rintro e w9 ⟨he9, ht9, hr9⟩
  rw [FLS.out] at he9
  subst he9
  have HT9 := Lib.hid ht9; have HR9 := Lib.hid (hr9 _ _ _ HR8.out)
  clear ht9 hr9
  have k5 : w9.cell? ⟨d, 5, none⟩ = some (.int .i64 kp) := by have := HR9.out.cells.2.2.2.2.2.1; rw [this]; show some (Value.int .i64 S1.keep) = _; rw [KEEP.out]
  go_wp2_with fail
  refine (OF.out.at kp HR9.out).mono ?_
  rintro e w10 h10
  have H10 := Lib.hid h10
  obtain rfl := h10.1
  clear h10 k5
  go_wp2
  go_ret
  exact DD.out wp w8 O8 w9 BP.out ST8.out HT9.out w10 H10.out
theorem ref_append (OF : OffOk) (h : RRep w O d fv P Q S) (s : ByteArray) (hs : s.size ≤ maxLen) (a : Option Addr) (len cap : Nat) (zs : List Int) (hrow : Fr.HasRow .u8 w a len zs) (hn : a = none → cap = 0) (hlb : len ≤ 140737488355328) :
    Calls Tryz.prog 27 #[.pointer (some ⟨d, 0, none⟩), .string s, .slice a len cap] w (RDid w O d (appendS s.data.toList (zs.take len) S)) := by
  by_cases hr : ready s.data.toList S = 0
  · cases hf : look s.data.toList S.fs with
    | some f =>
      by_cases hlen : 1048576 < (fileOf s.data.toList S.fs).l.length + len
      · exact ref_app_some_long h s hs a len cap zs hrow hn hlb hr hf hlen
      · by_cases hroom : S.room < ((used S.fs + len : Nat) : Int)
        · exact ref_app_some_room h s hs a len cap zs hrow hn hlb hr hf hlen hroom
        · cases hfl : failing S with
          | false => exact ref_app_some_ok0 h s hs a len cap zs hrow hn hlb hr hf hlen hroom hfl
          | true => exact ref_app_some_ok1 OF h s hs a len cap zs hrow hn hlb hr hf hlen hroom hfl
    | none =>
      by_cases hlen : 1048576 < (fileOf s.data.toList S.fs).l.length + len
      · exact ref_app_none_long h s hs a len cap zs hrow hn hlb hr hf hlen
      · by_cases hfiles : 16 ≤ S.fs.length
        · exact ref_app_none_files h s hs a len cap zs hrow hn hlb hr hf hlen hfiles
        · by_cases hroom : S.room < ((used S.fs + len : Nat) : Int)
          · exact ref_app_none_room h s hs a len cap zs hrow hn hlb hr hf hlen hfiles hroom
          · cases hfl : failing S with
            | false => exact ref_app_none_ok0 h s hs a len cap zs hrow hn hlb hr hf hlen hfiles hroom hfl
            | true => exact ref_app_none_ok1 OF h s hs a len cap zs hrow hn hlb hr hf hlen hfiles hroom hfl
  · have cr := ref_ready h s hs
    have D : Hid (∀ w', Below w.heap.size w w' → RDid w O d (appendS s.data.toList (zs.take len) S) (.returned (.int .i64 (ready s.data.toList S))) w') := Lib.hid fun w' hb => refused h (by
      have e : appErr s.data.toList (zs.take len).length S = ready s.data.toList S := by unfold appErr; rw [if_pos hr]
      unfold appendS; rw [if_pos (by rw [e]; exact hr), e]) hb
    generalize ready s.data.toList S = r at *
    have CR := Lib.hid cr
    have t1 : (r == 0) = false := by simpa using hr
    have t2 : (r != 0) = true := by simpa using hr
    clear cr h hr hs hrow hn hlb
    go_enter Tryz.func27, Tryz.ntmps27
    go_wp2_with (go_at_call 57; (with_reducible refine CR.out.mono ?_); rintro e w' ⟨rfl, rfl⟩)
    go_ret
    exact D.out _ (Below.refl _ _)
end
end Go.Proofs.YtdonkmkjblofpaaGreatDoor.Dk
/-! ## Ln -/
namespace Go.Proofs.YtdonkmkjblofpaaGreatDoor.Dk
open Go.RowKit Fo
set_option linter.unusedVariables false
set_option linter.unusedSimpArgs false

def RHas (w : World) (O : Nat → Prop) (d : Nat) (S : St) (w' : World) : Prop := ∃ O', Step w O w' O' ∧ IsRef w' O' d S
def SaysIt (w : World) (O : Nat → Prop) (d : Nat) (r : (List Int × Int) × St) (e : Ending) (w' : World) : Prop :=
  ∃ ad cap O', e = .returned (.tuple #[.slice ad r.1.1.length cap, .int .i64 r.1.2]) ∧ Fr.HasRow .u8 w' ad r.1.1.length r.1.1 ∧ (ad = none → cap = 0) ∧ r.1.1.length ≤ cap ∧ Step w O w' O' ∧ IsRef w' O' d r.2 ∧ (r.1.1 = [] ∨ Below w.heap.size w w')
theorem says_nil {w wa w' : World} {O : Nat → Prop} {d : Nat} {c : Int} {S' : St} (hb : Below w.heap.size w wa) (h : RHas wa O d S' w') {r : (List Int × Int) × St} (e1 : r = (([], c), S')) : SaysIt w O d r (.returned (.tuple #[.slice none 0 0, .int .i64 c])) w' := by
  obtain ⟨O', h1, h2⟩ := h
  subst e1
  exact ⟨none, 0, O', rfl, none_row _, (fun _ => rfl), Nat.le_refl _, (Step.of (Turned.of_below hb)).trans h1, h2, .inl rfl⟩
def RDid2 (w : World) (O : Nat → Prop) (d : Nat) (r : Int × St) (e : Ending) (w' : World) : Prop := e = .returned (.int .i64 r.1) ∧ RHas w O d r.2 w'
section
variable {w : World} {O : Nat → Prop} {d : Nat} {S : St}
theorem append_ref (OF : OffOk) (h : IsRef w O d S) (s : ByteArray) (hs : s.size ≤ maxLen) (a : Option Addr) (len cap : Nat) (zs : List Int) (hrow : Fr.HasRow .u8 w a len zs) (hn : a = none → cap = 0) (hlb : len ≤ 140737488355328) :
    Calls Tryz.prog 27 #[.pointer (some ⟨d, 0, none⟩), .string s, .slice a len cap] w (RDid2 w O d (appendS s.data.toList (zs.take len) S)) := by
  obtain ⟨m, G, V, h⟩ := h; exact ref_append OF h s hs a len cap zs hrow hn hlb
theorem sync_ref (OF : OffOk) (h : IsRef w O d S) (s : ByteArray) (hs : s.size ≤ maxLen) : Calls Tryz.prog 29 #[.pointer (some ⟨d, 0, none⟩), .string s] w (RDid2 w O d (syncS s.data.toList S)) := by
  obtain ⟨m, G, V, h⟩ := h; exact ref_sync OF h s hs
theorem rename_ref (OF : OffOk) (h : IsRef w O d S) (s t : ByteArray) (hs : s.size ≤ maxLen) (ht : t.size ≤ maxLen) : Calls Tryz.prog 69 #[.pointer (some ⟨d, 0, none⟩), .string s, .string t] w (RDid2 w O d (renameS s.data.toList t.data.toList S)) := by
  obtain ⟨m, G, V, h⟩ := h; exact ref_rename OF h s t hs ht
theorem remove_ref (OF : OffOk) (h : IsRef w O d S) (s : ByteArray) (hs : s.size ≤ maxLen) : Calls Tryz.prog 68 #[.pointer (some ⟨d, 0, none⟩), .string s] w (RDid2 w O d (removeS s.data.toList S)) := by
  obtain ⟨m, G, V, h⟩ := h; exact ref_remove OF h s hs
theorem read_ref (h : IsRef w O d S) (s : ByteArray) (hs : s.size ≤ maxLen) : Calls Tryz.prog 67 #[.pointer (some ⟨d, 0, none⟩), .string s] w (ReadIt w s.data.toList S) := by
  obtain ⟨m, G, V, h⟩ := h; exact ref_read h s hs
theorem arm_ref (h : IsRef w O d S) (n keep : Int) (hn : n ≤ 9223372036854775807) : Calls Tryz.prog 35 #[.pointer (some ⟨d, 0, none⟩), .int .i64 n, .int .i64 keep] w fun e w' => e = .returned (.tuple #[]) ∧ RHas w O d (armS n keep S) w' := by
  obtain ⟨m, G, V, h⟩ := h; exact ref_arm h n keep hn
theorem off_ref (OF : OffOk) (h : IsRef w O d S) (keep : Int) : Calls Tryz.prog 37 #[.pointer (some ⟨d, 0, none⟩), .int .i64 keep] w fun e w' => e = .returned (.tuple #[]) ∧ RHas w O d (off keep S) w' := by
  obtain ⟨m, G, V, h⟩ := h; exact OF.at keep h
end
end Go.Proofs.YtdonkmkjblofpaaGreatDoor.Dk
/-! ## Lo -/
namespace Go.Proofs.YtdonkmkjblofpaaGreatDoor.Dk
open Go.RowKit Fo
set_option linter.unusedVariables false
set_option linter.unusedSimpArgs false

theorem refnames_hi {N : Nat} {w : World} {O : Nat → Prop} {d : Nat} {S : St} (h : IsRef w O d S) (hN : N ≤ w.heap.size) : Calls Tryz.prog 70 #[.pointer (some ⟨d, 0, none⟩)] w fun e w' => ∃ ad cap, e = .returned (.slice ad (namesL S).length cap) ∧ (namesL S).length ≤ cap ∧ cap ≤ 9223372036854775807 ∧ NmOk N w' ad (namesL S) ∧ Below w.heap.size w w' := by
  obtain ⟨fv, P, Q, h⟩ := h
  refine (ref_names h).mono fun e w' ⟨v, h1, h2, h3⟩ => ?_
  subst h1
  rcases h2.2 with ⟨rfl, h0⟩ | ⟨g, cap, cur, rfl, hb, hh, x1, x2, x3, x4⟩
  · exact ⟨none, 0, by rw [h0], by omega, by decide, (fun h => by omega), h3⟩
  · refine ⟨some ⟨g, 0, none⟩, cap, rfl, x1, by unfold maxLen at x2; exact x2, fun _ => ⟨g, cur, rfl, Nat.le_trans hN hb, hh, fun j hj => ?_⟩, h3⟩
    rw [World.ownsRow.cellAt h2 j (by omega), List.getElem?_map, List.getElem?_eq_getElem hj]
    simp [List.getD, hj]
theorem refread_nm {w : World} {O : Nat → Prop} {d : Nat} {S : St} (h : IsRef w O d S) {j : Nat} (hj : j < (namesL S).length) :
    Calls Tryz.prog 67 #[.pointer (some ⟨d, 0, none⟩), .string (nmV (namesL S) j)] w (RowOut w 0 ((contL S).getD j [])) := by
  obtain ⟨t1, t2, t3⟩ := nc_read h.good hj
  refine (read_ref h (nmV (namesL S) j) (by unfold nmV maxLen; show (((namesL S).getD j []).toArray).size ≤ _; simp only [List.size_toArray]; omega)).mono fun e w' ⟨v, x1, x2, x3⟩ => ?_
  rw [nmV_list] at x1 x2
  rw [t1] at x1
  rw [t2] at x2
  obtain ⟨ad, cap, rfl, y1, y2, y3, _⟩ := Ob.own_row x2
  exact ⟨ad, cap, x1, x2, y1, y2, y3, x3⟩
end Go.Proofs.YtdonkmkjblofpaaGreatDoor.Dk
/-! ## Lp -/
namespace Go.Proofs.YtdonkmkjblofpaaGreatDoor.Dk
open Go.RowKit Fo
set_option linter.unusedVariables false
set_option linter.unusedSimpArgs false

/-- A disk (at S) and a disk of the reference (at T), apart, made since W. -/
structure Pair (W w : World) (O1 : Nat → Prop) (d : Nat) (S : St) (O2 : Nat → Prop) (m : Nat) (T : St) : Prop where
  disk : IsDisk w O1 d S
  ref : IsRef w O2 m T
  h1 : ∀ i, O1 i → W.heap.size ≤ i
  h2 : ∀ i, O2 i → W.heap.size ≤ i
  apart : ∀ i, O1 i → ¬ O2 i
  frame : Below W.heap.size W w
section
variable {W w w' : World} {O1 O2 O' : Nat → Prop} {d m : Nat} {S T S' : St}
theorem Pair.below (h : Pair W w O1 d S O2 m T) (hb : Below w.heap.size w w') : Pair W w' O1 d S O2 m T :=
  ⟨h.disk.below hb, h.ref.below hb, h.h1, h.h2, h.apart, h.frame.trans (hb.mono h.frame.size)⟩
theorem disk_dom {w : World} {O : Nat → Prop} {d : Nat} {S : St} (h : IsDisk w O d S) : ∀ i, O i → i < w.heap.size := by
  obtain ⟨_, _, _, h⟩ := h; exact h.dom
theorem Pair.stepd (h : Pair W w O1 d S O2 m T) (hst : Step w O1 w' O') (hd : IsDisk w' O' d S') : Pair W w' O' d S' O2 m T :=
  ⟨hd, h.ref.turned hst.toTurned fun i hi ht => h.apart i ht hi, fun i hi => by
    rcases hst.own i hi with h1 | h1
    · exact h.h1 i h1
    · exact Nat.le_trans h.frame.size h1, h.h2, fun i hi h2 => by
    rcases hst.own i hi with h1 | h1
    · exact h.apart i h1 h2
    · have := h.ref.dom i h2; omega,
   h.frame.trans (hst.toTurned.below fun k hk => ⟨Nat.lt_of_lt_of_le hk h.frame.size, fun ho => by have := h.h1 k ho; omega⟩)⟩
theorem Pair.stepr (h : Pair W w O1 d S O2 m T) (hst : Step w O2 w' O') (hd : IsRef w' O' m S') : Pair W w' O1 d S O' m S' :=
  ⟨h.disk.turned hst.toTurned fun i hi ht => h.apart i hi ht, hd, h.h1, fun i hi => by
    rcases hst.own i hi with h1 | h1
    · exact h.h2 i h1
    · exact Nat.le_trans h.frame.size h1, fun i h1' hi => by
    rcases hst.own i hi with h1 | h1
    · exact h.apart i h1' h1
    · have := disk_dom h.disk i h1'; omega,
   h.frame.trans (hst.toTurned.below fun k hk => ⟨Nat.lt_of_lt_of_le hk h.frame.size, fun ho => by have := h.h2 k ho; omega⟩)⟩
end
theorem row_over {w w' : World} {ad : Option Addr} {l : List Int} (h : Fr.HasRow .u8 w ad l.length l) (hb : l = [] ∨ Below w.heap.size w w') : Fr.HasRow .u8 w' ad l.length l := by
  rcases hb with rfl | hb
  · exact ⟨Nat.le_refl _, by decide, fun h => absurd h (by decide)⟩
  · exact h.keep hb
end Go.Proofs.YtdonkmkjblofpaaGreatDoor.Dk

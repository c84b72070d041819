/-
  Layer 4: Append, at a disk in whatever state. (Written by gen_kh.py.)
-/
import Derived.Test.YtdonkmkjblofpaaGreatDoorKg
import Derived.Deep.RegionHeld3
import Derived.OwnWalk
namespace Go.Proofs.YtdonkmkjblofpaaGreatDoor.Dk
open Go.RowKit
set_option linter.unusedVariables false

theorem ints_one8 (l : List Int) : ∀ u ∈ l.map (Value.int .u8), u.oneCell' = true := by
  intro u hu
  obtain ⟨n, _, rfl⟩ := List.mem_map.1 hu
  rfl
theorem take_at8 {zs : List Int} {len j : Nat} {u : Value} (h : ((zs.take len).map (Value.int .u8))[j]? = some u) : j < len ∧ j < zs.length ∧ u = .int .u8 (zs.getD j 0) := by
  rw [List.getElem?_map, List.getElem?_take] at h
  by_cases hj : j < len
  · rw [if_pos hj] at h
    by_cases hz : j < zs.length
    · rw [List.getElem?_eq_getElem hz] at h
      simp at h
      exact ⟨hj, hz, by simp [List.getD, hz, h]⟩
    · rw [List.getElem?_eq_none (by omega)] at h; cases h
  · rw [if_neg hj] at h; cases h
/-- append(own, bytes...), whatever the source; where the new slice lies. -/
theorem wp_app {ops : Array Oper} {rest : List Oper} {o : Oper} {a : Act} {Q : Exit → Act → World → Prop} {w : World} (hgd : o.guard = none) (s x : Operand)
    (ho : o.op = .call { callee := .builtin .append, args := #[s, x], argTypes := #[22, 22] }) (v : Value) (l : List Int) (hs : a.eval s = v) (hown : Own w v l)
    (ad : Option Addr) (len cap : Nat) (zs : List Int) (hx : a.eval x = .slice ad len cap) (hrow : Fr.HasRow .u8 w ad len zs) (hn : ad = none → cap = 0)
    (hbytes : l.length + len ≤ 140737488355328)
    (h : ∀ v' w', Own w' v' (l ++ zs.take len) → w.grownBy w' v.ownBlock → (v'.ownBlock = v.ownBlock ∨ v'.ownBlock = some w.heap.size) → wpList Tryz.prog ops Q rest (a.put o.dst v') w') : wpList Tryz.prog ops Q (o :: rest) a w := by
  obtain ⟨i0, hi, hz0, hz1, hz2⟩ := info_parts info_u8
  obtain ⟨hr1, hr2, hr3⟩ := hrow
  have hln : (l ++ zs.take len).length = l.length + len := by simp; omega
  cases ad with
  | none =>
    obtain rfl : len = 0 := by
      rcases Nat.eq_zero_or_pos len with h0 | h0
      · exact h0
      · obtain ⟨b, off, e, _⟩ := hr3 h0; cases e
    obtain rfl := hn rfl
    refine wpList_append_own_none hgd s x 22 ho 0 5 i0 1 Tryz.underlying22 hi v l.length (l.map (Value.int .u8)) hs hown hx ?_
    refine h v w ?_ (World.grownBy.refl _ _) (.inl rfl)
    rw [List.take_zero, List.append_nil]; exact hown
  | some ad =>
    refine wpList_append_own_at w hgd s x 22 ho 0 5 i0 (.int .u8 0) 1 1 Tryz.underlying22 hi hz0 hz1 hz2 rfl (by decide) v l.length (l.map (Value.int .u8)) hs hown ad len cap ((zs.take len).map (Value.int .u8)) hx (by simp; omega) ?_ (ints_one8 _) (by unfold maxLen; omega) (by omega) (Nat.zero_le _) ?_
    · intro j u hj
      obtain ⟨h1, h2, rfl⟩ := take_at8 hj
      obtain ⟨b, off, e, hc⟩ := hr3 (by omega)
      cases e
      rw [show (⟨b, off, none⟩ : Addr).add j = ⟨b, off + j, none⟩ by simp [Addr.add]]
      exact hc j h1
    · intro v' w' h1 h2 _ h4
      refine h v' w' ?_ h2 h4
      unfold Own
      rw [hln, List.map_append]
      exact h1

section
variable {w : World} {O : Nat → Prop} {d m : Nat} {G : List UInt8 → Nat} {V : List UInt8 → Value} {S : St}

def OwnUp (O : Nat → Prop) (a b : World) : Nat → Prop := fun i => O i ∨ (a.heap.size ≤ i ∧ i < b.heap.size)
/-- What is there behind the append and its store, ahead of the name's store. -/
theorem app_file (h : Rep w O d m G V S) {f0 : File} {g : Nat} {v : Value} (hf0 : FileAt w O g v f0) (hsep : ∀ f ∈ S.fs, f.nm ≠ f0.nm → G f.nm ≠ g ∧ ∀ b, v.ownBlock = some b → (V f.nm).ownBlock ≠ some b)
    {b : List Int} {w3 : World} {v' : Value} (hown : Own w3 v' (f0.l ++ b)) (hgr : w.grownBy w3 v.ownBlock) (hat : v'.ownBlock = v.ownBlock ∨ v'.ownBlock = some w.heap.size) :
    (w3.cell? ⟨g, 0, none⟩ = some v ∧ w3.frozen? ⟨g, 0, none⟩ = false) ∧ (w3.setCell ⟨g, 0, none⟩ v').cell? ⟨d, 0, none⟩ = some (.map (some m)) ∧ (w3.setCell ⟨g, 0, none⟩ v').ownsMap Tryz.prog 9 Rp m S.fs.length (dat G S.fs) ∧
    ∀ w5 n, w5.ownsMap Tryz.prog 9 Rp m n ((dat G S.fs).put (.string f0.nm) (.lit (.int .i64 (g : Int)))) → (w3.setCell ⟨g, 0, none⟩ v').grownBy w5 (some m) → Good { S with fs := put (longer f0 b) S.fs } →
      Rep w5 (OwnUp O w w3) d m (at1 G f0.nm g) (at1 V f0.nm v') { S with fs := put (longer f0 b) S.fs } ∧ Step w O w5 (OwnUp O w w3) := by
  obtain ⟨es, clock, hm, _⟩ := h.map
  have hd := h.blk
  have gd : g ≠ d := fun e => by have := hf0.blk; rw [e, hd] at this; simp [dcells] at this
  have gm : g ≠ m := fun e => by have := hf0.blk; rw [e, hm] at this; cases this
  have vk : ∀ b, v.ownBlock = some b → b ≠ d ∧ b ≠ m ∧ b ≠ g := fun b hb => by
    obtain ⟨cur, hc⟩ := hf0.own.kind b hb
    refine ⟨fun e => ?_, fun e => ?_, fun e => ?_⟩
    · rw [e, hd] at hc; simp at hc
    · rw [e, hm] at hc; cases hc
    · rw [e, hf0.blk] at hc; simp at hc
  have k3 : ∀ i, O i → v.ownBlock ≠ some i → w3.heap[i]? = w.heap[i]? := fun i hi hn => hgr.block i (h.dom i hi) fun e => hn e.symm
  have hg3 : w3.heap[g]? = some (.cells #[v, .int .i64 (f0.s : Int)] 82 (0, 0)) := (k3 g hf0.og fun e => (vk g e).2.2 rfl).trans hf0.blk
  have k4 : ∀ i, i ≠ g → (w3.setCell ⟨g, 0, none⟩ v').heap[i]? = w3.heap[i]? := fun i hi => Below.heap_setCell _ _ _ i hi
  have hd4 : (w3.setCell ⟨g, 0, none⟩ v').heap[d]? = w.heap[d]? := (k4 d fun e => gd e.symm).trans (k3 d h.od fun e => (vk d e).1 rfl)
  have hm4 : (w3.setCell ⟨g, 0, none⟩ v').heap[m]? = w.heap[m]? := (k4 m fun e => gm e.symm).trans (k3 m h.om fun e => (vk m e).2.1 rfl)
  refine ⟨⟨Joins.cell_of_block hg3 0, Joins.unfrozen_of_block hg3 0⟩, Joins.cell_of_block (hd4.trans hd) 0, owns_same h.map hm4, fun w5 n ho5 hg5 hgood => ?_⟩
  have v3 : ∀ b, v'.ownBlock = some b → v.ownBlock = some b ∨ b = w.heap.size := fun b hb => by
    rcases hat with h1 | h1
    · exact .inl (h1 ▸ hb)
    · rw [h1] at hb; exact .inr (Option.some.inj hb).symm
  have og4 : ∀ b, v'.ownBlock = some b → OwnUp O w w3 b := fun b hb => by
    rcases v3 b hb with h1 | h1
    · exact .inl (hf0.ov b h1)
    · refine .inr ⟨by omega, hown.lt b hb⟩
  have hx : FileAt (w3.setCell ⟨g, 0, none⟩ v') (OwnUp O w w3) g v' (longer f0 b) := by
    refine ⟨.inl hf0.og, Joins.block_setCell (i := 0) hg3 v', hown.same fun b hb => k4 b fun e => ?_, og4⟩
    obtain ⟨cur, hc⟩ := hown.kind b hb
    rw [e, hg3] at hc; simp at hc
  have st : Step w O (w3.setCell ⟨g, 0, none⟩ v') (OwnUp O w w3) := by
    refine ⟨⟨hgr.os, hgr.tape, hgr.output, by simp; exact hgr.size, fun k hk hn => ?_⟩, fun k hk => hk.elim .inl fun h => .inr h.1⟩
    rw [k4 k fun e => hn (e ▸ hf0.og)]
    exact hgr.block k hk fun e => hn (hf0.ov k e.symm)
  have r := h.lay hf0 (x := longer f0 b) hsep (w2 := w3.setCell ⟨g, 0, none⟩ v') (O2 := OwnUp O w w3) (fun i hi => .inl hi) (fun i hi => by
      simp; rcases hi with hi | hi
      · exact Nat.lt_of_lt_of_le (h.dom i hi) hgr.size
      · exact hi.2) (fun i hi h1 h2 => (k4 i h1).trans (k3 i hi h2)) hx (fun b hb => (v3 b hb).imp id fun e => by omega) (fun _ => ho5) hg5 hgood
  exact ⟨r, st.trans (Step.of (Turned.of_grown hg5 fun b e => by cases e; exact .inl h.om))⟩

theorem append_done (h : Rep w O d m G V S) {w1 : World} {O1 : Nat → Prop} (hst : Step w O w1 O1) {k : List UInt8} {b : List Int} (he : appErr k b.length S = 0) {m' : Nat} {G' : List UInt8 → Nat} {V' : List UInt8 → Value}
    (h1 : Rep w1 O1 d m' G' V' { S with fs := put (longer (fileOf k S.fs) b) S.fs }) {e : Ending} {w' : World} (hw : TurnedTo w1 O1 d m' G' (wcode { S with fs := put (longer (fileOf k S.fs) b) S.fs }) (wrote { S with fs := put (longer (fileOf k S.fs) b) S.fs }) e w') : Did w O d (appendS k b S) e w' := by
  obtain ⟨rfl, ht, V2, hr⟩ := hw
  have e1 : appendS k b S = (wcode S, wrote { S with fs := put (longer (fileOf k S.fs) b) S.fs }) := by unfold appendS; rw [if_neg (by simp [he])]
  rw [e1]
  exact ⟨rfl, O1, hst.trans (Step.of ht), m', G', V2, hr⟩
theorem append_err (h : Rep w O d m G V S) {w1 : World} (hb : Below w.heap.size w w1) {k : List UInt8} {b : List Int} {c : Int} (he : appErr k b.length S = c) (hc : c ≠ 0) : Did w O d (appendS k b S) (.returned (.int .i64 c)) w1 := by
  have e1 : appendS k b S = (c, S) := by unfold appendS; rw [if_pos (by simp [he, hc]), he]
  rw [e1]
  exact ⟨rfl, O, Step.of (Turned.of_below hb), m, G, V, h.below hb⟩
theorem new_file (h : Rep w O d m G V S) (k : List UInt8) : FileAt (w.alloc (.cells #[.slice none 0 0, .int .i64 0] 82)) (fun i => O i ∨ i = w.heap.size) w.heap.size (.slice none 0 0) ⟨k, [], 0⟩ ∧
    Rep (w.alloc (.cells #[.slice none 0 0, .int .i64 0] 82)) (fun i => O i ∨ i = w.heap.size) d m G V S ∧ Step w O (w.alloc (.cells #[.slice none 0 0, .int .i64 0] 82)) (fun i => O i ∨ i = w.heap.size) ∧
    ∀ f ∈ S.fs, G f.nm ≠ w.heap.size := by
  have hb : Below w.heap.size w (w.alloc (.cells #[.slice none 0 0, .int .i64 0] 82)) := (Below.refl _ _).alloc (Nat.le_refl _) _
  have r := h.below hb
  refine ⟨⟨.inr rfl, (MapKept.heap_alloc w _).1, own_nil _, fun b e => by cases e⟩, ?_, ⟨Turned.of_below hb, fun i hi => hi.imp id fun e => by omega⟩, fun f hf e => ?_⟩
  · exact ⟨fun i hi => by
      rcases hi with hi | rfl
      · exact r.dom i hi
      · simp, .inl r.od, .inl r.om, r.blk, r.map, fun f hf => (r.files f hf).same (fun _ h => .inl h) fun _ _ => rfl, r.apart, r.good⟩
  · have := h.dom _ (h.files f hf).og; omega
set_option maxRecDepth 100000 in
set_option maxHeartbeats 2000000 in
theorem app_old_long (h : Rep w O d m G V S) (s : ByteArray) (hs : s.size ≤ maxLen) (a : Option Addr) (len cap : Nat) (zs : List Int) (hrow : Fr.HasRow .u8 w a len zs) (hn : a = none → cap = 0) (hlb : len ≤ 140737488355328) (hr : ready s.data.toList S = 0)
    {f : File} (hl : look s.data.toList S.fs = some f)
    (hc : 1048576 < (fileOf s.data.toList S.fs).l.length + len) :
    Calls Tryz.prog 26 #[.pointer (some ⟨d, 0, none⟩), .string s, .slice a len cap] w (Did w O d (appendS s.data.toList (zs.take len) S)) := by
  have hbl : (zs.take len).length = len := by have := hrow.1; simp; omega
  have he : appErr s.data.toList (zs.take len).length S = 3 := by
    unfold appErr; rw [if_neg (by simp [hr]), hbl]
    rw [if_pos hc]
  have cr := ready_any h s hs
  rw [hr] at cr
  have CR := Lib.hid cr
  have hU := h.good.used_le
  have hfew := h.good.few
  have H := Lib.hid h
  have hlen := hrow.2.1
  have lk := h.find hs hl
  obtain ⟨hmem, hnm⟩ := look_some hl
  have hfo : fileOf s.data.toList S.fs = f := by unfold fileOf; rw [hl]
  have hfa := h.files f hmem
  have h1 := h
  have hst := Step.refl w O
  have hsep : ∀ f' ∈ S.fs, f'.nm ≠ f.nm → G f'.nm ≠ G f.nm ∧ ∀ b, (V f.nm).ownBlock = some b → (V f'.nm).ownBlock ≠ some b := fun f' hf' hne => ⟨(h.apart f' hf' f hmem hne).1, fun b e1 e2 => (h.apart f' hf' f hmem hne).2 b e2 e1⟩
  obtain ⟨c0, c1, _⟩ := h1.cells
  obtain ⟨ad, cap0, hv, _⟩ := hfa.own.row
  obtain ⟨cf0, cf1, _⟩ := hfa.cells
  rw [hv] at cf0
  rw [hfo] at hc
  have HMAP := Lib.hid h1.map
  obtain ⟨l0, hl0⟩ : ∃ l0, f.l.length = l0 := ⟨_, rfl⟩
  have hz := h.good.size f hmem
  rw [hl0] at hc cf0 hz hv
  have t1 : decide ((1048576 : Int) < (l0 : Int) + (len : Int)) = true := by simp; omega
  have t1b : 0 ≤ (l0 : Int) + (len : Int) := by omega
  have t1c : (l0 : Int) + (len : Int) ≤ 9223372036854775807 := by omega
  have D : Hid (∀ w1, Below w.heap.size w w1 → Did w O d (appendS s.data.toList (zs.take len) S) (.returned (.int .i64 3)) w1) := fun w1 hb => append_err H.out hb he (by decide)
  clear cr h h1 hst hsep hfa hv hs hr hl he hrow hn hfo hbl hfew hc hmem hnm hl0
  go_enter Tryz.func26, Tryz.ntmps26
  go_wp2_with (first | (go_at_call 54; (with_reducible refine CR.out.mono ?_); rintro e w' ⟨rfl, rfl⟩))
  go_ret
  exact D.out _ (Below.refl _ _)

set_option maxRecDepth 100000 in
set_option maxHeartbeats 2000000 in
theorem app_old_full (h : Rep w O d m G V S) (s : ByteArray) (hs : s.size ≤ maxLen) (a : Option Addr) (len cap : Nat) (zs : List Int) (hrow : Fr.HasRow .u8 w a len zs) (hn : a = none → cap = 0) (hlb : len ≤ 140737488355328) (hr : ready s.data.toList S = 0)
    {f : File} (hl : look s.data.toList S.fs = some f)
    (hc : ¬ 1048576 < (fileOf s.data.toList S.fs).l.length + len) (hc2 : ¬ ((look s.data.toList S.fs).isNone ∧ 16 ≤ S.fs.length)) (hc3 : S.room < ((used S.fs + len : Nat) : Int)) :
    Calls Tryz.prog 26 #[.pointer (some ⟨d, 0, none⟩), .string s, .slice a len cap] w (Did w O d (appendS s.data.toList (zs.take len) S)) := by
  have hbl : (zs.take len).length = len := by have := hrow.1; simp; omega
  have he : appErr s.data.toList (zs.take len).length S = 22 := by
    unfold appErr; rw [if_neg (by simp [hr]), hbl]
    rw [if_neg hc, if_neg hc2, if_pos hc3]
  have cr := ready_any h s hs
  rw [hr] at cr
  have CR := Lib.hid cr
  have hU := h.good.used_le
  have hfew := h.good.few
  have H := Lib.hid h
  have hlen := hrow.2.1
  have lk := h.find hs hl
  obtain ⟨hmem, hnm⟩ := look_some hl
  have hfo : fileOf s.data.toList S.fs = f := by unfold fileOf; rw [hl]
  have hfa := h.files f hmem
  have h1 := h
  have hst := Step.refl w O
  have hsep : ∀ f' ∈ S.fs, f'.nm ≠ f.nm → G f'.nm ≠ G f.nm ∧ ∀ b, (V f.nm).ownBlock = some b → (V f'.nm).ownBlock ≠ some b := fun f' hf' hne => ⟨(h.apart f' hf' f hmem hne).1, fun b e1 e2 => (h.apart f' hf' f hmem hne).2 b e2 e1⟩
  obtain ⟨c0, c1, _⟩ := h1.cells
  obtain ⟨ad, cap0, hv, _⟩ := hfa.own.row
  obtain ⟨cf0, cf1, _⟩ := hfa.cells
  rw [hv] at cf0
  rw [hfo] at hc
  have HMAP := Lib.hid h1.map
  obtain ⟨l0, hl0⟩ : ∃ l0, f.l.length = l0 := ⟨_, rfl⟩
  have hz := h.good.size f hmem
  rw [hl0] at hc cf0 hz hv
  have t1 : decide ((1048576 : Int) < (l0 : Int) + (len : Int)) = false := by simp; omega
  have t1b : 0 ≤ (l0 : Int) + (len : Int) := by omega
  have t1c : (l0 : Int) + (len : Int) ≤ 9223372036854775807 := by omega
  have uh : ∀ wx, Below w.heap.size w wx → Calls Tryz.prog 55 #[.pointer (some ⟨d, 0, none⟩)] wx fun e w' => e = .returned (.int .i64 (used S.fs : Int)) ∧ Below w.heap.size w w' ∧ w'.cell? ⟨d, 1, none⟩ = some (.int .i64 S.room) := fun wx hb => (used_any (h1.below hb)).mono fun e w' ⟨e1, e2⟩ => ⟨e1, hb.trans (e2.mono hb.size), (h1.below (hb.trans (e2.mono hb.size))).cells.2.1⟩
  have UH := Lib.hid uh; clear uh
  obtain ⟨u, hu⟩ : ∃ u, used S.fs = u := ⟨_, rfl⟩
  rw [hu] at hc3 hU UH
  have t3 : decide (S.room < (u : Int) + (len : Int)) = true := by simp; omega
  have t3b : 0 ≤ (u : Int) + (len : Int) := by omega
  have t3c : (u : Int) + (len : Int) ≤ 9223372036854775807 := by omega
  have D : Hid (∀ w1, Below w.heap.size w w1 → Did w O d (appendS s.data.toList (zs.take len) S) (.returned (.int .i64 22)) w1) := fun w1 hb => append_err H.out hb he (by decide)
  clear cr h h1 hst hsep hfa hv hs hr hl he hrow hn hfo hbl hfew hc hmem hnm hl0 hc2 hc3 hu
  go_enter Tryz.func26, Tryz.ntmps26
  go_wp2_with (first | (go_at_call 54; (with_reducible refine CR.out.mono ?_); rintro e w' ⟨rfl, rfl⟩))
  have eW : IntKind.i64.wrap ((u : Int) + (len : Int)) = (u : Int) + (len : Int) := IntWalk.i64_in _ (by omega)
  go_region_held3 (fun wx => Below w.heap.size w wx ∧ wx.cell? ⟨d, 1, none⟩ = some (.int .i64 S.room)) (first | exact ⟨‹_›, ‹_›⟩ | exact ⟨Below.refl _ _, ‹_›⟩ | exact ⟨(Below.refl _ _).drew, ‹_›⟩ | exact ⟨Below.drew ‹_›, ‹_›⟩) (first | (go_at_call 55; (with_reducible refine (UH.out _ (by first | assumption | exact Below.refl _ _ | exact (Below.refl _ _).drew | exact Below.drew (by assumption))).mono ?_); rintro e w' ⟨rfl, hb1', hb2'⟩))
  clear eW
  obtain ⟨hbq, c1q⟩ : Below w.heap.size w _ ∧ _ := by assumption
  have HBQ := Lib.hid hbq; clear hbq
  go_wp2
  go_ret
  exact D.out _ HBQ.out

set_option maxRecDepth 100000 in
set_option maxHeartbeats 2000000 in
theorem app_old_fits (h : Rep w O d m G V S) (s : ByteArray) (hs : s.size ≤ maxLen) (a : Option Addr) (len cap : Nat) (zs : List Int) (hrow : Fr.HasRow .u8 w a len zs) (hn : a = none → cap = 0) (hlb : len ≤ 140737488355328) (hr : ready s.data.toList S = 0)
    {f : File} (hl : look s.data.toList S.fs = some f)
    (hc : ¬ 1048576 < (fileOf s.data.toList S.fs).l.length + len) (hc2 : ¬ ((look s.data.toList S.fs).isNone ∧ 16 ≤ S.fs.length)) (hc3 : ¬ S.room < ((used S.fs + len : Nat) : Int)) :
    Calls Tryz.prog 26 #[.pointer (some ⟨d, 0, none⟩), .string s, .slice a len cap] w (Did w O d (appendS s.data.toList (zs.take len) S)) := by
  have hbl : (zs.take len).length = len := by have := hrow.1; simp; omega
  have he : appErr s.data.toList (zs.take len).length S = 0 := by
    unfold appErr; rw [if_neg (by simp [hr]), hbl]
    rw [if_neg hc, if_neg hc2, if_neg hc3]
  have cr := ready_any h s hs
  rw [hr] at cr
  have CR := Lib.hid cr
  have hU := h.good.used_le
  have hfew := h.good.few
  have H := Lib.hid h
  have hlen := hrow.2.1
  have lk := h.find hs hl
  obtain ⟨hmem, hnm⟩ := look_some hl
  have hfo : fileOf s.data.toList S.fs = f := by unfold fileOf; rw [hl]
  have hfa := h.files f hmem
  have h1 := h
  have hst := Step.refl w O
  have hsep : ∀ f' ∈ S.fs, f'.nm ≠ f.nm → G f'.nm ≠ G f.nm ∧ ∀ b, (V f.nm).ownBlock = some b → (V f'.nm).ownBlock ≠ some b := fun f' hf' hne => ⟨(h.apart f' hf' f hmem hne).1, fun b e1 e2 => (h.apart f' hf' f hmem hne).2 b e2 e1⟩
  obtain ⟨c0, c1, _⟩ := h1.cells
  obtain ⟨ad, cap0, hv, _⟩ := hfa.own.row
  obtain ⟨cf0, cf1, _⟩ := hfa.cells
  rw [hv] at cf0
  rw [hfo] at hc
  have HMAP := Lib.hid h1.map
  obtain ⟨l0, hl0⟩ : ∃ l0, f.l.length = l0 := ⟨_, rfl⟩
  have hz := h.good.size f hmem
  rw [hl0] at hc cf0 hz hv
  have t1 : decide ((1048576 : Int) < (l0 : Int) + (len : Int)) = false := by simp; omega
  have t1b : 0 ≤ (l0 : Int) + (len : Int) := by omega
  have t1c : (l0 : Int) + (len : Int) ≤ 9223372036854775807 := by omega
  have uh : ∀ wx, Below w.heap.size w wx → Calls Tryz.prog 55 #[.pointer (some ⟨d, 0, none⟩)] wx fun e w' => e = .returned (.int .i64 (used S.fs : Int)) ∧ Below w.heap.size w w' ∧ w'.cell? ⟨d, 1, none⟩ = some (.int .i64 S.room) := fun wx hb => (used_any (h1.below hb)).mono fun e w' ⟨e1, e2⟩ => ⟨e1, hb.trans (e2.mono hb.size), (h1.below (hb.trans (e2.mono hb.size))).cells.2.1⟩
  have UH := Lib.hid uh; clear uh
  obtain ⟨u, hu⟩ : ∃ u, used S.fs = u := ⟨_, rfl⟩
  rw [hu] at hc3 hU UH
  have t3 : decide (S.room < (u : Int) + (len : Int)) = false := by simp; omega
  have t3b : 0 ≤ (u : Int) + (len : Int) := by omega
  have t3c : (u : Int) + (len : Int) ≤ 9223372036854775807 := by omega
  have HV0 := Lib.hid hv
  have HFA := Lib.hid hfa; have H1 := Lib.hid h1; have HST := Lib.hid hst; have HSEP := Lib.hid hsep
  have hgood := good_append H.out.good (b := zs.take len) he
  rw [hfo] at hgood
  have HG := Lib.hid hgood
  have AF : Hid (∀ wq, Below w.heap.size w wq → ∀ w3 v', Own w3 v' (f.l ++ zs.take len) → wq.grownBy w3 (Value.slice ad l0 cap0).ownBlock → (v'.ownBlock = (Value.slice ad l0 cap0).ownBlock ∨ v'.ownBlock = some wq.heap.size) →
      (w3.cell? ⟨(G f.nm), 0, none⟩ = some (Value.slice ad l0 cap0) ∧ w3.frozen? ⟨(G f.nm), 0, none⟩ = false) ∧ (w3.setCell ⟨(G f.nm), 0, none⟩ v').cell? ⟨d, 0, none⟩ = some (.map (some m)) ∧ (w3.setCell ⟨(G f.nm), 0, none⟩ v').ownsMap Tryz.prog 9 Rp m S.fs.length (dat G S.fs) ∧
      ∀ w5, w5.ownsMap Tryz.prog 9 Rp m (S.fs.length + 1) ((dat G S.fs).put (.string s.data.toList) (.lit (.int .i64 (((G f.nm) : Nat) : Int)))) → (w3.setCell ⟨(G f.nm), 0, none⟩ v').grownBy w5 (some m) →
        ∃ O5 G5 V5, Rep w5 O5 d m G5 V5 { S with fs := put (longer (fileOf s.data.toList S.fs) (zs.take len)) S.fs } ∧ Step w O w5 O5) := fun wq hb w3 v' o3 g3 a3 => by
    have hw := H1.out.below hb
    have hfq : FileAt wq O (G f.nm) (V f.nm) f := HFA.out.same (fun _ h => h) fun i hi => hb.block i (H1.out.dom i hi)
    rw [← HV0.out] at g3 a3 ⊢
    obtain ⟨x1, x2, x3, x4⟩ := app_file hw hfq HSEP.out o3 g3 a3
    refine ⟨x1, x2, x3, fun w5 h5 g5 => ?_⟩
    obtain ⟨y1, y2⟩ := x4 w5 _ (by have := h5; rw [← hnm] at this; exact this) g5 HG.out
    refine ⟨_, _, _, by rw [hfo]; exact y1, (HST.out.trans (Step.of (Turned.of_below hb))).trans y2⟩
  have D : Hid (∀ w5 O5 G5 V5, Rep w5 O5 d m G5 V5 { S with fs := put (longer (fileOf s.data.toList S.fs) (zs.take len)) S.fs } → Step w O w5 O5 → ∀ e w', TurnedTo w5 O5 d m G5 (wcode S) (wrote { S with fs := put (longer (fileOf s.data.toList S.fs) (zs.take len)) S.fs }) e w' → Did w O d (appendS s.data.toList (zs.take len) S) e w') := fun w5 O5 G5 V5 r5 s5 e w' ht => append_done H.out s5 he r5 ht
  have HK := Lib.hid (key_of hs)
  have HML : Hid (S.fs.length < maxLen) := Lib.hid (by unfold maxLen; omega)
  have HROW := Lib.hid hrow; have HN := Lib.hid hn
  have HV : Hid (Rp (.pointer (some ⟨(G f.nm), 0, none⟩)) = some (.lit (.int .i64 (((G f.nm) : Nat) : Int)), [])) := Lib.hid rfl
  have HBL := Lib.hid hbl
  have LL : Hid (f.l.length + len ≤ 140737488355328) := Lib.hid (by omega)
  have HFQ : Hid (∀ wq, Below w.heap.size w wq → wq.cell? ⟨(G f.nm), 0, none⟩ = some (Value.slice ad l0 cap0) ∧ Own wq (Value.slice ad l0 cap0) f.l) := Lib.hid fun wq hb => by
    have hfq : FileAt wq O (G f.nm) (V f.nm) f := HFA.out.same (fun _ h => h) fun i hi => hb.block i (H1.out.dom i hi)
    rw [HV0.out] at hfq
    exact ⟨hfq.cells.1, hfq.own⟩
  clear cr h h1 hst hsep hfa hv hs hr hl he hrow hn hfo hbl hfew hc hmem hnm hl0 hc2 hc3 hu hgood
  go_enter Tryz.func26, Tryz.ntmps26
  go_wp2_with (first | (go_at_call 54; (with_reducible refine CR.out.mono ?_); rintro e w' ⟨rfl, rfl⟩))
  have eW : IntKind.i64.wrap ((u : Int) + (len : Int)) = (u : Int) + (len : Int) := IntWalk.i64_in _ (by omega)
  go_region_held3 (fun wx => Below w.heap.size w wx ∧ wx.cell? ⟨d, 1, none⟩ = some (.int .i64 S.room)) (first | exact ⟨‹_›, ‹_›⟩ | exact ⟨Below.refl _ _, ‹_›⟩ | exact ⟨(Below.refl _ _).drew, ‹_›⟩ | exact ⟨Below.drew ‹_›, ‹_›⟩) (first | (go_at_call 55; (with_reducible refine (UH.out _ (by first | assumption | exact Below.refl _ _ | exact (Below.refl _ _).drew | exact Below.drew (by assumption))).mono ?_); rintro e w' ⟨rfl, hb1', hb2'⟩))
  clear eW
  obtain ⟨hbq, c1q⟩ : Below w.heap.size w _ ∧ _ := by assumption
  obtain ⟨q1, q2⟩ := HFQ.out _ hbq
  have HBQ := Lib.hid hbq; have Q2 := Lib.hid q2; clear hbq q2
  go_wp2_with (first | (at_builtin; refine wp_app rfl (.tmp 61) (.tmp 62) rfl (.slice ad l0 cap0) f.l rfl Q2.out a len cap zs rfl ((HROW.out.keep (Below.refl _ _)) |>.keep HBQ.out) HN.out (by have := hlb; have := LL.out; omega) ?_; intro v' w3 ho3 hg3 hat3; obtain ⟨ad3, cap3, hv3, _⟩ := ho3.row; obtain ⟨n3, hn3⟩ : ∃ n3, (f.l ++ zs.take len).length = n3 := ⟨_, rfl⟩; rw [hn3] at hv3; subst hv3; obtain ⟨⟨y1, y2⟩, y3, y4, y5⟩ := AF.out _ HBQ.out _ _ ho3 hg3 hat3; have Y4 := Lib.hid y4; have Y5 := Lib.hid y5; clear ho3 hg3 hat3 hn3 y4 y5) | (at_mapUpdate; refine wpList_mapUpdate_own _ rfl _ _ _ 77 rfl 9 80 law Tryz.underlying77 Rp m S.fs.length _ rfl Y4.out HML.out _ _ _ rfl rfl HK.out _ [] HV.out ?_; intro w5 hown5 hgrow5; obtain ⟨O5, G5, V5, r5, s5⟩ := Y5.out _ hown5 hgrow5; have R5 := Lib.hid r5; have S5 := Lib.hid s5; have W5 := Lib.hid (write_any r5); clear hown5 hgrow5 r5 s5) | (go_at_call 56; (with_reducible refine W5.out.mono ?_); intro e w6 hw6; obtain ⟨rfl, hw7⟩ := hw6; have HW7 := Lib.hid hw7; clear hw7))
  go_ret
  exact D.out _ _ _ _ R5.out S5.out _ _ ⟨rfl, HW7.out⟩

set_option maxRecDepth 100000 in
set_option maxHeartbeats 2000000 in
theorem app_new_long (h : Rep w O d m G V S) (s : ByteArray) (hs : s.size ≤ maxLen) (a : Option Addr) (len cap : Nat) (zs : List Int) (hrow : Fr.HasRow .u8 w a len zs) (hn : a = none → cap = 0) (hlb : len ≤ 140737488355328) (hr : ready s.data.toList S = 0)
    (hl : look s.data.toList S.fs = none)
    (hc : 1048576 < (fileOf s.data.toList S.fs).l.length + len) :
    Calls Tryz.prog 26 #[.pointer (some ⟨d, 0, none⟩), .string s, .slice a len cap] w (Did w O d (appendS s.data.toList (zs.take len) S)) := by
  have hbl : (zs.take len).length = len := by have := hrow.1; simp; omega
  have he : appErr s.data.toList (zs.take len).length S = 3 := by
    unfold appErr; rw [if_neg (by simp [hr]), hbl]
    rw [if_pos hc]
  have cr := ready_any h s hs
  rw [hr] at cr
  have CR := Lib.hid cr
  have hU := h.good.used_le
  have hfew := h.good.few
  have H := Lib.hid h
  have hlen := hrow.2.1
  have lk := h.lacks hs hl
  have hfo : fileOf s.data.toList S.fs = ⟨s.data.toList, [], 0⟩ := by unfold fileOf; rw [hl]
  obtain ⟨hfa, h1, hst, hgn⟩ := new_file h s.data.toList
  have hsep : ∀ f' ∈ S.fs, f'.nm ≠ s.data.toList → G f'.nm ≠ w.heap.size ∧ ∀ b, (Value.slice none 0 0).ownBlock = some b → (V f'.nm).ownBlock ≠ some b := fun f' hf' _ => ⟨hgn f' hf', fun b e => by cases e⟩
  obtain ⟨l0, hl0⟩ : ∃ l0 : Nat, l0 = 0 := ⟨0, rfl⟩
  obtain ⟨c0, c1, _⟩ := h1.cells
  obtain ⟨b0, _⟩ := h.cells
  have hln := h1.map.len Tryz.underlying77 3
  rw [size_dat] at hln
  obtain ⟨ad, cap0, hv, _⟩ := hfa.own.row
  obtain ⟨cf0, cf1, _⟩ := hfa.cells
  rw [hfo] at hc
  have HMAP := Lib.hid h1.map
  simp only [List.length_nil, Nat.zero_add] at hc
  have t1 : decide ((1048576 : Int) < (len : Int)) = true := by simp; omega
  have t1b : 0 ≤ (len : Int) := by omega
  have t1c : (len : Int) ≤ 9223372036854775807 := by omega
  have D : Hid (∀ w1, Below w.heap.size w w1 → Did w O d (appendS s.data.toList (zs.take len) S) (.returned (.int .i64 3)) w1) := fun w1 hb => append_err H.out hb he (by decide)
  clear cr h h1 hst hsep hfa hv hs hr hl he hrow hn hfo hbl hfew hc hgn hl0
  go_enter Tryz.func26, Tryz.ntmps26
  go_wp2_with (first | (go_at_call 54; (with_reducible refine CR.out.mono ?_); rintro e w' ⟨rfl, rfl⟩))
  go_ret
  exact D.out _ ((Below.refl _ _).alloc (Nat.le_refl _) _)

set_option maxRecDepth 100000 in
set_option maxHeartbeats 2000000 in
theorem app_new_many (h : Rep w O d m G V S) (s : ByteArray) (hs : s.size ≤ maxLen) (a : Option Addr) (len cap : Nat) (zs : List Int) (hrow : Fr.HasRow .u8 w a len zs) (hn : a = none → cap = 0) (hlb : len ≤ 140737488355328) (hr : ready s.data.toList S = 0)
    (hl : look s.data.toList S.fs = none)
    (hc : ¬ 1048576 < (fileOf s.data.toList S.fs).l.length + len) (hc2 : 16 ≤ S.fs.length) :
    Calls Tryz.prog 26 #[.pointer (some ⟨d, 0, none⟩), .string s, .slice a len cap] w (Did w O d (appendS s.data.toList (zs.take len) S)) := by
  have hbl : (zs.take len).length = len := by have := hrow.1; simp; omega
  have he : appErr s.data.toList (zs.take len).length S = 22 := by
    unfold appErr; rw [if_neg (by simp [hr]), hbl]
    rw [if_neg hc, if_pos ⟨by rw [hl]; rfl, hc2⟩]
  have cr := ready_any h s hs
  rw [hr] at cr
  have CR := Lib.hid cr
  have hU := h.good.used_le
  have hfew := h.good.few
  have H := Lib.hid h
  have hlen := hrow.2.1
  have lk := h.lacks hs hl
  have hfo : fileOf s.data.toList S.fs = ⟨s.data.toList, [], 0⟩ := by unfold fileOf; rw [hl]
  obtain ⟨hfa, h1, hst, hgn⟩ := new_file h s.data.toList
  have hsep : ∀ f' ∈ S.fs, f'.nm ≠ s.data.toList → G f'.nm ≠ w.heap.size ∧ ∀ b, (Value.slice none 0 0).ownBlock = some b → (V f'.nm).ownBlock ≠ some b := fun f' hf' _ => ⟨hgn f' hf', fun b e => by cases e⟩
  obtain ⟨l0, hl0⟩ : ∃ l0 : Nat, l0 = 0 := ⟨0, rfl⟩
  obtain ⟨c0, c1, _⟩ := h1.cells
  obtain ⟨b0, _⟩ := h.cells
  have hln := h1.map.len Tryz.underlying77 3
  rw [size_dat] at hln
  obtain ⟨ad, cap0, hv, _⟩ := hfa.own.row
  obtain ⟨cf0, cf1, _⟩ := hfa.cells
  rw [hfo] at hc
  have HMAP := Lib.hid h1.map
  simp only [List.length_nil, Nat.zero_add] at hc
  have t1 : decide ((1048576 : Int) < (len : Int)) = false := by simp; omega
  have t1b : 0 ≤ (len : Int) := by omega
  have t1c : (len : Int) ≤ 9223372036854775807 := by omega
  have t2 : decide ((16 : Int) ≤ (S.fs.length : Int)) = true := by simp; omega
  have t2b : decide (16 ≤ S.fs.length) = true := by simp; omega
  have D : Hid (∀ w1, Below w.heap.size w w1 → Did w O d (appendS s.data.toList (zs.take len) S) (.returned (.int .i64 22)) w1) := fun w1 hb => append_err H.out hb he (by decide)
  clear cr h h1 hst hsep hfa hv hs hr hl he hrow hn hfo hbl hfew hc hgn hl0 hc2
  go_enter Tryz.func26, Tryz.ntmps26
  go_wp2_with (first | (go_at_call 54; (with_reducible refine CR.out.mono ?_); rintro e w' ⟨rfl, rfl⟩))
  go_ret
  exact D.out _ ((Below.refl _ _).alloc (Nat.le_refl _) _)

set_option maxRecDepth 100000 in
set_option maxHeartbeats 2000000 in
theorem app_new_full (h : Rep w O d m G V S) (s : ByteArray) (hs : s.size ≤ maxLen) (a : Option Addr) (len cap : Nat) (zs : List Int) (hrow : Fr.HasRow .u8 w a len zs) (hn : a = none → cap = 0) (hlb : len ≤ 140737488355328) (hr : ready s.data.toList S = 0)
    (hl : look s.data.toList S.fs = none)
    (hc : ¬ 1048576 < (fileOf s.data.toList S.fs).l.length + len) (hc2 : ¬ ((look s.data.toList S.fs).isNone ∧ 16 ≤ S.fs.length)) (hc3 : S.room < ((used S.fs + len : Nat) : Int)) :
    Calls Tryz.prog 26 #[.pointer (some ⟨d, 0, none⟩), .string s, .slice a len cap] w (Did w O d (appendS s.data.toList (zs.take len) S)) := by
  have hbl : (zs.take len).length = len := by have := hrow.1; simp; omega
  have he : appErr s.data.toList (zs.take len).length S = 22 := by
    unfold appErr; rw [if_neg (by simp [hr]), hbl]
    rw [if_neg hc, if_neg hc2, if_pos hc3]
  have cr := ready_any h s hs
  rw [hr] at cr
  have CR := Lib.hid cr
  have hU := h.good.used_le
  have hfew := h.good.few
  have H := Lib.hid h
  have hlen := hrow.2.1
  have lk := h.lacks hs hl
  have hfo : fileOf s.data.toList S.fs = ⟨s.data.toList, [], 0⟩ := by unfold fileOf; rw [hl]
  obtain ⟨hfa, h1, hst, hgn⟩ := new_file h s.data.toList
  have hsep : ∀ f' ∈ S.fs, f'.nm ≠ s.data.toList → G f'.nm ≠ w.heap.size ∧ ∀ b, (Value.slice none 0 0).ownBlock = some b → (V f'.nm).ownBlock ≠ some b := fun f' hf' _ => ⟨hgn f' hf', fun b e => by cases e⟩
  obtain ⟨l0, hl0⟩ : ∃ l0 : Nat, l0 = 0 := ⟨0, rfl⟩
  obtain ⟨c0, c1, _⟩ := h1.cells
  obtain ⟨b0, _⟩ := h.cells
  have hln := h1.map.len Tryz.underlying77 3
  rw [size_dat] at hln
  obtain ⟨ad, cap0, hv, _⟩ := hfa.own.row
  obtain ⟨cf0, cf1, _⟩ := hfa.cells
  rw [hfo] at hc
  have HMAP := Lib.hid h1.map
  simp only [List.length_nil, Nat.zero_add] at hc
  have t1 : decide ((1048576 : Int) < (len : Int)) = false := by simp; omega
  have t1b : 0 ≤ (len : Int) := by omega
  have t1c : (len : Int) ≤ 9223372036854775807 := by omega
  have hc2' : S.fs.length < 16 := by simp [hl] at hc2; omega
  have t2 : decide ((16 : Int) ≤ (S.fs.length : Int)) = false := by simp; omega
  have t2b : decide (16 ≤ S.fs.length) = false := by simp; omega
  have uh : ∀ wx, Below (w.alloc (.cells #[.slice none 0 0, .int .i64 0] 82)).heap.size (w.alloc (.cells #[.slice none 0 0, .int .i64 0] 82)) wx → Calls Tryz.prog 55 #[.pointer (some ⟨d, 0, none⟩)] wx fun e w' => e = .returned (.int .i64 (used S.fs : Int)) ∧ Below (w.alloc (.cells #[.slice none 0 0, .int .i64 0] 82)).heap.size (w.alloc (.cells #[.slice none 0 0, .int .i64 0] 82)) w' ∧ w'.cell? ⟨d, 1, none⟩ = some (.int .i64 S.room) := fun wx hb => (used_any (h1.below hb)).mono fun e w' ⟨e1, e2⟩ => ⟨e1, hb.trans (e2.mono hb.size), (h1.below (hb.trans (e2.mono hb.size))).cells.2.1⟩
  have UH := Lib.hid uh; clear uh
  obtain ⟨u, hu⟩ : ∃ u, used S.fs = u := ⟨_, rfl⟩
  rw [hu] at hc3 hU UH
  have t3 : decide (S.room < (u : Int) + (len : Int)) = true := by simp; omega
  have t3b : 0 ≤ (u : Int) + (len : Int) := by omega
  have t3c : (u : Int) + (len : Int) ≤ 9223372036854775807 := by omega
  have D : Hid (∀ w1, Below w.heap.size w w1 → Did w O d (appendS s.data.toList (zs.take len) S) (.returned (.int .i64 22)) w1) := fun w1 hb => append_err H.out hb he (by decide)
  clear cr h h1 hst hsep hfa hv hs hr hl he hrow hn hfo hbl hfew hc hgn hl0 hc2 hc3 hu
  go_enter Tryz.func26, Tryz.ntmps26
  go_wp2_with (first | (go_at_call 54; (with_reducible refine CR.out.mono ?_); rintro e w' ⟨rfl, rfl⟩))
  have eW : IntKind.i64.wrap ((u : Int) + (len : Int)) = (u : Int) + (len : Int) := IntWalk.i64_in _ (by omega)
  go_region_held3 (fun wx => Below (w.alloc (.cells #[.slice none 0 0, .int .i64 0] 82)).heap.size (w.alloc (.cells #[.slice none 0 0, .int .i64 0] 82)) wx ∧ wx.cell? ⟨d, 1, none⟩ = some (.int .i64 S.room)) (first | exact ⟨‹_›, ‹_›⟩ | exact ⟨Below.refl _ _, ‹_›⟩ | exact ⟨(Below.refl _ _).drew, ‹_›⟩ | exact ⟨Below.drew ‹_›, ‹_›⟩) (first | (go_at_call 55; (with_reducible refine (UH.out _ (by first | assumption | exact Below.refl _ _ | exact (Below.refl _ _).drew | exact Below.drew (by assumption))).mono ?_); rintro e w' ⟨rfl, hb1', hb2'⟩))
  clear eW
  obtain ⟨hbq, c1q⟩ : Below (w.alloc (.cells #[.slice none 0 0, .int .i64 0] 82)).heap.size (w.alloc (.cells #[.slice none 0 0, .int .i64 0] 82)) _ ∧ _ := by assumption
  have HBQ := Lib.hid hbq; clear hbq
  go_wp2
  go_ret
  exact D.out _ (((Below.refl _ _).alloc (Nat.le_refl _) _).trans (HBQ.out.mono (by simp)))

set_option maxRecDepth 100000 in
set_option maxHeartbeats 2000000 in
theorem app_new_fits (h : Rep w O d m G V S) (s : ByteArray) (hs : s.size ≤ maxLen) (a : Option Addr) (len cap : Nat) (zs : List Int) (hrow : Fr.HasRow .u8 w a len zs) (hn : a = none → cap = 0) (hlb : len ≤ 140737488355328) (hr : ready s.data.toList S = 0)
    (hl : look s.data.toList S.fs = none)
    (hc : ¬ 1048576 < (fileOf s.data.toList S.fs).l.length + len) (hc2 : ¬ ((look s.data.toList S.fs).isNone ∧ 16 ≤ S.fs.length)) (hc3 : ¬ S.room < ((used S.fs + len : Nat) : Int)) :
    Calls Tryz.prog 26 #[.pointer (some ⟨d, 0, none⟩), .string s, .slice a len cap] w (Did w O d (appendS s.data.toList (zs.take len) S)) := by
  have hbl : (zs.take len).length = len := by have := hrow.1; simp; omega
  have he : appErr s.data.toList (zs.take len).length S = 0 := by
    unfold appErr; rw [if_neg (by simp [hr]), hbl]
    rw [if_neg hc, if_neg hc2, if_neg hc3]
  have cr := ready_any h s hs
  rw [hr] at cr
  have CR := Lib.hid cr
  have hU := h.good.used_le
  have hfew := h.good.few
  have H := Lib.hid h
  have hlen := hrow.2.1
  have lk := h.lacks hs hl
  have hfo : fileOf s.data.toList S.fs = ⟨s.data.toList, [], 0⟩ := by unfold fileOf; rw [hl]
  obtain ⟨hfa, h1, hst, hgn⟩ := new_file h s.data.toList
  have hsep : ∀ f' ∈ S.fs, f'.nm ≠ s.data.toList → G f'.nm ≠ w.heap.size ∧ ∀ b, (Value.slice none 0 0).ownBlock = some b → (V f'.nm).ownBlock ≠ some b := fun f' hf' _ => ⟨hgn f' hf', fun b e => by cases e⟩
  obtain ⟨l0, hl0⟩ : ∃ l0 : Nat, l0 = 0 := ⟨0, rfl⟩
  obtain ⟨c0, c1, _⟩ := h1.cells
  obtain ⟨b0, _⟩ := h.cells
  have hln := h1.map.len Tryz.underlying77 3
  rw [size_dat] at hln
  obtain ⟨ad, cap0, hv, _⟩ := hfa.own.row
  obtain ⟨cf0, cf1, _⟩ := hfa.cells
  rw [hfo] at hc
  have HMAP := Lib.hid h1.map
  simp only [List.length_nil, Nat.zero_add] at hc
  have t1 : decide ((1048576 : Int) < (len : Int)) = false := by simp; omega
  have t1b : 0 ≤ (len : Int) := by omega
  have t1c : (len : Int) ≤ 9223372036854775807 := by omega
  have hc2' : S.fs.length < 16 := by simp [hl] at hc2; omega
  have t2 : decide ((16 : Int) ≤ (S.fs.length : Int)) = false := by simp; omega
  have t2b : decide (16 ≤ S.fs.length) = false := by simp; omega
  have uh : ∀ wx, Below (w.alloc (.cells #[.slice none 0 0, .int .i64 0] 82)).heap.size (w.alloc (.cells #[.slice none 0 0, .int .i64 0] 82)) wx → Calls Tryz.prog 55 #[.pointer (some ⟨d, 0, none⟩)] wx fun e w' => e = .returned (.int .i64 (used S.fs : Int)) ∧ Below (w.alloc (.cells #[.slice none 0 0, .int .i64 0] 82)).heap.size (w.alloc (.cells #[.slice none 0 0, .int .i64 0] 82)) w' ∧ w'.cell? ⟨d, 1, none⟩ = some (.int .i64 S.room) := fun wx hb => (used_any (h1.below hb)).mono fun e w' ⟨e1, e2⟩ => ⟨e1, hb.trans (e2.mono hb.size), (h1.below (hb.trans (e2.mono hb.size))).cells.2.1⟩
  have UH := Lib.hid uh; clear uh
  obtain ⟨u, hu⟩ : ∃ u, used S.fs = u := ⟨_, rfl⟩
  rw [hu] at hc3 hU UH
  have t3 : decide (S.room < (u : Int) + (len : Int)) = false := by simp; omega
  have t3b : 0 ≤ (u : Int) + (len : Int) := by omega
  have t3c : (u : Int) + (len : Int) ≤ 9223372036854775807 := by omega
  have HFA := Lib.hid hfa; have H1 := Lib.hid h1; have HST := Lib.hid hst; have HSEP := Lib.hid hsep
  have hgood := good_append H.out.good (b := zs.take len) he
  rw [hfo] at hgood
  have HG := Lib.hid hgood
  have AF : Hid (∀ wq, Below (w.alloc (.cells #[.slice none 0 0, .int .i64 0] 82)).heap.size (w.alloc (.cells #[.slice none 0 0, .int .i64 0] 82)) wq → ∀ w3 v', Own w3 v' ([] ++ zs.take len) → wq.grownBy w3 (Value.slice none 0 0).ownBlock → (v'.ownBlock = (Value.slice none 0 0).ownBlock ∨ v'.ownBlock = some wq.heap.size) →
      (w3.cell? ⟨w.heap.size, 0, none⟩ = some (Value.slice none 0 0) ∧ w3.frozen? ⟨w.heap.size, 0, none⟩ = false) ∧ (w3.setCell ⟨w.heap.size, 0, none⟩ v').cell? ⟨d, 0, none⟩ = some (.map (some m)) ∧ (w3.setCell ⟨w.heap.size, 0, none⟩ v').ownsMap Tryz.prog 9 Rp m S.fs.length (dat G S.fs) ∧
      ∀ w5, w5.ownsMap Tryz.prog 9 Rp m (S.fs.length + 1) ((dat G S.fs).put (.string s.data.toList) (.lit (.int .i64 ((w.heap.size : Nat) : Int)))) → (w3.setCell ⟨w.heap.size, 0, none⟩ v').grownBy w5 (some m) →
        ∃ O5 G5 V5, Rep w5 O5 d m G5 V5 { S with fs := put (longer (fileOf s.data.toList S.fs) (zs.take len)) S.fs } ∧ Step w O w5 O5) := fun wq hb w3 v' o3 g3 a3 => by
    have hw := H1.out.below hb
    have hfq : FileAt wq (fun i => O i ∨ i = w.heap.size) w.heap.size (Value.slice none 0 0) ⟨s.data.toList, [], 0⟩ := HFA.out.same (fun _ h => h) fun i hi => hb.block i (H1.out.dom i hi)
    obtain ⟨x1, x2, x3, x4⟩ := app_file hw hfq HSEP.out o3 g3 a3
    refine ⟨x1, x2, x3, fun w5 h5 g5 => ?_⟩
    obtain ⟨y1, y2⟩ := x4 w5 _ (by exact h5) g5 HG.out
    refine ⟨_, _, _, by rw [hfo]; exact y1, (HST.out.trans (Step.of (Turned.of_below hb))).trans y2⟩
  have D : Hid (∀ w5 O5 G5 V5, Rep w5 O5 d m G5 V5 { S with fs := put (longer (fileOf s.data.toList S.fs) (zs.take len)) S.fs } → Step w O w5 O5 → ∀ e w', TurnedTo w5 O5 d m G5 (wcode S) (wrote { S with fs := put (longer (fileOf s.data.toList S.fs) (zs.take len)) S.fs }) e w' → Did w O d (appendS s.data.toList (zs.take len) S) e w') := fun w5 O5 G5 V5 r5 s5 e w' ht => append_done H.out s5 he r5 ht
  have HK := Lib.hid (key_of hs)
  have HML : Hid (S.fs.length < maxLen) := Lib.hid (by unfold maxLen; omega)
  have HROW := Lib.hid hrow; have HN := Lib.hid hn
  have HV : Hid (Rp (.pointer (some ⟨w.heap.size, 0, none⟩)) = some (.lit (.int .i64 ((w.heap.size : Nat) : Int)), [])) := Lib.hid rfl
  have HBL := Lib.hid hbl
  have HFQ : Hid (∀ wq, Below (w.alloc (.cells #[.slice none 0 0, .int .i64 0] 82)).heap.size (w.alloc (.cells #[.slice none 0 0, .int .i64 0] 82)) wq → wq.cell? ⟨w.heap.size, 0, none⟩ = some (Value.slice none 0 0) ∧ Own wq (Value.slice none 0 0) []) := Lib.hid fun wq hb => by
    have hfq : FileAt wq (fun i => O i ∨ i = w.heap.size) w.heap.size (Value.slice none 0 0) ⟨s.data.toList, [], 0⟩ := HFA.out.same (fun _ h => h) fun i hi => hb.block i (H1.out.dom i hi)
    exact ⟨hfq.cells.1, hfq.own⟩
  clear cr h h1 hst hsep hfa hv hs hr hl he hrow hn hfo hbl hfew hc hgn hl0 hc2 hc3 hu hgood
  go_enter Tryz.func26, Tryz.ntmps26
  go_wp2_with (first | (go_at_call 54; (with_reducible refine CR.out.mono ?_); rintro e w' ⟨rfl, rfl⟩))
  have eW : IntKind.i64.wrap ((u : Int) + (len : Int)) = (u : Int) + (len : Int) := IntWalk.i64_in _ (by omega)
  go_region_held3 (fun wx => Below (w.alloc (.cells #[.slice none 0 0, .int .i64 0] 82)).heap.size (w.alloc (.cells #[.slice none 0 0, .int .i64 0] 82)) wx ∧ wx.cell? ⟨d, 1, none⟩ = some (.int .i64 S.room)) (first | exact ⟨‹_›, ‹_›⟩ | exact ⟨Below.refl _ _, ‹_›⟩ | exact ⟨(Below.refl _ _).drew, ‹_›⟩ | exact ⟨Below.drew ‹_›, ‹_›⟩) (first | (go_at_call 55; (with_reducible refine (UH.out _ (by first | assumption | exact Below.refl _ _ | exact (Below.refl _ _).drew | exact Below.drew (by assumption))).mono ?_); rintro e w' ⟨rfl, hb1', hb2'⟩))
  clear eW
  obtain ⟨hbq, c1q⟩ : Below (w.alloc (.cells #[.slice none 0 0, .int .i64 0] 82)).heap.size (w.alloc (.cells #[.slice none 0 0, .int .i64 0] 82)) _ ∧ _ := by assumption
  obtain ⟨q1, q2⟩ := HFQ.out _ hbq
  have HBQ := Lib.hid hbq; have Q2 := Lib.hid q2; clear hbq q2
  go_wp2_with (first | (at_builtin; refine wp_app rfl (.tmp 61) (.tmp 62) rfl (.slice none 0 0) [] rfl Q2.out a len cap zs rfl ((HROW.out.keep ((Below.refl _ _).alloc (Nat.le_refl _) _)) |>.keep HBQ.out) HN.out (by have := hlb; simp; omega) ?_; intro v' w3 ho3 hg3 hat3; obtain ⟨ad3, cap3, hv3, _⟩ := ho3.row; obtain ⟨n3, hn3⟩ : ∃ n3, ([] ++ zs.take len).length = n3 := ⟨_, rfl⟩; rw [hn3] at hv3; subst hv3; obtain ⟨⟨y1, y2⟩, y3, y4, y5⟩ := AF.out _ HBQ.out _ _ ho3 hg3 hat3; have Y4 := Lib.hid y4; have Y5 := Lib.hid y5; clear ho3 hg3 hat3 hn3 y4 y5) | (at_mapUpdate; refine wpList_mapUpdate_own _ rfl _ _ _ 77 rfl 9 80 law Tryz.underlying77 Rp m S.fs.length _ rfl Y4.out HML.out _ _ _ rfl rfl HK.out _ [] HV.out ?_; intro w5 hown5 hgrow5; obtain ⟨O5, G5, V5, r5, s5⟩ := Y5.out _ hown5 hgrow5; have R5 := Lib.hid r5; have S5 := Lib.hid s5; have W5 := Lib.hid (write_any r5); clear hown5 hgrow5 r5 s5) | (go_at_call 56; (with_reducible refine W5.out.mono ?_); intro e w6 hw6; obtain ⟨rfl, hw7⟩ := hw6; have HW7 := Lib.hid hw7; clear hw7))
  go_ret
  exact D.out _ _ _ _ R5.out S5.out _ _ ⟨rfl, HW7.out⟩


end
end Go.Proofs.YtdonkmkjblofpaaGreatDoor.Dk

/-
  Layer 5: a journal in memory: opened, appended to, opened again.
-/
import Derived.Test.YtdonkmkjblofpaaDoorVc
namespace Go.Proofs.YtdonkmkjblofpaaDoor.Wl
open Go.RowKit Go.Sort Dx Sx Dk
set_option linter.unusedVariables false
set_option linter.unusedSimpArgs false
/-- A journal in memory, all of the call's own. -/
def JW (W w : World) (d g : Nat) (per : Int) (D : List (List (List Int))) (c : List (List Int)) (S : St) : Prop := ∃ O, IsWal w O d g per ((1 + tot D + c.length : Nat) : Int) ((1 + tot D : Nat) : Int) 0 S ∧ Jn per D c S ∧ Below W.heap.size W w ∧ ∀ i, Og O g i → W.heap.size ≤ i
def Cs (D : List (List (List Int))) (c : List (List Int)) : List (List (List Int)) := if c = [] then [] else D ++ [c]
theorem Jn.cs {per : Int} {D : List (List (List Int))} {c : List (List Int)} {S : St} (h : Jn per D c S) : S.fs = jfs 1 (Cs D c) [] ∧ (Cs D c).flatten = D.flatten ++ c ∧ ∀ x ∈ Cs D c, Rok x := by
  unfold Cs
  by_cases hc : c = []
  · have := h.none hc
    subst hc this
    rw [if_pos rfl]
    exact ⟨by rw [h.fs]; rfl, rfl, fun x hx => by cases hx⟩
  · rw [if_neg hc]
    refine ⟨by rw [h.fs, jst_jfs hc], by simp, fun x hx y hy => h.ok y ?_⟩
    rcases List.mem_append.1 hx with hx | hx
    · exact List.mem_append_left _ (List.mem_flatten.2 ⟨x, hx, hy⟩)
    · rw [List.mem_singleton] at hx; subst hx; exact List.mem_append_right _ hy
theorem JW.ok {W w : World} {d g : Nat} {per : Int} {D : List (List (List Int))} {c : List (List Int)} {S : St} (h : JW W w d g per D c S) : Ok W w d S := by
  obtain ⟨O, h1, _, h3, h4⟩ := h
  exact ⟨O, h1.disk, h3, fun i hi => h4 i (.inl hi)⟩
theorem JW.jn {W w : World} {d g : Nat} {per : Int} {D : List (List (List Int))} {c : List (List Int)} {S : St} (h : JW W w d g per D c S) : Jn per D c S := by
  obtain ⟨O, _, h2, _⟩ := h; exact h2
theorem JW.below {W w w' : World} {d g : Nat} {per : Int} {D : List (List (List Int))} {c : List (List Int)} {S : St} (h : JW W w d g per D c S) (hb : Below w.heap.size w w') : JW W w' d g per D c S := by
  obtain ⟨O, h1, h2, h3, h4⟩ := h
  exact ⟨O, h1.below hb, h2, h3.trans (hb.mono h3.size), h4⟩
theorem fsts_head (n : Nat) (C : List (List (List Int))) : (fsts n C).headD 1 = if C = [] then 1 else n := by
  cases C <;> simp [fsts]
theorem fsts_head2 {n : Nat} {C : List (List (List Int))} {S : St} (h : Chain (fsts n C) n S) : Chain (fsts n C) ((fsts n C).headD 1) S := by
  cases C with
  | nil => exact trivial
  | cons c r => exact h
theorem segs_of {S : St} {n : Nat} {C : List (List (List Int))} {t : List Int} (hfs : S.fs = jfs n C t) (hup : S.down = false) (h1 : 1 ≤ n) (h2 : n + tot C ≤ 999999999) : Segs S (fsts n C) := by
  refine ⟨?_, fun x hx => ?_⟩
  · unfold namesL; rw [if_neg (by rw [hup]; decide), hfs, jfs_names]
  · have := fsts_bound C n x hx; omega
/-- The opening of a journal's files. -/
def OpJ (W w1 : World) (d : Nat) (n : Nat) (C : List (List (List Int))) (t : List Int) (S : St) (e : Ending) (w' : World) : Prop := ∃ x S', Ends S x S' ∧ (∃ t', (t' = t ∨ t' = []) ∧ S'.fs = jfs n C t') ∧ Ok W w' d S' ∧
  (x = 0 → ∃ g ad cap, e = .returned (.tuple #[.pointer (some ⟨g, 0, none⟩), .slice ad C.flatten.length cap, .int .i64 ((if C = [] then 1 else n : Nat) : Int), .int .i64 0]) ∧ WasOk 0 w' C.flatten C.flatten.length (.slice ad C.flatten.length cap)) ∧
  (x ≠ 0 → e = .returned (.tuple #[.pointer none, .slice none 0 0, .int .i64 0, .int .i64 20]))
theorem jw_open {W w1 : World} {d : Nat} {n : Nat} {C : List (List (List Int))} {t : List Int} {S : St} (h : Ok W w1 d S) (ht : Tabs W) (hfs : S.fs = jfs n C t) (hup : S.down = false) (hR : ∀ c ∈ C, Rok c) (hb : Bytes t) (ho : one t = none) (h1 : 1 ≤ n) (h2 : n + tot C ≤ 1048576) (per : Int) (hper : 1 ≤ per) :
    Calls Tryd.prog 12 #[.pointer (some ⟨d, 0, none⟩), .int .i64 per] w1 (OpJ W w1 d n C t S) := by
  obtain ⟨O, hd, hbw, hown⟩ := h
  have hg := hd.good
  obtain ⟨op1, op2, op3, op4, op5⟩ := open_j C n t [] S (by rw [hfs]; rfl) hup (good_dis hg) (by rw [hfs]; exact jfs_safe _ _ _) hR hb ho hg.size h1 (by omega)
  refine (Open_any (ns := fsts n C) hd hup (segs_of hfs hup h1 (by omega)) (ht.keep hbw) per hper (fsts_head2 op1) (by omega) (fun i hi hh => by have := glob_lt ht i hi; have := hown i hh; omega)).mono ?_
  intro e w' hop
  unfold OpenR at hop
  obtain ⟨t', k1, k2⟩ := op4
  by_cases h0 : (openS (fsts n C) S).1 = 0
  · rw [if_pos h0] at hop
    obtain ⟨g, v, O', rfl, hgl, hgo, hgw, was, st, hd'⟩ := hop
    rw [op2 h0] at was
    obtain ⟨ad, cap, rfl⟩ := was_shape was
    obtain ⟨q1, q2⟩ := own_high hbw hown st
    refine ⟨_, _, op5, ⟨t', k1, by rw [k2]; rfl⟩, ⟨O', hd', q1, q2⟩, fun _ => ⟨g, ad, cap, by rw [fsts_head], was_ok was⟩, fun h => absurd h0 h⟩
  · rw [if_neg h0] at hop
    obtain ⟨rfl, O', st, hd'⟩ := hop
    obtain ⟨q1, q2⟩ := own_high hbw hown st
    have h20 : (openS (fsts n C) S).1 = 20 := by
      rcases op5.1 with h | h
      · exact absurd h.1 h0
      · exact h.1
    exact ⟨_, _, op5, ⟨t', k1, by rw [k2]; rfl⟩, ⟨O', hd', q1, q2⟩, fun h => absurd h h0, fun _ => by rw [h20]⟩
/-- The opening of an empty disk. -/
theorem jw_new {W w1 : World} {d : Nat} {S : St} (h : Ok W w1 d S) (ht : Tabs W) (hfs : S.fs = []) (hup : S.down = false) (per : Int) (hper : 1 ≤ per) :
    Calls Tryd.prog 12 #[.pointer (some ⟨d, 0, none⟩), .int .i64 per] w1 fun e w' => ∃ g ad cap, e = .returned (.tuple #[.pointer (some ⟨g, 0, none⟩), .slice ad 0 cap, .int .i64 1, .int .i64 0]) ∧ JW W w' d g per [] [] S := by
  obtain ⟨O, hd, hbw, hown⟩ := h
  refine (Open_any (ns := []) hd hup ⟨by unfold namesL; rw [if_neg (by rw [hup]; decide), hfs]; rfl, fun n hn => by simp at hn⟩ (ht.keep hbw) per hper trivial (Nat.zero_le _) (fun i hi hh => by have := glob_lt ht i hi; have := hown i hh; omega)).mono ?_
  intro e w' hop
  unfold OpenR at hop
  rw [if_pos (show (openS [] S).1 = 0 from rfl)] at hop
  obtain ⟨g, v, O', rfl, hgl, hgo, hgw, was, st, hd'⟩ := hop
  obtain ⟨ad, cap, rfl⟩ := was_shape was
  obtain ⟨q1, q2⟩ := own_high hbw hown st
  exact ⟨g, ad, cap, rfl, O', ⟨hd', hgo, hgw⟩, ⟨by rw [hfs]; rfl, hup, fun _ => rfl, fun d hd => (by cases hd), (by simp; omega), fun x hx => (by simp at hx)⟩, q1, fun i hi => hi.elim (q2 i) fun e => by rw [e]; exact Nat.le_trans hbw.size hgl⟩
/-- Append to a journal. -/
def ApJ (W : World) (d g : Nat) (per : Int) (D : List (List (List Int))) (c : List (List Int)) (r : List Int) (S : St) (e : Ending) (w' : World) : Prop :=
  (S.room < ((sizeR (D.flatten ++ c) + (8 + r.length) : Nat) : Int) → e = .returned (.tuple #[.int .i64 0, .int .i64 22]) ∧ JW W w' d g per D c S) ∧
  (((sizeR (D.flatten ++ c) + (8 + r.length) : Nat) : Int) ≤ S.room → ∃ x S', Ends S x S' ∧ (x = 0 → e = .returned (.tuple #[.int .i64 ((1 + tot D + c.length : Nat) : Int), .int .i64 0]) ∧ JW W w' d g per (nxD per D c) (nxc per c ++ [r]) S') ∧
    (x ≠ 0 → e = .returned (.tuple #[.int .i64 0, .int .i64 20]) ∧ Torn (nxD per D c) (nxc per c) r S' ∧ Ok W w' d S'))
theorem nx_tot (per : Int) (D : List (List (List Int))) (c : List (List Int)) (r : List Int) : 1 + tot (nxD per D c) + (nxc per c ++ [r]).length = 1 + tot D + c.length + 1 := by
  have h1 := congrArg List.length (nx_flat per D c)
  rw [List.length_append, List.length_append, ← tot_flat, ← tot_flat] at h1
  simp only [List.length_append, List.length_singleton]
  omega
theorem jw_append {W w : World} {d g : Nat} {per : Int} {D : List (List (List Int))} {c : List (List Int)} {S : St} (h : JW W w d g per D c S) (ht : Tabs W) (hper : 1 ≤ per) (a : Option Addr) (len cap : Nat) (zs : List Int) (hb : Bytes zs) (hrow : Fr.HasRow .u8 w a len zs) (hn : a = none → cap = 0) (hlen : len ≤ 65536)
    (hm : (D.flatten ++ c).length ≤ 1048576) (hsz : sizeR (D.flatten ++ c) + (8 + len) ≤ 1048576) (hfew : (nxD per D c).length < 16) :
    Calls Tryd.prog 13 #[.pointer (some ⟨g, 0, none⟩), .slice a len cap] w (ApJ W d g per D c (zs.take len) S) := by
  obtain ⟨O, hw, hj, hbw, hown⟩ := h
  have hl : (zs.take len).length = len := by rw [List.length_take]; have := hrow.1; omega
  have htot : tot D + c.length = (D.flatten ++ c).length := by rw [tot_flat, List.length_append]
  obtain ⟨j1, j2⟩ := app_j (r := zs.take len) hj hw.disk.good hper (by omega) (by omega) (bytes_take hb len) (by omega) hfew
  refine (append_any hw (ht.keep hbw) a len cap zs hb hrow hn (by omega) (by omega) (by omega)).mono ?_
  rintro e w' ⟨rfl, O', st, hw'⟩
  obtain ⟨q1, q2⟩ := own_high hbw hown st
  refine ⟨fun hr => ?_, fun hr => ?_⟩
  · rw [j1 hr] at hw' ⊢
    exact ⟨rfl, O', hw', hj, q1, q2⟩
  · obtain ⟨x, S', e1, e2, e3⟩ := j2 hr
    refine ⟨x, S', e1, fun hx => ?_, fun hx => ?_⟩
    · obtain ⟨k1, k2⟩ := e2 hx
      rw [k1] at hw' ⊢
      refine ⟨rfl, O', ?_, k2, q1, q2⟩
      rw [nx_tot]; exact hw'
    · obtain ⟨k1, k2⟩ := e3 hx
      rw [k1] at hw' ⊢
      exact ⟨rfl, k2, O', hw'.disk, q1, fun i hi => q2 i (.inl hi)⟩
end Go.Proofs.YtdonkmkjblofpaaDoor.Wl

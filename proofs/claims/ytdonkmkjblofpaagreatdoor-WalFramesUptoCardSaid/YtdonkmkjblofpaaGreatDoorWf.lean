/-
  Layer 5: the records of bytes.
-/
import Derived.Test.YtdonkmkjblofpaaGreatDoorWe
namespace Go.Proofs.YtdonkmkjblofpaaGreatDoor.Wl
open Go.RowKit Go.Sort Dx Sx Dk
set_option linter.unusedVariables false
set_option linter.unusedSimpArgs false
def RecsIt (w : World) (R : List (List Int)) (e : Ending) (w' : World) : Prop := ∃ v, e = .returned (.tuple #[v, .int .i64 (sizeR R : Int)]) ∧ WasOk w.heap.size w' R R.length v ∧ Below w.heap.size w w'
theorem sizeR_take {R : List (List Int)} {j : Nat} {r : List Int} (h : R.drop j = r :: R.drop (j + 1)) : sizeR (R.take (j + 1)) = sizeR (R.take j) + (8 + r.length) := by
  have hj : R[j]? = some r := by
    have := congrArg (fun l => l[0]?) h
    simpa using this
  obtain ⟨h1, h2⟩ := List.getElem?_eq_some_iff.1 hj
  rw [List.take_succ_eq_append_getElem h1, sizeR_append, h2]
  simp [sizeR]
theorem was_grow {N : Nat} {w w' : World} {C : List (List Int)} {j : Nat} {v : Value} (h : WasOk N w C j v) (hb : Below w.heap.size w w') : WasOk N w' C j v := h.keep (KeepHi.of_below hb)
/-- Where the rest of a slice begins. -/
def restA (b off p cap : Nat) : Addr := if p = cap then ⟨b, off, none⟩ else ⟨b, off + p, none⟩
theorem rest_row {w : World} {b off p M cap : Nat} {zs : List Int} (h : Fr.HasRow .u8 w (some ⟨b, off, none⟩) (M + p) zs) (hc : p = cap → M = 0) : Fr.HasRow .u8 w (some (restA b off p cap)) M (zs.drop p) := by
  unfold restA
  split
  · rename_i e
    rw [hc e]; exact row_zero _
  · exact row_drop h
theorem recs_drop {R : List (List Int)} {zs r : List Int} {j p : Nat} (h : recsB (zs.drop p) = R.drop j) (ho : one (zs.drop p) = some r) : R.drop j = r :: R.drop (j + 1) ∧ recsB (zs.drop (p + (8 + r.length))) = R.drop (j + 1) ∧ p + (8 + r.length) ≤ zs.length ∧ j < R.length := by
  have h1 := recsB_some ho
  rw [h, List.drop_drop] at h1
  have h2 := (one_some ho).2.2.2.1
  rw [List.length_drop] at h2
  have hj : j < R.length := by
    rcases Nat.lt_or_ge j R.length with hh | hh
    · exact hh
    · rw [List.drop_of_length_le hh] at h1; cases h1
  have h3 := List.drop_eq_getElem_cons hj
  rw [h3] at h1
  injection h1 with a1 a2
  exact ⟨by rw [h3, a1], a2.symm, by omega, hj⟩
theorem recs_end {R : List (List Int)} {zs : List Int} {j p : Nat} (h : recsB (zs.drop p) = R.drop j) (ho : one (zs.drop p) = none) (hj : j ≤ R.length) : j = R.length := by
  rw [recsB_none ho] at h
  have := congrArg List.length h
  simp at this
  omega
theorem bel_dn {B : Nat} {a w : World} (h : Below B a w) (n : Nat) : Below B a (w.drewN n) := ⟨h.os, h.tape, h.output, h.size, h.block⟩
theorem tab_more {w : World} (h : Sx.Tab w) (n : Nat) : Sx.Tab (w.drewN n) := h
set_option maxRecDepth 100000 in
set_option maxHeartbeats 1600000 in
theorem records_some (b off len cap : Nat) (zs : List Int) (w : World) (ht : Sx.Tab w) (hb : Bytes zs) (hrow : Fr.HasRow .u8 w (some ⟨b, off, none⟩) len zs) (hl : zs.length = len) (hcap : len ≤ cap) (hcm : cap ≤ 9223372036854775807) (hbig : len ≤ 1048576) :
    Calls Tryz.prog 9 #[.slice (some ⟨b, off, none⟩) len cap] w (RecsIt w (recsB zs)) := by
  obtain ⟨R, hR⟩ : ∃ R, recsB zs = R := ⟨_, rfl⟩
  rw [hR]
  obtain ⟨n, hn⟩ : ∃ n, R.length = n := ⟨_, rfl⟩
  have HR := Lib.hid hR; have HN := Lib.hid hn; have ROW := Lib.hid hrow; have HT := Lib.hid ht; have HB := Lib.hid hb; have HL := Lib.hid hl
  have hnl : n ≤ 1048576 := by
    have h1 := recsB_size zs.length zs (Nat.le_refl _)
    rw [hR] at h1
    have h2 : ∀ L : List (List Int), L.length ≤ sizeR L := fun L => by
      induction L with
      | nil => exact Nat.le_refl _
      | cons x s ih => simp only [List.length_cons, sizeR]; omega
    have := h2 R
    omega
  clear hR hn hrow ht hb hl
  go_enter Tryz.func9, Tryz.ntmps9
  go_wp2
  go_loopg [4, 5] (n + 1) (fun m o i wr => ∃ (j p : Nat) (ao : Option Addr) (co : Nat), j + m = n + 1 ∧ i = .int .i64 (p : Int) ∧ p ≤ len ∧ o = .slice ao j co ∧ Hid (j ≤ n) ∧ Hid (WasOk w.heap.size wr R j (.slice ao j co)) ∧ Hid (recsB (zs.drop p) = R.drop j) ∧ Hid (p = sizeR (R.take j)) ∧ Hid (Below w.heap.size w wr))
  case atStart => exact ⟨0, 0, none, 0, by omega, rfl, by omega, rfl, Lib.hid (Nat.zero_le _), Lib.hid ⟨[], ⟨rfl, .inl ⟨rfl, rfl⟩⟩, fun i hi => absurd hi (Nat.not_lt_zero _)⟩, Lib.hid HR.out, Lib.hid rfl, Lib.hid (Below.refl _ _)⟩
  case round =>
    obtain ⟨j, p, ao, co, hj, rfl, hp, rfl, HJ, HW, HD, HP, HBB⟩ := hrel
    obtain ⟨M, hM⟩ : ∃ M, len = M + p := ⟨len - p, by omega⟩
    obtain ⟨C, hC⟩ : ∃ C, cap = C + p := ⟨cap - p, by omega⟩
    have hMC : M ≤ C := by omega
    have row := rest_row (p := p) (M := M) (cap := cap) (by have := ROW.out.keep HBB.out; rwa [hM] at this) (by omega)
    have fst := first_any (some (restA b off p cap)) M C (zs.drop p) wr (tab_keep HT.out HBB.out) (bytes_drop HB.out p) row (by rw [List.length_drop, HL.out]; omega) hMC (by omega)
    unfold FirstIt at fst
    have e1 : len - p = M := by omega
    have e2 : cap - p = C := by omega
    have p0 : (0 : Int) ≤ (p : Int) := by omega
    have p1 : (p : Int) ≤ (len : Int) := by omega
    have p2 : (p : Int) ≤ (cap : Int) := by omega
    cases ho : one (zs.drop p) with
    | none =>
      rw [ho] at fst
      have hjn := recs_end HD.out ho (by have := HJ.out; have := HN.out; omega)
      have D : Hid (∀ nn, RecsIt w R (.returned (.tuple #[.slice ao j co, .int .i64 (p : Int)])) (wr.drewN nn)) := Lib.hid fun nn => by
        have h1 := HP.out
        have h2 := was_grow HW.out (bel_dn (Below.refl wr.heap.size wr) nn)
        rw [hjn, List.take_length] at h1
        rw [h1]
        exact ⟨_, rfl, by rw [← hjn]; exact h2, bel_dn HBB.out nn⟩
      by_cases hC0 : C = 0
      · obtain rfl : p = len := by omega
        obtain rfl : cap = p := by omega
        obtain rfl : M = 0 := by omega
        subst hC0
        rw [show restA b off cap cap = ⟨b, off, none⟩ from if_pos rfl] at fst
        have FSt := Lib.hid fst
        clear fst ho hjn hM hC row e1 e2
        go_wp2_with (go_at_call 47; (with_reducible refine FSt.out.mono ?_); rintro e w5 ⟨⟨nn, rfl⟩, v5, rfl⟩)
        go_ret2
        exact D.out _
      · rw [show restA b off p cap = ⟨b, off + p, none⟩ from if_neg (by omega)] at fst
        have hpc : ¬ p = cap := by omega
        have FSt := Lib.hid fst
        have HM := Lib.hid hM; have HC := Lib.hid hC
        clear fst ho hjn hM hC row
        go_wp2_with (go_at_call 47; (with_reducible refine FSt.out.mono ?_); rintro e w5 ⟨⟨nn, rfl⟩, v5, rfl⟩)
        go_ret2
        exact D.out _
    | some r =>
      rw [ho] at fst
      obtain ⟨q1, q2, q3, q4⟩ := recs_drop HD.out ho
      have hC0 : ¬ C = 0 := by have := (one_some ho).2.2.2.1; rw [List.length_drop, HL.out] at this; omega
      have hr16 := (one_some ho).2.2.1
      have hrl := (one_some ho).2.1
      rw [show restA b off p cap = ⟨b, off + p, none⟩ from if_neg (by omega)] at fst
      have hpc : ¬ p = cap := by omega
      have FSt := Lib.hid fst
      have hgd : R.getD j [] = r := by
        have := List.drop_eq_getElem_cons q4
        rw [this] at q1
        injection q1 with a1 _
        simp [List.getD, q4, a1]
      have HG := Lib.hid hgd
      obtain ⟨ll, hll⟩ : ∃ ll, r.length = ll := ⟨_, rfl⟩
      have hll16 : ll ≤ 65536 := by omega
      have q3' : p + (8 + ll) ≤ len := by rw [← hll, ← HL.out]; exact q3
      have q4' : j + 1 ≤ n := by rw [← HN.out]; exact q4
      have HD1 : Hid (recsB (zs.drop (p + (8 + ll))) = R.drop (j + 1)) := Lib.hid (by rw [← hll]; exact q2)
      have HP1 : Hid (p + (8 + ll) = sizeR (R.take (j + 1))) := Lib.hid (by rw [sizeR_take q1, ← HP.out, hll])
      have HJ1 : Hid (j + 1 ≤ n) := Lib.hid q4'
      have HLL := Lib.hid hll
      have HM := Lib.hid hM; have HC := Lib.hid hC
      simp only [hll] at FSt
      have CL : Hid (∀ nn pp cc, Fr.HasRow .u8 wr (some pp) ll r → Calls Tryz.prog 48 #[.slice (some pp) ll cc] (wr.drewN nn) (CloneIt (wr.drewN nn) r)) := Lib.hid fun nn pp cc h => by
        have := bclone_some (wr.drewN nn) pp ll cc r (row_same h fun _ => rfl) (by omega)
        rwa [← hll, List.take_length, hll] at this
      clear fst ho hM hC row q1 q2 q3 q4 hr16 hrl hgd hll
      go_wp2_with fail
      refine FSt.out.mono ?_
      rintro e w5 ⟨⟨nn, rfl⟩, pp, cc, rfl, hcc, hrow5⟩
      have CL5 := Lib.hid (CL.out nn pp cc hrow5)
      clear hrow5
      go_wp2_with fail
      refine CL5.out.mono ?_
      rintro e w6 ⟨v6, rfl, ho6, hb6⟩
      obtain ⟨ad6, cap6, e6, _⟩ := Ob.own_row ho6
      rw [HLL.out] at e6
      subst e6
      have hs6 : w.heap.size ≤ wr.heap.size := HBB.out.size
      have B6 : Hid (Below w.heap.size w w6) := Lib.hid ((bel_dn HBB.out nn).trans (hb6.mono hs6))
      have W6 := Lib.hid (was_grow HW.out (show Below wr.heap.size wr w6 from ⟨hb6.os, hb6.tape, hb6.output, hb6.size, hb6.block⟩))
      have O6 : Hid (Ob.OwnB w6 w.heap.size (.slice ad6 ll cap6) (R.getD j [])) := Lib.hid (by rw [HG.out]; exact Joins.ownsRow_le ho6 hs6)
      have hba : Below w6.heap.size w6 (w6.alloc (.cells #[.slice ad6 ll cap6] 22)) := (Below.refl _ _).alloc (Nat.le_refl _) _
      have W7 := Lib.hid (was_grow W6.out hba)
      have O7 : Hid (Ob.OwnB (w6.alloc (.cells #[.slice ad6 ll cap6] 22)) w.heap.size (.slice ad6 ll cap6) (R.getD j [])) := Lib.hid (ownB_move O6.out fun g cur a b => hba.block g (lt_of_heap b))
      have C7 : Hid ((w6.alloc (.cells #[.slice ad6 ll cap6] 22)).cell? ⟨w6.heap.size, 0, none⟩ = some (.slice ad6 ll cap6)) := Lib.hid (by rw [World.cell?_alloc_mark]; rfl)
      have B7 : Hid (Below w.heap.size w (w6.alloc (.cells #[.slice ad6 ll cap6] 22))) := Lib.hid (B6.out.alloc B6.out.size _)
      clear ho6 hb6 hba CL5
      go_wp2_with (at_builtin; go_loud (refine wp_was rfl (.tmp 19) (.tmp 22) rfl w.heap.size R j _ rfl W7.out (by omega) w6.heap.size (.slice ad6 ll cap6) rfl rfl C7.out O7.out B7.out.size ?_); intro v8 w8 hw8 hv8 hg8 hk8; obtain ⟨ad8, cap8, rfl, hc8, hc8b⟩ := hv8; have W8 := Lib.hid hw8; have B8 : Hid (Below w.heap.size w w8) := Lib.hid (B7.out.trans ((Below.refl w.heap.size _).grown hg8 B7.out.size fun k hk => (hk8 k hk).1)); clear hw8 hg8 hk8)
      go_roundg (n + 1 - (j + 1))
      case measure => omega
      case rel => exact ⟨j + 1, p + (8 + ll), ad8, cap8, by omega, by go_num, q3', by first | rfl | go_num, HJ1, W8, HD1, HP1, B8⟩
end Go.Proofs.YtdonkmkjblofpaaGreatDoor.Wl

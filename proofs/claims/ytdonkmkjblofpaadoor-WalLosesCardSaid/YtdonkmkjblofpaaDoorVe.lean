/-
  Layer 5: the law on segments: many records, pruned, found again.
-/
import Derived.Test.YtdonkmkjblofpaaDoorVd
namespace Go.Proofs.YtdonkmkjblofpaaDoor.Wl
open Go.RowKit Go.Sort Dx Sx Dk
set_option linter.unusedVariables false
set_option linter.unusedSimpArgs false
/-! ### pruning, as mathematics -/
def prS (C : List (List (List Int))) (S : St) : Nat → St
  | 0 => S
  | j + 1 => { tick (prS C S j) with fs := jfs (1 + tot (C.take (j + 1))) (C.drop (j + 1)) [] }
theorem prS_inv {C : List (List (List Int))} {S : St} (hfs : S.fs = jfs 1 C []) (hup : S.down = false) (ha : S.arm = 0) : ∀ j, (prS C S j).fs = jfs (1 + tot (C.take j)) (C.drop j) [] ∧ (prS C S j).down = false ∧ (prS C S j).arm = 0
  | 0 => ⟨by simpa [prS, tot] using hfs, hup, ha⟩
  | j + 1 => by
    obtain ⟨_, h2, h3⟩ := prS_inv hfs hup ha j
    exact ⟨rfl, h2, by show (prS C S j).arm - 1 = 0; omega⟩
theorem fsts_drop : ∀ (C : List (List (List Int))) (n j : Nat), fsts (n + tot (C.take j)) (C.drop j) = (fsts n C).drop j
  | [], n, j => by simp [fsts]
  | c :: r, n, 0 => by simp [tot]
  | c :: r, n, j + 1 => by
    have := fsts_drop r (n + c.length) j
    simp only [List.take_succ_cons, List.drop_succ_cons, fsts, tot]
    rw [← this]; congr 1; omega
theorem fsts_len : ∀ (C : List (List (List Int))) (n : Nat), (fsts n C).length = C.length
  | [], _ => rfl
  | c :: r, n => by rw [fsts, List.length_cons, fsts_len r, List.length_cons]
theorem fsts_getD : ∀ (C : List (List (List Int))) (n j : Nat), j < C.length → (fsts n C).getD j 0 = n + tot (C.take j)
  | [], n, j, h => by simp at h
  | c :: r, n, 0, h => by simp [fsts, tot]
  | c :: r, n, j + 1, h => by
    have := fsts_getD r (n + c.length) j (by simp at h; omega)
    simp only [List.take_succ_cons, fsts, tot, List.getD_cons_succ]
    rw [this]; omega
theorem remove_mid {pre post : List File} {f : File} {S : St} (hfs : S.fs = f :: post) (hup : S.down = false) (ha : S.arm = 0) (hd : Dis S.fs) (hn : badName f.nm = false) : removeS f.nm S = (0, { tick S with fs := post }) := by
  have hth := there_mid (pre := []) (by rw [hfs]; rfl) hup hd hn
  have hf : failing S = false := by unfold failing; rw [ha]; rfl
  have hdel : del f.nm S.fs = post := by
    have h2 := (dis_mid (pre := []) (f := f) (post := post) (by rw [← hfs.trans rfl]; exact hd)).2
    rw [hfs]; unfold del
    rw [List.filter_cons]
    simp only [beq_self_eq_true, Bool.not_true, Bool.false_eq_true, if_false]
    rw [List.filter_eq_self]; intro g hg; simp [h2 g hg]
  unfold removeS
  rw [hth, if_neg (by decide), hf, if_neg (by decide), hdel]
theorem prune_ok {C : List (List (List Int))} {S : St} (hfs : S.fs = jfs 1 C []) (hup : S.down = false) (ha : S.arm = 0) (hd : Dis S.fs) (j : Nat) (hj : j + 1 < (fsts 1 C).length) : removeS (segN ((fsts 1 C).getD j 0)) (prS C S j) = (0, prS C S (j + 1)) := by
  rw [fsts_len] at hj
  obtain ⟨h1, h2, h3⟩ := prS_inv hfs hup ha j
  rw [fsts_getD C 1 j (by omega)]
  have e : C.drop j = C[j] :: C.drop (j + 1) := List.drop_eq_getElem_cons (by omega)
  have e2 : C.drop (j + 1) ≠ [] := by
    intro h; have := congrArg List.length h; simp at this; omega
  have hfs2 : (prS C S j).fs = sf (1 + tot (C.take j)) (flat C[j]) :: jfs (1 + tot (C.take (j + 1))) (C.drop (j + 1)) [] := by
    rw [h1, e, jfs, if_neg e2, List.append_nil]
    congr 2
    rw [List.take_succ_eq_append_getElem (by omega), tot_snoc]; omega
  have hd2 : Dis (prS C S j).fs := by
    rw [dis_iff, h1, jfs_names, fsts_drop]
    rw [dis_iff, hfs, jfs_names] at hd
    rw [List.map_drop]
    exact hd.sublist (List.drop_sublist _ _)
  rw [show segN (1 + tot (C.take j)) = (sf (1 + tot (C.take j)) (flat C[j])).nm from rfl, remove_mid (pre := []) hfs2 h2 h3 hd2 (bad_seg _)]
  rfl

/-! ### the law's numbers -/
theorem and63 (a : Int) : ∃ K : Nat, bits .and .i64 a 63 = (K : Int) ∧ K ≤ 63 := by
  refine ⟨((BitVec.ofInt IntKind.i64.bits a) &&& (BitVec.ofInt IntKind.i64.bits 63)).toNat, ?_, ?_⟩
  · have h : ((BitVec.ofInt IntKind.i64.bits a) &&& (BitVec.ofInt IntKind.i64.bits 63)).toNat ≤ 63 := by
      rw [BitVec.toNat_and]; exact Nat.le_trans Nat.and_le_right (by decide)
    show IntKind.i64.wrap ((((BitVec.ofInt IntKind.i64.bits a) &&& (BitVec.ofInt IntKind.i64.bits 63)).toNat : Nat) : Int) = _
    rw [IntWalk.i64_in _ (by omega)]
  · rw [BitVec.toNat_and]; exact Nat.le_trans Nat.and_le_right (by decide)
/-- The records of the law: one byte each, from 1 on. -/
def cnt (k : Nat) : List (List Int) := (List.range k).map fun i => [((i + 1 : Nat) : Int)]
theorem cnt_len (k : Nat) : (cnt k).length = k := by simp [cnt]
theorem cnt_succ (k : Nat) : cnt (k + 1) = cnt k ++ [[((k + 1 : Nat) : Int)]] := by simp [cnt, List.range_succ]
theorem cnt_size (k : Nat) : sizeR (cnt k) = 9 * k := by
  induction k with
  | zero => rfl
  | succ k ih => rw [cnt_succ, sizeR_append, ih]; simp [sizeR]; omega
theorem tot_full {per : Int} : ∀ {D : List (List (List Int))}, (∀ d ∈ D, (d.length : Int) = per) → (tot D : Int) = D.length * per
  | [], _ => by simp [tot]
  | d :: D, h => by
    have h1 := tot_full (D := D) fun x hx => h x (by simp [hx])
    have h2 := h d (by simp)
    rw [tot, List.length_cons]
    push_cast
    rw [h1, h2, Int.add_mul]; omega
theorem nx_len {per : Int} {D : List (List (List Int))} {c : List (List Int)} {S : St} (h : Jn per D c S) : (∀ d ∈ nxD per D c, (d.length : Int) = per) ∧ ((nxD per D c).length : Int) * per ≤ (D.flatten ++ c).length := by
  have h1 : ∀ d ∈ nxD per D c, (d.length : Int) = per := by
    intro d hd
    unfold nxD at hd
    split at hd
    · rcases List.mem_append.1 hd with hd | hd
      · exact h.full d hd
      · rw [List.mem_singleton] at hd; subst hd; have := h.last; omega
    · exact h.full d hd
  refine ⟨h1, ?_⟩
  rw [← tot_full h1, ← nx_flat per D c, List.length_append, ← tot_flat]
  omega
/-- Prune, of a journal where nothing fails. -/
theorem jw_prune {W w : World} {d g : Nat} {per : Int} {D : List (List (List Int))} {c : List (List Int)} {S : St} (h : JW W w d g per D c S) (ht : Tabs W) (ha : S.arm = 0) (hm : (D.flatten ++ c).length ≤ 1048576) (below : Int) :
    Calls Tryd.prog 19 #[.pointer (some ⟨g, 0, none⟩), .int .i64 below] w fun e w' => ∃ j : Nat, e = .returned (.tuple #[.int .i64 (j : Int), .int .i64 0]) ∧ (j = 0 ∨ j < (Cs D c).length) ∧ (∀ i, i < j → i + 1 < (Cs D c).length ∧ ((1 + tot ((Cs D c).take (i + 1)) : Nat) : Int) ≤ below) ∧ ¬ (j + 1 < (Cs D c).length ∧ ((1 + tot ((Cs D c).take (j + 1)) : Nat) : Int) ≤ below) ∧ Ok W w' d (prS (Cs D c) S j) := by
  obtain ⟨O, hw, hj, hbw, hown⟩ := h
  obtain ⟨c1, c2, c3⟩ := hj.cs
  have htot : tot (Cs D c) = (D.flatten ++ c).length := by rw [tot_flat, c2]
  refine (prune_any hw (ht.keep hbw) (fun i hi hh => by have := glob_lt ht i hi; have := hown i hh; omega) (segs_of c1 hj.up (Nat.le_refl _) (by omega)) (prS (Cs D c) S) rfl (prune_ok c1 hj.up ha (good_dis hw.disk.good)) below).mono ?_
  rintro e w' ⟨j, rfl, h1, h2, h3, O', st, hw'⟩
  rw [fsts_len] at h2 h3
  obtain ⟨q1, q2⟩ := own_high hbw hown st
  refine ⟨j, rfl, h3, fun i hi => ?_, fun hx => h2 ⟨hx.1, by rw [fsts_getD _ _ _ hx.1]; exact hx.2⟩, O', hw'.disk, q1, fun i hi => q2 i (.inl hi)⟩
  obtain ⟨k1, k2⟩ := h1 i hi
  rw [fsts_len] at k1
  rw [fsts_getD _ _ _ k1] at k2
  exact ⟨k1, k2⟩
theorem flat_drop : ∀ (C : List (List (List Int))) (j : Nat), (C.drop j).flatten = C.flatten.drop (tot (C.take j))
  | [], j => by simp [tot]
  | c :: r, 0 => by simp [tot]
  | c :: r, j + 1 => by
    have := flat_drop r j
    simp only [List.drop_succ_cons, List.take_succ_cons, tot, List.flatten_cons]
    rw [this, ← List.drop_drop, List.drop_left]
end Go.Proofs.YtdonkmkjblofpaaDoor.Wl

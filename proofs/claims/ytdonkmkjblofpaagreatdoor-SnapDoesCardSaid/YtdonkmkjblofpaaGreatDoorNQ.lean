/-
  Layer 6: snapshots as mathematics, the law's calls. (Packed by gen_np.py out of Nj, Nk, Ns, Nl.)
-/
import Derived.Test.YtdonkmkjblofpaaGreatDoorNP
import Derived.Test.YtdonkmkjblofpaaGreatDoorVa
import Derived.Test.YtdonkmkjblofpaaGreatDoorKk
import Derived.Deep.RegionHeld3
/-! ## Nj -/
namespace Go.Proofs.YtdonkmkjblofpaaGreatDoor.Sn
open Go.RowKit Go.Sort Dx Sx Dk Wl
set_option linter.unusedVariables false
set_option linter.unusedSimpArgs false
/-! ### an encoding is read -/
theorem u32N_nat {n : Nat} (h : n ≤ 999999999) : u32N (n : Int) = n := by unfold u32N; omega
theorem enc_num (u : Nat) (l : List Int) (h : u < 4294967296) : num4 (encN u l) = u := by
  unfold encN frontN; rw [List.append_assoc]; exact num4_le4 h _
theorem enc_drop4 (u : Nat) (l : List Int) : (encN u l).drop 4 = le4 l.length ++ (le4 (crcN (frontN u l.length ++ l)) ++ l) := by simp [encN, frontN, le4]
theorem enc_drop8 (u : Nat) (l : List Int) : (encN u l).drop 8 = le4 (crcN (frontN u l.length ++ l)) ++ l := by simp [encN, frontN, le4]
theorem enc_drop12 (u : Nat) (l : List Int) : (encN u l).drop 12 = l := by simp [encN, frontN, le4]
theorem enc_take8 (u : Nat) (l : List Int) : (encN u l).take 8 = frontN u l.length := by simp [encN, frontN, le4]
theorem dec_enc {n : Nat} {l : List Int} (hn : n ≤ 999999999) (hl : l.length < 4294967296) : decS (n : Int) (encN n l) = (l, 0) := by
  have h4 : num4 ((encN n l).drop 4) = l.length := by rw [enc_drop4]; exact num4_le4 hl _
  have h8 : num4 ((encN n l).drop 8) = crcN (frontN n l.length ++ l) := by rw [enc_drop8]; exact num4_le4 (crcN_lt _) _
  unfold decS
  rw [if_neg (by rw [enc_length]; omega), enc_drop12, h4, if_neg (by omega), enc_num n l (by omega), u32N_nat hn, h8, enc_take8,
    if_neg (by rw [snm_nat hn]; simp [lettN]), if_neg (by simp)]

/-! ### the files -/
theorem bad_lett (n : Nat) : badName (lettN 115 n) = false := by
  unfold badName; rw [lettN_length]; decide
theorem bad_drf : badName drf = false := by decide
theorem drf_before (n : Nat) : bytesBefore drf (lettN 115 n) = true := by
  unfold drf lettN bytesBefore; rfl
theorem drf_ne (n : Nat) : lettN 115 n ≠ drf := fun h => by
  have := drf_before n; rw [h] at this; exact before_ne this rfl
theorem hit_drf : hitN snm drf = none := by
  have : Lib.atoi (drf.drop 1) = none := by decide +kernel
  unfold hitN; rw [this]
def dfile (l : List Int) : File := ⟨drf, l, l.length⟩
def sfile (p : Nat × List Int) : File := ⟨lettN 115 p.1, encN p.1 p.2, (encN p.1 p.2).length⟩
def sfs (N : List (Nat × List Int)) : List File := N.map sfile
def IsDr (Dr : List File) : Prop := Dr = [] ∨ ∃ l, Dr = [dfile l]
theorem sfs_safe (N : List (Nat × List Int)) : Allsafe (sfs N) := fun f hf => by obtain ⟨p, _, rfl⟩ := List.mem_map.1 hf; rfl
theorem dr_safe {Dr : List File} (h : IsDr Dr) (N : List (Nat × List Int)) : Allsafe (Dr ++ sfs N) := fun f hf => by
  rcases List.mem_append.1 hf with hf | hf
  · rcases h with rfl | ⟨l, rfl⟩
    · cases hf
    · rw [List.mem_singleton] at hf; subst hf; rfl
  · exact sfs_safe N f hf
/-- Rising numbers that can be. -/
structure Up (N : List (Nat × List Int)) : Prop where
  up : N.Pairwise fun p q => p.1 < q.1
  ok : ∀ p ∈ N, p.1 ≤ 999999999
theorem dis_sfs {N : List (Nat × List Int)} (h : Up N) : Dis (sfs N) := by
  unfold Dis sfs
  rw [List.pairwise_map]
  refine List.Pairwise.imp_of_mem ?_ h.up
  intro p q hp hq hpq
  exact before_ne (lett_before 115 hpq (h.ok q hq))
theorem dis_drf {N : List (Nat × List Int)} (h : Up N) {f : File} (hf : f.nm = drf) : Dis (f :: sfs N) := List.pairwise_cons.2 ⟨fun g hg e => by
  obtain ⟨p, _, rfl⟩ := List.mem_map.1 hg
  exact drf_ne p.1 (e.symm.trans hf), dis_sfs h⟩
theorem dis_dr {Dr : List File} (hD : IsDr Dr) {N : List (Nat × List Int)} (h : Up N) : Dis (Dr ++ sfs N) := by
  rcases hD with rfl | ⟨l, rfl⟩
  · exact dis_sfs h
  · exact dis_drf h rfl
theorem rem_gen {pre post : List File} {f : File} {S : St} (hfs : S.fs = pre ++ f :: post) (hup : S.down = false) (hd : Dis S.fs) (hn : badName f.nm = false) : removeS f.nm S = if failing S = true then (20, wrote S) else (0, { tick S with fs := pre ++ post }) := by
  have hth := there_mid hfs hup hd hn
  have hdel : del f.nm S.fs = pre ++ post := by
    obtain ⟨h1, h2⟩ := dis_mid (hfs ▸ hd)
    rw [hfs]; unfold del
    rw [List.filter_append, List.filter_cons]
    simp only [beq_self_eq_true, Bool.not_true, Bool.false_eq_true, if_false]
    rw [List.filter_eq_self.2 fun g hg => by simp [h1 g hg], List.filter_eq_self.2 fun g hg => by simp [h2 g hg]]
  unfold removeS
  rw [hth, if_neg (by decide), hdel]
theorem wrote_fs {S : St} (hf : failing S = true) (hs : Allsafe S.fs) : (wrote S).fs = S.fs := by
  unfold wrote; rw [if_pos hf]; exact off_fs _ hs
/-- A call that ends, and what it leaves of the files. -/
theorem nums_sfs {Dr : List File} (hD : IsDr Dr) {N : List (Nat × List Int)} (hN : ∀ p ∈ N, p.1 ≤ 999999999) {S : St} (hfs : S.fs = Dr ++ sfs N) (hup : S.down = false) : numsL snm (namesL S) = N.map fun p => (p.1 : Int) := by
  have h1 : namesL S = Dr.map File.nm ++ (N.map fun p => p.1).map (lettN 115) := by
    unfold namesL; rw [if_neg (by rw [hup]; decide), hfs, List.map_append]; simp [sfs, sfile, Function.comp_def]
  have h2 : numsL snm ((N.map fun p => p.1).map (lettN 115)) = N.map fun p => (p.1 : Int) := by
    have := nums_names (c := 115) (m := 0) (ns := N.map fun p => p.1) fun n hn => by
      obtain ⟨p, hp, rfl⟩ := List.mem_map.1 hn
      exact ⟨by omega, hN p hp⟩
    rw [show snm = nameL 115 0 from rfl, this]; simp [Function.comp_def]
  rw [h1]
  unfold numsL at h2 ⊢
  rw [List.filterMap_append, h2]
  rcases hD with rfl | ⟨l, rfl⟩
  · rfl
  · simp [dfile, hit_drf]
theorem drf_mem {Dr : List File} {N : List (Nat × List Int)} {S : St} (hfs : S.fs = Dr ++ sfs N) (hup : S.down = false) (hD : IsDr Dr) : drf ∈ namesL S ↔ Dr ≠ [] := by
  unfold namesL; rw [if_neg (by rw [hup]; decide), hfs, List.map_append, List.mem_append]
  have : ¬ drf ∈ (sfs N).map File.nm := fun h => by
    obtain ⟨f, hf, e⟩ := List.mem_map.1 h
    obtain ⟨p, _, rfl⟩ := List.mem_map.1 hf
    exact drf_ne _ e
  rcases hD with rfl | ⟨l, rfl⟩
  · simp [this]
  · simp [dfile]
/-! ### Save, step by step -/
section
variable {S : St} {N : List (Nat × List Int)} {Dr : List File}
theorem cl_run (hfs : S.fs = Dr ++ sfs N) (hD : IsDr Dr) (hU : Up N) (hup : S.down = false) : ∃ x S', clS S = (x, S') ∧ Wl.Ends S x S' ∧ (x = 0 → S'.fs = sfs N) ∧ (x ≠ 0 → S'.fs = S.fs) := by
  unfold clS
  by_cases h : Dr = []
  · subst h
    rw [if_neg fun h => (drf_mem hfs hup hD).1 h rfl]
    exact ⟨_, _, rfl, ends_none S hup, fun _ => hfs, fun h => absurd rfl h⟩
  · rw [if_pos ((drf_mem hfs hup hD).2 h)]
    obtain ⟨l, rfl⟩ := hD.resolve_left h
    have := rem_gen (pre := []) (f := dfile l) (post := sfs N) hfs hup (by rw [hfs]; exact dis_dr hD hU) bad_drf
    rw [show drf = (dfile l).nm from rfl, this]
    by_cases hf : failing S = true
    · rw [if_pos hf]
      exact ⟨_, _, rfl, ends_fail hf rfl rfl, fun h => by simp at h, fun _ => wrote_fs hf (by rw [hfs]; exact dr_safe hD N)⟩
    · rw [if_neg hf]
      exact ⟨_, _, rfl, ends_ok hup rfl rfl, fun _ => rfl, fun h => absurd rfl h⟩
theorem look_drf (N : List (Nat × List Int)) : Dk.look drf (sfs N) = none := by
  cases h : Dk.look drf (sfs N) with
  | none => rfl
  | some f =>
    obtain ⟨h1, h2⟩ := look_some h
    obtain ⟨p, _, rfl⟩ := List.mem_map.1 h1
    exact absurd h2 (drf_ne _)
theorem put_drf (l : List Int) (s : Nat) (N : List (Nat × List Int)) : put ⟨drf, l, s⟩ (sfs N) = ⟨drf, l, s⟩ :: sfs N := by
  unfold put
  show ins _ (del drf (sfs N)) = _
  rw [del_none (look_drf N)]
  cases N with
  | nil => rfl
  | cons p N =>
    show ins _ (sfile p :: sfs N) = _
    unfold ins
    rw [if_pos (show bytesBefore (⟨drf, l, s⟩ : File).nm (sfile p).nm = true from drf_before p.1)]; rfl
theorem cut_drf (keep : Int) (E : List Int) (N : List (Nat × List Int)) : ∃ l, ((⟨drf, E, 0⟩ : File) :: sfs N).map (cut keep) = dfile l :: sfs N := by
  refine ⟨E.take (cutN keep ⟨drf, E, 0⟩), ?_⟩
  have h : cutN keep ⟨drf, E, 0⟩ ≤ E.length := (cutN_le (f := ⟨drf, E, 0⟩) (by simp)).2
  rw [List.map_cons, cuts_safe (sfs_safe N)]
  unfold cut dfile
  simp only [List.cons.injEq, File.mk.injEq, true_and, and_true]
  rw [List.length_take]; omega
theorem app_run (E : List Int) (hfs : S.fs = sfs N) (hup : S.down = false) (hE : E.length ≤ 1048576) (hroom : ((used (sfs N) + E.length : Nat) : Int) ≤ S.room) (hfew : N.length < 16) :
    ∃ x S', appendS drf E S = (x, S') ∧ Wl.Ends S x S' ∧ (x = 0 → S'.fs = ⟨drf, E, 0⟩ :: sfs N) ∧ (x ≠ 0 → ∃ l, S'.fs = dfile l :: sfs N) := by
  have hlk : Dk.look drf S.fs = none := by rw [hfs]; exact look_drf N
  have hfo : fileOf drf S.fs = ⟨drf, [], 0⟩ := by unfold fileOf; rw [hlk]
  have hae : appErr drf E.length S = 0 := by
    unfold appErr
    rw [if_neg (by unfold ready; rw [bad_drf, hup]; decide), hfo, if_neg (by simp; omega), if_neg (by rw [hfs]; simp [sfs]; intro _; omega), if_neg (by rw [hfs]; omega)]
  have hput : put (longer (fileOf drf S.fs) E) S.fs = ⟨drf, E, 0⟩ :: sfs N := by
    rw [hfo, hfs]; exact put_drf E 0 N
  have ha : appendS drf E S = (wcode S, wrote { S with fs := ⟨drf, E, 0⟩ :: sfs N }) := by unfold appendS; rw [hae, if_neg (by decide), hput]
  rw [ha]
  by_cases hf : failing S = true
  · have hcode : wcode S = 20 := by unfold wcode; rw [if_pos hf]
    rw [hcode]
    refine ⟨_, _, rfl, ends_fail hf rfl rfl, fun h => by simp at h, fun _ => ?_⟩
    obtain ⟨l, hl⟩ := cut_drf S.keep E N
    refine ⟨l, ?_⟩
    unfold wrote
    rw [if_pos (show failing { S with fs := ⟨drf, E, 0⟩ :: sfs N } = true from hf)]
    unfold off
    rw [if_neg (by show ¬ S.down = true; rw [hup]; decide)]
    exact hl
  · have hcode : wcode S = 0 := by unfold wcode; rw [if_neg hf]
    rw [hcode]
    have hw : wrote { S with fs := ⟨drf, E, 0⟩ :: sfs N } = tick { S with fs := ⟨drf, E, 0⟩ :: sfs N } := by unfold wrote; rw [if_neg (show ¬ failing { S with fs := ⟨drf, E, 0⟩ :: sfs N } = true from hf)]
    rw [hw]
    exact ⟨_, _, rfl, ends_ok hup rfl rfl, fun _ => rfl, fun h => absurd rfl h⟩
theorem syn_run (E : List Int) (hfs : S.fs = ⟨drf, E, 0⟩ :: sfs N) (hU : Up N) (hup : S.down = false) :
    ∃ x S', syncS drf S = (x, S') ∧ Wl.Ends S x S' ∧ (x = 0 → S'.fs = dfile E :: sfs N) ∧ (x ≠ 0 → ∃ l, S'.fs = dfile l :: sfs N) := by
  have hth : there drf S = 0 := there_mid (pre := []) (f := ⟨drf, E, 0⟩) hfs hup (by rw [hfs]; exact dis_drf hU rfl) bad_drf
  unfold syncS
  rw [hth, if_neg (by decide)]
  by_cases hf : failing S = true
  · rw [if_pos hf]
    refine ⟨_, _, rfl, ends_fail hf rfl rfl, fun h => by simp at h, fun _ => ?_⟩
    obtain ⟨l, hl⟩ := cut_drf S.keep E N
    refine ⟨l, ?_⟩
    unfold wrote
    rw [if_pos hf]
    unfold off
    rw [if_neg (by show ¬ S.down = true; rw [hup]; decide)]
    show S.fs.map (cut S.keep) = _
    rw [hfs]; exact hl
  · rw [if_neg hf]
    refine ⟨_, _, rfl, ends_ok hup rfl rfl, fun _ => ?_, fun h => absurd rfl h⟩
    show upd drf synced S.fs = _
    have := upd_mid (pre := []) (post := sfs N) (f := ⟨drf, E, 0⟩) synced (dis_drf hU rfl)
    rw [hfs]; exact this
theorem wd_run (E : List Int) (hfs : S.fs = Dr ++ sfs N) (hD : IsDr Dr) (hU : Up N) (hup : S.down = false) (hE : E.length ≤ 1048576) (hroom : ((used (sfs N) + E.length : Nat) : Int) ≤ S.room) (hfew : N.length < 16) :
    ∃ x S', wdS E S = (x, S') ∧ Wl.Ends S x S' ∧ (x = 0 → S'.fs = dfile E :: sfs N) ∧ (x ≠ 0 → ∃ Dr', IsDr Dr' ∧ S'.fs = Dr' ++ sfs N) := by
  obtain ⟨x1, S1, c1, c2, c3, c4⟩ := cl_run hfs hD hU hup
  unfold wdS
  rw [c1]
  by_cases h1 : x1 = 0
  · subst h1
    rw [if_neg (by simp)]
    have hup1 : S1.down = false := by
      rcases c2.1 with h | h
      · exact h.2
      · exact absurd h.1 (by decide)
    obtain ⟨x2, S2, a1, a2, a3, a4⟩ := app_run (N := N) E (c3 rfl) hup1 hE (by rw [c2.2.2]; exact hroom) hfew
    rw [a1]
    by_cases h2 : x2 = 0
    · subst h2
      rw [if_neg (by simp)]
      have hup2 : S2.down = false := by
        rcases a2.1 with h | h
        · exact h.2
        · exact absurd h.1 (by decide)
      obtain ⟨x3, S3, s1, s2, s3, s4⟩ := syn_run (N := N) E (a3 rfl) hU hup2
      exact ⟨x3, S3, s1, c2.trans (a2.trans s2), s3, fun h => by obtain ⟨l, hl⟩ := s4 h; exact ⟨[dfile l], .inr ⟨l, rfl⟩, hl⟩⟩
    · rw [if_pos h2]
      exact ⟨x2, S2, rfl, c2.trans a2, fun h => absurd h h2, fun h => by obtain ⟨l, hl⟩ := a4 h; exact ⟨[dfile l], .inr ⟨l, rfl⟩, hl⟩⟩
  · rw [if_pos h1]
    exact ⟨x1, S1, rfl, c2, fun h => absurd h h1, fun h => ⟨Dr, hD, (c4 h).trans hfs⟩⟩
theorem ren_run (E : List Int) {n : Nat} {l : List Int} (hE : E = encN n l) (hfs : S.fs = dfile E :: sfs N) (hU : Up (N ++ [(n, l)])) (hup : S.down = false) :
    ∃ x S', renameS drf (lettN 115 n) S = (x, S') ∧ Wl.Ends S x S' ∧ (x = 0 → S'.fs = sfs (N ++ [(n, l)])) ∧ (x ≠ 0 → S'.fs = dfile E :: sfs N) := by
  have hUN : Up N := ⟨(List.pairwise_append.1 hU.up).1, fun p hp => hU.ok p (by simp [hp])⟩
  have hd : Dis S.fs := by rw [hfs]; exact dis_drf hUN rfl
  have hth : there drf S = 0 := there_mid (pre := []) (f := dfile E) hfs hup hd bad_drf
  have hlk : Dk.look drf S.fs = some (dfile E) := by rw [hfs]; exact look_mid (pre := []) (f := dfile E) (by rw [hfs] at hd; exact hd)
  have hdel : del drf S.fs = sfs N := by
    rw [hfs]
    unfold del
    rw [List.filter_cons]
    simp only [dfile, beq_self_eq_true, Bool.not_true, Bool.false_eq_true, if_false]
    rw [List.filter_eq_self]
    intro g hg
    obtain ⟨p, _, rfl⟩ := List.mem_map.1 hg
    have := drf_ne p.1
    simp [sfile, this]
  unfold renameS
  rw [bad_lett, if_neg (by decide), hth, if_neg (by decide)]
  by_cases hf : failing S = true
  · rw [if_pos hf]
    exact ⟨_, _, rfl, ends_fail hf rfl rfl, fun h => by simp at h, fun _ => (wrote_fs hf (by rw [hfs]; exact dr_safe (.inr ⟨E, rfl⟩) N)).trans hfs⟩
  · rw [if_neg hf, hlk]
    refine ⟨_, _, rfl, ends_ok hup rfl rfl, fun _ => ?_, fun h => absurd rfl h⟩
    show put (renamed (lettN 115 n) (dfile E)) (del drf S.fs) = _
    rw [hdel]
    have hb : ∀ g ∈ sfs N, bytesBefore g.nm (renamed (lettN 115 n) (dfile E)).nm = true := fun g hg => by
      obtain ⟨p, hp, rfl⟩ := List.mem_map.1 hg
      exact lett_before 115 ((List.pairwise_append.1 hU.up).2.2 p hp (n, l) (by simp)) (hU.ok (n, l) (by simp))
    rw [(put_new hb).2]
    simp [sfs, renamed, dfile, sfile, hE]
end
theorem rm_run {n : Nat} {l : List Int} : ∀ (N : List (Nat × List Int)) (S : St), S.fs = sfs (N ++ [(n, l)]) → Up (N ++ [(n, l)]) → S.down = false →
    ∃ x S', rmS (n : Int) ((N ++ [(n, l)]).map fun p => (p.1 : Int)) S = (x, S') ∧ Wl.Ends S x S' ∧ (x = 0 → S'.fs = sfs [(n, l)]) ∧ (x ≠ 0 → ∃ k, S'.fs = sfs (N.drop k ++ [(n, l)]))
  | [], S, hfs, hU, hup => ⟨0, S, by simp [rmS], ends_none S hup, fun _ => hfs, fun h => absurd rfl h⟩
  | p :: N, S, hfs, hU, hup => by
    have hne : (p.1 : Int) ≠ (n : Int) := by
      have := (List.pairwise_cons.1 hU.up).1 (n, l) (by simp)
      simp at this; omega
    have hU' : Up (N ++ [(n, l)]) := ⟨(List.pairwise_cons.1 hU.up).2, fun q hq => hU.ok q (List.mem_cons_of_mem _ hq)⟩
    have hr := rem_gen (pre := []) (f := sfile p) (post := sfs (N ++ [(n, l)])) (S := S) hfs hup (by rw [hfs]; exact dis_sfs hU) (bad_lett p.1)
    have hsn : snm (p.1 : Int) = (sfile p).nm := snm_nat (hU.ok p (by simp))
    rw [List.cons_append, List.map_cons, rmS, if_neg hne, hsn, hr]
    by_cases hf : failing S = true
    · rw [if_pos hf, if_pos (by simp)]
      exact ⟨_, _, rfl, ends_fail hf rfl rfl, fun h => by simp at h, fun _ => ⟨0, (wrote_fs hf (by rw [hfs]; exact sfs_safe _)).trans hfs⟩⟩
    · rw [if_neg hf, if_neg (by simp)]
      have hup' : ({ tick S with fs := [] ++ sfs (N ++ [(n, l)]) } : St).down = false := hup
      obtain ⟨x, S', h1, h2, h3, h4⟩ := rm_run N { tick S with fs := [] ++ sfs (N ++ [(n, l)]) } rfl hU' hup'
      have h0 : Wl.Ends S 0 { tick S with fs := [] ++ sfs (N ++ [(n, l)]) } := ends_ok hup rfl rfl
      exact ⟨x, S', h1, h0.trans h2, h3, fun h => by obtain ⟨k, hk⟩ := h4 h; exact ⟨k + 1, hk⟩⟩
/-- What Save leaves. -/
def Left6 (Dr : List File) (N : List (Nat × List Int)) (n : Nat) (l : List Int) (S' : St) : Prop := (∃ Dr', IsDr Dr' ∧ S'.fs = Dr' ++ sfs N) ∨ ∃ k, S'.fs = sfs (N.drop k ++ [(n, l)])
theorem save_run {S : St} {Dr : List File} {N : List (Nat × List Int)} {n : Nat} {l : List Int} (hfs : S.fs = Dr ++ sfs N) (hD : IsDr Dr) (hU : Up (N ++ [(n, l)])) (hup : S.down = false) (hl : l.length ≤ 1048564) (hroom : ((used (sfs N) + (12 + l.length) : Nat) : Int) ≤ S.room) (hfew : N.length < 16) :
    ∃ x S', saveS (n : Int) l S = (x, S') ∧ Wl.Ends S x S' ∧ (x = 0 → S'.fs = sfs [(n, l)]) ∧ (x ≠ 0 → Left6 Dr N n l S') := by
  have hn : n ≤ 999999999 := hU.ok (n, l) (by simp)
  have hUN : Up N := ⟨(List.pairwise_append.1 hU.up).1, fun p hp => hU.ok p (by simp [hp])⟩
  have hel : (encN n l).length = 12 + l.length := enc_length n l
  obtain ⟨x1, S1, c1, c2, c3, c4⟩ := wd_run (N := N) (encN n l) hfs hD hUN hup (by omega) (by rw [hel]; exact hroom) hfew
  unfold saveS
  rw [snm_nat hn, if_neg (by simp [lettN]), if_neg (by omega), if_neg (by rw [hup]; decide), u32N_nat hn, c1]
  have upOf : ∀ {S S' : St}, Wl.Ends S 0 S' → S'.down = false := fun h => by
    rcases h.1 with h | h
    · exact h.2
    · exact absurd h.1 (by decide)
  by_cases h1 : x1 = 0
  · subst h1
    rw [if_neg (by simp)]
    obtain ⟨x2, S2, r1, r2, r3, r4⟩ := ren_run (N := N) (encN n l) (n := n) (l := l) rfl (c3 rfl) hU (upOf c2)
    rw [r1]
    by_cases h2 : x2 = 0
    · subst h2
      rw [if_neg (by simp)]
      have hnum := nums_sfs (Dr := []) (.inl rfl) hU.ok (r3 rfl) (upOf r2)
      show ∃ x S', rmS (n : Int) (numsL snm (namesL S2)) S2 = (x, S') ∧ _
      rw [hnum]
      obtain ⟨x3, S3, m1, m2, m3, m4⟩ := rm_run N S2 (r3 rfl) hU (upOf r2)
      exact ⟨x3, S3, m1, c2.trans (r2.trans m2), m3, fun h => .inr (m4 h)⟩
    · rw [if_pos h2]
      exact ⟨x2, S2, rfl, c2.trans r2, fun h => absurd h h2, fun h => .inl ⟨[dfile (encN n l)], .inr ⟨_, rfl⟩, r4 h⟩⟩
  · rw [if_pos h1]
    exact ⟨x1, S1, rfl, c2, fun h => absurd h h1, fun h => .inl (c4 h)⟩
/-! ### Load -/
theorem load_run {S : St} {Dr : List File} {N : List (Nat × List Int)} (hfs : S.fs = Dr ++ sfs N) (hD : IsDr Dr) (hU : Up N) (hup : S.down = false) (hlen : ∀ p ∈ N, p.2.length < 4294967296) :
    loadS S = match N.getLast? with
      | some p => ((p.1 : Int), p.2, 0)
      | none => (-1, [], 0) := by
  unfold loadS
  rw [if_neg (by rw [hup]; decide), nums_sfs hD hU.ok hfs hup]
  cases h : N.getLast? with
  | none =>
    have : N = [] := by simpa using h
    subst this; rfl
  | some p =>
    obtain ⟨N', rfl⟩ : ∃ N', N = N' ++ [p] := List.getLast?_eq_some_iff.1 h
    have hp : p.1 ≤ 999999999 := hU.ok p (by simp)
    have hd : Dis S.fs := by rw [hfs]; exact dis_dr hD hU
    have hfs' : S.fs = (Dr ++ sfs N') ++ sfile p :: [] := by rw [hfs]; simp [sfs]
    have hth : there (snm (p.1 : Int)) S = 0 := by rw [snm_nat hp]; exact there_mid (f := sfile p) hfs' hup hd (bad_lett p.1)
    have hrd : readL (snm (p.1 : Int)) S = encN p.1 p.2 := by rw [snm_nat hp]; exact read_mid (f := sfile p) hfs' hup hd (bad_lett p.1)
    rw [List.map_append, List.reverse_append]
    simp only [List.map_cons, List.map_nil, List.reverse_singleton, List.singleton_append, findL]
    have hs : step1 S (p.1 : Int) = some ((p.1 : Int), p.2, 0) := by
      unfold step1; rw [hth, if_neg (by simp), hrd, dec_enc hp (hlen p (by simp)), if_pos rfl]
    rw [hs]
end Go.Proofs.YtdonkmkjblofpaaGreatDoor.Sn
/-! ## Nk -/
namespace Go.Proofs.YtdonkmkjblofpaaGreatDoor.Sn
open Go.RowKit Go.Sort Dx Sx Dk Wl
set_option linter.unusedVariables false
set_option linter.unusedSimpArgs false
theorem load_any {w : World} {O : Nat → Prop} {d : Nat} {S : St} (hd : IsDisk w O d S) (ht : Tabs w) (hby : BytesS S) : Calls Tryz.prog 32 #[.pointer (some ⟨d, 0, none⟩)] w (LoadIt w (loadS S)) := by
  cases h : S.down with
  | true => exact load_down hd h
  | false => exact load_up hd ht h hby
section
variable {W w : World} {d : Nat} {S : St}
theorem ok_glob {O : Nat → Prop} (ht : Tabs W) (ho : ∀ i, O i → W.heap.size ≤ i) : ∀ i, glob i → ¬ O i := fun i hi hh => by have := glob_lt ht i hi; have := ho i hh; omega
theorem ok_save (h : Ok W w d S) (ht : Tabs W) (v : Int) (a : Option Addr) (len cap : Nat) (zs : List Int) (hb : Bytes zs) (hrow : Fr.HasRow .u8 w a len zs) (hn : a = none → cap = 0) (hlen : len ≤ 140737488351232) {l : List Int} (hl : zs.take len = l) {r : Int} {S' : St} (he : saveS v l S = (r, S')) :
    Calls Tryz.prog 30 #[.pointer (some ⟨d, 0, none⟩), .int .i64 v, .slice a len cap] w fun e w' => e = .returned (.int .i64 r) ∧ Ok W w' d S' := by
  obtain ⟨O, h1, h2, h3⟩ := h
  have c := save_any v h1 (ht.keep h2) (ok_glob ht h3) a len cap zs hb hrow hn hlen
  rw [hl, he] at c
  exact c.mono fun e w' ⟨x1, x2⟩ => ⟨x1, Ok.step h1 h2 h3 x2⟩
theorem ok_load (h : Ok W w d S) (ht : Tabs W) (hby : BytesS S) {R : Int × List Int × Int} (he : loadS S = R) : Calls Tryz.prog 32 #[.pointer (some ⟨d, 0, none⟩)] w (LoadIt w R) := by
  obtain ⟨O, h1, h2, h3⟩ := h
  rw [← he]; exact load_any h1 (ht.keep h2) hby
theorem ok_names (h : Ok W w d S) {L : List (List UInt8)} (he : namesL S = L) : Calls Tryz.prog 50 #[.pointer (some ⟨d, 0, none⟩)] w fun e w' => ∃ ad cap, e = .returned (.slice ad L.length cap) ∧ NmOk w.heap.size w' ad L ∧ Below w.heap.size w w' := by
  obtain ⟨O, h1, h2, h3⟩ := h
  rw [← he]
  exact (names_hi (N := w.heap.size) h1 (Nat.le_refl _)).mono fun e w' ⟨ad, cap, x1, _, _, x2, x3⟩ => ⟨ad, cap, x1, x2, x3⟩
end
theorem bytesS_run {S : St} {Dr : List File} {N : List (Nat × List Int)} (hfs : S.fs = Dr ++ sfs N) (hD : IsDr Dr) (hN : ∀ p ∈ N, Bytes p.2) : BytesS S := fun f hf hne => by
  rw [hfs] at hf
  rcases List.mem_append.1 hf with hf | hf
  · rcases hD with rfl | ⟨l, rfl⟩
    · cases hf
    · rw [List.mem_singleton] at hf; subst hf; exact absurd rfl hne
  · obtain ⟨p, hp, rfl⟩ := List.mem_map.1 hf; exact bytes_enc (hN p hp)
theorem names_one {S : St} {p : Nat × List Int} (hfs : S.fs = sfs [p]) (hup : S.down = false) : namesL S = [lettN 115 p.1] := by
  unfold namesL; rw [if_neg (by rw [hup]; decide), hfs]; rfl
/-! ### wakes -/
theorem bytes_ab : Bytes [97, 98] := fun j hj => by
  match j, hj with
  | 0, _ => decide
  | 1, _ => decide
theorem up_one {n : Nat} {l : List Int} (h : n ≤ 999999999) : Up ([] ++ [(n, l)]) := ⟨by simp, fun p hp => by simp at hp; subst hp; exact h⟩
theorem wake_save : ∃ S', saveS 7 [97, 98] (Dk.start 1000) = (0, S') ∧ S'.fs = sfs [(7, [97, 98])] ∧ S'.down = false := by
  obtain ⟨x, S', h1, h2, h3, h4⟩ := save_run (S := Dk.start 1000) (Dr := []) (N := []) (n := 7) (l := [97, 98]) rfl (.inl rfl) (up_one (by decide)) rfl (by decide) (by decide) (by decide)
  have hx : x = 0 ∧ S'.down = false := by
    rcases h2.1 with h | h
    · exact h
    · exact absurd rfl h.2.2
  obtain ⟨rfl, hd⟩ := hx
  exact ⟨S', h1, h3 rfl, hd⟩
theorem wake_facts : ∃ S', saveS 7 [97, 98] (Dk.start 1000) = (0, S') ∧ loadS S' = (7, [97, 98], 0) ∧ BytesS S' ∧ namesL S' = [lettN 115 7] := by
  obtain ⟨S1, e1, e2, e3⟩ := wake_save
  have e2' : S1.fs = [] ++ sfs [(7, [97, 98])] := by rw [List.nil_append]; exact e2
  refine ⟨S1, e1, ?_, ?_, names_one (p := (7, [97, 98])) e2 e3⟩
  · exact (load_run (Dr := []) (N := [(7, [97, 98])]) e2' (.inl rfl) (up_one (by decide)) e3 (fun p hp => by simp at hp; subst hp; decide)).trans (by simp)
  · have hb : ∀ p ∈ [((7 : Nat), ([97, 98] : List Int))], Bytes p.2 := fun p hp => by
      rw [List.mem_singleton] at hp
      rw [hp]; exact bytes_ab
    exact bytesS_run e2' (.inl rfl) hb
theorem txt_ab : strOfNums ([97, 98].take 2) = (⟨#[97, 98]⟩ : ByteArray) := by decide +kernel
theorem txt_s7 : (⟨(lettN 115 7).toArray⟩ : ByteArray) = ⟨#[115, 48, 48, 48, 48, 48, 48, 48, 48, 55]⟩ := by decide +kernel
set_option maxRecDepth 100000 in
set_option maxHeartbeats 1600000 in
theorem wakes6_any (w : World) (ht : Tabs w) : Calls Tryz.prog 15 #[] w fun e w' => e = .returned (.bool true) ∧ Below w.heap.size w w' := by
  have HT := Lib.hid ht
  obtain ⟨S1, e1, eL, eB, eN⟩ := wake_facts
  have E1 := Lib.hid e1; have EL := Lib.hid eL; have EB := Lib.hid eB; have EN := Lib.hid eN
  clear ht e1 eL eB eN
  go_enter Tryz.func15, Tryz.ntmps15
  go_wp2_with fail
  refine (ok_new w 1000).mono ?_
  rintro e w1 ⟨rfl, ok1⟩
  obtain ⟨d, hdd⟩ : ∃ d, w.heap.size + 1 = d := ⟨_, rfl⟩
  rw [hdd] at ok1 ⊢
  have kc1 := Joins.run_convert_bytes_const_at (P := Tryz.prog) w1 22 5 #[.int .u8 97, .int .u8 98] 2 2 w1.heap.size rfl Tryz.underlying22 Tryz.underlying5
  have hal : Below w1.heap.size w1 (w1.alloc (.cells #[.int .u8 97, .int .u8 98] 5 (2, 3))) := (Below.refl _ _).alloc (Nat.le_refl _) _
  have SV := Lib.hid (ok_save (ok1.below hal) HT.out 7 (some ⟨w1.heap.size, 0, none⟩) 2 2 [97, 98] bytes_ab (const_row w1 [97, 98] (2, 3) (by decide)) (fun h => by cases h) (by decide) rfl E1.out)
  clear ok1 hdd hal
  go_wp2_with fail
  refine SV.out.mono ?_
  rintro e w2 ⟨rfl, ok2⟩
  have LD := Lib.hid (ok_load ok2 HT.out EB.out EL.out)
  have OK2 := Lib.hid ok2
  clear ok2 kc1 SV
  go_wp2_with fail
  refine LD.out.mono ?_
  rintro e w3 ⟨x3, rfl, ho3, hb3⟩
  obtain ⟨a3, c3, rfl, hr3, _, _, _⟩ := Ob.own_row ho3
  have HR3 := Lib.hid hr3
  have OK3 := Lib.hid (OK2.out.below hb3)
  have NA := Lib.hid (ok_names OK3.out EN.out)
  clear ho3 hb3 hr3 LD OK2
  go_wp2_with fail
  refine NA.out.mono ?_
  rintro e w4 ⟨a4, c4, rfl, hn4, hb4⟩
  obtain ⟨g, rfl, n4⟩ := nm_cell (b := 0) (off := 0) hn4 (j := 0) (by decide)
  have hnv : nmV [lettN 115 7] 0 = (⟨#[115, 48, 48, 48, 48, 48, 48, 48, 48, 55]⟩ : ByteArray) := txt_s7
  rw [hnv] at n4
  have kc3 := conv_at (cap := c3) (HR3.out.keep hb4)
  rw [show ([97, 98] : List Int).length = 2 from rfl, txt_ab] at kc3
  have FR := Lib.hid ((OK3.out.below hb4).frame)
  clear hn4 hb4 hnv NA
  go_wp2
  go_ret
  exact ⟨rfl, FR.out⟩
end Go.Proofs.YtdonkmkjblofpaaGreatDoor.Sn
/-! ## Ns -/
namespace Go.Proofs.YtdonkmkjblofpaaGreatDoor.Sn
open Go.RowKit Go.Sort Dx Sx Dk Wl
set_option linter.unusedVariables false
set_option linter.unusedSimpArgs false
set_option maxRecDepth 100000 in
set_option maxHeartbeats 1000000 in
theorem ssame_any (a : Option Addr) (la ca : Nat) (za : List Int) (b : Option Addr) (lb cb : Nat) (zb : List Int) (w : World) (ra : Fr.HasRow .u8 w a la za) (rb : Fr.HasRow .u8 w b lb zb) :
    Calls Tryz.prog 20 #[.slice a la ca, .slice b lb cb] w fun e w' => e = .returned (.bool (sameB (za.take la) (zb.take lb))) ∧ Below w.heap.size w w' := by
  have lA := Dk.take_len ra; have lB := Dk.take_len rb
  have hm := ra.2.1; have hm2 := rb.2.1
  by_cases hl : la = lb
  · subst hl
    have RA := Lib.hid ra; have RB := Lib.hid rb; have LA := Lib.hid lA; have LB := Lib.hid lB
    clear ra rb lA lB hm2
    go_enter Tryz.func20, Tryz.ntmps20
    go_wp2
    go_loopg [13] la (fun m i wr => ∃ k : Nat, k + m = la ∧ i = .int .i64 (k : Int) ∧ Hid (∀ j, j < k → za.getD j 0 = zb.getD j 0) ∧ Hid (Below w.heap.size w wr))
    case atStart => exact ⟨0, by omega, rfl, Lib.hid fun j hj => absurd hj (Nat.not_lt_zero _), Lib.hid (Below.refl _ _)⟩
    case round =>
      obtain ⟨k, hk, rfl, HP, HB⟩ := hrel
      by_cases hlt : k < la
      · obtain ⟨b1, o1, e1, hc1⟩ := (RA.out.keep HB.out).2.2 (by omega)
        obtain ⟨b2, o2, e2, hc2⟩ := (RB.out.keep HB.out).2.2 (by omega)
        have c1 := hc1 k hlt; have c2 := hc2 k hlt
        have hne := fun h => sameB_ne hlt LA.out LB.out (k := k) h
        have hp := HP.out
        by_cases hxy : za.getD k 0 = zb.getD k 0
        · have hp2 : ∀ j, j < k + 1 → za.getD j 0 = zb.getD j 0 := fun j hj => by
            rcases Nat.lt_or_ge j k with h | h
            · exact hp j h
            · have : j = k := by omega
              subst this; exact hxy
          rw [hxy] at c1
          subst e1 e2
          have HP2 := Lib.hid hp2
          generalize zb.getD k 0 = y at *
          clear hc1 hc2 hne hp hp2 hxy
          go_wp2
          go_quiet (fail)
          go_wp2
          go_roundg (la - (k + 1))
          case measure => omega
          case rel => exact ⟨k + 1, by omega, by go_num, HP2, Lib.hid (below_drewN HB.out _)⟩
        · have hf := hne hxy
          have HF := Lib.hid hf
          obtain ⟨x, hx⟩ : ∃ x, za.getD k 0 = x := ⟨_, rfl⟩
          obtain ⟨y, hy⟩ : ∃ y, zb.getD k 0 = y := ⟨_, rfl⟩
          rw [hx] at c1 hxy; rw [hy] at c2 hxy
          have t1 : (x == y) = false := by simpa using hxy
          have t2 : (x != y) = true := by simpa using hxy
          subst e1 e2
          clear hc1 hc2 hne hp hf hx hy hxy
          go_wp2
          go_quiet (fail)
          go_wp2
          go_ret
          exact ⟨by rw [HF.out] <;> rfl, below_drewN HB.out _⟩
      · have hkl : k = la := by omega
        have ht : sameB (za.take la) (zb.take la) = true := sameB_eq LA.out LB.out (by rw [← hkl]; exact HP.out)
        have HT := Lib.hid ht
        clear ht hkl
        go_wp2
        go_ret
        exact ⟨by rw [HT.out] <;> rfl, HB.out⟩
  · have hf : sameB (za.take la) (zb.take lb) = false := sameB_len (by rw [lA, lB]; exact hl)
    have t1 : ((la : Int) == (lb : Int)) = false := by simp; omega
    have t2 : (la == lb) = false := by simpa using hl
    have t3 : ((la : Int) != (lb : Int)) = true := by simp; omega
    have HF := Lib.hid hf
    clear ra rb lA lB hf hl
    go_enter Tryz.func20, Tryz.ntmps20
    go_wp2
    go_ret
    exact ⟨by rw [HF.out] <;> rfl, Below.refl _ _⟩

/-- One of the records in memory. -/
theorem was_at {N : Nat} {w : World} {R : List (List Int)} {n i : Nat} {a : Option Addr} {cp : Nat} (h : WasOk N w R n (.slice a n cp)) (hi : i < n) :
    ∃ g ad c, a = some ⟨g, 0, none⟩ ∧ w.cell? ⟨g, i, none⟩ = some (.slice ad (R.getD i []).length c) ∧ Fr.HasRow .u8 w ad (R.getD i []).length (R.getD i []) := by
  obtain ⟨vs, h1, h2⟩ := h
  obtain ⟨u, e, hu⟩ := h2 i hi
  obtain ⟨ad, c, rfl, hr, _, _, _⟩ := Ob.own_row hu
  have h1' := h1
  rcases h1.2 with ⟨_, h0⟩ | ⟨g, cap, cur, ev, hb, hh, k1, k2, k3, k4⟩
  · omega
  · injection ev with e1 e2 e3
    subst e1 e3
    exact ⟨g, ad, c, rfl, by rw [World.ownsRow.cellAt h1' i (by omega)]; exact e, hr⟩
theorem ssame_self {ad ad' : Option Addr} {l c c' : Nat} {r : List Int} {w : World} (h : Fr.HasRow .u8 w ad l r) (h' : Fr.HasRow .u8 w ad' l r) : Calls Tryz.prog 20 #[.slice ad l c, .slice ad' l c'] w fun e w' => e = .returned (.bool true) ∧ Below w.heap.size w w' := by
  have := ssame_any ad l c r ad' l c' r w h h'
  rwa [sameB_self] at this
end Go.Proofs.YtdonkmkjblofpaaGreatDoor.Sn
/-! ## Nl -/
namespace Go.Proofs.YtdonkmkjblofpaaGreatDoor.Sn
open Go.RowKit Go.Sort Dx Sx Dk Wl
set_option linter.unusedVariables false
set_option linter.unusedSimpArgs false
theorem dec_bad {v : Int} {u : Nat} {l : List Int} (h : snm v = []) (hl : l.length < 4294967296) : decS v (encN u l) = ([], 11) := by
  have h4 : num4 ((encN u l).drop 4) = l.length := by rw [enc_drop4]; exact num4_le4 hl _
  unfold decS
  rw [if_neg (by rw [enc_length]; omega), enc_drop12, h4, if_neg (by omega), if_pos (.inr (.inl h))]
theorem dec_part {v : Int} {u : Nat} {l : List Int} (hl : l.length < 4294967296) {i : Nat} (hi : i < (encN u l).length) : decS v ((encN u l).take i) = ([], 10) := by
  have h4 : num4 ((encN u l).drop 4) = l.length := by rw [enc_drop4]; exact num4_le4 hl _
  rw [enc_length] at hi
  have hlen : ((encN u l).take i).length = i := by rw [List.length_take, enc_length]; omega
  unfold decS
  by_cases h : i < 12
  · rw [if_pos (by rw [hlen]; exact h)]
  · have hd : ((encN u l).take i).drop 4 = ((encN u l).drop 4).take (i - 4) := by rw [List.drop_take]
    rw [if_neg (by rw [hlen]; exact h), hd, num4_take (by omega), h4, if_pos (by rw [List.length_drop, hlen]; omega)]
theorem dec_more {v : Int} {u : Nat} {l : List Int} (hl : l.length < 4294967296) : decS v (encN u l ++ [0]) = ([], 11) := by
  have h4 : num4 ((encN u l ++ [0]).drop 4) = l.length := by
    rw [List.drop_append_of_le_length (by rw [enc_length]; omega), enc_drop4, List.append_assoc]; exact num4_le4 hl _
  unfold decS
  rw [if_neg (by rw [List.length_append, enc_length]; omega), h4, List.drop_append_of_le_length (by rw [enc_length]; omega), enc_drop12, if_neg (by simp), if_pos (.inl (by simp))]
theorem snm_inv {v : Int} (h : snm v ≠ []) : ∃ n : Nat, v = (n : Int) ∧ n ≤ 999999999 := by
  obtain ⟨h1, h2⟩ := snm_pos h
  obtain ⟨n, rfl⟩ := Int.eq_ofNat_of_zero_le h1
  exact ⟨n, rfl, by omega⟩
theorem dec_other {v o : Int} {l : List Int} (hv : snm v ≠ []) (hl : l.length < 4294967296) : ((decS o (encN (u32N v) l)).2 == 0) = (o == v) := by
  obtain ⟨n, rfl, hn⟩ := snm_inv hv
  rw [u32N_nat hn]
  by_cases ho : o = (n : Int)
  · subst ho
    rw [dec_enc hn hl]; simp
  · have h4 : num4 ((encN n l).drop 4) = l.length := by rw [enc_drop4]; exact num4_le4 hl _
    have : decS o (encN n l) = ([], 11) := by
      unfold decS
      rw [if_neg (by rw [enc_length]; omega), enc_drop12, h4, if_neg (by omega), if_pos]
      by_cases hs : snm o = []
      · exact .inr (.inl hs)
      · obtain ⟨m, rfl, hm⟩ := snm_inv hs
        refine .inr (.inr ?_)
        rw [enc_num n l (by omega), u32N_nat hm]
        intro e; exact ho (by rw [e])
    rw [this]
    simp [ho]
theorem dec_own {v : Int} {l : List Int} (hv : snm v ≠ []) (hl : l.length < 4294967296) : decS v (encN (u32N v) l) = (l, 0) := by
  obtain ⟨n, rfl, hn⟩ := snm_inv hv
  rw [u32N_nat hn]; exact dec_enc hn hl
end Go.Proofs.YtdonkmkjblofpaaGreatDoor.Sn

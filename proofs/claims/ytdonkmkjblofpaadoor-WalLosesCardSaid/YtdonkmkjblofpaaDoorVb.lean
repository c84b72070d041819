/-
  Layer 5: what Append leaves of a journal's files.
-/
import Derived.Test.YtdonkmkjblofpaaDoorVa
namespace Go.Proofs.YtdonkmkjblofpaaDoor.Wl
open Go.RowKit Go.Sort Dx Sx Dk
set_option linter.unusedVariables false
set_option linter.unusedSimpArgs false
def jst (D : List (List (List Int))) (c : List (List Int)) : List File := jfs 1 D [] ++ if c = [] then [] else [sf (1 + tot D) (flat c)]
theorem jst_safe (D : List (List (List Int))) (c : List (List Int)) : Allsafe (jst D c) := by
  intro f hf
  unfold jst at hf
  rcases List.mem_append.1 hf with hf | hf
  · exact jfs_safe _ _ _ f hf
  · split at hf
    · cases hf
    · rw [List.mem_singleton] at hf; subst hf; rfl
theorem jst_jfs {D : List (List (List Int))} {c : List (List Int)} (h : c ≠ []) : jst D c = jfs 1 (D ++ [c]) [] := by
  unfold jst; rw [if_neg h, jfs_snoc]; simp
theorem jst_used (D : List (List (List Int))) (c : List (List Int)) : used (jst D c) = sizeR (D.flatten ++ c) := by
  unfold jst
  rw [used_append, used_jfs, sizeR_append]
  split
  · rename_i h; rw [h]; rfl
  · simp only [used, sf]; unfold flat; rw [sizeR_frm]; rfl
theorem jst_len (D : List (List (List Int))) (c : List (List Int)) : (jst D c).length ≤ D.length + 1 := by
  have e : ∀ (C : List (List (List Int))) (n : Nat) (t : List Int), (jfs n C t).length = C.length := fun C => by
    induction C with
    | nil => intro n t; rfl
    | cons c r ih => intro n t; rw [jfs, List.length_cons, ih, List.length_cons]
  unfold jst
  rw [List.length_append, e]
  split <;> simp
/-- The pending frame, cut. -/
theorem cut_frame (keep : Int) (n : Nat) (c : List (List Int)) (r : List Int) (hr : r.length ≤ 65536) (hb : Bytes r) :
    (∃ t, one t = none ∧ Bytes t ∧ cut keep ⟨segN n, flat c ++ frm r, (flat c).length⟩ = sf n (flat c ++ t)) ∨ cut keep ⟨segN n, flat c ++ frm r, (flat c).length⟩ = sf n (flat (c ++ [r])) := by
  obtain ⟨k, hk⟩ : ∃ k, cutN keep ⟨segN n, flat c ++ frm r, (flat c).length⟩ = (flat c).length + k := ⟨_, rfl⟩
  have hle := cutN_le (keep := keep) (f := ⟨segN n, flat c ++ frm r, (flat c).length⟩) (by simp)
  rw [hk] at hle
  simp only [List.length_append] at hle
  have e : cut keep ⟨segN n, flat c ++ frm r, (flat c).length⟩ = sf n (flat c ++ (frm r).take k) := by
    unfold cut sf
    rw [hk]
    simp only [File.mk.injEq, true_and]
    have e1 : (flat c ++ frm r).take ((flat c).length + k) = flat c ++ (frm r).take k := by rw [List.take_append, List.take_of_length_le (by omega), Nat.add_sub_cancel_left]
    rw [e1]
    exact ⟨rfl, by rw [List.length_append, List.length_take]; omega⟩
  rw [e]
  by_cases h : k < (frm r).length
  · exact .inl ⟨_, one_short hr (by rwa [frm_length] at h), bytes_take (bytes_frm hb) k, rfl⟩
  · right
    rw [List.take_of_length_le (by omega)]
    unfold flat; rw [List.flatMap_append]; simp
/-- How the power leaves a journal while r is appended. -/
def Torn (D : List (List (List Int))) (c : List (List Int)) (r : List Int) (S : St) : Prop := S.down = true ∧ ((∃ t, one t = none ∧ Bytes t ∧ S.fs = jfs 1 (D ++ [c]) t) ∨ S.fs = jfs 1 (D ++ [c ++ [r]]) [])
theorem torn_of {D : List (List (List Int))} {c : List (List Int)} {r : List Int} {S1 : St} {keep : Int} (h : S1.down = true) (hr : r.length ≤ 65536) (hb : Bytes r)
    (e : S1.fs = jfs 1 D [] ++ [cut keep ⟨segN (1 + tot D), flat c ++ frm r, (flat c).length⟩]) : Torn D c r S1 := by
  refine ⟨h, ?_⟩
  rcases cut_frame keep (1 + tot D) c r hr hb with ⟨t, t1, t2, t3⟩ | t3
  · exact .inl ⟨t, t1, t2, by rw [e, t3, jfs_snoc]⟩
  · exact .inr (by rw [e, t3, jfs_snoc]; simp)
section
variable {S : St} {D : List (List (List Int))} {c : List (List Int)} {r : List Int}
theorem put_j (hfs : S.fs = jst D c) (hg : Dk.Good S) (hm : 1 + tot D ≤ 999999999) (hpos : ∀ d ∈ D, d ≠ []) :
    fileOf (segN (1 + tot D)) S.fs = ⟨segN (1 + tot D), flat c, (flat c).length⟩ ∧ (c = [] → Dk.look (segN (1 + tot D)) S.fs = none) ∧ (c ≠ [] → (Dk.look (segN (1 + tot D)) S.fs).isNone = false) ∧
    ∀ x : File, x.nm = segN (1 + tot D) → Dk.put x S.fs = jfs 1 D [] ++ [x] := by
  by_cases hc : c = []
  · have e : S.fs = jfs 1 D [] := by rw [hfs]; unfold jst; rw [if_pos hc]; simp
    have hb : ∀ g ∈ jfs 1 D [], bytesBefore g.nm (segN (1 + tot D)) = true := by
      intro g hg'
      have hn : g.nm ∈ (jfs 1 D []).map File.nm := List.mem_map_of_mem hg'
      rw [jfs_names] at hn
      obtain ⟨n, h1, h2⟩ := List.mem_map.1 hn
      rw [← h2]
      refine seg_before ?_ hm
      have key : ∀ (C : List (List (List Int))) (m : Nat), (∀ d ∈ C, d ≠ []) → ∀ x ∈ fsts m C, x < m + tot C := by
        intro C
        induction C with
        | nil => intro m _ x hx; cases hx
        | cons d C ih =>
          intro m hd x hx
          rw [fsts] at hx
          have hdl : 0 < d.length := List.length_pos_iff.2 (hd d (by simp))
          rcases List.mem_cons.1 hx with rfl | hx
          · rw [tot]; omega
          · have := ih (m + d.length) (fun y hy => hd y (by simp [hy])) x hx
            rw [tot]; omega
      exact key D 1 hpos n h1
    obtain ⟨k1, _⟩ := put_new (x := ⟨segN (1 + tot D), [], 0⟩) hb
    have k1' : Dk.look (segN (1 + tot D)) S.fs = none := by rw [e]; exact k1
    refine ⟨?_, fun _ => k1', fun h => absurd hc h, fun x hx => ?_⟩
    · unfold fileOf; rw [k1', hc]; rfl
    · rw [e]; exact (put_new (x := x) (by rw [hx]; exact hb)).2
  · have e : S.fs = jfs 1 D [] ++ [sf (1 + tot D) (flat c)] := by rw [hfs]; unfold jst; rw [if_neg hc]
    have hl : Dk.look (segN (1 + tot D)) S.fs = some (sf (1 + tot D) (flat c)) := by
      have := look_mid (pre := jfs 1 D []) (post := []) (f := sf (1 + tot D) (flat c)) (e ▸ good_dis hg)
      rw [e]; exact this
    refine ⟨?_, fun h => absurd h hc, fun _ => by rw [hl]; rfl, fun x hx => ?_⟩
    · unfold fileOf; rw [hl]; rfl
    · rw [e]; exact put_last (e ▸ hg.sorted) hx
/-- A frame is written to the segment behind D, of which c are there. -/
theorem write_j (hfs : S.fs = jst D c) (hg : Dk.Good S) (hup : S.down = false) (hm : 1 + tot D ≤ 999999999) (hpos : ∀ d ∈ D, d ≠ []) (hr : r.length ≤ 65536) (hb : Bytes r)
    (hsz : sizeR c + (8 + r.length) ≤ 1048576) (hfew : D.length < 16) :
    (S.room < ((sizeR (D.flatten ++ c) + (8 + r.length) : Nat) : Int) → ∀ f, writeS (nameS (1 + tot D)) (frm r) f S = (22, f, S)) ∧
    (((sizeR (D.flatten ++ c) + (8 + r.length) : Nat) : Int) ≤ S.room → ∃ x S', (∀ f, writeS (nameS (1 + tot D)) (frm r) f S = (x, x, S')) ∧ Ends S x S' ∧ (x = 0 → S'.fs = jst D (c ++ [r])) ∧ (x ≠ 0 → Torn D c r S')) := by
  have hnm : nameS (1 + tot D) = segN (1 + tot D) := if_pos ⟨by omega, hm⟩
  obtain ⟨p1, p2, p3, p4⟩ := put_j hfs hg hm hpos
  have hne : segN (1 + tot D) ≠ [] := by unfold segN; simp
  have hrd : ready (segN (1 + tot D)) S = 0 := by unfold ready; rw [bad_seg, hup]; rfl
  have hfl : (flat c).length = sizeR c := sizeR_frm c
  have hu : used S.fs = sizeR (D.flatten ++ c) := by rw [hfs, jst_used]
  have hfull : ¬ ((Dk.look (segN (1 + tot D)) S.fs).isNone = true ∧ 16 ≤ S.fs.length) := by
    rintro ⟨h1, h2⟩
    by_cases hc : c = []
    · have : S.fs.length = D.length := by
        rw [hfs]; unfold jst; rw [if_pos hc]; simp
        have e : ∀ (C : List (List (List Int))) (n : Nat) (t : List Int), (jfs n C t).length = C.length := fun C => by
          induction C with
          | nil => intro n t; rfl
          | cons c r ih => intro n t; rw [jfs, List.length_cons, ih, List.length_cons]
        exact e _ _ _
      omega
    · rw [p3 hc] at h1; cases h1
  have hae : appErr (segN (1 + tot D)) (frm r).length S = if S.room < ((sizeR (D.flatten ++ c) + (8 + r.length) : Nat) : Int) then 22 else 0 := by
    unfold appErr
    rw [hrd, if_neg (by decide), p1, if_neg (by simp only [hfl, frm_length]; omega), if_neg hfull, hu, frm_length]
  rw [hnm]
  constructor
  · intro hroom f
    rw [if_pos hroom] at hae
    have ha : appendS (segN (1 + tot D)) (frm r) S = (22, S) := by unfold appendS; rw [hae, if_pos (by decide)]
    unfold writeS
    rw [if_neg hne, ha, if_pos (.inl rfl)]
  · intro hroom
    rw [if_neg (by omega)] at hae
    obtain ⟨F, hF⟩ : ∃ F : File, (⟨segN (1 + tot D), flat c ++ frm r, (flat c).length⟩ : File) = F := ⟨_, rfl⟩
    have hFn : F.nm = segN (1 + tot D) := by rw [← hF]
    have hput : Dk.put (longer (fileOf (segN (1 + tot D)) S.fs) (frm r)) S.fs = jfs 1 D [] ++ [F] := by
      rw [p1, ← hF]; exact p4 _ rfl
    have ha : appendS (segN (1 + tot D)) (frm r) S = (wcode S, wrote { S with fs := jfs 1 D [] ++ [F] }) := by unfold appendS; rw [hae, if_neg (by decide), hput]
    have hcuts : ∀ keep, (jfs 1 D [] ++ [F]).map (cut keep) = jfs 1 D [] ++ [cut keep F] := fun keep => by rw [List.map_append, cuts_safe (jfs_safe _ _ _)]; rfl
    have hdis : Dis (jfs 1 D [] ++ [F]) := by
      have g1 := good_append hg hae
      have g2 := good_dis g1
      rw [hput] at g2
      exact g2
    have offd : ∀ (S1 : St) (keep : Int), S1.fs = jfs 1 D [] ++ [F] → S1.down = false → (off keep S1).fs = jfs 1 D [] ++ [cut keep F] := fun S1 keep e1 e2 => by
      unfold off; rw [if_neg (by rw [e2]; decide)]
      show S1.fs.map (cut keep) = _
      rw [e1]; exact hcuts keep
    by_cases hf : failing S = true
    · have hw : wrote { S with fs := jfs 1 D [] ++ [F] } = off S.keep (tick { S with fs := jfs 1 D [] ++ [F] }) := by unfold wrote; rw [if_pos (show failing { S with fs := jfs 1 D [] ++ [F] } = true from hf)]
      have hcode : wcode S = 20 := by unfold wcode; rw [if_pos hf]
      refine ⟨20, wrote { S with fs := jfs 1 D [] ++ [F] }, fun f => ?_, ends_fail hf rfl rfl, fun h => absurd h (by decide), fun _ => ?_⟩
      · unfold writeS
        rw [if_neg hne, ha, hcode]; simp
      · rw [hw]
        exact torn_of (off_down _ _) hr hb (by rw [hF]; exact offd _ _ rfl hup)
    · have hf' : failing S = false := by simpa using hf
      have hw : wrote { S with fs := jfs 1 D [] ++ [F] } = tick { S with fs := jfs 1 D [] ++ [F] } := by unfold wrote; rw [if_neg (show ¬ failing { S with fs := jfs 1 D [] ++ [F] } = true from hf)]
      have hcode : wcode S = 0 := by unfold wcode; rw [if_neg hf]
      obtain ⟨S1, hS1⟩ : ∃ S1, tick { S with fs := jfs 1 D [] ++ [F] } = S1 := ⟨_, rfl⟩
      rw [hS1] at hw
      have f1 : S1.fs = jfs 1 D [] ++ [F] := by rw [← hS1]; rfl
      have u1 : S1.down = false := by rw [← hS1]; exact hup
      have en1 : Ends S 0 S1 := by rw [← hS1]; exact ends_ok hup rfl rfl
      have hth : there (segN (1 + tot D)) S1 = 0 := by rw [← hFn]; exact there_mid f1 u1 (f1 ▸ hdis) (by rw [hFn]; exact bad_seg _)
      have hsy : syncS (segN (1 + tot D)) S1 = if failing S1 = true then (20, wrote S1) else (0, { tick S1 with fs := upd (segN (1 + tot D)) synced S1.fs }) := by
        unfold syncS; rw [hth, if_neg (by decide)]
      refine ⟨(syncS (segN (1 + tot D)) S1).1, (syncS (segN (1 + tot D)) S1).2, fun f => ?_, ?_, ?_, ?_⟩
      · unfold writeS
        rw [if_neg hne, ha, hcode, hw]; simp
      · rw [hsy]
        by_cases hf1 : failing S1 = true
        · rw [if_pos hf1]; exact en1.trans (ends_fail hf1 rfl rfl)
        · rw [if_neg hf1]; exact en1.trans (ends_ok u1 rfl rfl)
      · rw [hsy]
        by_cases hf1 : failing S1 = true
        · rw [if_pos hf1]; intro h; simp at h
        · rw [if_neg hf1]; intro _
          show upd (segN (1 + tot D)) synced S1.fs = _
          have := upd_mid (pre := jfs 1 D []) (post := []) (f := F) synced hdis
          rw [f1, ← hFn, this, jst_jfs (by simp), jfs_snoc, ← hF]
          simp [synced, sf, flat, List.flatMap_append]
      · rw [hsy]
        by_cases hf1 : failing S1 = true
        · rw [if_pos hf1]; intro _
          have hw1 : wrote S1 = off S1.keep (tick S1) := by unfold wrote; rw [if_pos hf1]
          show Torn D c r (wrote S1)
          rw [hw1]
          exact torn_of (off_down _ _) hr hb (by rw [hF]; exact offd _ _ f1 u1)
        · rw [if_neg hf1]; intro h; exact absurd rfl h
end
/-- A journal that is open, with its power on. -/
structure Jn (per : Int) (D : List (List (List Int))) (c : List (List Int)) (S : St) : Prop where
  fs : S.fs = jst D c
  up : S.down = false
  none : c = [] → D = []
  full : ∀ d ∈ D, (d.length : Int) = per
  last : (c.length : Int) ≤ per
  ok : Rok (D.flatten ++ c)
/-- The segment that the next record goes to: the full ones ahead of it, what is there of it. -/
def nxD (per : Int) (D : List (List (List Int))) (c : List (List Int)) : List (List (List Int)) := if (c.length : Int) ≥ per then D ++ [c] else D
def nxc (per : Int) (c : List (List Int)) : List (List Int) := if (c.length : Int) ≥ per then [] else c
theorem nx_flat (per : Int) (D : List (List (List Int))) (c : List (List Int)) : (nxD per D c).flatten ++ nxc per c = D.flatten ++ c := by
  unfold nxD nxc; split <;> simp
theorem app_j {per : Int} {D : List (List (List Int))} {c : List (List Int)} {r : List Int} {S : St} (h : Jn per D c S) (hg : Dk.Good S) (hper : 1 ≤ per) (hm : 1 + (D.flatten ++ c).length ≤ 999999999) (hr : r.length ≤ 65536) (hb : Bytes r)
    (hsz : sizeR (D.flatten ++ c) + (8 + r.length) ≤ 1048576) (hfew : (nxD per D c).length < 16) :
    (S.room < ((sizeR (D.flatten ++ c) + (8 + r.length) : Nat) : Int) → appW r per (1 + tot D + c.length) (1 + tot D) 0 S = ((0, 22), 1 + tot D + c.length, 1 + tot D, 0, S)) ∧
    (((sizeR (D.flatten ++ c) + (8 + r.length) : Nat) : Int) ≤ S.room → ∃ x S', Ends S x S' ∧
      (x = 0 → appW r per (1 + tot D + c.length) (1 + tot D) 0 S = ((((1 + tot D + c.length : Nat) : Int), 0), 1 + tot D + c.length + 1, 1 + tot (nxD per D c), 0, S') ∧ Jn per (nxD per D c) (nxc per c ++ [r]) S') ∧
      (x ≠ 0 → appW r per (1 + tot D + c.length) (1 + tot D) 0 S = ((0, 20), 1 + tot D + c.length, 1 + tot D, 20, S') ∧ Torn (nxD per D c) (nxc per c) r S')) := by
  obtain ⟨h1, h2, h3, h4, h5, h6⟩ := h
  have hpos : ∀ d ∈ nxD per D c, d ≠ [] := by
    intro d hd e
    unfold nxD at hd
    have key : ∀ d ∈ D, d ≠ [] := fun d hd e => by have := h4 d hd; rw [e] at this; simp at this; omega
    split at hd
    · rename_i hge
      rcases List.mem_append.1 hd with hd | hd
      · exact key d hd e
      · rw [List.mem_singleton] at hd; subst hd; rw [e] at hge; simp at hge; omega
    · exact key d hd e
  have hfs : S.fs = jst (nxD per D c) (nxc per c) := by
    rw [h1]; unfold nxD nxc
    split
    · rename_i hge
      have hc : c ≠ [] := fun e => by rw [e] at hge; simp at hge; omega
      rw [jst_jfs hc]; unfold jst; simp
    · rfl
  have hseg : segOf per (1 + tot D + c.length) (1 + tot D) = 1 + tot (nxD per D c) := by
    unfold segOf nxD
    by_cases hge : (c.length : Int) ≥ per
    · rw [if_pos (by omega), if_pos hge, tot_snoc]; omega
    · rw [if_neg (by omega), if_neg hge]
  have hfl := nx_flat per D c
  have htot : tot (nxD per D c) ≤ (D.flatten ++ c).length := by rw [← hfl, tot_flat, List.length_append]; omega
  have hsz2 : sizeR (nxc per c) + (8 + r.length) ≤ 1048576 := by
    rw [← hfl, sizeR_append] at hsz; omega
  obtain ⟨w1, w2⟩ := write_j hfs hg h2 (by omega) hpos hr hb hsz2 hfew
  rw [hfl] at w1 w2
  constructor
  · intro hroom
    have := w1 hroom 0
    unfold appW
    rw [if_neg (by omega), if_neg (by decide), hseg, this]; simp
  · intro hroom
    obtain ⟨x, S', e1, e2, e3, e4⟩ := w2 hroom
    refine ⟨x, S', e2, fun hx => ?_, fun hx => ?_⟩
    · subst hx
      refine ⟨?_, e3 rfl, ?_, fun h => by simp at h, ?_, ?_, ?_⟩
      · unfold appW
        rw [if_neg (by omega), if_neg (by decide), hseg, e1 0]; simp
      · rcases e2.1 with h | h
        · exact h.2
        · exact absurd h.1 (by decide)
      · intro d hd
        unfold nxD at hd
        split at hd
        · rcases List.mem_append.1 hd with hd | hd
          · exact h4 d hd
          · rw [List.mem_singleton] at hd; subst hd; omega
        · exact h4 d hd
      · unfold nxc; split <;> simp <;> omega
      · rw [← List.append_assoc, hfl]
        intro y hy
        rcases List.mem_append.1 hy with hy | hy
        · exact h6 y hy
        · rw [List.mem_singleton] at hy; subst hy; exact ⟨hr, hb⟩
    · have hx20 : x = 20 := by
        rcases e2.1 with h | h
        · exact absurd h.1 hx
        · exact h.1
      subst hx20
      refine ⟨?_, e4 (by decide)⟩
      unfold appW
      rw [if_neg (by omega), if_neg (by decide), hseg, e1 0]; simp
end Go.Proofs.YtdonkmkjblofpaaDoor.Wl

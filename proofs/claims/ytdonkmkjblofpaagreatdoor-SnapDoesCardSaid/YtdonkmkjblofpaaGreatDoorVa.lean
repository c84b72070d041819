/-
  Layer 5: a journal on a disk, as mathematics: its files, what the opening and Append leave.
-/
import Derived.Test.YtdonkmkjblofpaaGreatDoorWr
namespace Go.Proofs.YtdonkmkjblofpaaGreatDoor.Wl
open Go.RowKit Go.Sort Dx Sx Dk
set_option linter.unusedVariables false
set_option linter.unusedSimpArgs false

/-! ### the order of names -/
theorem dgt_val {d : Nat} (h : d < 10) : (dgt d).toNat = 48 + d := by unfold dgt; rw [UInt8.toNat_ofNat']; omega
theorem low_before : ∀ (k a b : Nat), a % 10 ^ k < b % 10 ^ k → bytesBefore (low k a) (low k b) = true
  | 0, a, b, h => by simp [Nat.mod_one] at h
  | k + 1, a, b, h => by
    rw [low_cons, low_cons]
    rw [Nat.mod_pow_succ, Nat.mod_pow_succ] at h
    have ha := dgt_val (show a / 10 ^ k % 10 < 10 by omega)
    have hb := dgt_val (show b / 10 ^ k % 10 < 10 by omega)
    have hp : 0 < 10 ^ k := Nat.pow_pos (by omega)
    have h1 : a % 10 ^ k < 10 ^ k := Nat.mod_lt _ hp
    have h2 : b % 10 ^ k < 10 ^ k := Nat.mod_lt _ hp
    generalize a / 10 ^ k % 10 = x at *
    generalize b / 10 ^ k % 10 = y at *
    rcases Nat.lt_trichotomy x y with hxy | hxy | hxy
    · unfold bytesBefore
      rw [decide_eq_true (show dgt x < dgt y by rw [UInt8.lt_iff_toNat_lt]; omega)]; rfl
    · subst hxy
      have := low_before k a b (by omega)
      unfold bytesBefore
      rw [this]; simp
    · exfalso
      have h3 : 10 ^ k * (y + 1) ≤ 10 ^ k * x := Nat.mul_le_mul_left _ hxy
      rw [Nat.mul_add] at h3
      omega
theorem lett_before (c : UInt8) {a b : Nat} (h : a < b) (hb : b ≤ 999999999) : bytesBefore (lettN c a) (lettN c b) = true := by
  unfold lettN bytesBefore
  rw [low_before 9 a b (by omega)]; simp
theorem seg_before {a b : Nat} (h : a < b) (hb : b ≤ 999999999) : bytesBefore (segN a) (segN b) = true := lett_before 106 h hb
theorem before_asym {a b : List UInt8} (h : bytesBefore a b = true) : bytesBefore b a = false := by
  rw [Bool.eq_false_iff]; intro h2
  have := WideShapes.bytes_trans _ _ _ h h2
  rw [WideAt.bytes_irrefl] at this; cases this
theorem bad_seg (n : Nat) : badName (segN n) = false := by
  unfold badName segN; rw [List.length_cons, low_length]; decide

/-! ### a file in the midst -/
def Dis (fs : List File) : Prop := fs.Pairwise fun a b => a.nm ≠ b.nm
theorem dis_iff {fs : List File} : Dis fs ↔ (fs.map File.nm).Pairwise (· ≠ ·) := List.pairwise_map.symm
theorem dis_same {fs fs' : List File} (h : Dis fs) (e : fs'.map File.nm = fs.map File.nm) : Dis fs' := by rw [dis_iff, e]; exact dis_iff.1 h
theorem good_dis {S : St} (h : Dk.Good S) : Dis S.fs := Dk.distinct h.sorted
theorem look_mid {pre post : List File} {f : File} (h : Dis (pre ++ f :: post)) : Dk.look f.nm (pre ++ f :: post) = some f := look_of_mem h (by simp) rfl
theorem dis_mid {pre post : List File} {f : File} (h : Dis (pre ++ f :: post)) : (∀ g ∈ pre, g.nm ≠ f.nm) ∧ (∀ g ∈ post, g.nm ≠ f.nm) := by
  obtain ⟨_, h2, h3⟩ := List.pairwise_append.1 h
  exact ⟨fun g hg => h3 g hg f (by simp), fun g hg e => (List.pairwise_cons.1 h2).1 g hg e.symm⟩
theorem upd_none {k : List UInt8} {φ : File → File} {fs : List File} (h : ∀ g ∈ fs, g.nm ≠ k) : upd k φ fs = fs := by
  unfold upd
  conv => rhs; rw [← List.map_id fs]
  exact List.map_congr_left fun g hg => by rw [if_neg (h g hg)]; rfl
theorem upd_mid {pre post : List File} {f : File} (φ : File → File) (h : Dis (pre ++ f :: post)) : upd f.nm φ (pre ++ f :: post) = pre ++ φ f :: post := by
  obtain ⟨h1, h2⟩ := dis_mid h
  have e : upd f.nm φ (pre ++ f :: post) = upd f.nm φ pre ++ (if f.nm = f.nm then φ f else f) :: upd f.nm φ post := by simp [upd]
  rw [e, upd_none h1, upd_none h2, if_pos rfl]
theorem del_last {pre : List File} {f : File} (h : Dis (pre ++ [f])) : del f.nm (pre ++ [f]) = pre := by
  obtain ⟨h1, _⟩ := dis_mid h
  unfold del
  rw [List.filter_append]
  have e : pre.filter (fun x => !(x.nm == f.nm)) = pre := by
    rw [List.filter_eq_self]; intro g hg; simp [h1 g hg]
  rw [e]; simp
theorem ins_last {x : File} : ∀ {fs : List File}, (∀ g ∈ fs, bytesBefore g.nm x.nm = true) → ins x fs = fs ++ [x]
  | [], _ => rfl
  | y :: r, h => by
    unfold ins
    rw [before_asym (h y (by simp)), if_neg (by decide), ins_last fun g hg => h g (by simp [hg])]
    rfl
theorem put_last {pre : List File} {f x : File} (h : (pre ++ [f]).Pairwise fun a b => bytesBefore a.nm b.nm = true) (e : x.nm = f.nm) : put x (pre ++ [f]) = pre ++ [x] := by
  unfold put
  rw [e, del_last (Dk.distinct h)]
  exact ins_last fun g hg => by rw [e]; exact (List.pairwise_append.1 h).2.2 g hg f (by simp)
theorem put_new {pre : List File} {x : File} (h : ∀ g ∈ pre, bytesBefore g.nm x.nm = true) : Dk.look x.nm pre = none ∧ put x pre = pre ++ [x] := by
  have hn : ∀ g ∈ pre, g.nm ≠ x.nm := fun g hg => before_ne (h g hg)
  have e : Dk.look x.nm pre = none := by
    cases hl : Dk.look x.nm pre with
    | none => rfl
    | some f => exact absurd (look_some hl).2 (hn f (look_some hl).1)
  exact ⟨e, by unfold put; rw [del_none e, ins_last h]⟩

/-! ### all safe -/
def Allsafe (fs : List File) : Prop := ∀ f ∈ fs, f.s = f.l.length
theorem cut_safe {keep : Int} {f : File} (h : f.s = f.l.length) : cut keep f = f := by
  have : cutN keep f = f.l.length := by unfold cutN; omega
  unfold cut; rw [this, List.take_length]
  cases f; simp at h ⊢; exact h.symm
theorem cuts_safe {keep : Int} {fs : List File} (h : Allsafe fs) : fs.map (cut keep) = fs := by
  conv => rhs; rw [← List.map_id fs]
  exact List.map_congr_left fun g hg => cut_safe (h g hg)
theorem off_fs (keep : Int) {S : St} (h : Allsafe S.fs) : (off keep S).fs = S.fs := by
  unfold off
  by_cases hd : S.down = true
  · rw [if_pos hd]
  · rw [if_neg hd]; exact cuts_safe h
theorem off_down (keep : Int) (S : St) : (off keep S).down = true := by
  unfold off
  by_cases hd : S.down = true
  · rw [if_pos hd]; exact hd
  · rw [if_neg hd]
/-- How a call with a raw write ended. -/
def Ends (S : St) (r : Int) (S' : St) : Prop := (r = 0 ∧ S'.down = false ∨ r = 20 ∧ S'.down = true ∧ S.arm ≠ 0) ∧ (S.arm = 0 → S'.arm = 0) ∧ S'.room = S.room
theorem Ends.trans {S S1 S2 : St} {r : Int} (h : Ends S 0 S1) (k : Ends S1 r S2) : Ends S r S2 := by
  obtain ⟨h1, h2, h3⟩ := h
  obtain ⟨k1, k2, k3⟩ := k
  refine ⟨?_, fun h => k2 (h2 h), k3.trans h3⟩
  rcases k1 with k1 | ⟨k1, k4, k5⟩
  · exact .inl k1
  · exact .inr ⟨k1, k4, fun h => k5 (h2 h)⟩
theorem off_room (keep : Int) (S : St) : (off keep S).room = S.room := by unfold off; split <;> rfl
theorem failing_arm {S : St} (h : failing S = true) : S.arm ≠ 0 := by
  unfold failing at h
  intro e; rw [e] at h; cases h
theorem ends_fail {S S0 : St} (hf : failing S = true) (hr : S0.room = S.room) (hk : failing S0 = failing S) : Ends S 20 (wrote S0) := by
  have e : wrote S0 = off S0.keep (tick S0) := by unfold wrote; rw [hk, hf]; rfl
  rw [e]
  exact ⟨.inr ⟨rfl, off_down _ _, failing_arm hf⟩, fun h => absurd h (failing_arm hf), by rw [off_room]; exact hr⟩
theorem ends_ok {S S' : St} (hd : S'.down = false) (ha : S'.arm = S.arm - 1) (hr : S'.room = S.room) : Ends S 0 S' := ⟨.inl ⟨rfl, hd⟩, fun h => by omega, hr⟩
theorem there_mid {pre post : List File} {f : File} {S : St} (hfs : S.fs = pre ++ f :: post) (hup : S.down = false) (hd : Dis S.fs) (hn : badName f.nm = false) : there f.nm S = 0 := by
  unfold there
  rw [hn, hup, hfs, look_mid (hfs ▸ hd)]; rfl
theorem read_mid {pre post : List File} {f : File} {S : St} (hfs : S.fs = pre ++ f :: post) (hup : S.down = false) (hd : Dis S.fs) (hn : badName f.nm = false) : readL f.nm S = f.l := by
  unfold readL fileOf
  rw [there_mid hfs hup hd hn, if_pos rfl, hfs, look_mid (hfs ▸ hd)]
theorem synced_safe {f : File} (h : f.s = f.l.length) : synced f = f := by cases f; simp at h; simp [synced, h]
theorem sync_mid {pre post : List File} {f : File} {S : St} (hfs : S.fs = pre ++ f :: post) (hup : S.down = false) (hd : Dis S.fs) (hs : Allsafe S.fs) (hn : badName f.nm = false) : (syncS f.nm S).2.fs = S.fs ∧ Ends S (syncS f.nm S).1 (syncS f.nm S).2 := by
  unfold syncS
  rw [there_mid hfs hup hd hn, if_neg (by decide)]
  by_cases hf : failing S = true
  · rw [if_pos hf]
    refine ⟨?_, ends_fail hf rfl rfl⟩
    show (wrote S).fs = _
    unfold wrote; rw [if_pos hf]
    exact off_fs _ hs
  · rw [if_neg hf]
    refine ⟨?_, ends_ok hup rfl rfl⟩
    show upd f.nm synced S.fs = _
    rw [hfs, upd_mid _ (hfs ▸ hd), synced_safe (hs f (by rw [hfs]; simp))]
theorem trunc_mid {pre post : List File} {f : File} {S : St} (hfs : S.fs = pre ++ f :: post) (hup : S.down = false) (hd : Dis S.fs) (hs : Allsafe S.fs) (hn : badName f.nm = false) {n : Nat} (hl : n ≤ f.l.length) :
    ((truncS f.nm (n : Nat) S).2.fs = S.fs ∧ (truncS f.nm (n : Nat) S).1 = 20 ∨ (truncS f.nm (n : Nat) S).2.fs = pre ++ ⟨f.nm, f.l.take n, n⟩ :: post ∧ (truncS f.nm (n : Nat) S).1 = 0) ∧ Ends S (truncS f.nm (n : Nat) S).1 (truncS f.nm (n : Nat) S).2 := by
  have hlen : lenOf f.nm S.fs = f.l.length := by unfold lenOf; rw [hfs, look_mid (hfs ▸ hd)]
  unfold truncS
  rw [there_mid hfs hup hd hn, if_neg (by decide), hlen, if_neg (by omega)]
  by_cases hf : failing S = true
  · rw [if_pos hf]
    refine ⟨.inl ⟨?_, rfl⟩, ends_fail hf rfl rfl⟩
    show (wrote S).fs = _
    unfold wrote; rw [if_pos hf]
    exact off_fs _ hs
  · rw [if_neg hf]
    refine ⟨.inr ⟨?_, rfl⟩, ends_ok hup rfl rfl⟩
    show upd f.nm (short (n : Int).toNat) S.fs = _
    rw [hfs, upd_mid _ (hfs ▸ hd)]
    have := hs f (by rw [hfs]; simp)
    unfold short
    rw [Int.toNat_natCast, this, Nat.min_eq_right hl]

/-! ### the files of a journal -/
def flat (c : List (List Int)) : List Int := c.flatMap frm
def sf (n : Nat) (l : List Int) : File := ⟨segN n, l, l.length⟩
/-- The segments, each of one of these chunks of records; behind the last one these bytes. -/
def jfs : Nat → List (List (List Int)) → List Int → List File
  | _, [], _ => []
  | n, c :: r, t => sf n (flat c ++ if r = [] then t else []) :: jfs (n + c.length) r t
def fsts : Nat → List (List (List Int)) → List Nat
  | _, [] => []
  | n, c :: r => n :: fsts (n + c.length) r
def tot : List (List (List Int)) → Nat
  | [] => 0
  | c :: r => c.length + tot r
theorem tot_flat : ∀ C, tot C = C.flatten.length
  | [] => rfl
  | c :: r => by rw [tot, tot_flat r, List.flatten_cons, List.length_append]
theorem tot_snoc (D : List (List (List Int))) (c : List (List Int)) : tot (D ++ [c]) = tot D + c.length := by rw [tot_flat, tot_flat]; simp
theorem jfs_snoc : ∀ (D : List (List (List Int))) (n : Nat) (c : List (List Int)) (t : List Int), jfs n (D ++ [c]) t = jfs n D [] ++ [sf (n + tot D) (flat c ++ t)]
  | [], n, c, t => by simp [jfs, tot]
  | d :: D, n, c, t => by
    rw [List.cons_append, jfs, jfs_snoc D, jfs, tot, if_neg (by simp), Nat.add_assoc]
    simp
theorem jfs_names : ∀ (C : List (List (List Int))) (n : Nat) (t : List Int), (jfs n C t).map File.nm = (fsts n C).map segN
  | [], _, _ => rfl
  | c :: r, n, t => by rw [jfs, fsts, List.map_cons, List.map_cons, jfs_names r]; rfl
theorem jfs_safe : ∀ (C : List (List (List Int))) (n : Nat) (t : List Int), Allsafe (jfs n C t)
  | [], _, _ => fun f hf => by cases hf
  | c :: r, n, t => fun f hf => by
    rw [jfs] at hf
    rcases List.mem_cons.1 hf with rfl | hf
    · rfl
    · exact jfs_safe r _ t f hf
theorem fsts_bound : ∀ (C : List (List (List Int))) (n : Nat), ∀ x ∈ fsts n C, n ≤ x ∧ x ≤ n + tot C
  | [], _ => fun x hx => by cases hx
  | c :: r, n => fun x hx => by
    rw [fsts] at hx
    rcases List.mem_cons.1 hx with rfl | hx
    · exact ⟨Nat.le_refl _, by omega⟩
    · have := fsts_bound r _ x hx
      rw [tot]; omega
theorem used_append (a b : List File) : used (a ++ b) = used a + used b := by
  induction a with
  | nil => simp [used]
  | cons f r ih => simp only [List.cons_append, used, ih]; omega
theorem used_jfs : ∀ (C : List (List (List Int))) (n : Nat), used (jfs n C []) = sizeR C.flatten
  | [], _ => rfl
  | c :: r, n => by
    rw [jfs, used, used_jfs r, List.flatten_cons, sizeR_append]
    simp only [sf, ite_self, List.append_nil]
    unfold flat
    rw [sizeR_frm]
def Rok (c : List (List Int)) : Prop := ∀ r ∈ c, r.length ≤ 65536 ∧ Bytes r

/-! ### the opening -/
theorem rd_mid {pre post : List File} {n : Nat} {c : List (List Int)} {t : List Int} {S : St} (hfs : S.fs = pre ++ sf n (flat c ++ t) :: post) (hup : S.down = false) (hd : Dis S.fs) (hs : Allsafe S.fs) (hc : Rok c) (ht : one t = none) :
    ∃ t', (t' = t ∨ t' = []) ∧ (rdS (segN n) S).2.fs = pre ++ sf n (flat c ++ t') :: post ∧ Ends S (rdS (segN n) S).1 (rdS (segN n) S).2 := by
  have hn : badName (sf n (flat c ++ t)).nm = false := bad_seg n
  have hr : readL (segN n) S = flat c ++ t := read_mid hfs hup hd hn
  have hrec : recsB (flat c ++ t) = c := recsB_app c t (fun r hr => (hc r hr).1) ht
  have hz : sizeR c = (flat c).length := (sizeR_frm c).symm
  unfold rdS
  rw [hr, hrec, hz]
  by_cases h0 : t = []
  · subst h0
    rw [if_neg (by simp)]
    obtain ⟨k1, k2⟩ := sync_mid hfs hup hd hs hn
    exact ⟨[], .inl rfl, k1.trans hfs, k2⟩
  · have h1 : 0 < t.length := List.length_pos_iff.2 h0
    rw [if_pos (by rw [List.length_append]; omega)]
    obtain ⟨k1, k2⟩ := trunc_mid hfs hup hd hs hn (n := (flat c).length) (by simp [sf])
    rcases k1 with ⟨k3, k4⟩ | ⟨k3, k4⟩
    · have k4' : (truncS (segN n) ((flat c).length : Nat) S).1 = 20 := k4
      rw [if_pos (by rw [k4']; decide)]
      exact ⟨t, .inl rfl, k3.trans hfs, k2⟩
    · have k4' : (truncS (segN n) ((flat c).length : Nat) S).1 = 0 := k4
      rw [if_neg (by rw [k4']; decide)]
      have e1 : (⟨(sf n (flat c ++ t)).nm, (sf n (flat c ++ t)).l.take (flat c).length, (flat c).length⟩ : File) = sf n (flat c ++ []) := by simp [sf]
      rw [e1] at k3
      have k2' : Ends S 0 (truncS (segN n) ((flat c).length : Nat) S).2 := by rw [← k4']; exact k2
      have hup' : (truncS (segN n) ((flat c).length : Nat) S).2.down = false := by
        rcases k2'.1 with h | h
        · exact h.2
        · exact absurd h.1 (by decide)
      have hfs' : (truncS (segN n) ((flat c).length : Nat) S).2.fs = pre ++ sf n (flat c ++ []) :: post := k3
      have hd' : Dis (truncS (segN n) ((flat c).length : Nat) S).2.fs := dis_same hd (by rw [hfs', hfs]; simp [sf])
      have hs' : Allsafe (truncS (segN n) ((flat c).length : Nat) S).2.fs := by
        intro f hf
        rw [hfs'] at hf
        rcases List.mem_append.1 hf with hf | hf
        · exact hs f (by rw [hfs]; simp [hf])
        · rcases List.mem_cons.1 hf with rfl | hf
          · rfl
          · exact hs f (by rw [hfs]; simp [hf])
      obtain ⟨j1, j2⟩ := sync_mid hfs' hup' hd' hs' (bad_seg n)
      exact ⟨[], .inr rfl, j1.trans hfs', k2'.trans j2⟩
theorem rdS_down {k : List UInt8} {S : St} (hn : badName k = false) (h : S.down = true) : rdS k S = (20, S) ∧ readL k S = [] := by
  have ht : there k S = 20 := by unfold there; rw [hn, h]; rfl
  have hr : readL k S = [] := by unfold readL; rw [ht, if_neg (by decide)]
  refine ⟨?_, hr⟩
  unfold rdS
  rw [hr, if_neg (by simp [sizeR])]
  unfold syncS
  rw [ht, if_pos (by decide)]
theorem recsB_nil : recsB [] = [] := rfl
theorem recsO_down : ∀ (ns : List Nat) (S : St), S.down = true → recsO ns S = []
  | [], _, _ => rfl
  | n :: r, S, h => by
    obtain ⟨h1, h2⟩ := rdS_down (bad_seg n) h
    rw [recsO, h1, h2, recsB_nil, recsO_down r S h]; rfl
structure Opened (S : St) (n : Nat) (C : List (List (List Int))) (t : List Int) (pre : List File) : Prop where
  chain : Chain (fsts n C) n S
  recs : (openS (fsts n C) S).1 = 0 → recsO (fsts n C) S = C.flatten
  len : (recsO (fsts n C) S).length ≤ tot C
  left : ∃ t', (t' = t ∨ t' = []) ∧ (openS (fsts n C) S).2.fs = pre ++ jfs n C t'
  ends : Ends S (openS (fsts n C) S).1 (openS (fsts n C) S).2
theorem ends_none (S : St) (h : S.down = false) : Ends S 0 S := ⟨.inl ⟨rfl, h⟩, fun h => h, rfl⟩
theorem one_nil : one [] = none := rfl
theorem bytes_nil : Bytes [] := fun j hj => by simp at hj
theorem open_j : ∀ (C : List (List (List Int))) (n : Nat) (t : List Int) (pre : List File) (S : St), S.fs = pre ++ jfs n C t → S.down = false → Dis S.fs → Allsafe S.fs → (∀ c ∈ C, Rok c) → Bytes t → one t = none → (∀ f ∈ S.fs, f.l.length ≤ 1048576) → 1 ≤ n → n + tot C ≤ 999999999 → Opened S n C t pre
  | [], n, t, pre, S, hfs, hup, hd, hs, hR, hb, ht, hz, h1, h2 => ⟨trivial, fun _ => rfl, Nat.zero_le _, ⟨t, .inl rfl, hfs⟩, ends_none S hup⟩
  | c :: r, n, t, pre, S, hfs, hup, hd, hs, hR, hb, ht, hz, h1, h2 => by
    rw [tot] at h2
    rw [jfs] at hfs
    obtain ⟨u, hu⟩ : ∃ u, (if r = [] then t else []) = u := ⟨_, rfl⟩
    rw [hu] at hfs
    have hu1 : one u = none ∧ Bytes u := by rw [← hu]; split; exact ⟨ht, hb⟩; exact ⟨rfl, bytes_nil⟩
    have hn : badName (sf n (flat c ++ u)).nm = false := bad_seg n
    have hth : there (segN n) S = 0 := there_mid hfs hup hd hn
    have hrd : readL (segN n) S = flat c ++ u := read_mid hfs hup hd hn
    have hrec : recsB (flat c ++ u) = c := recsB_app c u (fun x hx => (hR c (by simp) x hx).1) hu1.1
    obtain ⟨u', q1, q2, q3⟩ := rd_mid hfs hup hd hs (hR c (by simp)) hu1.1
    have hb4 : Bytes (flat c ++ u) := bytes_append (bytes_flat fun x hx => (hR c (by simp) x hx).2) hu1.2
    have hlen : (flat c ++ u).length ≤ 1048576 := hz (sf n (flat c ++ u)) (by rw [hfs]; simp)
    have hnm : (rdS (segN n) S).2.fs.map File.nm = S.fs.map File.nm := by rw [q2, hfs]; simp [sf]
    have hs2 : Allsafe (rdS (segN n) S).2.fs := by
      intro f hf
      rw [q2] at hf
      rcases List.mem_append.1 hf with hf | hf
      · exact hs f (by rw [hfs]; simp [hf])
      · rcases List.mem_cons.1 hf with rfl | hf
        · rfl
        · exact hs f (by rw [hfs]; simp [hf])
    by_cases h0 : (rdS (segN n) S).1 = 0
    · have hup2 : (rdS (segN n) S).2.down = false := by
        rcases q3.1 with h | h
        · exact h.2
        · rw [h0] at h; exact absurd h.1 (by decide)
      have hz2 : ∀ f ∈ (rdS (segN n) S).2.fs, f.l.length ≤ 1048576 := by
        intro f hf
        rw [q2] at hf
        rcases List.mem_append.1 hf with hf | hf
        · exact hz f (by rw [hfs]; simp [hf])
        · rcases List.mem_cons.1 hf with rfl | hf
          · rcases q1 with rfl | rfl
            · exact hlen
            · simp only [sf, List.append_nil]; rw [List.length_append] at hlen; omega
          · exact hz f (by rw [hfs]; simp [hf])
      have IH := open_j r (n + c.length) t (pre ++ [sf n (flat c ++ u')]) (rdS (segN n) S).2 (by rw [q2]; simp) hup2 (dis_same hd hnm) hs2 (fun x hx => hR x (by simp [hx])) hb ht hz2 (by omega) (by omega)
      refine ⟨?_, ?_, ?_, ?_, ?_⟩
      · rw [fsts, Chain]
        exact ⟨rfl, hth, by rw [hrd]; exact hb4, by rw [hrd]; exact hlen, ⟨h1, by omega⟩, fun _ => by rw [hrd, hrec]; exact IH.chain⟩
      · rw [fsts, openS, if_neg (by simpa using h0), recsO, hrd, hrec]
        intro h; rw [IH.recs h]; rfl
      · rw [fsts, recsO, hrd, hrec, List.length_append, tot]
        have := IH.len; omega
      · rw [fsts, openS, if_neg (by simpa using h0)]
        obtain ⟨t', k1, k2⟩ := IH.left
        by_cases hr : r = []
        · subst hr
          rw [if_pos rfl] at hu
          subst hu
          refine ⟨u', q1, ?_⟩
          rw [k2]; simp [jfs]
        · rw [if_neg hr] at hu
          refine ⟨t', k1, ?_⟩
          have : u' = [] := by rcases q1 with h | h <;> simp [h, ← hu]
          rw [k2, jfs, if_neg hr, this]; simp
      · rw [fsts, openS, if_neg (by simpa using h0)]
        have q3' : Ends S 0 (rdS (segN n) S).2 := by rw [← h0]; exact q3
        exact q3'.trans IH.ends
    · have h20 : (rdS (segN n) S).1 = 20 ∧ (rdS (segN n) S).2.down = true := by
        rcases q3.1 with h | h
        · exact absurd h.1 h0
        · exact ⟨h.1, h.2.1⟩
      refine ⟨?_, ?_, ?_, ?_, ?_⟩
      · rw [fsts, Chain]
        exact ⟨rfl, hth, by rw [hrd]; exact hb4, by rw [hrd]; exact hlen, ⟨h1, by omega⟩, fun h => absurd h h0⟩
      · rw [fsts, openS, if_pos (by simpa using h0)]
        intro h; exact absurd h h0
      · rw [fsts, recsO, hrd, hrec, recsO_down _ _ h20.2, List.length_append, tot]
        simp
      · rw [fsts, openS, if_pos (by simpa using h0)]
        by_cases hr : r = []
        · subst hr
          rw [if_pos rfl] at hu
          subst hu
          refine ⟨u', q1, ?_⟩
          rw [q2]; simp [jfs]
        · rw [if_neg hr] at hu
          refine ⟨t, .inl rfl, ?_⟩
          have : u' = [] := by rcases q1 with h | h <;> simp [h, ← hu]
          rw [q2, jfs, if_neg hr, this]
      · rw [fsts, openS, if_pos (by simpa using h0)]
        exact q3
end Go.Proofs.YtdonkmkjblofpaaGreatDoor.Wl

/-
  Layer 4: a disk as the document describes it, as plain mathematics: files by rising names, what each call returns and leaves. No program is imported.
-/
import Derived.WideAt
import Derived.WideShapes
import Derived.RowKit
import Derived.IntWalk
namespace Go.Proofs.YtdonkmkjblofpaaGreatDoor.Dk
set_option linter.unusedVariables false

structure File where
  nm : List UInt8
  l : List Int
  s : Nat
structure St where
  fs : List File
  room : Int
  down : Bool
  wr : Int
  arm : Nat
  keep : Int

def look (k : List UInt8) : List File → Option File
  | [] => none
  | f :: r => if f.nm = k then some f else look k r
def del (k : List UInt8) (fs : List File) : List File := fs.filter fun f => !(f.nm == k)
def ins (x : File) : List File → List File
  | [] => [x]
  | y :: r => if bytesBefore x.nm y.nm then x :: y :: r else y :: ins x r
def put (x : File) (fs : List File) : List File := ins x (del x.nm fs)
def upd (k : List UInt8) (φ : File → File) (fs : List File) : List File := fs.map fun f => if f.nm = k then φ f else f
def used : List File → Nat
  | [] => 0
  | f :: r => f.l.length + used r
def cutN (keep : Int) (f : File) : Nat := f.s + (min (max keep 0) ((f.l.length : Int) - (f.s : Int))).toNat
def cut (keep : Int) (f : File) : File := ⟨f.nm, f.l.take (cutN keep f), cutN keep f⟩
def inc (n : Int) : Int := RowKit.wrap64 (n + 1)
def off (keep : Int) (S : St) : St := if S.down then S else { S with fs := S.fs.map (cut keep), down := true, arm := 0 }
def tick (S : St) : St := { S with wr := inc S.wr, arm := S.arm - 1 }
/-- A raw write: its error, what it leaves. -/
def failing (S : St) : Bool := S.arm == 1
def wrote (S : St) : St := if failing S then off S.keep (tick S) else tick S
def wcode (S : St) : Int := if failing S then 20 else 0
def badName (k : List UInt8) : Bool := decide (k.length < 1) || decide (16 < k.length)
def ready (k : List UInt8) (S : St) : Int := if badName k then 1 else if S.down then 20 else 0
def there (k : List UInt8) (S : St) : Int := if badName k then 1 else if S.down then 20 else if (look k S.fs).isNone then 21 else 0

/-- What can be: names rise; no more than 16 of them; each of 1 to 16 bytes; what is safe is there. -/
structure Good (S : St) : Prop where
  sorted : S.fs.Pairwise fun a b => bytesBefore a.nm b.nm = true
  few : S.fs.length ≤ 16
  name : ∀ f ∈ S.fs, badName f.nm = false
  safe : ∀ f ∈ S.fs, f.s ≤ f.l.length
  size : ∀ f ∈ S.fs, f.l.length ≤ 1048576
  arm : S.arm ≤ 9223372036854775807

/-! ### lists by names -/
theorem before_ne {a b : List UInt8} (h : bytesBefore a b = true) : a ≠ b := by
  intro e; rw [e, WideAt.bytes_irrefl] at h; cases h
theorem distinct {fs : List File} (h : fs.Pairwise fun a b => bytesBefore a.nm b.nm = true) : fs.Pairwise fun a b => a.nm ≠ b.nm := h.imp fun h => before_ne h
theorem look_some {k : List UInt8} {f : File} : ∀ {fs : List File}, look k fs = some f → f ∈ fs ∧ f.nm = k
  | [], h => by cases h
  | y :: r, h => by
    unfold look at h
    split at h
    · cases h; exact ⟨by simp, by assumption⟩
    · obtain ⟨h1, h2⟩ := look_some h; exact ⟨by simp [h1], h2⟩
theorem look_none {k : List UInt8} : ∀ {fs : List File}, look k fs = none → ∀ f ∈ fs, f.nm ≠ k
  | [], _, f, hf => by cases hf
  | y :: r, h, f, hf => by
    unfold look at h
    split at h
    · cases h
    · rcases List.mem_cons.1 hf with rfl | hf
      · assumption
      · exact look_none h f hf
theorem look_of_mem {k : List UInt8} {f : File} : ∀ {fs : List File}, fs.Pairwise (fun a b => a.nm ≠ b.nm) → f ∈ fs → f.nm = k → look k fs = some f
  | [], _, hf, _ => by cases hf
  | y :: r, hp, hf, hk => by
    obtain ⟨h1, h2⟩ := List.pairwise_cons.1 hp
    unfold look
    rcases List.mem_cons.1 hf with rfl | hf
    · rw [if_pos hk]
    · rw [if_neg (by rw [← hk]; exact h1 f hf)]
      exact look_of_mem h2 hf hk
theorem mem_eq {f f' : File} {fs : List File} (hp : fs.Pairwise (fun a b => a.nm ≠ b.nm)) (h : f ∈ fs) (h' : f' ∈ fs) (e : f.nm = f'.nm) : f = f' := by
  have h1 := look_of_mem hp h rfl
  have h2 := look_of_mem hp h' e.symm
  rw [h1] at h2; cases h2; rfl
theorem mem_ins {x f : File} : ∀ {fs : List File}, f ∈ ins x fs ↔ f = x ∨ f ∈ fs
  | [] => by simp [ins]
  | y :: r => by
    unfold ins
    split
    · simp
    · rw [List.mem_cons, mem_ins, List.mem_cons]
      constructor
      · rintro (h | h | h) <;> simp [h]
      · rintro (h | h | h) <;> simp [h]
theorem mem_del {k : List UInt8} {f : File} {fs : List File} : f ∈ del k fs ↔ f ∈ fs ∧ f.nm ≠ k := by simp [del]
theorem mem_put {x f : File} {fs : List File} : f ∈ put x fs ↔ f = x ∨ (f ∈ fs ∧ f.nm ≠ x.nm) := by rw [put, mem_ins, mem_del]
theorem sorted_ins {x : File} : ∀ {fs : List File}, fs.Pairwise (fun a b => bytesBefore a.nm b.nm = true) → (∀ f ∈ fs, f.nm ≠ x.nm) → (ins x fs).Pairwise (fun a b => bytesBefore a.nm b.nm = true)
  | [], _, _ => by simp [ins]
  | y :: r, hp, hn => by
    obtain ⟨h1, h2⟩ := List.pairwise_cons.1 hp
    unfold ins
    split
    · rename_i hb
      refine List.pairwise_cons.2 ⟨fun f hf => ?_, hp⟩
      rcases List.mem_cons.1 hf with rfl | hf
      · exact hb
      · exact WideShapes.bytes_trans _ _ _ hb (h1 f hf)
    · rename_i hb
      refine List.pairwise_cons.2 ⟨fun f hf => ?_, sorted_ins h2 fun f hf => hn f (by simp [hf])⟩
      rcases mem_ins.1 hf with rfl | hf
      · rcases WideAt.bytes_total y.nm f.nm (hn y (by simp)) with h | h
        · exact h
        · exact absurd h hb
      · exact h1 f hf
theorem sorted_del {k : List UInt8} {fs : List File} (h : fs.Pairwise fun a b => bytesBefore a.nm b.nm = true) : (del k fs).Pairwise fun a b => bytesBefore a.nm b.nm = true := h.filter _
theorem sorted_put {x : File} {fs : List File} (h : fs.Pairwise fun a b => bytesBefore a.nm b.nm = true) : (put x fs).Pairwise fun a b => bytesBefore a.nm b.nm = true :=
  sorted_ins (sorted_del h) fun f hf => (mem_del.1 hf).2
theorem length_ins (x : File) : ∀ fs, (ins x fs).length = fs.length + 1
  | [] => rfl
  | y :: r => by unfold ins; split <;> simp [length_ins x r]
theorem length_del_le (k : List UInt8) (fs : List File) : (del k fs).length ≤ fs.length := List.length_filter_le _ _
theorem length_del_lt {k : List UInt8} : ∀ {fs : List File} {f : File}, look k fs = some f → (del k fs).length + 1 ≤ fs.length
  | [], _, h => by cases h
  | y :: r, f, h => by
    unfold look at h
    by_cases e : y.nm = k
    · have : del k (y :: r) = del k r := by simp [del, e]
      rw [this, List.length_cons]; have := length_del_le k r; omega
    · rw [if_neg e] at h
      have h1 := length_del_lt h
      have : del k (y :: r) = y :: del k r := by simp [del, e]
      rw [this, List.length_cons, List.length_cons]; omega
theorem del_none {k : List UInt8} {fs : List File} (h : look k fs = none) : del k fs = fs := by
  unfold del
  rw [List.filter_eq_self]
  intro f hf
  have := look_none h f hf
  simp [this]
theorem used_take : ∀ fs, used fs = (fs.map fun f => f.l.length).sum
  | [] => rfl
  | f :: r => by simp [used, used_take r]
theorem used_le {fs : List File} (h : ∀ f ∈ fs, f.l.length ≤ 1048576) : used fs ≤ fs.length * 1048576 := by
  induction fs with
  | nil => simp [used]
  | cons f r ih =>
    have h1 := ih fun f hf => h f (by simp [hf])
    have h2 := h f (by simp)
    simp only [used, List.length_cons, Nat.add_mul]
    omega
theorem Good.used_le {S : St} (h : Good S) : used S.fs ≤ 16777216 := by
  have h1 := Dk.used_le h.size
  have h2 := h.few
  have : S.fs.length * 1048576 ≤ 16 * 1048576 := Nat.mul_le_mul_right _ h2
  omega
theorem mem_upd {k : List UInt8} {φ : File → File} {f : File} {fs : List File} : f ∈ upd k φ fs ↔ ∃ f0 ∈ fs, f = if f0.nm = k then φ f0 else f0 := by
  unfold upd
  rw [List.mem_map]
  exact ⟨fun ⟨a, h, e⟩ => ⟨a, h, e.symm⟩, fun ⟨a, h, e⟩ => ⟨a, h, e.symm⟩⟩
/-- Files changed one by one, with the names kept. -/
theorem sorted_map {φ : File → File} {fs : List File} (hφ : ∀ f ∈ fs, (φ f).nm = f.nm) (h : fs.Pairwise fun a b => bytesBefore a.nm b.nm = true) : (fs.map φ).Pairwise fun a b => bytesBefore a.nm b.nm = true := by
  rw [List.pairwise_map]
  refine List.Pairwise.imp_of_mem ?_ h
  intro a b ha hb hab
  rw [hφ a ha, hφ b hb]; exact hab
theorem good_map {φ : File → File} {S : St} (h : Good S) (hn : ∀ f ∈ S.fs, (φ f).nm = f.nm) (hs : ∀ f ∈ S.fs, (φ f).s ≤ (φ f).l.length) (hl : ∀ f ∈ S.fs, (φ f).l.length ≤ 1048576) : Good { S with fs := S.fs.map φ } := by
  refine ⟨sorted_map hn h.sorted, by simp; exact h.few, fun f hf => ?_, fun f hf => ?_, fun f hf => ?_, h.arm⟩
  · obtain ⟨a, ha, rfl⟩ := List.mem_map.1 hf; rw [hn a ha]; exact h.name a ha
  · obtain ⟨a, ha, rfl⟩ := List.mem_map.1 hf; exact hs a ha
  · obtain ⟨a, ha, rfl⟩ := List.mem_map.1 hf; exact hl a ha
theorem cutN_le {keep : Int} {f : File} (h : f.s ≤ f.l.length) : f.s ≤ cutN keep f ∧ cutN keep f ≤ f.l.length := by unfold cutN; omega
theorem cut_len {keep : Int} {f : File} (h : f.s ≤ f.l.length) : (cut keep f).l.length = cutN keep f := by
  have := (cutN_le (keep := keep) h).2
  simp [cut]; omega
theorem good_off {S : St} (h : Good S) (keep : Int) : Good (off keep S) := by
  unfold off
  split
  · exact h
  · have h1 := good_map (φ := cut keep) h (fun _ _ => rfl) (fun f hf => by rw [cut_len (h.safe f hf)]; exact Nat.le_refl _) (fun f hf => by
      rw [cut_len (h.safe f hf)]; have := (cutN_le (keep := keep) (h.safe f hf)).2; have := h.size f hf; omega)
    exact ⟨h1.sorted, h1.few, h1.name, h1.safe, h1.size, Nat.zero_le _⟩
theorem good_same {S S' : St} (h : Good S) (hf : S'.fs = S.fs) (ha : S'.arm ≤ 9223372036854775807) : Good S' := by
  exact ⟨by rw [hf]; exact h.sorted, by rw [hf]; exact h.few, by rw [hf]; exact h.name, by rw [hf]; exact h.safe, by rw [hf]; exact h.size, ha⟩
theorem good_tick {S : St} (h : Good S) : Good (tick S) := good_same h rfl (by have := h.arm; simp only [tick]; omega)
theorem good_wrote {S : St} (h : Good S) : Good (wrote S) := by
  unfold wrote; split
  · exact good_off (good_tick h) _
  · exact good_tick h
theorem good_put {S : St} (h : Good S) {x : File} (hn : badName x.nm = false) (hs : x.s ≤ x.l.length) (hl : x.l.length ≤ 1048576) (hf : (del x.nm S.fs).length + 1 ≤ 16) : Good { S with fs := put x S.fs } := by
  refine ⟨sorted_put h.sorted, by simp only [put, length_ins]; exact hf, fun f hf => ?_, fun f hf => ?_, fun f hf => ?_, h.arm⟩
  all_goals rcases mem_put.1 hf with e | ⟨hf, _⟩
  · rw [e]; exact hn
  · exact h.name f hf
  · rw [e]; exact hs
  · exact h.safe f hf
  · rw [e]; exact hl
  · exact h.size f hf
theorem good_del {S : St} (h : Good S) (k : List UInt8) : Good { S with fs := del k S.fs } :=
  ⟨sorted_del h.sorted, Nat.le_trans (length_del_le _ _) h.few, fun f hf => h.name f (mem_del.1 hf).1, fun f hf => h.safe f (mem_del.1 hf).1, fun f hf => h.size f (mem_del.1 hf).1, h.arm⟩

/-! ### the calls -/
def synced (f : File) : File := ⟨f.nm, f.l, f.l.length⟩
def syncS (k : List UInt8) (S : St) : Int × St :=
  if there k S ≠ 0 then (there k S, S) else if failing S then (20, wrote S) else (0, { tick S with fs := upd k synced S.fs })
def short (n : Nat) (f : File) : File := ⟨f.nm, f.l.take n, min f.s n⟩
def lenOf (k : List UInt8) (fs : List File) : Nat := match look k fs with | some f => f.l.length | none => 0
def truncS (k : List UInt8) (n : Int) (S : St) : Int × St :=
  if there k S ≠ 0 then (there k S, S) else if n < 0 ∨ (lenOf k S.fs : Int) < n then (3, S) else if failing S then (20, wrote S) else (0, { tick S with fs := upd k (short n.toNat) S.fs })
def renamed (to : List UInt8) (f : File) : File := ⟨to, f.l, f.s⟩
def renameS (k to : List UInt8) (S : St) : Int × St :=
  if badName to then (1, S) else if there k S ≠ 0 then (there k S, S) else if failing S then (20, wrote S) else
    (0, match look k S.fs with | some f => { tick S with fs := put (renamed to f) (del k S.fs) } | none => S)
def removeS (k : List UInt8) (S : St) : Int × St :=
  if there k S ≠ 0 then (there k S, S) else if failing S then (20, wrote S) else (0, { tick S with fs := del k S.fs })
def fileOf (k : List UInt8) (fs : List File) : File := match look k fs with | some f => f | none => ⟨k, [], 0⟩
def longer (f : File) (b : List Int) : File := ⟨f.nm, f.l ++ b, f.s⟩
/-- The error of an Append that is not performed; 0: it is. -/
def appErr (k : List UInt8) (n : Nat) (S : St) : Int :=
  if ready k S ≠ 0 then ready k S else if 1048576 < (fileOf k S.fs).l.length + n then 3
  else if (look k S.fs).isNone ∧ 16 ≤ S.fs.length then 22 else if S.room < ((used S.fs + n : Nat) : Int) then 22 else 0
def appendS (k : List UInt8) (b : List Int) (S : St) : Int × St :=
  if appErr k b.length S ≠ 0 then (appErr k b.length S, S) else (wcode S, wrote { S with fs := put (longer (fileOf k S.fs) b) S.fs })
def armS (n keep : Int) (S : St) : St := { S with arm := (max n 0).toNat, keep := keep }

theorem there_zero {k : List UInt8} {S : St} (h : there k S = 0) : badName k = false ∧ S.down = false ∧ ∃ f, look k S.fs = some f := by
  unfold there at h
  cases hb : badName k
  · cases hd : S.down
    · cases hl : look k S.fs
      · simp [hb, hd, hl] at h
      · exact ⟨rfl, rfl, _, rfl⟩
    · simp [hb, hd] at h
  · simp [hb] at h
theorem ready_zero {k : List UInt8} {S : St} (h : ready k S = 0) : badName k = false ∧ S.down = false := by
  unfold ready at h
  cases hb : badName k
  · cases hd : S.down
    · exact ⟨rfl, rfl⟩
    · simp [hb, hd] at h
  · simp [hb] at h
theorem tick_fs (S : St) : (tick S).fs = S.fs := rfl
theorem wrote_up {S : St} (h : failing S = false) : wrote S = tick S := by simp [wrote, h]
theorem del_upd (k : List UInt8) (φ : File → File) (fs : List File) (h : ∀ f ∈ fs, f.nm = k → (φ f).nm = k) : del k (upd k φ fs) = del k fs := by
  unfold del upd
  induction fs with
  | nil => rfl
  | cons f r ih =>
    have ih := ih fun f hf => h f (by simp [hf])
    by_cases e : f.nm = k
    · have := h f (by simp) e
      simp only [List.map_cons, if_pos e, List.filter_cons]
      simp [this, e]
      simpa using ih
    · simp only [List.map_cons, if_neg e, List.filter_cons]
      simp [e]
      simpa using ih
theorem fileOf_nm (k : List UInt8) (fs : List File) : (fileOf k fs).nm = k := by
  unfold fileOf
  cases h : look k fs with
  | none => rfl
  | some f => exact (look_some h).2
theorem good_upd {S : St} (h : Good S) {k : List UInt8} {φ : File → File} (hn : ∀ f ∈ S.fs, (φ f).nm = f.nm) (hs : ∀ f ∈ S.fs, (φ f).s ≤ (φ f).l.length) (hl : ∀ f ∈ S.fs, (φ f).l.length ≤ 1048576) : Good { S with fs := upd k φ S.fs } := by
  refine good_map h (fun f hf => ?_) (fun f hf => ?_) (fun f hf => ?_)
  · split
    · exact hn f hf
    · rfl
  · split
    · exact hs f hf
    · exact h.safe f hf
  · split
    · exact hl f hf
    · exact h.size f hf
theorem good_append {k : List UInt8} {b : List Int} {S : St} (h : Good S) (he : appErr k b.length S = 0) : Good { S with fs := put (longer (fileOf k S.fs) b) S.fs } := by
  unfold appErr at he
  by_cases hr : ready k S = 0
  · obtain ⟨hb, hd⟩ := ready_zero hr
    rw [if_neg (by simp [hr])] at he
    by_cases h1 : 1048576 < (fileOf k S.fs).l.length + b.length
    · rw [if_pos h1] at he; cases he
    rw [if_neg h1] at he
    by_cases h2 : (look k S.fs).isNone ∧ 16 ≤ S.fs.length
    · rw [if_pos h2] at he; cases he
    have hs : (fileOf k S.fs).s ≤ (fileOf k S.fs).l.length := by
      unfold fileOf
      cases hl : look k S.fs with
      | none => exact Nat.le_refl _
      | some f => exact h.safe f (look_some hl).1
    refine good_put h ?_ ?_ ?_ ?_
    · show badName (fileOf k S.fs).nm = false
      rw [fileOf_nm]; exact hb
    · simp only [longer, List.length_append]; omega
    · simp only [longer, List.length_append]; omega
    · show (del (fileOf k S.fs).nm S.fs).length + 1 ≤ 16
      rw [fileOf_nm]
      cases hl : look k S.fs with
      | none =>
        rw [del_none hl]
        simp [hl] at h2
        omega
      | some f => have := length_del_lt hl; have := h.few; omega
  · rw [if_pos (by simpa using hr)] at he; exact absurd he hr
end Go.Proofs.YtdonkmkjblofpaaGreatDoor.Dk

/-
  Layer 4: the law DiskFull.
-/
import Derived.Test.YtdonkmkjblofpaaGreatDoorKm
namespace Go.Proofs.YtdonkmkjblofpaaGreatDoor.Dk
open Go.RowKit Fo
set_option linter.unusedVariables false

theorem used_ins (x : File) : ∀ fs, used (ins x fs) = x.l.length + used fs
  | [] => rfl
  | y :: r => by
    unfold ins; split
    · rfl
    · simp only [used, used_ins x r]; omega
theorem used_del {k : List UInt8} : ∀ {fs : List File}, fs.Pairwise (fun a b => a.nm ≠ b.nm) → used (del k fs) + (fileOf k fs).l.length = used fs
  | [], _ => rfl
  | y :: r, h => by
    obtain ⟨h1, h2⟩ := List.pairwise_cons.1 h
    have ih := used_del (k := k) h2
    by_cases e : y.nm = k
    · have hn : look k r = none := by
        cases hl : look k r with
        | none => rfl
        | some f => obtain ⟨hm, hf⟩ := look_some hl; exact absurd (e.trans hf.symm) (h1 f hm)
      have hd : del k (y :: r) = r := by
        have : del k (y :: r) = del k r := by simp [del, e]
        rw [this, del_none hn]
      have hf : fileOf k (y :: r) = y := by simp [fileOf, look, e]
      rw [hd, hf]; simp only [used]; omega
    · have hd : del k (y :: r) = y :: del k r := by simp [del, e]
      have hf : fileOf k (y :: r) = fileOf k r := by simp [fileOf, look, e]
      rw [hd, hf]; simp only [used]; omega
theorem used_put {k : List UInt8} {b : List Int} {fs : List File} (h : fs.Pairwise (fun a b => a.nm ≠ b.nm)) : used (put (longer (fileOf k fs) b) fs) = used fs + b.length := by
  have h1 := used_del (k := k) h
  unfold put
  rw [used_ins]
  have : (longer (fileOf k fs) b).nm = k := fileOf_nm k fs
  rw [this]
  simp only [longer, List.length_append]
  omega
theorem file_le {k : List UInt8} {fs : List File} (h : fs.Pairwise (fun a b => a.nm ≠ b.nm)) : (fileOf k fs).l.length ≤ used fs := by have := used_del (k := k) h; omega
theorem two_names {fs : List File} (h : fs.Pairwise (fun a b => a.nm ≠ b.nm)) (hn : ∀ f ∈ fs, f.nm = [97] ∨ f.nm = [98]) : fs.length ≤ 2 := by
  match fs, h, hn with
  | [], _, _ => simp
  | [_], _, _ => simp
  | [_, _], _, _ => simp
  | x :: y :: z :: r, h, hn =>
    exfalso
    simp only [List.pairwise_cons] at h
    have hxy := h.1 y (by simp); have hxz := h.1 z (by simp); have hyz := h.2.1 z (by simp)
    have hx := hn x (by simp); have hy := hn y (by simp); have hz := hn z (by simp)
    rcases hx with hx | hx <;> rcases hy with hy | hy <;> rcases hz with hz | hz <;> simp [hx, hy, hz] at hxy hxz hyz

/-- The state of the law's disk: u bytes in files named a and b. -/
structure Holds2 (S : St) (room : Int) (u : Nat) : Prop where
  room : S.room = room
  up : S.down = false
  calm : S.arm = 0
  used : used S.fs = u
  names : ∀ f ∈ S.fs, f.nm = [97] ∨ f.nm = [98]
theorem holds_start (room : Int) : Holds2 (start room) room 0 := ⟨rfl, rfl, rfl, rfl, fun f hf => by cases hf⟩
theorem holds_append {S : St} {room : Int} {u : Nat} (h : Holds2 S room u) (hg : Good S) {k : List UInt8} (hk : k = [97] ∨ k = [98]) {b : List Int} (hb : u + b.length ≤ 1048576) :
    (room < ((u + b.length : Nat) : Int) → appendS k b S = (22, S)) ∧ (¬ room < ((u + b.length : Nat) : Int) → ∃ S', appendS k b S = (0, S') ∧ Holds2 S' room (u + b.length)) := by
  have hd := distinct hg.sorted
  have hbad : badName k = false := by rcases hk with rfl | rfl <;> decide
  have h1 : ready k S = 0 := by simp [ready, hbad, h.up]
  have h2 := file_le (k := k) hd
  have h3 := two_names hd h.names
  have hu := h.used
  have e : ∀ c : Int, (if S.room < ((used S.fs + b.length : Nat) : Int) then (22 : Int) else 0) = c → appErr k b.length S = c := fun c hc => by
    unfold appErr
    rw [if_neg (by simp [h1]), if_neg (by omega), if_neg (by intro h; omega)]
    exact hc
  constructor
  · intro hr
    have := e 22 (by rw [hu, h.room, if_pos hr])
    unfold appendS
    rw [this]; rfl
  · intro hr
    have := e 0 (by rw [hu, h.room, if_neg hr])
    unfold appendS
    rw [this]
    have hf : failing { S with fs := put (longer (fileOf k S.fs) b) S.fs } = false := by simp [failing, h.calm]
    have hw : wcode S = 0 := by simp [wcode, failing, h.calm]
    refine ⟨wrote { S with fs := put (longer (fileOf k S.fs) b) S.fs }, by rw [hw]; rfl, ?_⟩
    rw [wrote_up hf]
    refine ⟨h.room, h.up, by simp [tick, h.calm], ?_, fun f hf => ?_⟩
    · show used (put (longer (fileOf k S.fs) b) S.fs) = _
      rw [used_put hd, hu]
    · rcases mem_put.1 hf with rfl | ⟨hf, _⟩
      · show (fileOf k S.fs).nm = _ ∨ (fileOf k S.fs).nm = _
        rw [fileOf_nm]; exact hk
      · exact h.names f hf
theorem used_take_succ {fs : List File} {j : Nat} {f : File} (h : fs[j]? = some f) : used (fs.take (j + 1)) = used (fs.take j) + f.l.length := by
  rw [used_take, used_take, List.take_add_one, h]
  simp
theorem used_take_le (fs : List File) (j : Nat) : used (fs.take j) ≤ used fs := by
  have : used fs = used (fs.take j ++ fs.drop j) := by rw [List.take_append_drop]
  rw [this, used_take, used_take (fs.take j ++ fs.drop j), List.map_append, List.sum_append]
  omega
theorem there_mem {S : St} (hg : Good S) (hu : S.down = false) {f : File} (hf : f ∈ S.fs) : there f.nm S = 0 ∧ readL f.nm S = f.l := by
  have hl := look_of_mem (distinct hg.sorted) hf rfl
  have h1 : there f.nm S = 0 := by simp [there, hg.name f hf, hu, hl]
  refine ⟨h1, ?_⟩
  unfold readL fileOf
  rw [if_pos h1, hl]

/-- A block that is none of the disk's. -/
def Kept (w : World) (O : Nat → Prop) (nb : Nat) (c : Obj) : Prop := ¬ O nb ∧ w.heap[nb]? = some c
theorem Kept.lt {w : World} {O : Nat → Prop} {nb : Nat} {c : Obj} (h : Kept w O nb c) : nb < w.heap.size := (Array.getElem?_eq_some_iff.1 h.2).1
theorem Kept.step {w w' : World} {O O' : Nat → Prop} {nb : Nat} {c : Obj} (h : Kept w O nb c) (hs : Step w O w' O') : Kept w' O' nb c :=
  ⟨fun ho => by rcases hs.own nb ho with h1 | h1; exact h.1 h1; have := h.lt; omega, (hs.block nb h.lt h.1).trans h.2⟩
theorem Kept.below {w w' : World} {O : Nat → Prop} {nb : Nat} {c : Obj} (h : Kept w O nb c) (hb : Below w.heap.size w w') : Kept w' O nb c := ⟨h.1, (hb.block nb h.lt).trans h.2⟩
structure Lone (W w : World) (O : Nat → Prop) (d : Nat) (S : St) : Prop where
  disk : IsDisk w O d S
  high : ∀ i, O i → W.heap.size ≤ i
  frame : Below W.heap.size W w
theorem Lone.below {W w w' : World} {O : Nat → Prop} {d : Nat} {S : St} (h : Lone W w O d S) (hb : Below w.heap.size w w') : Lone W w' O d S := ⟨h.disk.below hb, h.high, h.frame.trans (hb.mono h.frame.size)⟩
theorem Lone.step {W w w' : World} {O O' : Nat → Prop} {d : Nat} {S S' : St} (h : Lone W w O d S) (hst : Step w O w' O') (hd : IsDisk w' O' d S') : Lone W w' O' d S' :=
  ⟨hd, fun i hi => by rcases hst.own i hi with h1 | h1; exact h.high i h1; exact Nat.le_trans h.frame.size h1,
   h.frame.trans (hst.toTurned.below fun k hk => ⟨Nat.lt_of_lt_of_le hk h.frame.size, fun ho => by have := h.high k ho; omega⟩)⟩

theorem and1 (z : Int) : ∃ q : Nat, q ≤ 1 ∧ bits .and .i64 z 1 = (q : Int) := by
  refine ⟨(BitVec.ofInt 64 z).toNat % 2, by omega, ?_⟩
  show IntKind.i64.wrap (((BitVec.ofInt 64 z) &&& (BitVec.ofInt 64 1)).toNat : Int) = _
  have e : ((BitVec.ofInt 64 z) &&& (BitVec.ofInt 64 1)).toNat = (BitVec.ofInt 64 z).toNat % 2 := by rw [BitVec.toNat_and]; exact Nat.and_one_is_mod _
  rw [e]
  exact IntWalk.i64_in _ (by omega)
def nmCells : Array Value := #[.string ⟨#[97]⟩, .string ⟨#[98]⟩, .string ⟨#[99]⟩]
theorem full_append {W w : World} {O : Nat → Prop} {d nb : Nat} {c : Obj} {S : St} {room : Int} {u : Nat} (h : Lone W w O d S) (hk : Kept w O nb c) (h2 : Holds2 S room u) (s : ByteArray) (hs : s.data.toList = [97] ∨ s.data.toList = [98]) (hz : s.size ≤ maxLen) (a : Option Addr) (len cap : Nat) (zs : List Int) (hrow : Fr.HasRow .u8 w a len zs) (hn : a = none → cap = 0) (hlb : u + len ≤ 1048576) :
    (room < ((u + len : Nat) : Int) → Calls Tryz.prog 26 #[.pointer (some ⟨d, 0, none⟩), .string s, .slice a len cap] w fun e w' => e = .returned (.int .i64 22) ∧ ∃ O' S', Lone W w' O' d S' ∧ Kept w' O' nb c ∧ Holds2 S' room u) ∧
    (¬ room < ((u + len : Nat) : Int) → Calls Tryz.prog 26 #[.pointer (some ⟨d, 0, none⟩), .string s, .slice a len cap] w fun e w' => e = .returned (.int .i64 0) ∧ ∃ O' S', Lone W w' O' d S' ∧ Kept w' O' nb c ∧ Holds2 S' room (u + len)) := by
  have hl : (zs.take len).length = len := take_len hrow
  obtain ⟨h3, h4⟩ := holds_append h2 h.disk.good hs (b := zs.take len) (by rw [hl]; exact hlb)
  rw [hl] at h3 h4
  have ca := append_disk h.disk s hz a len cap zs hrow hn (by omega)
  constructor
  · intro hr
    rw [h3 hr] at ca
    exact ca.mono fun e w' ⟨x1, O', x2, x3⟩ => ⟨x1, O', S, h.step x2 x3, hk.step x2, h2⟩
  · intro hr
    obtain ⟨S', e1, e2⟩ := h4 hr
    rw [e1] at ca
    exact ca.mono fun e w' ⟨x1, O', x2, x3⟩ => ⟨x1, O', S', h.step x2 x3, hk.step x2, e2⟩

end Go.Proofs.YtdonkmkjblofpaaGreatDoor.Dk

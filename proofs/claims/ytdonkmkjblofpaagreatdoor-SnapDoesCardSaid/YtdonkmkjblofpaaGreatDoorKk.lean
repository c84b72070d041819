/-
  Layer 4: same; states of one file; two disks side by side; the law DiskKeeps.
-/
import Derived.Test.YtdonkmkjblofpaaGreatDoorKj
namespace Go.Proofs.YtdonkmkjblofpaaGreatDoor.Dk
open Go.RowKit
set_option linter.unusedVariables false

def sameB (A B : List Int) : Bool := decide (A = B)
theorem sameB_self (A : List Int) : sameB A A = true := by simp [sameB]
theorem take_len {w : World} {a : Option Addr} {len : Nat} {zs : List Int} (h : Fr.HasRow .u8 w a len zs) : (zs.take len).length = len := by have := h.1; simp; omega
theorem sameB_eq {za zb : List Int} {n : Nat} (ha : (za.take n).length = n) (hb : (zb.take n).length = n) (h : ∀ j, j < n → za.getD j 0 = zb.getD j 0) : sameB (za.take n) (zb.take n) = true := by
  have : za.take n = zb.take n := by
    apply List.ext_getElem (by rw [ha, hb])
    intro j h1 h2
    have hj : j < n := by omega
    have := h j hj
    have l1 : j < za.length := by simp at h1; omega
    have l2 : j < zb.length := by simp at h2; omega
    simp [List.getD, l1, l2] at this
    simpa using this
  simp [sameB, this]
theorem sameB_ne {za zb : List Int} {n k : Nat} (hk : k < n) (ha : (za.take n).length = n) (hb : (zb.take n).length = n) (h : za.getD k 0 ≠ zb.getD k 0) : sameB (za.take n) (zb.take n) = false := by
  have : ¬ za.take n = zb.take n := by
    intro e
    apply h
    have e2 := congrArg (fun l => l.getD k 0) e
    simpa [List.getD, hk] using e2
  simp [sameB, this]
theorem sameB_len {A B : List Int} (h : A.length ≠ B.length) : sameB A B = false := by
  have : ¬ A = B := fun e => h (by rw [e])
  simp [sameB, this]
/-! ### one file -/
def One (k : List UInt8) (l : List Int) (s : Nat) (room wr keep : Int) : St := ⟨[⟨k, l, s⟩], room, false, wr, 0, keep⟩
theorem one_first {k : List UInt8} {b : List Int} {room : Int} (hk : badName k = false) (hb : b.length ≤ 1048576) (hr : (b.length : Int) ≤ room) : appendS k b (start room) = (0, One k b 0 room (inc 0) 0) := by
  have h1 : ready k (start room) = 0 := by simp [ready, hk, start]
  have h2 : appErr k b.length (start room) = 0 := by
    unfold appErr
    rw [if_neg (by simp [h1]), if_neg (by simp [fileOf, look, start]; omega), if_neg (by simp [start]), if_neg (by simp [start, used]; omega)]
  unfold appendS
  rw [if_neg (by simp [h2])]
  simp [wcode, failing, wrote, tick, start, One, put, del, ins, longer, fileOf, look]
theorem one_append {k : List UInt8} {l b : List Int} {s : Nat} {room wr keep : Int} (hk : badName k = false) (hb : l.length + b.length ≤ 1048576) (hr : ((l.length + b.length : Nat) : Int) ≤ room) :
    appendS k b (One k l s room wr keep) = (0, One k (l ++ b) s room (inc wr) keep) := by
  have h1 : ready k (One k l s room wr keep) = 0 := by simp [ready, hk, One]
  have h2 : appErr k b.length (One k l s room wr keep) = 0 := by
    unfold appErr
    rw [if_neg (by simp [h1]), if_neg (by simp [fileOf, look, One]; omega), if_neg (by simp [One, look]), if_neg (by simp [One, used]; omega)]
  unfold appendS
  rw [if_neg (by simp [h2])]
  simp [wcode, failing, wrote, tick, One, put, del, ins, longer, fileOf, look]
theorem one_there {k : List UInt8} {l : List Int} {s : Nat} {room wr keep : Int} (hk : badName k = false) : there k (One k l s room wr keep) = 0 := by simp [there, hk, One, look]
theorem one_sync {k : List UInt8} {l : List Int} {s : Nat} {room wr keep : Int} (hk : badName k = false) : syncS k (One k l s room wr keep) = (0, One k l l.length room (inc wr) keep) := by
  unfold syncS
  rw [if_neg (by simp [one_there hk])]
  simp [failing, tick, One, upd, synced]
theorem one_read {k : List UInt8} {l : List Int} {s : Nat} {room wr keep : Int} (hk : badName k = false) : readL k (One k l s room wr keep) = l := by
  unfold readL
  rw [if_pos (one_there hk)]
  simp [fileOf, One, look]
theorem one_names (k : List UInt8) (l : List Int) (s : Nat) (room wr keep : Int) : namesL (One k l s room wr keep) = [k] := by simp [namesL, One]

/-! ### two disks, and what lies between -/
def Two (B N : Nat) (w : World) (d : Nat) (S : St) (o : Nat) (T : St) : Prop :=
  B ≤ N ∧ N ≤ w.heap.size ∧ ∃ O1 O2, IsDisk w O1 d S ∧ IsDisk w O2 o T ∧ (∀ i, O1 i → ¬ O2 i) ∧ (∀ i, O1 i → B ≤ i ∧ i < N) ∧ (∀ i, O2 i → B ≤ i ∧ i < N)
theorem Two.keep {B N : Nat} {w w' : World} {d : Nat} {S : St} {o : Nat} {T : St} (h : Two B N w d S o T) (hs : w.heap.size ≤ w'.heap.size) (hb : ∀ i, B ≤ i → i < N → w'.heap[i]? = w.heap[i]?) : Two B N w' d S o T := by
  obtain ⟨h0, h1, O1, O2, ⟨m1, G1, V1, d1⟩, ⟨m2, G2, V2, d2⟩, h4, h5, h6⟩ := h
  exact ⟨h0, by omega, O1, O2, ⟨m1, G1, V1, d1.same hs fun i hi => hb i (h5 i hi).1 (h5 i hi).2⟩, ⟨m2, G2, V2, d2.same hs fun i hi => hb i (h6 i hi).1 (h6 i hi).2⟩, h4, h5, h6⟩
theorem Two.below {B N : Nat} {w w' : World} {d : Nat} {S : St} {o : Nat} {T : St} (h : Two B N w d S o T) (hb : Below w.heap.size w w') : Two B N w' d S o T := h.keep hb.size fun i _ hi => hb.block i (Nat.lt_of_lt_of_le hi h.2.1)
/-- A call at the first of the two. -/
theorem Two.call {B N : Nat} {w : World} {d : Nat} {S : St} {o : Nat} {T : St} (h : Two B N w d S o T) {f : FuncId} {args : Array Value} {r : Int} {S' : St} (hc : ∀ O, IsDisk w O d S → Calls Tryz.prog f args w (Did w O d (r, S'))) :
    Calls Tryz.prog f args w fun e w' => e = .returned (.int .i64 r) ∧ Two B w'.heap.size w' d S' o T ∧ Below B w w' ∧ w.heap.size ≤ w'.heap.size := by
  obtain ⟨h0, h1, O1, O2, d1, d2, h4, h5, h6⟩ := h
  refine (hc O1 d1).mono fun e w' ⟨he, O', hst, hd⟩ => ⟨he, ⟨?_, Nat.le_refl _, O', O2, hd, d2.turned hst.toTurned fun i hi ho => h4 i ho hi, ?_, ?_, ?_⟩, ?_, hst.size⟩
  · have := hst.size; omega
  · intro i hi h2
    rcases hst.own i hi with h | h
    · exact h4 i h h2
    · have := (h6 i h2).2; omega
  · intro i hi
    refine ⟨?_, hd.dom i hi⟩
    rcases hst.own i hi with h | h
    · exact (h5 i h).1
    · omega
  · intro i hi
    have := h6 i hi; have := hst.size; omega
  · exact hst.toTurned.below fun k hk => ⟨by omega, fun ho => by have := (h5 k ho).1; omega⟩
end Go.Proofs.YtdonkmkjblofpaaGreatDoor.Dk

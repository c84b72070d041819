/-
  Layer 4: the law DiskSafe.
-/
import Derived.Test.YtdonkmkjblofpaaGreatDoorKl
import Derived.Test.YtdonkmkjblofpaaGreatDoorKn
namespace Go.Proofs.YtdonkmkjblofpaaGreatDoor.Dk
open Go.RowKit Fo
set_option linter.unusedVariables false

def sumL (R : Nat → Rw) : Nat → Nat
  | 0 => 0
  | k + 1 => sumL R k + (R k).len
def allL (R : Nat → Rw) : Nat → List Int
  | 0 => []
  | k + 1 => allL R k ++ (R k).zs.take (R k).len
theorem sumL_le (R : Nat → Rw) {k n : Nat} (h : k ≤ n) : sumL R k ≤ sumL R n := by
  induction n with
  | zero => have : k = 0 := by omega
            subst this; exact Nat.le_refl _
  | succ n ih =>
    rcases Nat.lt_or_ge k (n + 1) with h1 | h1
    · have := ih (by omega); simp only [sumL]; omega
    · have : k = n + 1 := by omega
      subst this; exact Nat.le_refl _
theorem allL_len {w : World} {a : Option Addr} {len : Nat} {R : Nat → Rw} (h : HasRows w a len R) : ∀ k, k ≤ len → (allL R k).length = sumL R k
  | 0, _ => rfl
  | k + 1, hk => by
    have := allL_len h k (by omega)
    simp only [allL, sumL, List.length_append, this, take_len (h.2.2 k (by omega)).row]

/-- The state behind k parts: all their bytes, of which s are safe. -/
def At (k : Nat) (S : St) (l : List Int) (s : Nat) : Prop := (k = 0 ∧ S = start 1048576 ∧ l = [] ∧ s = 0) ∨ (0 < k ∧ ∃ wr, S = One [102] l s 1048576 wr 0)
theorem bn102 : badName [102] = false := by decide
theorem at_append {k : Nat} {S : St} {l b : List Int} {s : Nat} (h : At k S l s) (hb : l.length + b.length ≤ 1048576) : ∃ S', appendS [102] b S = (0, S') ∧ At (k + 1) S' (l ++ b) s := by
  rcases h with ⟨rfl, rfl, rfl, rfl⟩ | ⟨hk, wr, rfl⟩
  · exact ⟨_, one_first bn102 (by simpa using hb) (by simp at hb; omega), .inr ⟨by omega, inc 0, rfl⟩⟩
  · exact ⟨_, one_append bn102 hb (by omega), .inr ⟨by omega, inc wr, rfl⟩⟩
theorem at_sync {k : Nat} {S : St} {l : List Int} {s : Nat} (h : At (k + 1) S l s) : ∃ S', syncS [102] S = (0, S') ∧ At (k + 1) S' l l.length := by
  rcases h with ⟨h0, _⟩ | ⟨hk, wr, rfl⟩
  · omega
  · exact ⟨_, one_sync bn102, .inr ⟨hk, inc wr, rfl⟩⟩

theorem bool_at {w : World} {b off len k : Nat} {B : Nat → Bool} (h : HasBools w (some ⟨b, off, none⟩) len B) (hk : k < len) : w.cell? ⟨b, off + k, none⟩ = some (.bool (B k)) := by
  obtain ⟨b', off', e, hc⟩ := h.2 (by omega)
  cases e
  exact hc k hk
theorem off_one (keep : Int) (k : List UInt8) (l : List Int) (s : Nat) (room wr kp : Int) : (off keep (One k l s room wr kp)).down = true ∧ { off keep (One k l s room wr kp) with down := false } = One k (l.take (cutN keep ⟨k, l, s⟩)) (cutN keep ⟨k, l, s⟩) room wr kp := by
  simp [off, One, cut]
theorem off_start (keep room : Int) : (off keep (start room)).down = true ∧ there [102] { off keep (start room) with down := false } = 21 := by
  constructor
  · simp [off, start]
  · simp [off, start, there, bn102, look]
theorem names_down {S : St} (h : S.down = true) : namesL S = [] := by simp [namesL, h]
theorem row_short {w : World} {a : Option Addr} {n c : Nat} {l : List Int} (h : Fr.HasRow .u8 w a n l) (hc : c ≤ n) : Fr.HasRow .u8 w a c l :=
  ⟨Nat.le_trans hc h.1, Nat.le_trans hc h.2.1, fun h0 => by
    obtain ⟨b, off, e, hj⟩ := h.2.2 (by omega)
    exact ⟨b, off, e, fun j hj' => hj j (by omega)⟩⟩
/-- The law's own row 'all' beside the disk. -/
structure Side (W w : World) (O : Nat → Prop) (d : Nat) (S : St) (v : Value) (l : List Int) : Prop where
  disk : IsDisk w O d S
  own : Own w v l
  apart : ∀ b, v.ownBlock = some b → ¬ O b ∧ W.heap.size ≤ b
  high : ∀ i, O i → W.heap.size ≤ i
  frame : Below W.heap.size W w
theorem Side.step {W w w' : World} {O : Nat → Prop} {d : Nat} {S S' : St} {v : Value} {l : List Int} (h : Side W w O d S v l) (hs : Has w O d S' w') : ∃ O', Side W w' O' d S' v l := by
  obtain ⟨O', hst, hd⟩ := hs
  refine ⟨O', hd, h.own.same fun b hb => hst.block b (h.own.lt b hb) (h.apart b hb).1, fun b hb => ⟨fun ho => ?_, (h.apart b hb).2⟩, fun i hi => ?_, h.frame.trans (hst.toTurned.below fun k hk => ⟨Nat.lt_of_lt_of_le hk h.frame.size, fun ho => ?_⟩)⟩
  · rcases hst.own b ho with h1 | h1
    · exact (h.apart b hb).1 h1
    · have := h.own.lt b hb; omega
  · rcases hst.own i hi with h1 | h1
    · exact h.high i h1
    · exact Nat.le_trans h.frame.size h1
  · have := h.high k ho; omega
theorem Side.below {W w w' : World} {O : Nat → Prop} {d : Nat} {S : St} {v : Value} {l : List Int} (h : Side W w O d S v l) (hb : Below w.heap.size w w') : Side W w' O d S v l :=
  ⟨h.disk.below hb, h.own.same fun b e => hb.block b (h.own.lt b e), h.apart, h.high, h.frame.trans (hb.mono h.frame.size)⟩
/-- append(all, ..). -/
theorem Side.grow {W w w' : World} {O : Nat → Prop} {d : Nat} {S : St} {v v' : Value} {l l' : List Int} (h : Side W w O d S v l) (ho : Own w' v' l') (hg : w.grownBy w' v.ownBlock) (hat : v'.ownBlock = v.ownBlock ∨ v'.ownBlock = some w.heap.size) : Side W w' O d S v' l' := by
  obtain ⟨m, G, V, hd⟩ := h.disk
  refine ⟨⟨m, G, V, hd.same hg.size fun i hi => hg.block i (hd.dom i hi) fun e => (h.apart i e.symm).1 hi⟩, ho, fun b hb => ?_, h.high, h.frame.trans (Turned.below (O := fun b => v.ownBlock = some b) (Turned.of_grown hg fun b e => e) fun k hk => ⟨Nat.lt_of_lt_of_le hk h.frame.size, fun e => by have := (h.apart k e).2; omega⟩)⟩
  rcases hat with e | e
  · exact h.apart b (e ▸ hb)
  · rw [e] at hb
    cases hb
    exact ⟨fun ho => Nat.lt_irrefl _ (hd.dom _ ho), h.frame.size⟩
theorem Side.append {W w : World} {O : Nat → Prop} {d : Nat} {S S' : St} {v : Value} {l : List Int} (h : Side W w O d S v l) (s : ByteArray) (hs : s.size ≤ maxLen) (a : Option Addr) (len cap : Nat) (zs b : List Int) (hrow : Fr.HasRow .u8 w a len zs) (hn : a = none → cap = 0) (hlb : len ≤ 140737488355328) (hb : zs.take len = b) {r : Int} (he : appendS s.data.toList b S = (r, S')) :
    Calls Tryz.prog 26 #[.pointer (some ⟨d, 0, none⟩), .string s, .slice a len cap] w fun e w' => e = .returned (.int .i64 r) ∧ ∃ O', Side W w' O' d S' v l := by
  have c := append_disk h.disk s hs a len cap zs hrow hn hlb
  rw [hb, he] at c
  exact c.mono fun e w' ⟨x1, x2⟩ => ⟨x1, h.step x2⟩
theorem Side.sync {W w : World} {O : Nat → Prop} {d : Nat} {S S' : St} {v : Value} {l : List Int} (h : Side W w O d S v l) (s : ByteArray) (hs : s.size ≤ maxLen) {r : Int} (he : syncS s.data.toList S = (r, S')) :
    Calls Tryz.prog 28 #[.pointer (some ⟨d, 0, none⟩), .string s] w fun e w' => e = .returned (.int .i64 r) ∧ ∃ O', Side W w' O' d S' v l := by
  have c := sync_disk h.disk s hs
  rw [he] at c
  exact c.mono fun e w' ⟨x1, x2⟩ => ⟨x1, h.step x2⟩

end Go.Proofs.YtdonkmkjblofpaaGreatDoor.Dk

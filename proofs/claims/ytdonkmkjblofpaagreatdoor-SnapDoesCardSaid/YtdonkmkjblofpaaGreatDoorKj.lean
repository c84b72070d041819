/-
  Layer 4: the calls at a disk of the law's own; wakes.
-/
import Derived.Test.YtdonkmkjblofpaaGreatDoorKi
import Derived.Laws.BytesArg
namespace Go.Proofs.YtdonkmkjblofpaaGreatDoor.Dk
open Go.RowKit
set_option linter.unusedVariables false

def Has (w : World) (O : Nat → Prop) (d : Nat) (S : St) (w' : World) : Prop := ∃ O', Step w O w' O' ∧ IsDisk w' O' d S
/-- A disk of the call's own; W: the world in which the call began. -/
def Ok (W w : World) (d : Nat) (S : St) : Prop := ∃ O, IsDisk w O d S ∧ Below W.heap.size W w ∧ ∀ i, O i → W.heap.size ≤ i
theorem Ok.below {W w w' : World} {d : Nat} {S : St} (h : Ok W w d S) (hb : Below w.heap.size w w') : Ok W w' d S := by
  obtain ⟨O, h1, h2, h3⟩ := h
  exact ⟨O, h1.below hb, h2.trans (hb.mono h2.size), h3⟩
theorem Ok.step {W w w' : World} {d : Nat} {S S' : St} {O : Nat → Prop} (h1 : IsDisk w O d S) (h2 : Below W.heap.size W w) (h3 : ∀ i, O i → W.heap.size ≤ i) (hs : Has w O d S' w') : Ok W w' d S' := by
  obtain ⟨O', hst, hd⟩ := hs
  refine ⟨O', hd, h2.trans (hst.toTurned.below fun k hk => ⟨Nat.lt_of_lt_of_le hk h2.size, fun ho => ?_⟩), fun i hi => ?_⟩
  · have := h3 k ho; omega
  · rcases hst.own i hi with h | h
    · exact h3 i h
    · exact Nat.le_trans h2.size h
theorem Ok.frame {W w : World} {d : Nat} {S : St} (h : Ok W w d S) : Below W.heap.size W w := by obtain ⟨O, _, h, _⟩ := h; exact h
theorem Ok.good {W w : World} {d : Nat} {S : St} (h : Ok W w d S) : Good S := by obtain ⟨O, h, _⟩ := h; exact h.good

section
variable {w : World} {O : Nat → Prop} {d : Nat} {S : St}
def Unit1 (w : World) (O : Nat → Prop) (d : Nat) (S : St) (e : Ending) (w' : World) : Prop := e = .returned (.tuple #[]) ∧ Has w O d S w'
theorem off_disk (h : IsDisk w O d S) (keep : Int) : Calls Tryz.prog 36 #[.pointer (some ⟨d, 0, none⟩), .int .i64 keep] w (Unit1 w O d (off keep S)) := by
  obtain ⟨m, G, V, h⟩ := h
  exact (off_any h keep).mono fun e w' ⟨h1, h2, V', h3⟩ => ⟨h1, O, Step.of h2, m, G, V', h3⟩
theorem on_disk (h : IsDisk w O d S) : Calls Tryz.prog 38 #[.pointer (some ⟨d, 0, none⟩)] w (Unit1 w O d { S with down := false }) := by
  obtain ⟨m, G, V, h⟩ := h
  exact (on_any h).mono fun e w' ⟨h1, h2⟩ => by
    subst h2
    exact ⟨h1, O, Step.of (Turned.setCell _ 2 h.od _), m, G, V, h.field (S' := { S with down := false }) 2 _ rfl rfl h.good.arm⟩
theorem room_disk (h : IsDisk w O d S) (n : Int) : Calls Tryz.prog 39 #[.pointer (some ⟨d, 0, none⟩), .int .i64 n] w (Unit1 w O d { S with room := n }) := by
  obtain ⟨m, G, V, h⟩ := h
  exact (room_any h n).mono fun e w' ⟨h1, h2⟩ => by
    subst h2
    exact ⟨h1, O, Step.of (Turned.setCell _ 1 h.od _), m, G, V, h.field (S' := { S with room := n }) 1 _ rfl rfl h.good.arm⟩
theorem arm_disk (h : IsDisk w O d S) (n keep : Int) (hn : n ≤ 9223372036854775807) : Calls Tryz.prog 34 #[.pointer (some ⟨d, 0, none⟩), .int .i64 n, .int .i64 keep] w (Unit1 w O d (armS n keep S)) := by
  obtain ⟨m, G, V, h⟩ := h
  exact (arm_any h n keep).mono fun e w' ⟨h1, h2⟩ => by
    subst h2
    have e1 : max n 0 = (((max n 0).toNat : Nat) : Int) := by omega
    have r1 := h.field (S' := { S with arm := (max n 0).toNat }) 4 (.int .i64 (max n 0)) (by rw [e1]; simp [dcells]) rfl (by show (max n 0).toNat ≤ _; omega)
    have r2 := r1.field (S' := armS n keep S) 5 (.int .i64 keep) rfl rfl (by show (max n 0).toNat ≤ _; omega)
    exact ⟨h1, O, Step.of ((Turned.setCell _ 4 h.od _).trans (Turned.setCell _ 5 h.od _)), m, G, V, r2⟩
theorem append_disk (h : IsDisk w O d S) (s : ByteArray) (hs : s.size ≤ maxLen) (a : Option Addr) (len cap : Nat) (zs : List Int) (hrow : Fr.HasRow .u8 w a len zs) (hn : a = none → cap = 0) (hlb : len ≤ 140737488355328) :
    Calls Tryz.prog 26 #[.pointer (some ⟨d, 0, none⟩), .string s, .slice a len cap] w (Did w O d (appendS s.data.toList (zs.take len) S)) := by
  obtain ⟨m, G, V, h⟩ := h; exact append_any h s hs a len cap zs hrow hn hlb
theorem sync_disk (h : IsDisk w O d S) (s : ByteArray) (hs : s.size ≤ maxLen) : Calls Tryz.prog 28 #[.pointer (some ⟨d, 0, none⟩), .string s] w (Did w O d (syncS s.data.toList S)) := by
  obtain ⟨m, G, V, h⟩ := h; exact sync_any h s hs
theorem trunc_disk (h : IsDisk w O d S) (s : ByteArray) (hs : s.size ≤ maxLen) (n : Int) : Calls Tryz.prog 103 #[.pointer (some ⟨d, 0, none⟩), .string s, .int .i64 n] w (Did w O d (truncS s.data.toList n S)) := by
  obtain ⟨m, G, V, h⟩ := h; exact trunc_any h s hs n
theorem rename_disk (h : IsDisk w O d S) (s t : ByteArray) (hs : s.size ≤ maxLen) (ht : t.size ≤ maxLen) : Calls Tryz.prog 65 #[.pointer (some ⟨d, 0, none⟩), .string s, .string t] w (Did w O d (renameS s.data.toList t.data.toList S)) := by
  obtain ⟨m, G, V, h⟩ := h; exact rename_any h s t hs ht
theorem remove_disk (h : IsDisk w O d S) (s : ByteArray) (hs : s.size ≤ maxLen) : Calls Tryz.prog 87 #[.pointer (some ⟨d, 0, none⟩), .string s] w (Did w O d (removeS s.data.toList S)) := by
  obtain ⟨m, G, V, h⟩ := h; exact remove_any h s hs
theorem read_disk (h : IsDisk w O d S) (s : ByteArray) (hs : s.size ≤ maxLen) : Calls Tryz.prog 74 #[.pointer (some ⟨d, 0, none⟩), .string s] w (ReadIt w s.data.toList S) := by
  obtain ⟨m, G, V, h⟩ := h; exact read_any h s hs
theorem names_disk (h : IsDisk w O d S) : Calls Tryz.prog 50 #[.pointer (some ⟨d, 0, none⟩)] w (NamesIt w S) := by
  obtain ⟨m, G, V, h⟩ := h; exact names_any h
theorem down_disk (h : IsDisk w O d S) : Calls Tryz.prog 63 #[.pointer (some ⟨d, 0, none⟩)] w fun e w' => e = .returned (.bool S.down) ∧ w = w' := by
  obtain ⟨m, G, V, h⟩ := h; exact down_any h
theorem writes_disk (h : IsDisk w O d S) : Calls Tryz.prog 76 #[.pointer (some ⟨d, 0, none⟩)] w fun e w' => e = .returned (.int .i64 S.wr) ∧ w = w' := by
  obtain ⟨m, G, V, h⟩ := h; exact writes_any h
end

/-- Bytes that are read, as a text. -/
theorem conv_at {w : World} {ad : Option Addr} {len cap : Nat} {zs : List Int} (h : Fr.HasRow .u8 w ad len zs) :
    (convert 22 9 (.slice ad len cap)).run Tryz.prog w = .ok (.string (strOfNums (zs.take len))) w := by
  obtain ⟨h1, h2, h3⟩ := h
  rcases Nat.eq_zero_or_pos len with h0 | h0
  · subst h0
    cases ad with
    | none => exact run_convert_bytes_nil _ _ _ Tryz.underlying22 Tryz.underlying5 _ _ _ Tryz.underlying9
    | some ad =>
      obtain ⟨b, off, p⟩ := ad
      have := run_convert_bytes_string (P := Tryz.prog) w 22 9 5 (some ⟨b, off, p⟩) 0 cap Tryz.underlying22 Tryz.underlying5 Tryz.underlying9
      rw [this, run_bytesToString w ⟨b, off, p⟩ 0 cap [] (run_loadCells_list (P := Tryz.prog) w ⟨b, off, p⟩ [] (fun j v hj => by simp at hj))]
      rfl
  · obtain ⟨b, off, rfl, hc⟩ := h3 h0
    refine run_convert_bytes_arg (P := Tryz.prog) w 22 5 Tryz.underlying22 Tryz.underlying5 b off len cap (zs.take len) (by simp; omega) (fun i hi => ?_) _ Tryz.underlying9
    rw [hc i hi]
    simp [List.getD, hi]

/-! ### wakes -/
def s1 : St := ⟨[⟨[97], [120, 121], 0⟩], 9, false, 1, 0, 0⟩
def s2 : St := ⟨[⟨[97], [120, 121], 2⟩], 9, false, 2, 0, 0⟩
def s3 : St := ⟨[⟨[97], [120, 121, 122], 2⟩], 9, false, 3, 0, 0⟩
def s4 : St := ⟨[⟨[98], [120, 121, 122], 2⟩], 9, false, 4, 0, 0⟩
def s5 : St := ⟨[⟨[98], [120, 121], 2⟩], 9, true, 4, 0, 0⟩
def s6 : St := ⟨[⟨[98], [120, 121], 2⟩], 9, false, 4, 0, 0⟩
theorem e1 : appendS [97] [120, 121] (start 9) = (0, s1) := by kernel_rfl
theorem e2 : syncS [97] s1 = (0, s2) := by kernel_rfl
theorem e3 : appendS [97] [122] s2 = (0, s3) := by kernel_rfl
theorem e4 : renameS [97] [98] s3 = (0, s4) := by kernel_rfl
theorem e5 : off 0 s4 = s5 := by kernel_rfl
theorem e6 : there [98] s6 = 0 := by kernel_rfl
theorem e7 : readL [98] s6 = [120, 121] := by kernel_rfl
theorem e8 : there [97] s6 = 21 := by kernel_rfl

section
variable {W w : World} {d : Nat} {S S' : St} {r : Int}
theorem ok_new (w : World) (room : Int) : Calls Tryz.prog 24 #[.int .i64 room] w fun e w' => e = .returned (.pointer (some ⟨w.heap.size + 1, 0, none⟩)) ∧ Ok w w' (w.heap.size + 1) (start room) :=
  (new_any w room).mono fun e w' ⟨h1, h2, h3, h4⟩ => ⟨h1, _, h4, h2, fun i hi => by rcases hi with rfl | rfl <;> omega⟩
theorem ok_append (h : Ok W w d S) (s : ByteArray) (hs : s.size ≤ maxLen) (a : Option Addr) (len cap : Nat) (zs : List Int) (hrow : Fr.HasRow .u8 w a len zs) (hn : a = none → cap = 0) (hlb : len ≤ 140737488355328) (he : appendS s.data.toList (zs.take len) S = (r, S')) :
    Calls Tryz.prog 26 #[.pointer (some ⟨d, 0, none⟩), .string s, .slice a len cap] w fun e w' => e = .returned (.int .i64 r) ∧ Ok W w' d S' := by
  obtain ⟨O, h1, h2, h3⟩ := h
  have c := append_disk h1 s hs a len cap zs hrow hn hlb
  rw [he] at c
  exact c.mono fun e w' ⟨x1, x2⟩ => ⟨x1, Ok.step h1 h2 h3 x2⟩
theorem ok_sync (h : Ok W w d S) (s : ByteArray) (hs : s.size ≤ maxLen) (he : syncS s.data.toList S = (r, S')) :
    Calls Tryz.prog 28 #[.pointer (some ⟨d, 0, none⟩), .string s] w fun e w' => e = .returned (.int .i64 r) ∧ Ok W w' d S' := by
  obtain ⟨O, h1, h2, h3⟩ := h
  have c := sync_disk h1 s hs
  rw [he] at c
  exact c.mono fun e w' ⟨x1, x2⟩ => ⟨x1, Ok.step h1 h2 h3 x2⟩
theorem ok_rename (h : Ok W w d S) (s t : ByteArray) (hs : s.size ≤ maxLen) (ht : t.size ≤ maxLen) (he : renameS s.data.toList t.data.toList S = (r, S')) :
    Calls Tryz.prog 65 #[.pointer (some ⟨d, 0, none⟩), .string s, .string t] w fun e w' => e = .returned (.int .i64 r) ∧ Ok W w' d S' := by
  obtain ⟨O, h1, h2, h3⟩ := h
  have c := rename_disk h1 s t hs ht
  rw [he] at c
  exact c.mono fun e w' ⟨x1, x2⟩ => ⟨x1, Ok.step h1 h2 h3 x2⟩
theorem ok_off (h : Ok W w d S) (keep : Int) (he : off keep S = S') : Calls Tryz.prog 36 #[.pointer (some ⟨d, 0, none⟩), .int .i64 keep] w fun e w' => e = .returned (.tuple #[]) ∧ Ok W w' d S' := by
  obtain ⟨O, h1, h2, h3⟩ := h
  subst he
  exact (off_disk h1 keep).mono fun e w' ⟨x1, x2⟩ => ⟨x1, Ok.step h1 h2 h3 x2⟩
theorem ok_on (h : Ok W w d S) (he : { S with down := false } = S') : Calls Tryz.prog 38 #[.pointer (some ⟨d, 0, none⟩)] w fun e w' => e = .returned (.tuple #[]) ∧ Ok W w' d S' := by
  obtain ⟨O, h1, h2, h3⟩ := h
  subst he
  exact (on_disk h1).mono fun e w' ⟨x1, x2⟩ => ⟨x1, Ok.step h1 h2 h3 x2⟩
def RowOut (w : World) (r : Int) (l : List Int) (e : Ending) (w' : World) : Prop := ∃ ad cap, e = .returned (.tuple #[.slice ad l.length cap, .int .i64 r]) ∧ Ob.OwnB w' w.heap.size (.slice ad l.length cap) l ∧ Fr.HasRow .u8 w' ad l.length l ∧ (ad = none → cap = 0) ∧ l.length ≤ cap ∧ Below w.heap.size w w'
theorem ok_read (h : Ok W w d S) (s : ByteArray) (hs : s.size ≤ maxLen) {l : List Int} (he : there s.data.toList S = r) (hl : readL s.data.toList S = l) :
    Calls Tryz.prog 74 #[.pointer (some ⟨d, 0, none⟩), .string s] w (RowOut w r l) := by
  obtain ⟨O, h1, h2, h3⟩ := h
  subst he hl
  exact (read_disk h1 s hs).mono fun e w' ⟨v, x1, x2, x3⟩ => by
    obtain ⟨ad, cap, rfl, y1, y2, y3, _⟩ := Ob.own_row x2
    exact ⟨ad, cap, x1, x2, y1, y2, y3, x3⟩
end
theorem const_row (w : World) (l : List Int) (fr : Nat × Nat) : l.length ≤ 9223372036854775807 → Fr.HasRow .u8 (w.alloc (.cells (l.map (Value.int .u8)).toArray 5 fr)) (some ⟨w.heap.size, 0, none⟩) l.length l := fun h =>
  ⟨Nat.le_refl _, h, fun _ => ⟨w.heap.size, 0, rfl, fun j hj => by
    rw [World.cell?_alloc_mark]
    simp [List.getD, hj]⟩⟩
theorem txt_xy : strOfNums ([120, 121].take 2) = (⟨#[120, 121]⟩ : ByteArray) := by decide +kernel

end Go.Proofs.YtdonkmkjblofpaaGreatDoor.Dk

/-
  Layer 4: New, Append (all its ways), Read, Names, at a disk in whatever state.
-/
import Derived.Test.YtdonkmkjblofpaaGreatDoorKh
import Derived.Test.YtdonkmkjblofpaaGreatDoorSd
import Derived.Test.YtdonkmkjblofpaaGreatDoorIter
import Derived.Lib.SliceRun
namespace Go.Proofs.YtdonkmkjblofpaaGreatDoor.Dk
open Go.RowKit
set_option linter.unusedVariables false

def start (room : Int) : St := ⟨[], room, false, 0, 0, 0⟩
theorem good_start (room : Int) : Good (start room) := ⟨by simp [start], by simp [start], (fun f hf => by cases hf), (fun f hf => by cases hf), (fun f hf => by cases hf), by simp [start]⟩
theorem new_rep (w : World) (room : Int) : Rep ((w.alloc (.map #[] 0)).alloc (.cells (dcells w.heap.size (start room)) 79)) (fun i => i = w.heap.size ∨ i = w.heap.size + 1) (w.heap.size + 1) w.heap.size (fun _ => 0) (fun _ => .slice none 0 0) (start room) := by
  have hm := World.ownsMap_made w Tryz.prog 9 Rp
  refine ⟨(fun i hi => by rcases hi with rfl | rfl <;> simp <;> omega), .inr rfl, .inl rfl, ?_, (hm.alloc _).mono (Nat.zero_le _), (fun f hf => by cases hf), (fun f hf => by cases hf), good_start room⟩
  have := (MapKept.heap_alloc (w.alloc (.map #[] 0)) (.cells (dcells w.heap.size (start room)) 79)).1
  simpa using this
def NewIt (w : World) (room : Int) (e : Ending) (w' : World) : Prop := e = .returned (.pointer (some ⟨w.heap.size + 1, 0, none⟩)) ∧ Below w.heap.size w w' ∧ w'.heap.size = w.heap.size + 2 ∧ IsDisk w' (fun i => i = w.heap.size ∨ i = w.heap.size + 1) (w.heap.size + 1) (start room)
theorem new_any (w : World) (room : Int) : Calls Tryz.prog 24 #[.int .i64 room] w (NewIt w room) := by
  have hmm := @run_makeMap Tryz.prog
  have D : Hid (∀ w', w' = (w.alloc (.map #[] 0)).alloc (.cells (dcells w.heap.size (start room)) 79) → NewIt w room (.returned (.pointer (some ⟨w.heap.size + 1, 0, none⟩))) w') := fun w' e => by
    subst e
    exact ⟨rfl, ((Below.refl _ _).alloc (Nat.le_refl _) _).alloc (by simp) _, by simp, _, _, _, new_rep w room⟩
  go_enter Tryz.func24, Tryz.ntmps24
  go_wp2
  go_ret
  exact D.out _ rfl

section
variable {w : World} {O : Nat → Prop} {d m : Nat} {G : List UInt8 → Nat} {V : List UInt8 → Value} {S : St}

theorem app_notready (h : Rep w O d m G V S) (s : ByteArray) (hs : s.size ≤ maxLen) (a : Option Addr) (len cap : Nat) (b : List Int) (hr : ready s.data.toList S ≠ 0) :
    Calls Tryz.prog 26 #[.pointer (some ⟨d, 0, none⟩), .string s, .slice a len cap] w (Did w O d (appendS s.data.toList b S)) := by
  have he : appErr s.data.toList b.length S = ready s.data.toList S := by unfold appErr; rw [if_pos hr]
  have cr := ready_any h s hs
  have D := Lib.hid (append_err h (Below.refl _ _) he hr)
  generalize ready s.data.toList S = r at *
  have t1 : (r == 0) = false := by simpa using hr
  have t2 : (r != 0) = true := by simpa using hr
  have CR := Lib.hid cr
  clear cr h he hr hs
  go_enter Tryz.func26, Tryz.ntmps26
  go_wp2_with (go_at_call 54; (with_reducible refine CR.out.mono ?_); rintro e w' ⟨rfl, rfl⟩)
  go_ret
  exact D.out
theorem append_any (h : Rep w O d m G V S) (s : ByteArray) (hs : s.size ≤ maxLen) (a : Option Addr) (len cap : Nat) (zs : List Int) (hrow : Fr.HasRow .u8 w a len zs) (hn : a = none → cap = 0) (hlb : len ≤ 140737488355328) :
    Calls Tryz.prog 26 #[.pointer (some ⟨d, 0, none⟩), .string s, .slice a len cap] w (Did w O d (appendS s.data.toList (zs.take len) S)) := by
  by_cases hr : ready s.data.toList S = 0
  · cases hl : look s.data.toList S.fs with
    | some f =>
      by_cases hc : 1048576 < (fileOf s.data.toList S.fs).l.length + len
      · exact app_old_long h s hs a len cap zs hrow hn hlb hr hl hc
      · have h2 : ¬ ((look s.data.toList S.fs).isNone ∧ 16 ≤ S.fs.length) := by simp [hl]
        by_cases h3 : S.room < ((used S.fs + len : Nat) : Int)
        · exact app_old_full h s hs a len cap zs hrow hn hlb hr hl hc h2 h3
        · exact app_old_fits h s hs a len cap zs hrow hn hlb hr hl hc h2 h3
    | none =>
      by_cases hc : 1048576 < (fileOf s.data.toList S.fs).l.length + len
      · exact app_new_long h s hs a len cap zs hrow hn hlb hr hl hc
      · by_cases h2 : 16 ≤ S.fs.length
        · exact app_new_many h s hs a len cap zs hrow hn hlb hr hl hc h2
        · have h2 : ¬ ((look s.data.toList S.fs).isNone ∧ 16 ≤ S.fs.length) := fun e => h2 e.2
          by_cases h3 : S.room < ((used S.fs + len : Nat) : Int)
          · exact app_new_full h s hs a len cap zs hrow hn hlb hr hl hc h2 h3
          · exact app_new_fits h s hs a len cap zs hrow hn hlb hr hl hc h2 h3
  · exact app_notready h s hs a len cap _ hr

/-! ### Read -/
def CloneIt (w : World) (l : List Int) (e : Ending) (w' : World) : Prop := ∃ v, e = .returned v ∧ Ob.OwnB w' w.heap.size v l ∧ Below w.heap.size w w'
set_option maxRecDepth 100000 in
theorem clone_nil (w : World) : Calls Tryz.prog 91 #[.slice none 0 0] w (CloneIt w []) := by
  have D : Hid (CloneIt w [] (.returned (.slice none 0 0)) w) := Lib.hid ⟨_, rfl, ⟨rfl, .inl ⟨rfl, rfl⟩⟩, Below.refl _ _⟩
  have q29 : ∀ (w : World) (a : Option Addr) (n c n' c' : Nat), (binOp .eql 22 (.slice a n c) (.slice none n' c')).run Tryz.prog w = .ok (.bool a.isNone) w := fun w a n c n' c' => Lib.run_eql_slice_nil w _ _ a n c n' c' Tryz.underlying22
  go_enter Tryz.func91, Tryz.ntmps91
  go_wp2
  go_ret
  exact D.out
set_option maxRecDepth 100000 in
theorem clone_some (w : World) (x : Addr) (len cap : Nat) (zs : List Int) (hrow : Fr.HasRow .u8 w (some x) len zs) (hl : len ≤ 140737488355328) : Calls Tryz.prog 91 #[.slice (some x) len cap] w (CloneIt w (zs.take len)) := by
  have HR := Lib.hid hrow; have HL := Lib.hid hl
  have D : Hid (∀ v w1 w', w1 = w.alloc (.cells #[] 5) → Ob.OwnB w' w.heap.size v (zs.take len) → Below w.heap.size w1 w' → CloneIt w (zs.take len) (.returned v) w') := Lib.hid fun v w1 w' e h1 h2 => by
    subst e; exact ⟨_, rfl, h1, ((Below.refl _ _).alloc (Nat.le_refl _) _).trans h2⟩
  clear hrow
  have q29 : ∀ (w : World) (a : Option Addr) (n c n' c' : Nat), (binOp .eql 22 (.slice a n c) (.slice none n' c')).run Tryz.prog w = .ok (.bool a.isNone) w := fun w a n c n' c' => Lib.run_eql_slice_nil w _ _ a n c n' c' Tryz.underlying22
  go_enter Tryz.func91, Tryz.ntmps91
  go_wp2_with (at_builtin; refine Ob.wp_apd rfl (.tmp 5) (.tmp 6) rfl w.heap.size _ [] rfl (Ob.own_made w (Nat.le_refl _)) (some x) len cap zs rfl (HR.out.keep ((Below.refl _ _).alloc (Nat.le_refl _) _)) (fun h => by cases h) (by simp; exact HL.out) (by simp) ?_; intro v w2 ho hb2; rw [List.nil_append] at ho; have HO := Lib.hid ho; have HB := Lib.hid hb2; clear ho hb2)
  go_ret
  exact D.out _ _ _ rfl HO.out HB.out
theorem clone_any (w : World) {v : Value} {l : List Int} (h : Own w v l) (hl : l.length ≤ 140737488355328) : Calls Tryz.prog 91 #[v] w (CloneIt w l) := by
  obtain ⟨ad, cap, rfl, hr, hn, hc, _⟩ := h.row
  cases ad with
  | none =>
    obtain rfl := hn rfl
    have e : l = [] := List.eq_nil_of_length_eq_zero (by omega)
    subst e
    exact clone_nil w
  | some x =>
    have := clone_some w x l.length cap l hr hl
    rw [List.take_length] at this
    exact this

def readL (k : List UInt8) (S : St) : List Int := if there k S = 0 then (fileOf k S.fs).l else []
def ReadIt (w : World) (k : List UInt8) (S : St) (e : Ending) (w' : World) : Prop := ∃ v, e = .returned (.tuple #[v, .int .i64 (there k S)]) ∧ Ob.OwnB w' w.heap.size v (readL k S) ∧ Below w.heap.size w w'
set_option maxRecDepth 100000 in
theorem read_any (h : Rep w O d m G V S) (s : ByteArray) (hs : s.size ≤ maxLen) :
    Calls Tryz.prog 74 #[.pointer (some ⟨d, 0, none⟩), .string s] w (ReadIt w s.data.toList S) := by
  by_cases ht : there s.data.toList S = 0
  · obtain ⟨hb, hd, f, hf⟩ := there_zero ht
    have cf := find_yes h s hs ht hf
    obtain ⟨hmem, hnm⟩ := look_some hf
    have hfa := h.files f hmem
    have hz := h.good.size f hmem
    have cc := clone_any w hfa.own (by omega)
    obtain ⟨cf0, _⟩ := hfa.cells
    obtain ⟨ad, cap, hv, _⟩ := hfa.own.row
    have D : Hid (∀ v w', Ob.OwnB w' w.heap.size v f.l → Below w.heap.size w w' → ReadIt w s.data.toList S (.returned (.tuple #[v, .int .i64 0])) w') := Lib.hid fun v w' h1 h2 => ⟨v, by rw [ht], by unfold readL fileOf; rw [if_pos ht, hf]; exact h1, h2⟩
    rw [hv] at cf0 cc
    have CF := Lib.hid cf; have CC := Lib.hid cc
    clear cf cc h hf hmem hnm hfa ht hb hd hv hs hz
    go_enter Tryz.func74, Tryz.ntmps74
    go_wp2_with (first | (go_at_call 62; (with_reducible refine CF.out.mono ?_); rintro e w' ⟨rfl, rfl⟩) | (go_at_call 91; (with_reducible refine CC.out.mono ?_); rintro e w' ⟨v, rfl, ho, hb⟩; have HO := Lib.hid ho; have HB := Lib.hid hb; clear ho hb))
    go_ret2
    exact D.out _ _ HO.out HB.out
  · have cf := find_no h s hs ht
    have D : Hid (ReadIt w s.data.toList S (.returned (.tuple #[.slice none 0 0, .int .i64 (there s.data.toList S)])) w) := Lib.hid ⟨_, rfl, by unfold readL; rw [if_neg ht]; exact ⟨rfl, .inl ⟨rfl, rfl⟩⟩, Below.refl _ _⟩
    generalize there s.data.toList S = r at *
    have t1 : (r == 0) = false := by simpa using ht
    have t2 : (r != 0) = true := by simpa using ht
    have CF := Lib.hid cf
    clear cf h ht hs
    go_enter Tryz.func74, Tryz.ntmps74
    go_wp2_with (go_at_call 62; (with_reducible refine CF.out.mono ?_); rintro e w' ⟨rfl, rfl⟩)
    go_ret2
    exact D.out

/-! ### Names -/
theorem before_iff : ∀ a b : List UInt8, bytesBefore a b = true ↔ a < b
  | [], [] => by simp [bytesBefore]
  | [], _ :: _ => by simp [bytesBefore]
  | _ :: _, [] => by simp [bytesBefore]
  | x :: r, y :: t => by
    have ih := before_iff r t
    simp only [bytesBefore, Bool.or_eq_true, Bool.and_eq_true, decide_eq_true_eq, beq_iff_eq, List.cons_lt_cons_iff, ih]
theorem before_le {a b : List UInt8} (h : bytesBefore a b = true) : a ≤ b := by
  have h2 := (before_iff a b).1 h
  intro h3
  have h4 := WideShapes.bytes_trans _ _ _ h ((before_iff b a).2 h3)
  rw [WideAt.bytes_irrefl] at h4
  cases h4
def namesL (S : St) : List (List UInt8) := if S.down then [] else S.fs.map File.nm
theorem strKeys_dat (G : List UInt8 → Nat) (fs : List File) : strKeys (dat G fs) = fs.map File.nm := by
  show (fs.map (ent G)).map (fun p => strOf p.1) = fs.map File.nm
  rw [List.map_map]
  rfl
theorem names_sorted {S : St} (hg : Good S) {ss : List (List UInt8)} {G : List UInt8 → Nat} (h : ss.Perm (strKeys (dat G S.fs))) : ss.mergeSort (fun x y => decide (x ≤ y)) = S.fs.map File.nm := by
  rw [strKeys_dat] at h
  rw [mergeSort_of_perm h]
  refine List.mergeSort_of_pairwise ?_
  rw [List.pairwise_map]
  exact hg.sorted.imp fun hab => by simpa using before_le hab
def NamesIt (w : World) (S : St) (e : Ending) (w' : World) : Prop := ∃ v, e = .returned v ∧ w'.ownsRow w.heap.size 9 1 v (namesL S).length ((namesL S).map encStr) ∧ Below w.heap.size w w'
set_option maxRecDepth 100000 in
theorem names_any (h : Rep w O d m G V S) : Calls Tryz.prog 50 #[.pointer (some ⟨d, 0, none⟩)] w (NamesIt w S) := by
  obtain ⟨c0, _, c2, _⟩ := h.cells
  cases hd : S.down with
  | true =>
    have D : Hid (NamesIt w S (.returned (.slice none 0 0)) w) := Lib.hid ⟨_, rfl, by unfold namesL; rw [if_pos hd]; exact ⟨rfl, .inl ⟨rfl, rfl⟩⟩, Below.refl _ _⟩
    rw [hd] at c2
    clear h hd c0
    go_enter Tryz.func50, Tryz.ntmps50
    go_wp2
    go_ret
    exact D.out
  | false =>
    have hfew := h.good.few
    have ck := (callsIn_wide (n := 5)).1 (Tryz.maps_Keys_83 (some m) w)
    have cs := (callsIn_wide (n := 5)).1 (Tryz.slices_Sorted_keys_82_83 m S.fs.length (dat G S.fs) Rp w h.map (by rw [size_dat]; unfold maxLen; omega) (by rw [size_dat]; omega))
    have D : Hid (∀ v (ss : List (List UInt8)) w', ss.Perm (strKeys (dat G S.fs)) → w'.ownsRow (w.alloc (.cells #[.map (some m)] 77)).heap.size 9 1 v ss.length ((ss.mergeSort (fun x y => decide (x ≤ y))).map encStr) → Below (w.alloc (.cells #[.map (some m)] 77)).heap.size (w.alloc (.cells #[.map (some m)] 77)) w' → NamesIt w S (.returned v) w') := Lib.hid fun v ss w' h1 h2 h3 => by
      refine ⟨v, rfl, ?_, ((Below.refl _ _).alloc (Nat.le_refl _) _).trans (h3.mono (by simp))⟩
      rw [names_sorted h.good h1] at h2
      have e : namesL S = S.fs.map File.nm := by unfold namesL; rw [if_neg (by simp [hd])]
      rw [e]
      have hl : ss.length = (S.fs.map File.nm).length := by have := h1.length_eq; rw [strKeys_dat] at this; exact this
      rw [hl] at h2
      exact Joins.ownsRow_le h2 (by simp)
    rw [hd] at c2
    have CK := Lib.hid ck; have CS := Lib.hid cs
    clear ck cs h hd hfew
    go_enter Tryz.func50, Tryz.ntmps50
    go_wp2_with (first | (go_at_call 83; (with_reducible refine CK.out.mono ?_); rintro e w' ⟨rfl, rfl⟩) | (go_at_call 82; (with_reducible refine CS.out.mono ?_); rintro e w' ⟨v, ss, rfl, hS, hrow, _, hb⟩; have HS := Lib.hid hS; have HR := Lib.hid hrow; have HB := Lib.hid hb; clear hS hrow hb))
    go_ret
    exact D.out _ _ _ HS.out HR.out HB.out
end
end Go.Proofs.YtdonkmkjblofpaaGreatDoor.Dk

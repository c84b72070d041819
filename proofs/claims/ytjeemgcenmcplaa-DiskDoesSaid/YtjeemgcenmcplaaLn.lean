/-
  Layer 4: the document's answer to a call out of a script, kind by kind. (Written by gen_says.py.)
-/
import Derived.Test.YtjeemgcenmcplaaLm
import Derived.Test.YtjeemgcenmcplaaLf
import Derived.Test.YtjeemgcenmcplaaKt
namespace Go.Proofs.Ytjeemgcenmcplaa.Dk
open Go.RowKit Fo
set_option linter.unusedVariables false
set_option linter.unusedSimpArgs false

def RHas (w : World) (O : Nat → Prop) (d : Nat) (S : St) (w' : World) : Prop := ∃ O', Step w O w' O' ∧ IsRef w' O' d S
def SaysIt (w : World) (O : Nat → Prop) (d : Nat) (r : (List Int × Int) × St) (e : Ending) (w' : World) : Prop :=
  ∃ ad cap O', e = .returned (.tuple #[.slice ad r.1.1.length cap, .int .i64 r.1.2]) ∧ Fr.HasRow .u8 w' ad r.1.1.length r.1.1 ∧ (ad = none → cap = 0) ∧ r.1.1.length ≤ cap ∧ Step w O w' O' ∧ IsRef w' O' d r.2 ∧ (r.1.1 = [] ∨ Below w.heap.size w w')
theorem says_nil {w wa w' : World} {O : Nat → Prop} {d : Nat} {c : Int} {S' : St} (hb : Below w.heap.size w wa) (h : RHas wa O d S' w') {r : (List Int × Int) × St} (e1 : r = (([], c), S')) : SaysIt w O d r (.returned (.tuple #[.slice none 0 0, .int .i64 c])) w' := by
  obtain ⟨O', h1, h2⟩ := h
  subst e1
  exact ⟨none, 0, O', rfl, none_row _, (fun _ => rfl), Nat.le_refl _, (Step.of (Turned.of_below hb)).trans h1, h2, .inl rfl⟩
def RDid2 (w : World) (O : Nat → Prop) (d : Nat) (r : Int × St) (e : Ending) (w' : World) : Prop := e = .returned (.int .i64 r.1) ∧ RHas w O d r.2 w'
section
variable {w : World} {O : Nat → Prop} {d : Nat} {S : St}
theorem append_ref (OF : OffOk) (h : IsRef w O d S) (s : ByteArray) (hs : s.size ≤ maxLen) (a : Option Addr) (len cap : Nat) (zs : List Int) (hrow : Fr.HasRow .u8 w a len zs) (hn : a = none → cap = 0) (hlb : len ≤ 140737488355328) :
    Calls Try.prog 22 #[.pointer (some ⟨d, 0, none⟩), .string s, .slice a len cap] w (RDid2 w O d (appendS s.data.toList (zs.take len) S)) := by
  obtain ⟨m, G, V, h⟩ := h; exact ref_append OF h s hs a len cap zs hrow hn hlb
theorem sync_ref (OF : OffOk) (h : IsRef w O d S) (s : ByteArray) (hs : s.size ≤ maxLen) : Calls Try.prog 23 #[.pointer (some ⟨d, 0, none⟩), .string s] w (RDid2 w O d (syncS s.data.toList S)) := by
  obtain ⟨m, G, V, h⟩ := h; exact ref_sync OF h s hs
theorem trunc_ref (OF : OffOk) (h : IsRef w O d S) (s : ByteArray) (hs : s.size ≤ maxLen) (n : Int) : Calls Try.prog 24 #[.pointer (some ⟨d, 0, none⟩), .string s, .int .i64 n] w (RDid2 w O d (truncS s.data.toList n S)) := by
  obtain ⟨m, G, V, h⟩ := h; exact ref_trunc OF h s hs n
theorem rename_ref (OF : OffOk) (h : IsRef w O d S) (s t : ByteArray) (hs : s.size ≤ maxLen) (ht : t.size ≤ maxLen) : Calls Try.prog 25 #[.pointer (some ⟨d, 0, none⟩), .string s, .string t] w (RDid2 w O d (renameS s.data.toList t.data.toList S)) := by
  obtain ⟨m, G, V, h⟩ := h; exact ref_rename OF h s t hs ht
theorem remove_ref (OF : OffOk) (h : IsRef w O d S) (s : ByteArray) (hs : s.size ≤ maxLen) : Calls Try.prog 26 #[.pointer (some ⟨d, 0, none⟩), .string s] w (RDid2 w O d (removeS s.data.toList S)) := by
  obtain ⟨m, G, V, h⟩ := h; exact ref_remove OF h s hs
theorem read_ref (h : IsRef w O d S) (s : ByteArray) (hs : s.size ≤ maxLen) : Calls Try.prog 27 #[.pointer (some ⟨d, 0, none⟩), .string s] w (ReadIt w s.data.toList S) := by
  obtain ⟨m, G, V, h⟩ := h; exact ref_read h s hs
theorem arm_ref (h : IsRef w O d S) (n keep : Int) (hn : n ≤ 9223372036854775807) : Calls Try.prog 28 #[.pointer (some ⟨d, 0, none⟩), .int .i64 n, .int .i64 keep] w fun e w' => e = .returned (.tuple #[]) ∧ RHas w O d (armS n keep S) w' := by
  obtain ⟨m, G, V, h⟩ := h; exact ref_arm h n keep hn
theorem off_ref (OF : OffOk) (h : IsRef w O d S) (keep : Int) : Calls Try.prog 29 #[.pointer (some ⟨d, 0, none⟩), .int .i64 keep] w fun e w' => e = .returned (.tuple #[]) ∧ RHas w O d (off keep S) w' := by
  obtain ⟨m, G, V, h⟩ := h; exact OF.at keep h
set_option maxRecDepth 100000 in
theorem says_0 (OF : OffOk) (hd : IsRef w O d S) (f g : ByteArray) (n k : Int) (ra : Option Addr) (L rc : Nat) (zs : List Int) (hx : OpOk w ⟨0, f, g, n, k, ⟨ra, L, rc, zs⟩⟩) :
    Calls Try.prog 9 #[.pointer (some ⟨d, 0, none⟩), argOf ⟨0, f, g, n, k, ⟨ra, L, rc, zs⟩⟩] w (SaysIt w O d (doesS ⟨0, f, g, n, k, ⟨ra, L, rc, zs⟩⟩ S)) := by
  have hb : Below w.heap.size w (w.alloc (.cells #[.int .i64 0, .string f, .string g, .int .i64 n, .int .i64 k, .slice ra L rc] 31)) := (Below.refl _ _).alloc (Nat.le_refl _) _
  have h1 := hd.below hb
  have c0 := append_ref OF h1 f hx.f ra L rc zs (hx.row.row.keep hb) hx.row.nil (by have := hx.row.le; have := hx.row.cap; simp only at *; omega)
  obtain ⟨r, hr⟩ : ∃ r, appendS f.data.toList (zs.take L) S = r := ⟨_, rfl⟩
  rw [hr] at c0
  have e : doesS ⟨0, f, g, n, k, ⟨ra, L, rc, zs⟩⟩ S = (([], r.1), r.2) := by rw [← hr]; rfl
  obtain ⟨r1, r2⟩ := r
  have D : Hid (∀ w', RHas _ O d r2 w' → SaysIt w O d (doesS ⟨0, f, g, n, k, ⟨ra, L, rc, zs⟩⟩ S) (.returned (.tuple #[.slice none 0 0, .int .i64 r1])) w') := fun w' h => says_nil hb h e
  have C0 := Lib.hid c0
  clear c0 hr e h1 hb hd hx
  unfold argOf
  go_enter Try.func9, Try.ntmps9
  go_wp2_with (go_at_call 22; (with_reducible refine C0.out.mono ?_); rintro e w' ⟨rfl, h2⟩; have H2 := Lib.hid h2; clear h2)
  go_ret2
  exact D.out _ H2.out

set_option maxRecDepth 100000 in
theorem says_1 (OF : OffOk) (hd : IsRef w O d S) (f g : ByteArray) (n k : Int) (ra : Option Addr) (L rc : Nat) (zs : List Int) (hx : OpOk w ⟨1, f, g, n, k, ⟨ra, L, rc, zs⟩⟩) :
    Calls Try.prog 9 #[.pointer (some ⟨d, 0, none⟩), argOf ⟨1, f, g, n, k, ⟨ra, L, rc, zs⟩⟩] w (SaysIt w O d (doesS ⟨1, f, g, n, k, ⟨ra, L, rc, zs⟩⟩ S)) := by
  have hb : Below w.heap.size w (w.alloc (.cells #[.int .i64 1, .string f, .string g, .int .i64 n, .int .i64 k, .slice ra L rc] 31)) := (Below.refl _ _).alloc (Nat.le_refl _) _
  have h1 := hd.below hb
  have c0 := sync_ref OF h1 f hx.f
  obtain ⟨r, hr⟩ : ∃ r, syncS f.data.toList S = r := ⟨_, rfl⟩
  rw [hr] at c0
  have e : doesS ⟨1, f, g, n, k, ⟨ra, L, rc, zs⟩⟩ S = (([], r.1), r.2) := by rw [← hr]; rfl
  obtain ⟨r1, r2⟩ := r
  have D : Hid (∀ w', RHas _ O d r2 w' → SaysIt w O d (doesS ⟨1, f, g, n, k, ⟨ra, L, rc, zs⟩⟩ S) (.returned (.tuple #[.slice none 0 0, .int .i64 r1])) w') := fun w' h => says_nil hb h e
  have C0 := Lib.hid c0
  clear c0 hr e h1 hb hd hx
  unfold argOf
  go_enter Try.func9, Try.ntmps9
  go_wp2_with (go_at_call 23; (with_reducible refine C0.out.mono ?_); rintro e w' ⟨rfl, h2⟩; have H2 := Lib.hid h2; clear h2)
  go_ret2
  exact D.out _ H2.out

set_option maxRecDepth 100000 in
theorem says_2 (OF : OffOk) (hd : IsRef w O d S) (f g : ByteArray) (n k : Int) (ra : Option Addr) (L rc : Nat) (zs : List Int) (hx : OpOk w ⟨2, f, g, n, k, ⟨ra, L, rc, zs⟩⟩) :
    Calls Try.prog 9 #[.pointer (some ⟨d, 0, none⟩), argOf ⟨2, f, g, n, k, ⟨ra, L, rc, zs⟩⟩] w (SaysIt w O d (doesS ⟨2, f, g, n, k, ⟨ra, L, rc, zs⟩⟩ S)) := by
  have hb : Below w.heap.size w (w.alloc (.cells #[.int .i64 2, .string f, .string g, .int .i64 n, .int .i64 k, .slice ra L rc] 31)) := (Below.refl _ _).alloc (Nat.le_refl _) _
  have h1 := hd.below hb
  have c0 := trunc_ref OF h1 f hx.f n
  obtain ⟨r, hr⟩ : ∃ r, truncS f.data.toList n S = r := ⟨_, rfl⟩
  rw [hr] at c0
  have e : doesS ⟨2, f, g, n, k, ⟨ra, L, rc, zs⟩⟩ S = (([], r.1), r.2) := by rw [← hr]; rfl
  obtain ⟨r1, r2⟩ := r
  have D : Hid (∀ w', RHas _ O d r2 w' → SaysIt w O d (doesS ⟨2, f, g, n, k, ⟨ra, L, rc, zs⟩⟩ S) (.returned (.tuple #[.slice none 0 0, .int .i64 r1])) w') := fun w' h => says_nil hb h e
  have C0 := Lib.hid c0
  clear c0 hr e h1 hb hd hx
  unfold argOf
  go_enter Try.func9, Try.ntmps9
  go_wp2_with (go_at_call 24; (with_reducible refine C0.out.mono ?_); rintro e w' ⟨rfl, h2⟩; have H2 := Lib.hid h2; clear h2)
  go_ret2
  exact D.out _ H2.out

set_option maxRecDepth 100000 in
theorem says_3 (OF : OffOk) (hd : IsRef w O d S) (f g : ByteArray) (n k : Int) (ra : Option Addr) (L rc : Nat) (zs : List Int) (hx : OpOk w ⟨3, f, g, n, k, ⟨ra, L, rc, zs⟩⟩) :
    Calls Try.prog 9 #[.pointer (some ⟨d, 0, none⟩), argOf ⟨3, f, g, n, k, ⟨ra, L, rc, zs⟩⟩] w (SaysIt w O d (doesS ⟨3, f, g, n, k, ⟨ra, L, rc, zs⟩⟩ S)) := by
  have hb : Below w.heap.size w (w.alloc (.cells #[.int .i64 3, .string f, .string g, .int .i64 n, .int .i64 k, .slice ra L rc] 31)) := (Below.refl _ _).alloc (Nat.le_refl _) _
  have h1 := hd.below hb
  have c0 := rename_ref OF h1 f g hx.f hx.g
  obtain ⟨r, hr⟩ : ∃ r, renameS f.data.toList g.data.toList S = r := ⟨_, rfl⟩
  rw [hr] at c0
  have e : doesS ⟨3, f, g, n, k, ⟨ra, L, rc, zs⟩⟩ S = (([], r.1), r.2) := by rw [← hr]; rfl
  obtain ⟨r1, r2⟩ := r
  have D : Hid (∀ w', RHas _ O d r2 w' → SaysIt w O d (doesS ⟨3, f, g, n, k, ⟨ra, L, rc, zs⟩⟩ S) (.returned (.tuple #[.slice none 0 0, .int .i64 r1])) w') := fun w' h => says_nil hb h e
  have C0 := Lib.hid c0
  clear c0 hr e h1 hb hd hx
  unfold argOf
  go_enter Try.func9, Try.ntmps9
  go_wp2_with (go_at_call 25; (with_reducible refine C0.out.mono ?_); rintro e w' ⟨rfl, h2⟩; have H2 := Lib.hid h2; clear h2)
  go_ret2
  exact D.out _ H2.out

set_option maxRecDepth 100000 in
theorem says_4 (OF : OffOk) (hd : IsRef w O d S) (f g : ByteArray) (n k : Int) (ra : Option Addr) (L rc : Nat) (zs : List Int) (hx : OpOk w ⟨4, f, g, n, k, ⟨ra, L, rc, zs⟩⟩) :
    Calls Try.prog 9 #[.pointer (some ⟨d, 0, none⟩), argOf ⟨4, f, g, n, k, ⟨ra, L, rc, zs⟩⟩] w (SaysIt w O d (doesS ⟨4, f, g, n, k, ⟨ra, L, rc, zs⟩⟩ S)) := by
  have hb : Below w.heap.size w (w.alloc (.cells #[.int .i64 4, .string f, .string g, .int .i64 n, .int .i64 k, .slice ra L rc] 31)) := (Below.refl _ _).alloc (Nat.le_refl _) _
  have h1 := hd.below hb
  have c0 := remove_ref OF h1 f hx.f
  obtain ⟨r, hr⟩ : ∃ r, removeS f.data.toList S = r := ⟨_, rfl⟩
  rw [hr] at c0
  have e : doesS ⟨4, f, g, n, k, ⟨ra, L, rc, zs⟩⟩ S = (([], r.1), r.2) := by rw [← hr]; rfl
  obtain ⟨r1, r2⟩ := r
  have D : Hid (∀ w', RHas _ O d r2 w' → SaysIt w O d (doesS ⟨4, f, g, n, k, ⟨ra, L, rc, zs⟩⟩ S) (.returned (.tuple #[.slice none 0 0, .int .i64 r1])) w') := fun w' h => says_nil hb h e
  have C0 := Lib.hid c0
  clear c0 hr e h1 hb hd hx
  unfold argOf
  go_enter Try.func9, Try.ntmps9
  go_wp2_with (go_at_call 26; (with_reducible refine C0.out.mono ?_); rintro e w' ⟨rfl, h2⟩; have H2 := Lib.hid h2; clear h2)
  go_ret2
  exact D.out _ H2.out

set_option maxRecDepth 100000 in
theorem says_5 (OF : OffOk) (hd : IsRef w O d S) (f g : ByteArray) (n k : Int) (ra : Option Addr) (L rc : Nat) (zs : List Int) (hx : OpOk w ⟨5, f, g, n, k, ⟨ra, L, rc, zs⟩⟩) :
    Calls Try.prog 9 #[.pointer (some ⟨d, 0, none⟩), argOf ⟨5, f, g, n, k, ⟨ra, L, rc, zs⟩⟩] w (SaysIt w O d (doesS ⟨5, f, g, n, k, ⟨ra, L, rc, zs⟩⟩ S)) := by
  have hb : Below w.heap.size w (w.alloc (.cells #[.int .i64 5, .string f, .string g, .int .i64 n, .int .i64 k, .slice ra L rc] 31)) := (Below.refl _ _).alloc (Nat.le_refl _) _
  have h1 := hd.below hb
  have c0 : Calls Try.prog 27 #[.pointer (some ⟨d, 0, none⟩), .string f] _ (RowOut _ (there f.data.toList S) (readL f.data.toList S)) := (read_ref h1 f hx.f).mono fun e w' ⟨v, x1, x2, x3⟩ => by
    obtain ⟨ad, cap, rfl, y1, y2, y3, _⟩ := Ob.own_row x2
    exact ⟨ad, cap, x1, x2, y1, y2, y3, x3⟩
  have e : doesS ⟨5, f, g, n, k, ⟨ra, L, rc, zs⟩⟩ S = ((readL f.data.toList S, there f.data.toList S), S) := rfl
  generalize readL f.data.toList S = l at *
  generalize there f.data.toList S = r1 at *
  obtain ⟨ll, hll⟩ : ∃ ll, l.length = ll := ⟨_, rfl⟩
  have D : Hid (∀ ad cap w', Fr.HasRow .u8 w' ad ll l → (ad = none → cap = 0) → ll ≤ cap → Below (w.alloc (.cells #[.int .i64 5, .string f, .string g, .int .i64 n, .int .i64 k, .slice ra L rc] 31)).heap.size (w.alloc (.cells #[.int .i64 5, .string f, .string g, .int .i64 n, .int .i64 k, .slice ra L rc] 31)) w' → SaysIt w O d (doesS ⟨5, f, g, n, k, ⟨ra, L, rc, zs⟩⟩ S) (.returned (.tuple #[.slice ad ll cap, .int .i64 r1])) w') := fun ad cap w' y1 y2 y3 y4 => by
    rw [e]
    subst hll
    exact ⟨ad, cap, O, rfl, y1, y2, y3, Step.of (Turned.of_below (hb.trans (y4.mono hb.size))), h1.below y4, .inr (hb.trans (y4.mono hb.size))⟩
  unfold RowOut at c0
  rw [hll] at c0
  have C0 := Lib.hid c0
  clear c0 hll e h1 hb hd hx
  unfold argOf
  go_enter Try.func9, Try.ntmps9
  go_wp2_with (go_at_call 27; (with_reducible refine C0.out.mono ?_); rintro e w' ⟨ad, cap, rfl, _, y1, y2, y3, y4⟩; have Y1 := Lib.hid y1; have Y2 := Lib.hid y2; have Y3 := Lib.hid y3; have Y4 := Lib.hid y4; clear y1 y2 y3 y4)
  go_ret2
  exact D.out _ _ _ Y1.out Y2.out Y3.out Y4.out

set_option maxRecDepth 100000 in
theorem says_7 (OF : OffOk) (hd : IsRef w O d S) (f g : ByteArray) (n k : Int) (ra : Option Addr) (L rc : Nat) (zs : List Int) (hx : OpOk w ⟨7, f, g, n, k, ⟨ra, L, rc, zs⟩⟩) :
    Calls Try.prog 9 #[.pointer (some ⟨d, 0, none⟩), argOf ⟨7, f, g, n, k, ⟨ra, L, rc, zs⟩⟩] w (SaysIt w O d (doesS ⟨7, f, g, n, k, ⟨ra, L, rc, zs⟩⟩ S)) := by
  have hb : Below w.heap.size w (w.alloc (.cells #[.int .i64 7, .string f, .string g, .int .i64 n, .int .i64 k, .slice ra L rc] 31)) := (Below.refl _ _).alloc (Nat.le_refl _) _
  have h1 := hd.below hb
  have c0 := arm_ref h1 n k hx.n
  have e : doesS ⟨7, f, g, n, k, ⟨ra, L, rc, zs⟩⟩ S = (([], 0), armS n k S) := rfl
  generalize (armS n k S) = r2 at *
  have D : Hid (∀ w', RHas _ O d r2 w' → SaysIt w O d (doesS ⟨7, f, g, n, k, ⟨ra, L, rc, zs⟩⟩ S) (.returned (.tuple #[.slice none 0 0, .int .i64 0])) w') := fun w' h => says_nil hb h e
  have C0 := Lib.hid c0
  clear c0 e h1 hb hd hx
  unfold argOf
  go_enter Try.func9, Try.ntmps9
  go_wp2_with (go_at_call 28; (with_reducible refine C0.out.mono ?_); rintro e w' ⟨rfl, h2⟩; have H2 := Lib.hid h2; clear h2)
  go_ret2
  exact D.out _ H2.out

set_option maxRecDepth 100000 in
theorem says_8 (OF : OffOk) (hd : IsRef w O d S) (f g : ByteArray) (n k : Int) (ra : Option Addr) (L rc : Nat) (zs : List Int) (hx : OpOk w ⟨8, f, g, n, k, ⟨ra, L, rc, zs⟩⟩) :
    Calls Try.prog 9 #[.pointer (some ⟨d, 0, none⟩), argOf ⟨8, f, g, n, k, ⟨ra, L, rc, zs⟩⟩] w (SaysIt w O d (doesS ⟨8, f, g, n, k, ⟨ra, L, rc, zs⟩⟩ S)) := by
  have hb : Below w.heap.size w (w.alloc (.cells #[.int .i64 8, .string f, .string g, .int .i64 n, .int .i64 k, .slice ra L rc] 31)) := (Below.refl _ _).alloc (Nat.le_refl _) _
  have h1 := hd.below hb
  have c0 := off_ref OF h1 k
  have e : doesS ⟨8, f, g, n, k, ⟨ra, L, rc, zs⟩⟩ S = (([], 0), off k S) := rfl
  generalize (off k S) = r2 at *
  have D : Hid (∀ w', RHas _ O d r2 w' → SaysIt w O d (doesS ⟨8, f, g, n, k, ⟨ra, L, rc, zs⟩⟩ S) (.returned (.tuple #[.slice none 0 0, .int .i64 0])) w') := fun w' h => says_nil hb h e
  have C0 := Lib.hid c0
  clear c0 e h1 hb hd hx
  unfold argOf
  go_enter Try.func9, Try.ntmps9
  go_wp2_with (go_at_call 29; (with_reducible refine C0.out.mono ?_); rintro e w' ⟨rfl, h2⟩; have H2 := Lib.hid h2; clear h2)
  go_ret2
  exact D.out _ H2.out

set_option maxRecDepth 100000 in
theorem says_else (OF : OffOk) (hd : IsRef w O d S) (c : Int) (hc : ∀ i : Int, 0 ≤ i → i ≤ 9 → c ≠ i) (f g : ByteArray) (n k : Int) (ra : Option Addr) (L rc : Nat) (zs : List Int) :
    Calls Try.prog 9 #[.pointer (some ⟨d, 0, none⟩), argOf ⟨c, f, g, n, k, ⟨ra, L, rc, zs⟩⟩] w (SaysIt w O d (doesS ⟨c, f, g, n, k, ⟨ra, L, rc, zs⟩⟩ S)) := by
  have hb : Below w.heap.size w (w.alloc (.cells #[.int .i64 c, .string f, .string g, .int .i64 n, .int .i64 k, .slice ra L rc] 31)) := (Below.refl _ _).alloc (Nat.le_refl _) _
  have n0 : c ≠ 0 := hc 0 (by decide) (by decide)
  have n1 : c ≠ 1 := hc 1 (by decide) (by decide)
  have n2 : c ≠ 2 := hc 2 (by decide) (by decide)
  have n3 : c ≠ 3 := hc 3 (by decide) (by decide)
  have n4 : c ≠ 4 := hc 4 (by decide) (by decide)
  have n5 : c ≠ 5 := hc 5 (by decide) (by decide)
  have n6 : c ≠ 6 := hc 6 (by decide) (by decide)
  have n7 : c ≠ 7 := hc 7 (by decide) (by decide)
  have n8 : c ≠ 8 := hc 8 (by decide) (by decide)
  have n9 : c ≠ 9 := hc 9 (by decide) (by decide)
  have e : doesS ⟨c, f, g, n, k, ⟨ra, L, rc, zs⟩⟩ S = (([], 0), S) := by
    unfold doesS
    simp only [n0, n1, n2, n3, n4, n5, n6, n7, n8, n9, if_false]
  have D : Hid (SaysIt w O d (doesS ⟨c, f, g, n, k, ⟨ra, L, rc, zs⟩⟩ S) (.returned (.tuple #[.slice none 0 0, .int .i64 0])) (w.alloc (.cells #[.int .i64 c, .string f, .string g, .int .i64 n, .int .i64 k, .slice ra L rc] 31))) := says_nil hb ⟨O, Step.refl _ _, hd.below hb⟩ e
  have m0 : (c == 0) = false := by simpa using n0
  have m1 : (c == 1) = false := by simpa using n1
  have m2 : (c == 2) = false := by simpa using n2
  have m3 : (c == 3) = false := by simpa using n3
  have m4 : (c == 4) = false := by simpa using n4
  have m5 : (c == 5) = false := by simpa using n5
  have m6 : (c == 6) = false := by simpa using n6
  have m7 : (c == 7) = false := by simpa using n7
  have m8 : (c == 8) = false := by simpa using n8
  have m9 : (c == 9) = false := by simpa using n9
  clear e hb hd hc n0 n1 n2 n3 n4 n5 n6 n7 n8 n9
  unfold argOf
  go_enter Try.func9, Try.ntmps9
  go_wp2
  go_ret2
  exact D.out

set_option maxRecDepth 100000 in
theorem says_6 (OF : OffOk) (hd : IsRef w O d S) (f g : ByteArray) (n k : Int) (ra : Option Addr) (L rc : Nat) (zs : List Int) (hx : OpOk w ⟨6, f, g, n, k, ⟨ra, L, rc, zs⟩⟩) :
    Calls Try.prog 9 #[.pointer (some ⟨d, 0, none⟩), argOf ⟨6, f, g, n, k, ⟨ra, L, rc, zs⟩⟩] w (SaysIt w O d (doesS ⟨6, f, g, n, k, ⟨ra, L, rc, zs⟩⟩ S)) := by
  have hb : Below w.heap.size w (w.alloc (.cells #[.int .i64 6, .string f, .string g, .int .i64 n, .int .i64 k, .slice ra L rc] 31)) := (Below.refl _ _).alloc (Nat.le_refl _) _
  have h1 := hd.below hb
  have e : doesS ⟨6, f, g, n, k, ⟨ra, L, rc, zs⟩⟩ S = (([], 0), { S with room := n }) := rfl
  obtain ⟨fv, P, Q, hr⟩ := h1
  obtain ⟨_, c1, c2, _, _, _, fz⟩ := hr.cells
  have fz1 := fz 1; have fz2 := fz 2
  have D : Hid (SaysIt w O d (doesS ⟨6, f, g, n, k, ⟨ra, L, rc, zs⟩⟩ S) (.returned (.tuple #[.slice none 0 0, .int .i64 0])) ((w.alloc (.cells #[.int .i64 6, .string f, .string g, .int .i64 n, .int .i64 k, .slice ra L rc] 31)).setCell ⟨d, 1, none⟩ (.int .i64 n))) := Lib.hid (says_nil hb ⟨O, Step.of (Turned.setCell _ 1 hr.od _), fv, P, Q, hr.field (S' := { S with room := n }) 1 (.int .i64 n) rfl rfl hr.good.arm⟩ e)
  clear e hb hd hx hr fz
  unfold argOf
  go_enter Try.func9, Try.ntmps9
  go_wp2
  go_ret2
  exact D.out

set_option maxRecDepth 100000 in
theorem says_9 (OF : OffOk) (hd : IsRef w O d S) (f g : ByteArray) (n k : Int) (ra : Option Addr) (L rc : Nat) (zs : List Int) (hx : OpOk w ⟨9, f, g, n, k, ⟨ra, L, rc, zs⟩⟩) :
    Calls Try.prog 9 #[.pointer (some ⟨d, 0, none⟩), argOf ⟨9, f, g, n, k, ⟨ra, L, rc, zs⟩⟩] w (SaysIt w O d (doesS ⟨9, f, g, n, k, ⟨ra, L, rc, zs⟩⟩ S)) := by
  have hb : Below w.heap.size w (w.alloc (.cells #[.int .i64 9, .string f, .string g, .int .i64 n, .int .i64 k, .slice ra L rc] 31)) := (Below.refl _ _).alloc (Nat.le_refl _) _
  have h1 := hd.below hb
  have e : doesS ⟨9, f, g, n, k, ⟨ra, L, rc, zs⟩⟩ S = (([], 0), { S with down := false }) := rfl
  obtain ⟨fv, P, Q, hr⟩ := h1
  obtain ⟨_, c1, c2, _, _, _, fz⟩ := hr.cells
  have fz1 := fz 1; have fz2 := fz 2
  have D : Hid (SaysIt w O d (doesS ⟨9, f, g, n, k, ⟨ra, L, rc, zs⟩⟩ S) (.returned (.tuple #[.slice none 0 0, .int .i64 0])) ((w.alloc (.cells #[.int .i64 9, .string f, .string g, .int .i64 n, .int .i64 k, .slice ra L rc] 31)).setCell ⟨d, 2, none⟩ (.bool true))) := Lib.hid (says_nil hb ⟨O, Step.of (Turned.setCell _ 2 hr.od _), fv, P, Q, hr.field (S' := { S with down := false }) 2 (.bool true) rfl rfl hr.good.arm⟩ e)
  clear e hb hd hx hr fz
  unfold argOf
  go_enter Try.func9, Try.ntmps9
  go_wp2
  go_ret2
  exact D.out

theorem says_any (OF : OffOk) (hd : IsRef w O d S) (x : Opv) (hx : OpOk w x) : Calls Try.prog 9 #[.pointer (some ⟨d, 0, none⟩), argOf x] w (SaysIt w O d (doesS x S)) := by
  obtain ⟨c, f, g, n, k, ⟨ra, L, rc, zs⟩⟩ := x
  by_cases h0 : c = 0
  · subst h0; exact says_0 OF hd f g n k ra L rc zs hx
  by_cases h1 : c = 1
  · subst h1; exact says_1 OF hd f g n k ra L rc zs hx
  by_cases h2 : c = 2
  · subst h2; exact says_2 OF hd f g n k ra L rc zs hx
  by_cases h3 : c = 3
  · subst h3; exact says_3 OF hd f g n k ra L rc zs hx
  by_cases h4 : c = 4
  · subst h4; exact says_4 OF hd f g n k ra L rc zs hx
  by_cases h5 : c = 5
  · subst h5; exact says_5 OF hd f g n k ra L rc zs hx
  by_cases h6 : c = 6
  · subst h6; exact says_6 OF hd f g n k ra L rc zs hx
  by_cases h7 : c = 7
  · subst h7; exact says_7 OF hd f g n k ra L rc zs hx
  by_cases h8 : c = 8
  · subst h8; exact says_8 OF hd f g n k ra L rc zs hx
  by_cases h9 : c = 9
  · subst h9; exact says_9 OF hd f g n k ra L rc zs hx
  exact says_else OF hd c (fun i a b e => by omega) f g n k ra L rc zs
end
end Go.Proofs.Ytjeemgcenmcplaa.Dk

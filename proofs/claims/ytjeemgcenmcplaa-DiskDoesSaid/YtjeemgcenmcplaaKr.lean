/-
  Layer 4: a call out of a script, kind by kind; calls of no disk. (Written by gen_kr.py.)
-/
import Derived.Test.YtjeemgcenmcplaaKq
namespace Go.Proofs.Ytjeemgcenmcplaa.Dk
open Go.RowKit Fo
set_option linter.unusedVariables false

section
variable {w : World} {O : Nat → Prop} {d : Nat} {S : St}
set_option maxRecDepth 100000 in
theorem does_0 (hd : IsDisk w O d S) (f g : ByteArray) (n k : Int) (ra : Option Addr) (L rc : Nat) (zs : List Int) (hx : OpOk w ⟨0, f, g, n, k, ⟨ra, L, rc, zs⟩⟩) :
    Calls Try.prog 8 #[.pointer (some ⟨d, 0, none⟩), argOf ⟨0, f, g, n, k, ⟨ra, L, rc, zs⟩⟩] w (DoesIt w O d (doesS ⟨0, f, g, n, k, ⟨ra, L, rc, zs⟩⟩ S)) := by
  have hb : Below w.heap.size w (w.alloc (.cells #[.int .i64 0, .string f, .string g, .int .i64 n, .int .i64 k, .slice ra L rc] 31)) := (Below.refl _ _).alloc (Nat.le_refl _) _
  have h1 := hd.below hb
  have c0 := append_disk h1 f hx.f ra L rc zs (hx.row.row.keep hb) hx.row.nil (by have := hx.row.le; have := hx.row.cap; simp only at *; omega)
  obtain ⟨r, hr⟩ : ∃ r, appendS f.data.toList (zs.take L) S = r := ⟨_, rfl⟩
  rw [hr] at c0
  have e : doesS ⟨0, f, g, n, k, ⟨ra, L, rc, zs⟩⟩ S = (([], r.1), r.2) := by rw [← hr]; rfl
  obtain ⟨r1, r2⟩ := r
  have D : Hid (∀ w', Has _ O d r2 w' → DoesIt w O d (doesS ⟨0, f, g, n, k, ⟨ra, L, rc, zs⟩⟩ S) (.returned (.tuple #[.slice none 0 0, .int .i64 r1])) w') := fun w' h => does_nil hb h e
  have C0 := Lib.hid c0
  clear c0 hr e h1 hb hd hx
  unfold argOf
  go_enter Try.func8, Try.ntmps8
  go_wp2_with (go_at_call 12; (with_reducible refine C0.out.mono ?_); rintro e w' ⟨rfl, h2⟩; have H2 := Lib.hid h2; clear h2)
  go_ret2
  exact D.out _ H2.out

set_option maxRecDepth 100000 in
theorem does_1 (hd : IsDisk w O d S) (f g : ByteArray) (n k : Int) (ra : Option Addr) (L rc : Nat) (zs : List Int) (hx : OpOk w ⟨1, f, g, n, k, ⟨ra, L, rc, zs⟩⟩) :
    Calls Try.prog 8 #[.pointer (some ⟨d, 0, none⟩), argOf ⟨1, f, g, n, k, ⟨ra, L, rc, zs⟩⟩] w (DoesIt w O d (doesS ⟨1, f, g, n, k, ⟨ra, L, rc, zs⟩⟩ S)) := by
  have hb : Below w.heap.size w (w.alloc (.cells #[.int .i64 1, .string f, .string g, .int .i64 n, .int .i64 k, .slice ra L rc] 31)) := (Below.refl _ _).alloc (Nat.le_refl _) _
  have h1 := hd.below hb
  have c0 := sync_disk h1 f hx.f
  obtain ⟨r, hr⟩ : ∃ r, syncS f.data.toList S = r := ⟨_, rfl⟩
  rw [hr] at c0
  have e : doesS ⟨1, f, g, n, k, ⟨ra, L, rc, zs⟩⟩ S = (([], r.1), r.2) := by rw [← hr]; rfl
  obtain ⟨r1, r2⟩ := r
  have D : Hid (∀ w', Has _ O d r2 w' → DoesIt w O d (doesS ⟨1, f, g, n, k, ⟨ra, L, rc, zs⟩⟩ S) (.returned (.tuple #[.slice none 0 0, .int .i64 r1])) w') := fun w' h => does_nil hb h e
  have C0 := Lib.hid c0
  clear c0 hr e h1 hb hd hx
  unfold argOf
  go_enter Try.func8, Try.ntmps8
  go_wp2_with (go_at_call 13; (with_reducible refine C0.out.mono ?_); rintro e w' ⟨rfl, h2⟩; have H2 := Lib.hid h2; clear h2)
  go_ret2
  exact D.out _ H2.out

set_option maxRecDepth 100000 in
theorem does_2 (hd : IsDisk w O d S) (f g : ByteArray) (n k : Int) (ra : Option Addr) (L rc : Nat) (zs : List Int) (hx : OpOk w ⟨2, f, g, n, k, ⟨ra, L, rc, zs⟩⟩) :
    Calls Try.prog 8 #[.pointer (some ⟨d, 0, none⟩), argOf ⟨2, f, g, n, k, ⟨ra, L, rc, zs⟩⟩] w (DoesIt w O d (doesS ⟨2, f, g, n, k, ⟨ra, L, rc, zs⟩⟩ S)) := by
  have hb : Below w.heap.size w (w.alloc (.cells #[.int .i64 2, .string f, .string g, .int .i64 n, .int .i64 k, .slice ra L rc] 31)) := (Below.refl _ _).alloc (Nat.le_refl _) _
  have h1 := hd.below hb
  have c0 := trunc_disk h1 f hx.f n
  obtain ⟨r, hr⟩ : ∃ r, truncS f.data.toList n S = r := ⟨_, rfl⟩
  rw [hr] at c0
  have e : doesS ⟨2, f, g, n, k, ⟨ra, L, rc, zs⟩⟩ S = (([], r.1), r.2) := by rw [← hr]; rfl
  obtain ⟨r1, r2⟩ := r
  have D : Hid (∀ w', Has _ O d r2 w' → DoesIt w O d (doesS ⟨2, f, g, n, k, ⟨ra, L, rc, zs⟩⟩ S) (.returned (.tuple #[.slice none 0 0, .int .i64 r1])) w') := fun w' h => does_nil hb h e
  have C0 := Lib.hid c0
  clear c0 hr e h1 hb hd hx
  unfold argOf
  go_enter Try.func8, Try.ntmps8
  go_wp2_with (go_at_call 18; (with_reducible refine C0.out.mono ?_); rintro e w' ⟨rfl, h2⟩; have H2 := Lib.hid h2; clear h2)
  go_ret2
  exact D.out _ H2.out

set_option maxRecDepth 100000 in
theorem does_3 (hd : IsDisk w O d S) (f g : ByteArray) (n k : Int) (ra : Option Addr) (L rc : Nat) (zs : List Int) (hx : OpOk w ⟨3, f, g, n, k, ⟨ra, L, rc, zs⟩⟩) :
    Calls Try.prog 8 #[.pointer (some ⟨d, 0, none⟩), argOf ⟨3, f, g, n, k, ⟨ra, L, rc, zs⟩⟩] w (DoesIt w O d (doesS ⟨3, f, g, n, k, ⟨ra, L, rc, zs⟩⟩ S)) := by
  have hb : Below w.heap.size w (w.alloc (.cells #[.int .i64 3, .string f, .string g, .int .i64 n, .int .i64 k, .slice ra L rc] 31)) := (Below.refl _ _).alloc (Nat.le_refl _) _
  have h1 := hd.below hb
  have c0 := rename_disk h1 f g hx.f hx.g
  obtain ⟨r, hr⟩ : ∃ r, renameS f.data.toList g.data.toList S = r := ⟨_, rfl⟩
  rw [hr] at c0
  have e : doesS ⟨3, f, g, n, k, ⟨ra, L, rc, zs⟩⟩ S = (([], r.1), r.2) := by rw [← hr]; rfl
  obtain ⟨r1, r2⟩ := r
  have D : Hid (∀ w', Has _ O d r2 w' → DoesIt w O d (doesS ⟨3, f, g, n, k, ⟨ra, L, rc, zs⟩⟩ S) (.returned (.tuple #[.slice none 0 0, .int .i64 r1])) w') := fun w' h => does_nil hb h e
  have C0 := Lib.hid c0
  clear c0 hr e h1 hb hd hx
  unfold argOf
  go_enter Try.func8, Try.ntmps8
  go_wp2_with (go_at_call 14; (with_reducible refine C0.out.mono ?_); rintro e w' ⟨rfl, h2⟩; have H2 := Lib.hid h2; clear h2)
  go_ret2
  exact D.out _ H2.out

set_option maxRecDepth 100000 in
theorem does_4 (hd : IsDisk w O d S) (f g : ByteArray) (n k : Int) (ra : Option Addr) (L rc : Nat) (zs : List Int) (hx : OpOk w ⟨4, f, g, n, k, ⟨ra, L, rc, zs⟩⟩) :
    Calls Try.prog 8 #[.pointer (some ⟨d, 0, none⟩), argOf ⟨4, f, g, n, k, ⟨ra, L, rc, zs⟩⟩] w (DoesIt w O d (doesS ⟨4, f, g, n, k, ⟨ra, L, rc, zs⟩⟩ S)) := by
  have hb : Below w.heap.size w (w.alloc (.cells #[.int .i64 4, .string f, .string g, .int .i64 n, .int .i64 k, .slice ra L rc] 31)) := (Below.refl _ _).alloc (Nat.le_refl _) _
  have h1 := hd.below hb
  have c0 := remove_disk h1 f hx.f
  obtain ⟨r, hr⟩ : ∃ r, removeS f.data.toList S = r := ⟨_, rfl⟩
  rw [hr] at c0
  have e : doesS ⟨4, f, g, n, k, ⟨ra, L, rc, zs⟩⟩ S = (([], r.1), r.2) := by rw [← hr]; rfl
  obtain ⟨r1, r2⟩ := r
  have D : Hid (∀ w', Has _ O d r2 w' → DoesIt w O d (doesS ⟨4, f, g, n, k, ⟨ra, L, rc, zs⟩⟩ S) (.returned (.tuple #[.slice none 0 0, .int .i64 r1])) w') := fun w' h => does_nil hb h e
  have C0 := Lib.hid c0
  clear c0 hr e h1 hb hd hx
  unfold argOf
  go_enter Try.func8, Try.ntmps8
  go_wp2_with (go_at_call 19; (with_reducible refine C0.out.mono ?_); rintro e w' ⟨rfl, h2⟩; have H2 := Lib.hid h2; clear h2)
  go_ret2
  exact D.out _ H2.out

set_option maxRecDepth 100000 in
theorem does_5 (hd : IsDisk w O d S) (f g : ByteArray) (n k : Int) (ra : Option Addr) (L rc : Nat) (zs : List Int) (hx : OpOk w ⟨5, f, g, n, k, ⟨ra, L, rc, zs⟩⟩) :
    Calls Try.prog 8 #[.pointer (some ⟨d, 0, none⟩), argOf ⟨5, f, g, n, k, ⟨ra, L, rc, zs⟩⟩] w (DoesIt w O d (doesS ⟨5, f, g, n, k, ⟨ra, L, rc, zs⟩⟩ S)) := by
  have hb : Below w.heap.size w (w.alloc (.cells #[.int .i64 5, .string f, .string g, .int .i64 n, .int .i64 k, .slice ra L rc] 31)) := (Below.refl _ _).alloc (Nat.le_refl _) _
  have h1 := hd.below hb
  have c0 : Calls Try.prog 17 #[.pointer (some ⟨d, 0, none⟩), .string f] _ (RowOut _ (there f.data.toList S) (readL f.data.toList S)) := (read_disk h1 f hx.f).mono fun e w' ⟨v, x1, x2, x3⟩ => by
    obtain ⟨ad, cap, rfl, y1, y2, y3, _⟩ := Ob.own_row x2
    exact ⟨ad, cap, x1, x2, y1, y2, y3, x3⟩
  have e : doesS ⟨5, f, g, n, k, ⟨ra, L, rc, zs⟩⟩ S = ((readL f.data.toList S, there f.data.toList S), S) := rfl
  generalize readL f.data.toList S = l at *
  generalize there f.data.toList S = r1 at *
  obtain ⟨ll, hll⟩ : ∃ ll, l.length = ll := ⟨_, rfl⟩
  have D : Hid (∀ ad cap w', Fr.HasRow .u8 w' ad ll l → (ad = none → cap = 0) → ll ≤ cap → Below (w.alloc (.cells #[.int .i64 5, .string f, .string g, .int .i64 n, .int .i64 k, .slice ra L rc] 31)).heap.size (w.alloc (.cells #[.int .i64 5, .string f, .string g, .int .i64 n, .int .i64 k, .slice ra L rc] 31)) w' → DoesIt w O d (doesS ⟨5, f, g, n, k, ⟨ra, L, rc, zs⟩⟩ S) (.returned (.tuple #[.slice ad ll cap, .int .i64 r1])) w') := fun ad cap w' y1 y2 y3 y4 => by
    rw [e]
    subst hll
    exact ⟨ad, cap, O, rfl, y1, y2, y3, Step.of (Turned.of_below (hb.trans (y4.mono hb.size))), h1.below y4⟩
  unfold RowOut at c0
  rw [hll] at c0
  have C0 := Lib.hid c0
  clear c0 hll e h1 hb hd hx
  unfold argOf
  go_enter Try.func8, Try.ntmps8
  go_wp2_with (go_at_call 17; (with_reducible refine C0.out.mono ?_); rintro e w' ⟨ad, cap, rfl, _, y1, y2, y3, y4⟩; have Y1 := Lib.hid y1; have Y2 := Lib.hid y2; have Y3 := Lib.hid y3; have Y4 := Lib.hid y4; clear y1 y2 y3 y4)
  go_ret2
  exact D.out _ _ _ Y1.out Y2.out Y3.out Y4.out

set_option maxRecDepth 100000 in
theorem does_6 (hd : IsDisk w O d S) (f g : ByteArray) (n k : Int) (ra : Option Addr) (L rc : Nat) (zs : List Int) (hx : OpOk w ⟨6, f, g, n, k, ⟨ra, L, rc, zs⟩⟩) :
    Calls Try.prog 8 #[.pointer (some ⟨d, 0, none⟩), argOf ⟨6, f, g, n, k, ⟨ra, L, rc, zs⟩⟩] w (DoesIt w O d (doesS ⟨6, f, g, n, k, ⟨ra, L, rc, zs⟩⟩ S)) := by
  have hb : Below w.heap.size w (w.alloc (.cells #[.int .i64 6, .string f, .string g, .int .i64 n, .int .i64 k, .slice ra L rc] 31)) := (Below.refl _ _).alloc (Nat.le_refl _) _
  have h1 := hd.below hb
  have c0 := room_disk h1 n
  have e : doesS ⟨6, f, g, n, k, ⟨ra, L, rc, zs⟩⟩ S = (([], 0), { S with room := n }) := rfl
  generalize ({ S with room := n }) = r2 at *
  have D : Hid (∀ w', Has _ O d r2 w' → DoesIt w O d (doesS ⟨6, f, g, n, k, ⟨ra, L, rc, zs⟩⟩ S) (.returned (.tuple #[.slice none 0 0, .int .i64 0])) w') := fun w' h => does_nil hb h e
  have C0 := Lib.hid c0
  clear c0 e h1 hb hd hx
  unfold argOf
  go_enter Try.func8, Try.ntmps8
  go_wp2_with (go_at_call 20; (with_reducible refine C0.out.mono ?_); rintro e w' ⟨rfl, h2⟩; have H2 := Lib.hid h2; clear h2)
  go_ret2
  exact D.out _ H2.out

set_option maxRecDepth 100000 in
theorem does_7 (hd : IsDisk w O d S) (f g : ByteArray) (n k : Int) (ra : Option Addr) (L rc : Nat) (zs : List Int) (hx : OpOk w ⟨7, f, g, n, k, ⟨ra, L, rc, zs⟩⟩) :
    Calls Try.prog 8 #[.pointer (some ⟨d, 0, none⟩), argOf ⟨7, f, g, n, k, ⟨ra, L, rc, zs⟩⟩] w (DoesIt w O d (doesS ⟨7, f, g, n, k, ⟨ra, L, rc, zs⟩⟩ S)) := by
  have hb : Below w.heap.size w (w.alloc (.cells #[.int .i64 7, .string f, .string g, .int .i64 n, .int .i64 k, .slice ra L rc] 31)) := (Below.refl _ _).alloc (Nat.le_refl _) _
  have h1 := hd.below hb
  have c0 := arm_disk h1 n k hx.n
  have e : doesS ⟨7, f, g, n, k, ⟨ra, L, rc, zs⟩⟩ S = (([], 0), armS n k S) := rfl
  generalize (armS n k S) = r2 at *
  have D : Hid (∀ w', Has _ O d r2 w' → DoesIt w O d (doesS ⟨7, f, g, n, k, ⟨ra, L, rc, zs⟩⟩ S) (.returned (.tuple #[.slice none 0 0, .int .i64 0])) w') := fun w' h => does_nil hb h e
  have C0 := Lib.hid c0
  clear c0 e h1 hb hd hx
  unfold argOf
  go_enter Try.func8, Try.ntmps8
  go_wp2_with (go_at_call 21; (with_reducible refine C0.out.mono ?_); rintro e w' ⟨rfl, h2⟩; have H2 := Lib.hid h2; clear h2)
  go_ret2
  exact D.out _ H2.out

set_option maxRecDepth 100000 in
theorem does_8 (hd : IsDisk w O d S) (f g : ByteArray) (n k : Int) (ra : Option Addr) (L rc : Nat) (zs : List Int) (hx : OpOk w ⟨8, f, g, n, k, ⟨ra, L, rc, zs⟩⟩) :
    Calls Try.prog 8 #[.pointer (some ⟨d, 0, none⟩), argOf ⟨8, f, g, n, k, ⟨ra, L, rc, zs⟩⟩] w (DoesIt w O d (doesS ⟨8, f, g, n, k, ⟨ra, L, rc, zs⟩⟩ S)) := by
  have hb : Below w.heap.size w (w.alloc (.cells #[.int .i64 8, .string f, .string g, .int .i64 n, .int .i64 k, .slice ra L rc] 31)) := (Below.refl _ _).alloc (Nat.le_refl _) _
  have h1 := hd.below hb
  have c0 := off_disk h1 k
  have e : doesS ⟨8, f, g, n, k, ⟨ra, L, rc, zs⟩⟩ S = (([], 0), off k S) := rfl
  generalize (off k S) = r2 at *
  have D : Hid (∀ w', Has _ O d r2 w' → DoesIt w O d (doesS ⟨8, f, g, n, k, ⟨ra, L, rc, zs⟩⟩ S) (.returned (.tuple #[.slice none 0 0, .int .i64 0])) w') := fun w' h => does_nil hb h e
  have C0 := Lib.hid c0
  clear c0 e h1 hb hd hx
  unfold argOf
  go_enter Try.func8, Try.ntmps8
  go_wp2_with (go_at_call 15; (with_reducible refine C0.out.mono ?_); rintro e w' ⟨rfl, h2⟩; have H2 := Lib.hid h2; clear h2)
  go_ret2
  exact D.out _ H2.out

set_option maxRecDepth 100000 in
theorem does_9 (hd : IsDisk w O d S) (f g : ByteArray) (n k : Int) (ra : Option Addr) (L rc : Nat) (zs : List Int) (hx : OpOk w ⟨9, f, g, n, k, ⟨ra, L, rc, zs⟩⟩) :
    Calls Try.prog 8 #[.pointer (some ⟨d, 0, none⟩), argOf ⟨9, f, g, n, k, ⟨ra, L, rc, zs⟩⟩] w (DoesIt w O d (doesS ⟨9, f, g, n, k, ⟨ra, L, rc, zs⟩⟩ S)) := by
  have hb : Below w.heap.size w (w.alloc (.cells #[.int .i64 9, .string f, .string g, .int .i64 n, .int .i64 k, .slice ra L rc] 31)) := (Below.refl _ _).alloc (Nat.le_refl _) _
  have h1 := hd.below hb
  have c0 := on_disk h1
  have e : doesS ⟨9, f, g, n, k, ⟨ra, L, rc, zs⟩⟩ S = (([], 0), { S with down := false }) := rfl
  generalize ({ S with down := false }) = r2 at *
  have D : Hid (∀ w', Has _ O d r2 w' → DoesIt w O d (doesS ⟨9, f, g, n, k, ⟨ra, L, rc, zs⟩⟩ S) (.returned (.tuple #[.slice none 0 0, .int .i64 0])) w') := fun w' h => does_nil hb h e
  have C0 := Lib.hid c0
  clear c0 e h1 hb hd hx
  unfold argOf
  go_enter Try.func8, Try.ntmps8
  go_wp2_with (go_at_call 16; (with_reducible refine C0.out.mono ?_); rintro e w' ⟨rfl, h2⟩; have H2 := Lib.hid h2; clear h2)
  go_ret2
  exact D.out _ H2.out

set_option maxRecDepth 100000 in
theorem does_else (hd : IsDisk w O d S) (c : Int) (hc : ∀ i : Int, 0 ≤ i → i ≤ 9 → c ≠ i) (f g : ByteArray) (n k : Int) (ra : Option Addr) (L rc : Nat) (zs : List Int) :
    Calls Try.prog 8 #[.pointer (some ⟨d, 0, none⟩), argOf ⟨c, f, g, n, k, ⟨ra, L, rc, zs⟩⟩] w (DoesIt w O d (doesS ⟨c, f, g, n, k, ⟨ra, L, rc, zs⟩⟩ S)) := by
  have hb : Below w.heap.size w (w.alloc (.cells #[.int .i64 c, .string f, .string g, .int .i64 n, .int .i64 k, .slice ra L rc] 31)) := (Below.refl _ _).alloc (Nat.le_refl _) _
  have n0 : c ≠ 0 := hc 0 (by decide) (by decide)
  have n1 : c ≠ 1 := hc 1 (by decide) (by decide)
  have n2 : c ≠ 2 := hc 2 (by decide) (by decide)
  have n3 : c ≠ 3 := hc 3 (by decide) (by decide)
  have n4 : c ≠ 4 := hc 4 (by decide) (by decide)
  have n5 : c ≠ 5 := hc 5 (by decide) (by decide)
  have n6 : c ≠ 6 := hc 6 (by decide) (by decide)
  have n7 : c ≠ 7 := hc 7 (by decide) (by decide)
  have n8 : c ≠ 8 := hc 8 (by decide) (by decide)
  have n9 : c ≠ 9 := hc 9 (by decide) (by decide)
  have e : doesS ⟨c, f, g, n, k, ⟨ra, L, rc, zs⟩⟩ S = (([], 0), S) := by
    unfold doesS
    simp only [n0, n1, n2, n3, n4, n5, n6, n7, n8, n9, if_false]
  have D : Hid (DoesIt w O d (doesS ⟨c, f, g, n, k, ⟨ra, L, rc, zs⟩⟩ S) (.returned (.tuple #[.slice none 0 0, .int .i64 0])) (w.alloc (.cells #[.int .i64 c, .string f, .string g, .int .i64 n, .int .i64 k, .slice ra L rc] 31))) := does_nil hb ⟨O, Step.refl _ _, hd.below hb⟩ e
  have m0 : (c == 0) = false := by simpa using n0
  have m1 : (c == 1) = false := by simpa using n1
  have m2 : (c == 2) = false := by simpa using n2
  have m3 : (c == 3) = false := by simpa using n3
  have m4 : (c == 4) = false := by simpa using n4
  have m5 : (c == 5) = false := by simpa using n5
  have m6 : (c == 6) = false := by simpa using n6
  have m7 : (c == 7) = false := by simpa using n7
  have m8 : (c == 8) = false := by simpa using n8
  have m9 : (c == 9) = false := by simpa using n9
  clear e hb hd hc n0 n1 n2 n3 n4 n5 n6 n7 n8 n9
  unfold argOf
  go_enter Try.func8, Try.ntmps8
  go_wp2
  go_ret2
  exact D.out

theorem does_any (hd : IsDisk w O d S) (x : Opv) (hx : OpOk w x) : Calls Try.prog 8 #[.pointer (some ⟨d, 0, none⟩), argOf x] w (DoesIt w O d (doesS x S)) := by
  obtain ⟨c, f, g, n, k, ⟨ra, L, rc, zs⟩⟩ := x
  by_cases h0 : c = 0
  · subst h0; exact does_0 hd f g n k ra L rc zs hx
  by_cases h1 : c = 1
  · subst h1; exact does_1 hd f g n k ra L rc zs hx
  by_cases h2 : c = 2
  · subst h2; exact does_2 hd f g n k ra L rc zs hx
  by_cases h3 : c = 3
  · subst h3; exact does_3 hd f g n k ra L rc zs hx
  by_cases h4 : c = 4
  · subst h4; exact does_4 hd f g n k ra L rc zs hx
  by_cases h5 : c = 5
  · subst h5; exact does_5 hd f g n k ra L rc zs hx
  by_cases h6 : c = 6
  · subst h6; exact does_6 hd f g n k ra L rc zs hx
  by_cases h7 : c = 7
  · subst h7; exact does_7 hd f g n k ra L rc zs hx
  by_cases h8 : c = 8
  · subst h8; exact does_8 hd f g n k ra L rc zs hx
  by_cases h9 : c = 9
  · subst h9; exact does_9 hd f g n k ra L rc zs hx
  exact does_else hd c (fun i a b e => by omega) f g n k ra L rc zs
end
end Go.Proofs.Ytjeemgcenmcplaa.Dk

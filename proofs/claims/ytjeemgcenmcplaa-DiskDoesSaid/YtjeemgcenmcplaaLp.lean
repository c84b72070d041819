/-
  Layer 4: the law DiskDoes.
-/
import Derived.Test.YtjeemgcenmcplaaLo
namespace Go.Proofs.Ytjeemgcenmcplaa.Dk
open Go.RowKit Fo
set_option linter.unusedVariables false
set_option linter.unusedSimpArgs false

/-- A disk (at S) and a disk of the reference (at T), apart, made since W. -/
structure Pair (W w : World) (O1 : Nat → Prop) (d : Nat) (S : St) (O2 : Nat → Prop) (m : Nat) (T : St) : Prop where
  disk : IsDisk w O1 d S
  ref : IsRef w O2 m T
  h1 : ∀ i, O1 i → W.heap.size ≤ i
  h2 : ∀ i, O2 i → W.heap.size ≤ i
  apart : ∀ i, O1 i → ¬ O2 i
  frame : Below W.heap.size W w
section
variable {W w w' : World} {O1 O2 O' : Nat → Prop} {d m : Nat} {S T S' : St}
theorem Pair.below (h : Pair W w O1 d S O2 m T) (hb : Below w.heap.size w w') : Pair W w' O1 d S O2 m T :=
  ⟨h.disk.below hb, h.ref.below hb, h.h1, h.h2, h.apart, h.frame.trans (hb.mono h.frame.size)⟩
theorem disk_dom {w : World} {O : Nat → Prop} {d : Nat} {S : St} (h : IsDisk w O d S) : ∀ i, O i → i < w.heap.size := by
  obtain ⟨_, _, _, h⟩ := h; exact h.dom
theorem Pair.stepd (h : Pair W w O1 d S O2 m T) (hst : Step w O1 w' O') (hd : IsDisk w' O' d S') : Pair W w' O' d S' O2 m T :=
  ⟨hd, h.ref.turned hst.toTurned fun i hi ht => h.apart i ht hi, fun i hi => by
    rcases hst.own i hi with h1 | h1
    · exact h.h1 i h1
    · exact Nat.le_trans h.frame.size h1, h.h2, fun i hi h2 => by
    rcases hst.own i hi with h1 | h1
    · exact h.apart i h1 h2
    · have := h.ref.dom i h2; omega,
   h.frame.trans (hst.toTurned.below fun k hk => ⟨Nat.lt_of_lt_of_le hk h.frame.size, fun ho => by have := h.h1 k ho; omega⟩)⟩
theorem Pair.stepr (h : Pair W w O1 d S O2 m T) (hst : Step w O2 w' O') (hd : IsRef w' O' m S') : Pair W w' O1 d S O' m S' :=
  ⟨h.disk.turned hst.toTurned fun i hi ht => h.apart i hi ht, hd, h.h1, fun i hi => by
    rcases hst.own i hi with h1 | h1
    · exact h.h2 i h1
    · exact Nat.le_trans h.frame.size h1, fun i h1' hi => by
    rcases hst.own i hi with h1 | h1
    · exact h.apart i h1' h1
    · have := disk_dom h.disk i h1'; omega,
   h.frame.trans (hst.toTurned.below fun k hk => ⟨Nat.lt_of_lt_of_le hk h.frame.size, fun ho => by have := h.h2 k ho; omega⟩)⟩
end
theorem row_over {w w' : World} {ad : Option Addr} {l : List Int} (h : Fr.HasRow .u8 w ad l.length l) (hb : l = [] ∨ Below w.heap.size w w') : Fr.HasRow .u8 w' ad l.length l := by
  rcases hb with rfl | hb
  · exact ⟨Nat.le_refl _, by decide, fun h => absurd h (by decide)⟩
  · exact h.keep hb
set_option maxRecDepth 100000 in
set_option maxHeartbeats 1600000 in
theorem does_walk (room : Int) (a : Option Addr) (len cap : Nat) (X : Nat → Opv) (w : World) (ops : HasOps w a len X) :
    Calls Try.prog 3 #[.int .i64 room, .slice a len cap] w fun e w' => e = .returned (.bool true) ∧ Below w.heap.size w w' := by
  have hm := ops.1
  have OS := Lib.hid ops
  clear ops
  go_enter Try.func3, Try.ntmps3
  go_wp2_with fail
  refine (wakes_any _).mono ?_
  rintro e w1 ⟨rfl, hb1⟩
  have B1 := Lib.hid hb1; clear hb1
  have lg := long_any a len cap X w1 (OS.out.keep B1.out)
  cases hlb : longB X len with
  | true =>
    rw [hlb] at lg
    have LG := Lib.hid lg
    clear lg hlb
    go_wp2_with fail
    refine LG.out.mono ?_
    rintro e w2 ⟨rfl, hb2⟩
    have B2 := Lib.hid (B1.out.trans (hb2.mono B1.out.size)); clear hb2 LG
    go_wp2
    go_ret
    exact ⟨rfl, B2.out⟩
  | false =>
    rw [hlb] at lg
    have LG := Lib.hid lg
    have hcost : costL X len ≤ 4194304 := by unfold longB at hlb; simpa using hlb
    have hlen := costL_len X len
    clear lg hlb
    go_wp2_with fail
    refine LG.out.mono ?_
    rintro e w2 ⟨rfl, hb2⟩
    have B2 := Lib.hid (B1.out.trans (hb2.mono B1.out.size)); clear hb2 LG
    have OS2 := Lib.hid (OS.out.keep B2.out)
    go_wp2_with fail
    refine (new_any w2 room).mono ?_
    rintro e w3 ⟨rfl, hb3, hz3, hd3⟩
    have ID3 := Lib.hid hd3; have B3 := Lib.hid hb3
    clear hd3 hb3 hz3
    go_wp2_with fail
    refine (ref_new w3 room).mono ?_
    rintro e w4 ⟨rfl, hb4, hz4, hr4⟩
    have P4 : Hid (Pair w2 w4 (fun i => i = w2.heap.size ∨ i = w2.heap.size + 1) (w2.heap.size + 1) (start room) (fun i => i = w3.heap.size) w3.heap.size (start room)) := Lib.hid (by
      have hdom := disk_dom ID3.out
      exact ⟨ID3.out.below hb4, hr4, (fun i hi => by rcases hi with rfl | rfl <;> omega), (fun i hi => by subst hi; exact B3.out.size), (fun i hi h2 => by have := hdom i hi; omega), B3.out.trans (hb4.mono B3.out.size)⟩)
    obtain ⟨d, hd⟩ : ∃ d, d = w2.heap.size + 1 := ⟨_, rfl⟩
    obtain ⟨m, hm2⟩ : ∃ m, m = w3.heap.size := ⟨_, rfl⟩
    rw [← hd] at P4 ⊢
    rw [← hm2] at P4 ⊢
    clear hd hm2 hb4 hz4 hr4
    go_wp2_with fail
    go_loopg [25] len (fun mm i wr => ∃ (k : Nat) (S : St) (O1 O2 : Nat → Prop), k + mm = len ∧ i = .int .i64 (k : Int) ∧ Hid (Pair w2 wr O1 d S O2 m S))
    case atStart => exact ⟨0, _, _, _, by omega, rfl, P4⟩
    case round =>
      obtain ⟨k, S, O1, O2, hk, rfl, HP⟩ := hrel
      by_cases hlt : k < len
      · have os := OS2.out.keep HP.out.frame
        obtain ⟨b, off, e1, hc⟩ := os.2.1 (by omega)
        obtain ⟨c0, c1, c2, c3, c4, c5⟩ := op_cells (hc k hlt)
        obtain ⟨x, hx⟩ : ∃ x, X k = x := ⟨_, rfl⟩
        rw [hx] at c0 c1 c2 c3 c4 c5
        have OK : Hid (∀ w', Below w2.heap.size w2 w' → OpOk w' x) := by rw [← hx]; exact fun w' hb => (OS2.out.keep hb).2.2 k hlt
        subst e1
        obtain ⟨N, hN⟩ : ∃ N, N = wr.heap.size := ⟨_, rfl⟩
        obtain ⟨wa, hwa⟩ : ∃ wa, wa = wr.alloc (.cells #[.int .i64 x.kind, .string x.f, .string x.g, .int .i64 x.n, .int .i64 x.k, .slice x.b.a x.b.len x.b.cap] 31) := ⟨_, rfl⟩
        have PA : Hid (Pair w2 wa O1 d S O2 m S) := Lib.hid (by rw [hwa]; exact HP.out.below ((Below.refl _ _).alloc (Nat.le_refl _) _))
        have BX : Hid (wa.heap[N]? = some (.cells (opCells x) 31 (0, 0))) := Lib.hid (by rw [hwa, hN]; exact (MapKept.heap_alloc wr _).1)
        have L1 : Hid (∀ i, O1 i → i < N) := Lib.hid (by rw [hN]; exact disk_dom HP.out.disk)
        have L2 : Hid (∀ i, O2 i → i < N) := Lib.hid (by rw [hN]; exact HP.out.ref.dom)
        have HWA := Lib.hid hwa
        have ds := does_any PA.out.disk x (OK.out _ PA.out.frame)
        have sy : ∀ wx, ∀ O, IsRef wx O m S → Below w2.heap.size w2 wx → Calls Try.prog 9 #[.pointer (some ⟨m, 0, none⟩), argOf x] wx (SaysIt wx O m (doesS x S)) := fun wx O h hb => says_any ref_off h x (OK.out _ hb)
        unfold DoesIt at ds
        unfold SaysIt at sy
        obtain ⟨r, hr⟩ : ∃ r, doesS x S = r := ⟨_, rfl⟩
        rw [hr] at ds sy
        obtain ⟨⟨l0, c⟩, S'⟩ := r
        simp only at ds sy
        have SM : Hid (∀ wx ad1 cap1 ad2 cap2, Fr.HasRow .u8 wx ad1 l0.length l0 → Fr.HasRow .u8 wx ad2 l0.length l0 → Calls Try.prog 10 #[.slice ad1 l0.length cap1, .slice ad2 l0.length cap2] wx fun e w' => e = .returned (.bool true) ∧ Below wx.heap.size wx w') := Lib.hid fun wx ad1 cap1 ad2 cap2 r1 r2 => by
          have := same_any ad1 l0.length cap1 l0 ad2 l0.length cap2 l0 wx r1 r2
          rwa [sameB_self] at this
        have RO : Hid (∀ wx wy ad, Fr.HasRow .u8 wx ad l0.length l0 → (l0 = [] ∨ Below wx.heap.size wx wy) → Fr.HasRow .u8 wy ad l0.length l0) := Lib.hid fun _ _ _ h hb => row_over h hb
        obtain ⟨l1, hl1⟩ : ∃ l1, l0.length = l1 := ⟨_, rfl⟩
        rw [hl1] at ds sy SM RO
        have DS := Lib.hid ds; have SY := Lib.hid sy
        have tc : (c == c) = true := by simp
        have tc2 : (c != c) = false := by simp
        have HNN := Lib.hid hN
        clear os hc hx hN hwa ds sy hr hl1
        go_wp2_with fail
        rw [← HWA.out]
        rw [← HNN.out]
        clear c0 c1 c2 c3 c4 c5
        refine DS.out.mono ?_
        rintro e w9 ⟨ad9, cap9, O9, rfl, row9, _, _, hst9, hd9⟩
        have P9 := Lib.hid (PA.out.stepd hst9 hd9); have ROW9 := Lib.hid row9
        have b9 : w9.heap[N]? = some (.cells (opCells x) 31 (0, 0)) := (hst9.block N (lt_of_heap BX.out) fun ho => by have := L1.out _ ho; omega).trans BX.out
        have c0 : w9.cell? ⟨N, 0, none⟩ = some (.int .i64 x.kind) := Joins.cell_of_block b9 0
        have c1 : w9.cell? ⟨N, 1, none⟩ = some (.string x.f) := Joins.cell_of_block b9 1
        have c2 : w9.cell? ⟨N, 2, none⟩ = some (.string x.g) := Joins.cell_of_block b9 2
        have c3 : w9.cell? ⟨N, 3, none⟩ = some (.int .i64 x.n) := Joins.cell_of_block b9 3
        have c4 : w9.cell? ⟨N, 4, none⟩ = some (.int .i64 x.k) := Joins.cell_of_block b9 4
        have c5 : w9.cell? ⟨N, 5, none⟩ = some (.slice x.b.a x.b.len x.b.cap) := Joins.cell_of_block b9 5
        clear hst9 hd9 row9 b9 DS
        go_wp2_with fail
        clear c0 c1 c2 c3 c4 c5
        refine (SY.out w9 O2 P9.out.ref P9.out.frame).mono ?_
        rintro e w10 ⟨ad10, cap10, O10, rfl, row10, _, _, hst10, hd10, hor⟩
        have P10 := Lib.hid (P9.out.stepr hst10 hd10)
        have sm := SM.out w10 ad9 cap9 ad10 cap10 (RO.out _ _ _ ROW9.out hor) row10
        have SM10 := Lib.hid sm
        clear hst10 hd10 row10 hor sm
        go_wp2_with fail
        refine SM10.out.mono ?_
        rintro e w11 ⟨rfl, hb11⟩
        have P11 := Lib.hid (P10.out.below hb11)
        clear hb11 SM10
        go_wp2_with fail
        refine (alike_any P11.out.disk P11.out.ref).mono ?_
        rintro e w12 ⟨rfl, hb12⟩
        have P12 := Lib.hid (P11.out.below hb12)
        clear hb12
        go_wp2
        go_roundg (len - (k + 1))
        case measure => omega
        case rel => exact ⟨k + 1, S', O9, O10, by omega, by go_num, P12⟩
      · have F := Lib.hid (B2.out.trans (HP.out.frame.mono B2.out.size))
        go_wp2
        go_ret
        exact ⟨rfl, F.out⟩
end Go.Proofs.Ytjeemgcenmcplaa.Dk

/-
  Layer 5: open (the journal's segments one by one). (Written by gen_wopen.py.)
-/
import Derived.Test.YtdonkmkjblofpaaGreatDoorWj
namespace Go.Proofs.YtdonkmkjblofpaaGreatDoor.Wl
open Go.RowKit Go.Sort Dx Sx Dk
set_option linter.unusedVariables false
set_option linter.unusedSimpArgs false
/-- What the opening leaves: its error, the disk. -/
def openS : List Nat → St → Int × St
  | [], S => (0, S)
  | n :: r, S => if (rdS (segN n) S).1 ≠ 0 then rdS (segN n) S else openS r (rdS (segN n) S).2
/-- All records that the opening finds. -/
def recsO : List Nat → St → List (List Int)
  | [], _ => []
  | n :: r, S => recsB (readL (segN n) S) ++ recsO r (rdS (segN n) S).2
/-- The segments follow each other: no one is removed. -/
def Chain : List Nat → Nat → St → Prop
  | [], _, _ => True
  | n :: r, nx, S => n = nx ∧ there (segN n) S = 0 ∧ Bytes (readL (segN n) S) ∧ (readL (segN n) S).length ≤ 1048576 ∧ (1 ≤ n ∧ n ≤ 999999999) ∧ ((rdS (segN n) S).1 = 0 → Chain r (nx + (recsB (readL (segN n) S)).length) (rdS (segN n) S).2)
def nextO : List Nat → Nat → St → Nat
  | [], nx, _ => nx
  | n :: r, nx, S => nextO r (nx + (recsB (readL (segN n) S)).length) (rdS (segN n) S).2
def lastO : List Nat → Nat → Nat
  | [], l => l
  | n :: r, _ => lastO r n
def walC (d : Nat) (per next last failed : Int) : Array Value := #[.pointer (some ⟨d, 0, none⟩), .int .i64 per, .int .i64 next, .int .i64 last, .int .i64 failed]
/-- The opening under way: what is read, what is left. -/
structure OpSt (w2 wr : World) (O Oj : Nat → Prop) (A : Nat → Prop) (d : Nat) (S Sj : St) (g : Nat) (per : Int) (nx lst : Nat) (cell2 : Int) (R : List (List Int)) (k : Nat) (v : Value) (ns left : List Nat) : Prop where
  disk : IsDisk wr Oj d Sj
  own : ∀ i, Oj i → O i ∨ w2.heap.size ≤ i
  frame : Turned (fun i => O i ∨ i = g) w2 wr
  wal : wr.heap[g]? = some (.cells (walC d per cell2 lst 0) 103 (0, 0))
  acc : WasS A wr R k v
  free : ∀ b, A b → w2.heap.size ≤ b ∧ b < wr.heap.size ∧ ¬ Oj b
  chain : Chain left nx Sj
  rest : R.drop k = recsO left Sj
  le : k ≤ R.length
  st : openS ns S = openS left Sj
  nxt : nextO ns (ns.headD 1) S = nextO left nx Sj
  lst : lastO ns 1 = lastO left lst
def OpenIt (w : World) (O : Nat → Prop) (d : Nat) (S : St) (per : Int) (ns : List Nat) (e : Ending) (w' : World) : Prop := ∃ g v O', e = .returned (.tuple #[.pointer (some ⟨g, 0, none⟩), v]) ∧ w.heap.size ≤ g ∧ ¬ O' g ∧ w'.heap[g]? = some (.cells (walC d per (nextO ns (ns.headD 1) S) (lastO ns 1) 0) 103 (0, 0)) ∧
  WasS (fun b => w.heap.size ≤ b ∧ b < w'.heap.size ∧ ¬ O' b ∧ b ≠ g) w' (recsO ns S) (recsO ns S).length v ∧ Step w O w' O' ∧ IsDisk w' O' d (openS ns S).2
theorem OpSt.below {w2 wr w' : World} {O Oj A : Nat → Prop} {d : Nat} {S Sj : St} {g : Nat} {per : Int} {nx lst : Nat} {c2 : Int} {R : List (List Int)} {k : Nat} {v : Value} {ns left : List Nat} (h : OpSt w2 wr O Oj A d S Sj g per nx lst c2 R k v ns left) (hb : Below wr.heap.size wr w') : OpSt w2 w' O Oj A d S Sj g per nx lst c2 R k v ns left :=
  { h with disk := h.disk.below hb, frame := h.frame.trans (Turned.of_below hb), wal := (hb.block g (lt_of_heap h.wal)).trans h.wal, acc := h.acc.keep fun b ha hl => hb.block b hl, free := fun b ha => ⟨(h.free b ha).1, Nat.lt_of_lt_of_le (h.free b ha).2.1 hb.size, (h.free b ha).2.2⟩ }
theorem OpSt.g_out {w2 wr : World} {O Oj A : Nat → Prop} {d : Nat} {S Sj : St} {g : Nat} {per : Int} {nx lst : Nat} {c2 : Int} {R : List (List Int)} {k : Nat} {v : Value} {ns left : List Nat} (h : OpSt w2 wr O Oj A d S Sj g per nx lst c2 R k v ns left) (hO : ∀ i, O i → i < g) (hg : g < w2.heap.size) : ¬ Oj g := fun ho => by
  rcases h.own g ho with h1 | h1
  · have := hO g h1; omega
  · omega
theorem OpSt.store {w2 wr : World} {O Oj A : Nat → Prop} {d : Nat} {S Sj : St} {g : Nat} {per : Int} {nx lst : Nat} {c2 : Int} {R : List (List Int)} {k : Nat} {v : Value} {ns left : List Nat} (h : OpSt w2 wr O Oj A d S Sj g per nx lst c2 R k v ns left) (hO : ∀ i, O i → i < g) (hg : g < w2.heap.size) (z : Int) :
    OpSt w2 (wr.setCell ⟨g, 2, none⟩ (.int .i64 z)) O Oj A d S Sj g per nx lst z R k v ns left := by
  have hk : ∀ b, b ≠ g → (wr.setCell ⟨g, 2, none⟩ (.int .i64 z)).heap[b]? = wr.heap[b]? := fun b hb => Below.heap_setCell wr _ _ b hb
  have hgo := h.g_out hO hg
  have ht : Turned (fun i => i = g) wr (wr.setCell ⟨g, 2, none⟩ (.int .i64 z)) := Turned.setCell (O := fun i => i = g) wr 2 rfl _
  exact { h with
    disk := h.disk.turned ht fun i hi e => hgo (e ▸ hi)
    frame := h.frame.trans (ht.mono fun i _ e => .inr e)
    wal := by rw [Joins.block_setCell (i := 2) h.wal]; simp [walC]
    acc := h.acc.keep fun b ha _ => hk b (by have := (h.free b ha).1; omega)
    free := fun b ha => ⟨(h.free b ha).1, by have := (h.free b ha).2.1; simpa using this, (h.free b ha).2.2⟩ }
/-- The tables' blocks. -/
def glob (i : Nat) : Prop := i = 0 ∨ i = 3 ∨ i = 1
theorem glob_lt {w : World} (h : Tabs w) : ∀ i, glob i → i < w.heap.size := fun i hi => by
  rcases hi with rfl | rfl | rfl
  · exact tab_lt h.crc
  · exact Fr.lt_of_cell (h.pow.cell (g := 3) (by kernel_rfl) 0 (by decide))
  · obtain ⟨ev, h1, _⟩ := h.err
    exact Fr.lt_of_cell h1
theorem var_at {P : Program} {g : Nat} {W W' : World} {n : String} {cs : Array Value} (hh : W'.heap[g]? = W.heap[g]?) (hg : P.globalNamed n = some g) (hv : W.var? P n = some cs) : W'.var? P n = some cs := by
  unfold World.var? at hv ⊢
  simp only [hg, Option.bind_some] at hv ⊢
  rw [hh]
  exact hv
theorem tabs_turned {w w' : World} {T : Nat → Prop} (h : Tabs w) (ht : Turned T w w') (hT : ∀ i, glob i → ¬ T i) : Tabs w' := by
  have hl := glob_lt h
  refine ⟨?_, ?_, ?_⟩
  · have := h.crc
    unfold Tab Lib.TabIs at *
    exact var_at (ht.block _ (hl _ (.inl rfl)) (hT _ (.inl rfl))) (by kernel_rfl) this
  · have := h.pow
    unfold Lib.TabIs at *
    exact var_at (ht.block _ (hl _ (.inr (.inl rfl))) (hT _ (.inr (.inl rfl)))) (by kernel_rfl) this
  · obtain ⟨ev, h1, h2⟩ := h.err
    refine ⟨ev, ?_, h2⟩
    unfold World.cell? at h1 ⊢
    rw [ht.block _ (hl _ (.inr (.inr rfl))) (hT _ (.inr (.inr rfl)))]
    exact h1
theorem OpSt.wal7 {w2 w5 w6 w7 : World} {O Oj O6 A : Nat → Prop} {d : Nat} {S Sj : St} {g : Nat} {per : Int} {nx lst : Nat} {c2 : Int} {R : List (List Int)} {k : Nat} {v : Value} {ns left : List Nat} (h : OpSt w2 w5 O Oj A d S Sj g per nx lst c2 R k v ns left) (hO : ∀ i, O i → i < g) (hg : g < w2.heap.size)
    (st6 : Step w5 Oj w6 O6) (hgr : w6.grownBy w7 v.ownBlock) (hvA : ∀ b, v.ownBlock = some b → A b) : w7.heap[g]? = some (.cells (walC d per c2 lst 0) 103 (0, 0)) := by
  have e6 := (st6.block g (lt_of_heap h.wal) (h.g_out hO hg)).trans h.wal
  exact (hgr.block g (lt_of_heap e6) fun e => by have := (h.free g (hvA g e.symm)).1; omega).trans e6
theorem was_shape {A : Nat → Prop} {w : World} {C : List (List Int)} {j : Nat} {v : Value} (h : WasS A w C j v) : ∃ ad cap, v = .slice ad j cap := by
  obtain ⟨vs, h1, _⟩ := h
  rcases h1.2 with ⟨e, h0⟩ | ⟨g, cap, cur, e, _⟩
  · exact ⟨none, 0, by rw [e, h0]⟩
  · exact ⟨_, cap, e⟩
theorem OpSt.next {w2 w5 w6 w7 w8 : World} {O Oj O6 A : Nat → Prop} {d : Nat} {S Sj : St} {g : Nat} {per : Int} {nx lst : Nat} {R : List (List Int)} {k m n : Nat} {v v7 : Value} {ns r : List Nat} (h : OpSt w2 w5 O Oj A d S Sj g per nx lst nx R k v ns (n :: r)) (hO : ∀ i, O i → i < g) (hg : g < w2.heap.size)
    (st6 : Step w5 Oj w6 O6) (hd6 : IsDisk w6 O6 d (rdS (segN n) Sj).2) (hc : (rdS (segN n) Sj).1 = 0) (hm : (recsB (readL (segN n) Sj)).length = m)
    (was7 : WasS (fun b => A b ∨ (w5.heap.size ≤ b ∧ b < w6.heap.size ∧ ¬ O6 b) ∨ (b = w6.heap.size ∧ b < w7.heap.size)) w7 R (k + m) v7) (hgr : w6.grownBy w7 v.ownBlock) (hvA : ∀ b, v.ownBlock = some b → A b)
    (hw : w8 = (w7.setCell ⟨g, 2, none⟩ (.int .i64 ((nx : Int) + (m : Int)))).setCell ⟨g, 3, none⟩ (.int .i64 (n : Int))) :
    OpSt w2 w8 O O6 (fun b => A b ∨ (w5.heap.size ≤ b ∧ b < w6.heap.size ∧ ¬ O6 b) ∨ (b = w6.heap.size ∧ b < w7.heap.size)) d S (rdS (segN n) Sj).2 g per (nx + m) n ((nx + m : Nat) : Int) R (k + m) v7 ns r := by
  rw [show (nx : Int) + (m : Int) = ((nx + m : Nat) : Int) by omega] at hw
  have hgo := h.g_out hO hg
  have h25 := h.frame.size
  have hg6 : ¬ O6 g := fun ho => by
    rcases st6.own g ho with h1 | h1
    · exact hgo h1
    · omega
  have hA6 : ∀ b, A b → ¬ O6 b := fun b ha ho => by
    rcases st6.own b ho with h1 | h1
    · exact (h.free b ha).2.2 h1
    · have := (h.free b ha).2.1; omega
  have t7 : Turned (fun i => v.ownBlock = some i) w6 w7 := Turned.of_grown hgr fun b e => e
  have t8 : Turned (fun i => i = g) w7 w8 := by
    rw [hw]; exact (Turned.setCell (O := fun i => i = g) w7 2 rfl _).trans (Turned.setCell (O := fun i => i = g) _ 3 rfl _)
  have hk : ∀ b, b ≠ g → w8.heap[b]? = w7.heap[b]? := fun b hb => by
    rw [hw, Below.heap_setCell _ _ _ b hb, Below.heap_setCell _ _ _ b hb]
  have hs8 : w8.heap.size = w7.heap.size := by rw [hw]; simp
  have hch := h.chain
  unfold Chain at hch
  obtain ⟨c1, c2, c3, c4, c5, c6⟩ := hch
  have dom6 := disk_low hd6
  refine ⟨(hd6.turned t7 fun i hi e => hA6 i (hvA i e) hi).turned t8 fun i hi e => hg6 (e ▸ hi), fun i hi => ?_, ?_, ?_, ?_, ?_, ?_, ?_, ?_, ?_, ?_, ?_⟩
  · rcases st6.own i hi with h1 | h1
    · exact h.own i h1
    · exact .inr (by omega)
  · refine ⟨t8.os.trans (t7.os.trans (st6.os.trans h.frame.os)), t8.tape.trans (t7.tape.trans (st6.tape.trans h.frame.tape)), t8.output.trans (t7.output.trans (st6.output.trans h.frame.output)), by have := st6.size; have := t7.size; omega, fun i hi hn => ?_⟩
    have hno : ¬ O i := fun e => hn (.inl e)
    have hng : i ≠ g := fun e => hn (.inr e)
    have hi5 : i < w5.heap.size := by omega
    have hi6 : i < w6.heap.size := by have := st6.size; omega
    rw [hk i hng, t7.block i hi6 fun e => by have := (h.free i (hvA i e)).1; omega, st6.block i hi5 fun e => by
      rcases h.own i e with h1 | h1
      · exact hno h1
      · omega]
    exact h.frame.block i hi hn
  · have hg5 : g < w5.heap.size := by omega
    have e6 := (st6.block g hg5 hgo).trans h.wal
    have e7 := (t7.block g (lt_of_heap e6) fun e => by have := (h.free g (hvA g e)).1; omega).trans e6
    rw [hw, Joins.block_setCell (i := 3) (Joins.block_setCell (i := 2) e7 _) _]
    simp [walC]
  · refine was7.keep fun b hb _ => hk b fun e => ?_
    have := st6.size
    rcases hb with hb | hb | hb
    · have := (h.free b hb).1; omega
    · omega
    · omega
  · intro b hb
    have := st6.size
    have := t7.size
    rcases hb with hb | hb | hb
    · exact ⟨(h.free b hb).1, by have := (h.free b hb).2.1; omega, hA6 b hb⟩
    · exact ⟨by omega, by omega, hb.2.2⟩
    · exact ⟨by omega, by omega, fun ho => by have := dom6 b ho; omega⟩
  · rw [← hm]; exact c6 hc
  · have := h.rest
    unfold recsO at this
    rw [← List.drop_drop, this, List.drop_append_of_le_length (by omega), ← hm, List.drop_length, List.nil_append]
  · have := congrArg List.length h.rest
    unfold recsO at this
    rw [List.length_drop, List.length_append, hm] at this
    have := h.le
    rcases Nat.eq_zero_or_pos m with h0 | h0
    · omega
    · omega
  · rw [h.st]; conv => lhs; unfold openS
    rw [if_neg (by simp [hc])]
  · rw [h.nxt]; conv => lhs; unfold nextO
    rw [hm]
  · rw [h.lst]; rfl
def OpenPost (w : World) (O : Nat → Prop) (d : Nat) (S : St) (per : Int) (ns : List Nat) (e : Ending) (w' : World) : Prop := if (openS ns S).1 = 0 then OpenIt w O d S per ns e w' else FallIt w O d (openS ns S) e w'
theorem openIt_of {w w2 wr : World} {O Oj A : Nat → Prop} {d : Nat} {S Sj : St} {g : Nat} {per : Int} {nx lst : Nat} {c2 : Int} {R : List (List Int)} {k : Nat} {v : Value} {ns : List Nat} (h : OpSt w2 wr O Oj A d S Sj g per nx lst c2 R k v ns []) (hR : recsO ns S = R) (hb : Below w.heap.size w w2) (hg : w.heap.size ≤ g) (hgo : ¬ Oj g) (hg2 : g < w2.heap.size) (hc : c2 = nx) :
    OpenIt w O d S per ns (.returned (.tuple #[.pointer (some ⟨g, 0, none⟩), v])) wr := by
  have hk : k = R.length := by
    have := congrArg List.length h.rest
    unfold recsO at this
    simp at this
    have := h.le
    omega
  have h1 : openS ns S = (0, Sj) := h.st
  have h2 : nextO ns (ns.headD 1) S = nx := h.nxt
  have h3 : lastO ns 1 = lst := h.lst
  refine ⟨g, v, Oj, rfl, hg, hgo, ?_, ?_, ?_, ?_⟩
  · rw [h2, h3, ← hc]; exact h.wal
  · rw [hR, ← hk]
    exact h.acc.mono fun b hb' => ⟨Nat.le_trans hb.size (h.free b hb').1, (h.free b hb').2.1, (h.free b hb').2.2, by have := (h.free b hb').1; omega⟩
  · refine ⟨⟨h.frame.os.trans hb.os, h.frame.tape.trans hb.tape, h.frame.output.trans hb.output, Nat.le_trans hb.size h.frame.size, fun i hi hn => ?_⟩, fun i hi => (h.own i hi).imp id fun h => Nat.le_trans hb.size h⟩
    rw [h.frame.block i (Nat.lt_of_lt_of_le hi hb.size) fun e => by rcases e with e | e; exact hn e; omega]
    exact hb.block i hi
  · rw [h1]; exact h.disk
theorem fallIt_of {w w2 w5 w6 : World} {O Oj O6 A : Nat → Prop} {d : Nat} {S Sj S' : St} {g : Nat} {per : Int} {nx lst : Nat} {c2 : Int} {R : List (List Int)} {k : Nat} {v : Value} {ns left : List Nat} (h : OpSt w2 w5 O Oj A d S Sj g per nx lst c2 R k v ns left) (hb : Below w.heap.size w w2) (hg : w.heap.size ≤ g) (st6 : Step w5 Oj w6 O6) (hd6 : IsDisk w6 O6 d S') :
    Has w O d S' w6 := by
  refine ⟨O6, ⟨⟨st6.os.trans (h.frame.os.trans hb.os), st6.tape.trans (h.frame.tape.trans hb.tape), st6.output.trans (h.frame.output.trans hb.output), Nat.le_trans hb.size (Nat.le_trans h.frame.size st6.size), fun i hi hn => ?_⟩, fun i hi => ?_⟩, hd6⟩
  · have h2 := hb.size; have h3 := h.frame.size
    rw [st6.block i (by omega) fun e => by
      rcases h.own i e with e | e
      · exact hn e
      · omega, h.frame.block i (by omega) fun e => by rcases e with e | e; exact hn e; omega]
    exact hb.block i hi
  · rcases st6.own i hi with h1 | h1
    · exact (h.own i h1).imp id fun h => Nat.le_trans hb.size h
    · exact .inr (Nat.le_trans hb.size (Nat.le_trans h.frame.size h1))
set_option maxRecDepth 100000 in
set_option maxHeartbeats 1600000 in
theorem open_any {w : World} {O : Nat → Prop} {d : Nat} {S : St} {ns : List Nat} (hd : IsDisk w O d S) (hs : Segs S ns) (ht : Tabs w) (per : Int) (hch : Chain ns (ns.headD 1) S) (hR : (recsO ns S).length ≤ 1048576) (hgl : ∀ i, glob i → ¬ O i) :
    Calls Tryz.prog 78 #[.pointer (some ⟨d, 0, none⟩), .int .i64 per] w (OpenPost w O d S per ns) := by
  obtain ⟨g, hg⟩ : ∃ g, g = w.heap.size := ⟨_, rfl⟩
  obtain ⟨q, hq⟩ : ∃ q, ns.length = q := ⟨_, rfl⟩
  obtain ⟨R, hRR⟩ : ∃ R, recsO ns S = R := ⟨_, rfl⟩
  have hq16 : q ≤ 16 := by rw [← hq, show ns.length = (namesL S).length by rw [hs.names, List.length_map]]; exact few_names hd.good
  have hglt : ∀ i, glob i → i < g := by rw [hg]; exact glob_lt ht
  have GL := Lib.hid (fun i (hi : glob i) (e : O i ∨ i = g) => (by rcases e with e | e; exact hgl i hi e; have := hglt i hi; omega : False))
  clear hgl hglt
  have LOW : Hid (∀ i, O i → i < g) := Lib.hid (by rw [hg]; exact disk_low hd)
  obtain ⟨w1, hw1⟩ : ∃ w1, w1 = w.alloc (.cells #[.pointer (some ⟨d, 0, none⟩), .int .i64 per, .int .i64 1, .int .i64 1, .int .i64 0] 103) := ⟨_, rfl⟩
  have hb1 : Below w.heap.size w w1 := by rw [hw1]; exact (Below.refl _ _).alloc (Nat.le_refl _) _
  have hx1 : w1.heap[g]? = some (.cells (walC d per 1 1 0) 103 (0, 0)) := by rw [hw1, hg]; exact (MapKept.heap_alloc w _).1
  have sg := segments_any (hd.below hb1) hs (ht.keep hb1)
  unfold SegsIt at sg
  rw [hq] at sg
  rw [hRR] at hR
  have SG := Lib.hid sg; have HD := Lib.hid hd; have HS := Lib.hid hs; have HT := Lib.hid ht; have HCH := Lib.hid hch; have HRR := Lib.hid hRR; have HQ := Lib.hid hq; have HG := Lib.hid hg; have HW1 := Lib.hid hw1; have HB1 := Lib.hid hb1; have HX1 := Lib.hid hx1
  clear hd hs ht hch hRR hq sg hg hw1 hb1 hx1
  go_enter Tryz.func78, Tryz.ntmps78
  go_wp2_with fail
  rw [← HW1.out, ← HG.out]
  refine SG.out.mono ?_
  rintro e w2 ⟨ad1, cap1, rfl, hc1, hc1b, row1, loc1, hb2⟩
  have ROW1 := Lib.hid row1; have LOC1 := Lib.hid loc1; have HB2 := Lib.hid hb2
  have hg2 : g < w2.heap.size := by have := lt_of_heap HX1.out; have := hb2.size; omega
  have OP0 : Hid (OpSt w2 w2 O O (fun _ => False) d S S g per (ns.headD 1) 1 1 R 0 (.slice none 0 0) ns ns) := Lib.hid ⟨(HD.out.below HB1.out).below hb2, fun i hi => .inl hi, Turned.refl _ _, (hb2.block g (lt_of_heap HX1.out)).trans HX1.out, was_empty _ _ _, fun b hb => hb.elim, HCH.out, HRR.out.symm, Nat.zero_le _, rfl, rfl, rfl⟩
  clear row1 loc1 hb2 SG
  go_wp2_with fail
  go_loopg [7, 8, 19] q (fun m r rm i wr => ∃ (j k : Nat) (ao : Option Addr) (co : Nat) (Oj A : Nat → Prop) (Sj : St) (nx lst : Nat) (c2 : Int), j + m = q ∧ i = .int .i64 (j : Int) ∧ rm = .bool false ∧ r = .slice ao k co ∧ Hid ((j = 0 ∧ nx = ns.headD 1 ∧ c2 = 1) ∨ (0 < j ∧ c2 = nx)) ∧ Hid (OpSt w2 wr O Oj A d S Sj g per nx lst c2 R k (.slice ao k co) ns (ns.drop j)))
  case atStart => exact ⟨0, 0, none, 0, _, _, S, _, 1, 1, by omega, rfl, rfl, rfl, Lib.hid (.inl ⟨rfl, rfl, rfl⟩), OP0⟩
  case round =>
    obtain ⟨j, k, ao, co, Oj, A, Sj, nx, lst, c2, hj, rfl, rfl, rfl, HJ, HP⟩ := hrel
    by_cases hlt : j < q
    · have hjn : j < ns.length := by rw [HQ.out]; exact hlt
      obtain ⟨n, hn⟩ : ∃ n, ns[j] = n := ⟨_, rfl⟩
      have hdr : ns.drop j = n :: ns.drop (j + 1) := by rw [List.drop_eq_getElem_cons hjn, hn]
      have hp := HP.out
      rw [hdr] at hp
      have hch := hp.chain
      unfold Chain at hch
      obtain ⟨rfl, hth, hby, hle, hn9, _⟩ := hch
      obtain ⟨b1, off1, e1, hcell⟩ := ROW1.out.2.2 (by omega)
      have hl1 := LOC1.out _ e1
      have cj : wr.cell? ⟨b1, off1 + j, none⟩ = some (.int .i64 (n : Int)) := by
        have h1 := hcell j hlt
        have h2 : (List.map (fun n : Nat => (n : Int)) ns).getD j 0 = (n : Int) := by simp [List.getD, hjn, hn]
        rw [h2] at h1
        have hbk : wr.heap[b1]? = w2.heap[b1]? := hp.frame.block b1 hl1.2 fun e => by
          have hs1 := HB1.out.size
          have hl2 := lt_of_heap HX1.out
          rcases e with e | e
          · have := LOW.out b1 e; have := hl1.1; show False; simp only at *; omega
          · have := hl1.1; simp only at *; omega
        exact (World.cell?_of_block (a := ⟨b1, off1 + j, none⟩) hbk).trans h1
      have OP1 := Lib.hid (hp.store LOW.out hg2 (n : Int))
      have OP1b : Hid (0 < j → OpSt w2 wr O Oj A d S Sj g per n lst (n : Int) R k (.slice ao k co) ns (n :: ns.drop (j + 1))) := Lib.hid fun h0 => by
        rcases HJ.out with ⟨h1, _⟩ | ⟨_, h1⟩
        · omega
        · rw [h1] at hp; exact hp
      have w2c : wr.cell? ⟨g, 2, none⟩ = some (.int .i64 c2) := Joins.cell_of_block hp.wal 2
      have w2f := Joins.unfrozen_of_block hp.wal 2
      subst e1
      have hj0 : (0 : Int) ≤ (j : Int) := by omega
      have hj1 : (j : Int) < (q : Int) := by omega
      obtain ⟨Rj, hRj⟩ : ∃ Rj, recsB (readL (segN n) Sj) = Rj := ⟨_, rfl⟩
      obtain ⟨m, hm⟩ : ∃ m, Rj.length = m := ⟨_, rfl⟩
      have hrest := hp.rest
      unfold recsO at hrest
      rw [hRj] at hrest
      have hkm : k + m ≤ R.length := by
        have := congrArg List.length hrest
        rw [List.length_drop, List.length_append, hm] at this
        have := hp.le
        rcases Nat.eq_zero_or_pos m with h0 | h0 <;> omega
      have hgd : ∀ i, i < m → R.getD (k + i) [] = Rj.getD i [] := fun i hi => by
        have h1 : (R.drop k)[i]? = Rj[i]? := by rw [hrest, List.getElem?_append_left (by omega)]
        rw [List.getElem?_drop] at h1
        simp [List.getD, h1]
      have hSt := hp.st
      have hko := hp.le
      obtain ⟨nm, hnm⟩ : ∃ nm, bs (segN n) = nm := ⟨_, rfl⟩
      have hnl : nm.data.toList = segN n := by rw [← hnm, bs_data]
      have hns : nm.size ≤ maxLen := by rw [← hnm, bs_size]; unfold segN maxLen; rw [List.length_cons, low_length]; omega
      have NM : Hid (∀ wx, Below w2.heap.size w2 wx ∨ True → Tabs wx → Calls Tryz.prog 11 #[.int .i64 (n : Int)] wx fun e w' => e = .returned (.string nm) ∧ Below wx.heap.size wx w') := Lib.hid fun wx _ ht => by rw [← hnm]; exact name_any n hn9.1 hn9.2 wx ht
      have RS : Hid (∀ wx, IsDisk wx Oj d Sj → Tabs wx → Calls Tryz.prog 94 #[.pointer (some ⟨d, 0, none⟩), .string nm] wx fun e w' => if (rdS (segN n) Sj).1 = 0 then RdIt wx Oj d Rj (rdS (segN n) Sj).2 e w' else FallIt wx Oj d (rdS (segN n) Sj) e w') := Lib.hid fun wx hdx htx => by
        have := rd_any hdx nm hns (by rw [hnl]; exact hth) htx (by rw [hnl]; exact hby) (by rw [hnl]; exact hle)
        rw [hnl, hRj] at this
        exact this
      have TB : Hid (∀ wx, Turned (fun i => O i ∨ i = g) w2 wx → Tabs wx) := Lib.hid fun wx h => tabs_turned (HT.out.keep (HB1.out.trans (HB2.out.mono HB1.out.size))) h GL.out
      have HKM := Lib.hid hkm; have HGD := Lib.hid hgd; have HST := Lib.hid hSt; have HM := Lib.hid hm; have HRJ := Lib.hid hRj; have HN9 := Lib.hid hn9
      have tn : ((n : Int) != (n : Int)) = false := by simp
      have n0 : (0 : Int) ≤ (n : Int) := by omega
      have n9 : (n : Int) ≤ 999999999 := by have := hn9.2; omega
      have m9 : m ≤ 1048576 := by omega
      clear hp hth hby hle hcell hl1 hrest hRj hm hkm hgd hSt hnm hnl hns hdr hn hjn hko hn9
      by_cases h0 : j = 0
      · have tj : ((j : Int) == 0) = true := by simp; omega
        obtain ⟨wx, hwx⟩ : ∃ wx, wx = wr.setCell ⟨g, 2, none⟩ (.int .i64 (n : Int)) := ⟨_, rfl⟩
        have OPX : Hid (OpSt w2 wx O Oj A d S Sj g per n lst (n : Int) R k (.slice ao k co) ns (n :: ns.drop (j + 1))) := Lib.hid (by rw [hwx]; exact OP1.out)
        have HWX := Lib.hid hwx; have H0 := Lib.hid h0
        clear h0 hwx
        go_wp2_with fail
        rw [← HWX.out]
        clear cj w2c w2f
        refine (NM.out wx (.inr trivial) (TB.out _ OPX.out.frame)).mono ?_
        rintro e w5 ⟨rfl, hb5⟩
        have OP5 := Lib.hid (OPX.out.below hb5)
        clear hb5
        have rs := RS.out w5 OP5.out.disk (TB.out w5 OP5.out.frame)
        by_cases hc : (rdS (segN n) Sj).1 = 0
        · simp only [if_pos hc] at rs
          unfold RdIt at rs
          have RS5 := Lib.hid rs; have HC := Lib.hid hc
          clear rs hc
          go_wp2_with fail
          refine RS5.out.mono ?_
          rintro e w6 ⟨v6, O6, rfl, was6, st6, hd6⟩
          rw [HM.out] at was6
          obtain ⟨ad6, cap6, e6⟩ := was_shape was6
          subst e6
          have WAS6 := Lib.hid was6; have ST6 := Lib.hid st6; have HD6 := Lib.hid hd6
          have ACC6 : Hid (WasS A w6 R k (.slice ao k co)) := Lib.hid (OP5.out.acc.keep fun b ha hl => st6.block b hl (OP5.out.free b ha).2.2)
          clear was6 st6 hd6 RS5
          go_wp2_with (at_builtin; go_loud (refine wp_wass rfl (.tmp 49) (.tmp 50) rfl A _ R Rj k m _ _ rfl rfl ACC6.out WAS6.out HGD.out (by have := HKM.out; omega) ?_); intro v7 w7 was7 hv7 hg7 hvA; obtain ⟨ad7, cap7, rfl⟩ := hv7; have WAS7 := Lib.hid was7; have HG7 := Lib.hid hg7; have HVA := Lib.hid hvA; have bx7 := OP5.out.wal7 LOW.out hg2 ST6.out hg7 hvA; have y2 : w7.cell? ⟨g, 2, none⟩ = some (.int .i64 (n : Int)) := Joins.cell_of_block bx7 2; have y3 : w7.cell? ⟨g, 3, none⟩ = some (.int .i64 (lst : Int)) := Joins.cell_of_block bx7 3; have f2 := Joins.unfrozen_of_block bx7 2; have f3 := Joins.unfrozen_of_block bx7 3; clear was7 hg7 hvA bx7)
          have D8 : Hid (∀ w8, w8 = (w7.setCell ⟨g, 2, none⟩ (.int .i64 ((n : Int) + (m : Int)))).setCell ⟨g, 3, none⟩ (.int .i64 (n : Int)) → OpSt w2 w8 O O6 _ d S (rdS (segN n) Sj).2 g per (n + m) n ((n + m : Nat) : Int) R (k + m) (.slice ad7 (k + m) cap7) ns (ns.drop (j + 1))) := Lib.hid fun w8 hw8 => OP5.out.next LOW.out hg2 ST6.out HD6.out HC.out (by rw [HRJ.out]; exact HM.out) WAS7.out HG7.out HVA.out hw8
          go_roundg (q - (j + 1))
          case measure => omega
          case rel => exact ⟨j + 1, k + m, ad7, cap7, O6, _, (rdS (segN n) Sj).2, n + m, n, ((n + m : Nat) : Int), by omega, by go_num, rfl, rfl, Lib.hid (.inr ⟨Nat.succ_pos _, rfl⟩), Lib.hid (D8.out _ rfl)⟩
        · simp only [if_neg hc] at rs
          have F : Hid (openS ns S = rdS (segN n) Sj) := Lib.hid (by rw [HST.out]; conv => lhs; unfold openS
                                                                     rw [if_pos hc])
          have RS5 := Lib.hid rs
          have HCC := Lib.hid hc
          clear rs hc
          go_wp2_with fail
          refine RS5.out.mono ?_
          rintro e w6 ⟨rfl, O6, st6, hd6⟩
          have D : Hid (OpenPost w O d S per ns (fall (rdS (segN n) Sj).1) w6) := Lib.hid (by
            unfold OpenPost
            rw [F.out, if_neg HCC.out]
            exact ⟨rfl, fallIt_of OP5.out (HB1.out.trans (HB2.out.mono HB1.out.size)) (by rw [HG.out]; exact Nat.le_refl _) st6 hd6⟩)
          clear st6 hd6 RS5
          unfold fall at D ⊢
          go_wp2
          exact ⟨rfl, D.out⟩
      · have tj : ((j : Int) == 0) = false := by simp; omega
        have OPX := Lib.hid (OP1b.out (by omega))
        clear w2c
        have w2c : wr.cell? ⟨g, 2, none⟩ = some (.int .i64 (n : Int)) := Joins.cell_of_block OPX.out.wal 2
        have H0 := Lib.hid h0
        clear h0
        go_wp2_with fail
        clear cj w2c w2f
        refine (NM.out wr (.inr trivial) (TB.out _ OPX.out.frame)).mono ?_
        rintro e w5 ⟨rfl, hb5⟩
        have OP5 := Lib.hid (OPX.out.below hb5)
        clear hb5
        have rs := RS.out w5 OP5.out.disk (TB.out w5 OP5.out.frame)
        by_cases hc : (rdS (segN n) Sj).1 = 0
        · simp only [if_pos hc] at rs
          unfold RdIt at rs
          have RS5 := Lib.hid rs; have HC := Lib.hid hc
          clear rs hc
          go_wp2_with fail
          refine RS5.out.mono ?_
          rintro e w6 ⟨v6, O6, rfl, was6, st6, hd6⟩
          rw [HM.out] at was6
          obtain ⟨ad6, cap6, e6⟩ := was_shape was6
          subst e6
          have WAS6 := Lib.hid was6; have ST6 := Lib.hid st6; have HD6 := Lib.hid hd6
          have ACC6 : Hid (WasS A w6 R k (.slice ao k co)) := Lib.hid (OP5.out.acc.keep fun b ha hl => st6.block b hl (OP5.out.free b ha).2.2)
          clear was6 st6 hd6 RS5
          go_wp2_with (at_builtin; go_loud (refine wp_wass rfl (.tmp 49) (.tmp 50) rfl A _ R Rj k m _ _ rfl rfl ACC6.out WAS6.out HGD.out (by have := HKM.out; omega) ?_); intro v7 w7 was7 hv7 hg7 hvA; obtain ⟨ad7, cap7, rfl⟩ := hv7; have WAS7 := Lib.hid was7; have HG7 := Lib.hid hg7; have HVA := Lib.hid hvA; have bx7 := OP5.out.wal7 LOW.out hg2 ST6.out hg7 hvA; have y2 : w7.cell? ⟨g, 2, none⟩ = some (.int .i64 (n : Int)) := Joins.cell_of_block bx7 2; have y3 : w7.cell? ⟨g, 3, none⟩ = some (.int .i64 (lst : Int)) := Joins.cell_of_block bx7 3; have f2 := Joins.unfrozen_of_block bx7 2; have f3 := Joins.unfrozen_of_block bx7 3; clear was7 hg7 hvA bx7)
          have D8 : Hid (∀ w8, w8 = (w7.setCell ⟨g, 2, none⟩ (.int .i64 ((n : Int) + (m : Int)))).setCell ⟨g, 3, none⟩ (.int .i64 (n : Int)) → OpSt w2 w8 O O6 _ d S (rdS (segN n) Sj).2 g per (n + m) n ((n + m : Nat) : Int) R (k + m) (.slice ad7 (k + m) cap7) ns (ns.drop (j + 1))) := Lib.hid fun w8 hw8 => OP5.out.next LOW.out hg2 ST6.out HD6.out HC.out (by rw [HRJ.out]; exact HM.out) WAS7.out HG7.out HVA.out hw8
          go_roundg (q - (j + 1))
          case measure => omega
          case rel => exact ⟨j + 1, k + m, ad7, cap7, O6, _, (rdS (segN n) Sj).2, n + m, n, ((n + m : Nat) : Int), by omega, by go_num, rfl, rfl, Lib.hid (.inr ⟨Nat.succ_pos _, rfl⟩), Lib.hid (D8.out _ rfl)⟩
        · simp only [if_neg hc] at rs
          have F : Hid (openS ns S = rdS (segN n) Sj) := Lib.hid (by rw [HST.out]; conv => lhs; unfold openS
                                                                     rw [if_pos hc])
          have RS5 := Lib.hid rs
          have HCC := Lib.hid hc
          clear rs hc
          go_wp2_with fail
          refine RS5.out.mono ?_
          rintro e w6 ⟨rfl, O6, st6, hd6⟩
          have D : Hid (OpenPost w O d S per ns (fall (rdS (segN n) Sj).1) w6) := Lib.hid (by
            unfold OpenPost
            rw [F.out, if_neg HCC.out]
            exact ⟨rfl, fallIt_of OP5.out (HB1.out.trans (HB2.out.mono HB1.out.size)) (by rw [HG.out]; exact Nat.le_refl _) st6 hd6⟩)
          clear st6 hd6 RS5
          unfold fall at D ⊢
          go_wp2
          exact ⟨rfl, D.out⟩
    · obtain rfl : q = j := by omega
      have D : Hid (OpenPost w O d S per ns (.returned (.tuple #[.pointer (some ⟨g, 0, none⟩), .slice ao k co])) wr) := Lib.hid (by
        have hp := HP.out
        rw [List.drop_of_length_le (by rw [HQ.out]; exact Nat.le_refl _)] at hp
        have e0 : openS ns S = (0, Sj) := hp.st
        unfold OpenPost
        rw [e0, if_pos rfl]
        have hc2 : c2 = (nx : Int) := by
          rcases HJ.out with ⟨h1, h2, h3⟩ | ⟨_, h3⟩
          · have : ns = [] := List.eq_nil_of_length_eq_zero (by rw [HQ.out]; exact h1)
            rw [h3, h2, this]; rfl
          · exact h3
        exact openIt_of hp HRR.out (HB1.out.trans (HB2.out.mono HB1.out.size)) (by rw [HG.out]; exact Nat.le_refl _) (hp.g_out LOW.out hg2) hg2 hc2)
      go_wp2
      go_ret2
      exact D.out
end Go.Proofs.YtdonkmkjblofpaaGreatDoor.Wl

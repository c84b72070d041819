/-
  Layer 7: the law on Frames.
-/
import Derived.Test.YtjgkjmegpinelaaDoorUm
namespace Go.Proofs.YtjgkjmegpinelaaDoor.Tg
open Go.RowKit Go.Shelf Dx Sx Rf
set_option linter.unusedVariables false
set_option linter.unusedSimpArgs false
attribute [local go_sem] Oper.semAt_some

/-! ### A result in a box; leaving with marks -/
abbrev Bx (W : World) (g : Nat) (v : Value) (T : TypeId) : Prop := W.heap[g]? = some (.cells #[v] T (0, 0))
theorem Bx.cell {W : World} {g : Nat} {v : Value} {T : TypeId} (h : Bx W g v T) : W.cell? ⟨g, 0, none⟩ = some v := by rw [Lib.cell_of_heap h]; rfl
theorem Bx.free {W : World} {g : Nat} {v : Value} {T : TypeId} (h : Bx W g v T) : W.frozen? ⟨g, 0, none⟩ = false := Lib.frozen_of_heap h 0
theorem Bx.set {W : World} {g : Nat} {v : Value} {T : TypeId} (h : Bx W g v T) (v' : Value) : Bx (W.setCell ⟨g, 0, none⟩ v') g v' T := by
  rw [setCell_eq_setRow W g 0 _ _ _ _ h]
  exact setRow_heap W g _ _ _ _ h
theorem Bx.lt {W : World} {g : Nat} {v : Value} {T : TypeId} (h : Bx W g v T) : g < W.heap.size := (Array.getElem?_eq_some_iff.1 h).1
theorem Bx.keep {W W' : World} {g : Nat} {v : Value} {T : TypeId} (h : Bx W g v T) (hb : Below W.heap.size W W') : Bx W' g v T := (hb.block g h.lt).trans h
theorem Bx.new (w : World) (v : Value) (T : TypeId) : Bx (w.alloc (.cells #[v] T)) w.heap.size v T := (MapKept.heap_alloc w _).1
theorem set_grown (W : World) (g : Nat) (v : Value) : W.grownBy (W.setCell ⟨g, 0, none⟩ v) (some g) := ⟨rfl, rfl, rfl, by simp [World.setCell], fun k _ hk => Below.heap_setCell _ _ _ _ (fun e => hk (by rw [e]))⟩
theorem results_box {fn : Func} {p : Tmp} (h : fn.results = #[.cell p 4]) (tmps : Array Value) (W : World) (g : Nat) (r : Bool) (ht : tmps.getD p undef = .pointer (some ⟨g, 0, none⟩)) (hg : Bx W g (.bool r) 4) :
    (results fn tmps).run Tryd.prog W = .ok (.bool r) W := by
  have hp' : tmps[p]?.getD undef = .pointer (some ⟨g, 0, none⟩) := by simpa using ht
  have hc := hg.cell
  simp [results, h, hp', asAddr, loadVar, go_sem, hc]
theorem ret_true {fn : Func} {p : Tmp} (h : fn.results = #[.cell p 4]) {tmps : Array Value} {ds : List Deferred} {w W : World} {N g : Nat} (ht : tmps.getD p undef = .pointer (some ⟨g, 0, none⟩)) (hm : Marks ds W) (hlow : ∀ d ∈ ds, ∀ r, d.target = .collected r → N ≤ r)
    (hg : Bx W g (.bool true) 4) (hB : Below N w W) : LeavesInM Fence.wide 6 Tryd.prog fn tmps (fun e w' => e = .returned (.bool true) ∧ Below N w w') ds .returning W := by
  refine leaves_marks ds W hm fun W' hs => ⟨_, results_box h tmps W' g true ht ?_, rfl, ?_⟩
  · refine (hs.block g fun d hd e => ?_).trans hg
    obtain ⟨r, h1, h2⟩ := hm.2 d hd
    rw [e] at h1
    cases h1
    rw [show W.heap[g]? = _ from hg] at h2
    cases h2
  · refine ⟨hs.os.trans hB.os, hs.tape.trans hB.tape, hs.output.trans hB.output, by rw [hs.size]; exact hB.size, fun k hk => ?_⟩
    rw [hs.block k fun d hd e => by have := hlow d hd k e; omega]
    exact hB.block k hk
theorem run_equalIn_func_nil {P : Program} (w : World) (n : Nat) (t : TypeId) {x : Array TypeId} {y : Array TypeId} {z : Bool} (h : P.underlying t = some (.func x y z)) (f : Fn) (c d : Array Value) : (Op.equalIn (n + 1) t (.func f c d) .nilFunc).run P w = .ok false w := by
  simp [Op.equalIn, run_underlying h]
theorem run_eql_func_nil {P : Program} (w : World) (t : TypeId) {x : Array TypeId} {y : Array TypeId} {z : Bool} (h : P.underlying t = some (.func x y z)) (f : Fn) (c d : Array Value) : (binOp .eql t (.func f c d) .nilFunc).run P w = .ok (.bool false) w := by
  simp only [binOp]
  simp [Op.equal, Op.maxDepth, run_equalIn_func_nil w 9999 t h f c d]
theorem Marks.box {ds : List Deferred} {W : World} {g : Nat} {v v' : Value} {T : TypeId} (hm : Marks ds W) (hg : Bx W g v T) : Marks ds (W.setCell ⟨g, 0, none⟩ v') := ⟨hm.1, fun d hd => by
  obtain ⟨r, h1, h2⟩ := hm.2 d hd
  refine ⟨r, h1, (Below.heap_setCell _ _ _ _ (fun e => ?_)).trans h2⟩
  simp only at e
  rw [e, show W.heap[g]? = _ from hg] at h2
  cases h2⟩
theorem frN_len : ∀ (k : Nat) (b : List UInt8), (frN k b).1.length ≤ k
  | 0, b => Nat.le_refl _
  | k + 1, b => by
    rw [frN]
    split
    · simp
    · simp only [List.length_cons]
      have := frN_len k (b.drop (decS b).2.1)
      omega
theorem framesS_len (b : List UInt8) : (framesS b).1.length ≤ b.length := frN_len _ _
/-- What a round over the frames finds, with the reference's items beside it. -/
theorem round_facts {W : World} {N D : Nat} {a2 : Option Addr} {c2 : Nat} {xs pre : List Itm} {x : Itm} {b : List UInt8} (O : OwnI W N (.slice a2 xs.length c2) xs) (hxs : xs.map Prod.snd = (framesS b).1) (hok : ItmOk D b pre x W) :
    ∃ g av cv au cu, a2 = some ⟨g, 0, none⟩ ∧ pre.length < xs.length ∧ x.1 = .slice av x.2.1.length cv ∧ HasF W av x.2.1 ∧ W.cell? ⟨g, pre.length * 2, none⟩ = some (.slice au x.2.1.length cu) ∧ W.cell? ⟨g, pre.length * 2 + 1, none⟩ = some (.int .i64 x.2.2) ∧ HasF W au x.2.1 := by
  obtain ⟨hpre, base, hb, ho⟩ := hok
  rw [← hxs] at hpre
  have hlt : pre.length < xs.length := by
    have := hpre.length_le
    rw [List.length_map, List.length_append, List.length_singleton, List.length_map] at this
    omega
  have hx : xs[pre.length].2 = x.2 := by
    obtain ⟨r, hr⟩ := hpre
    have h1 : (xs.map Prod.snd)[pre.length]? = some x.2 := by
      rw [← hr, List.map_append, List.append_assoc, List.getElem?_append_right (by simp)]
      simp
    rw [List.getElem?_map, List.getElem?_eq_getElem hlt] at h1
    exact Option.some.inj h1
  obtain ⟨a, cap, hv, hc⟩ := O.slice
  cases hv
  obtain ⟨g, e1, _, c0, c1⟩ := hc pre.length hlt
  have hu := O.2 xs[pre.length] (List.getElem_mem hlt)
  rw [hx] at hu c1
  obtain ⟨au, cu, hue, huf, _⟩ := hu.has
  obtain ⟨av, cv, hve, hvf, _⟩ := ho.has
  rw [hue] at c0
  exact ⟨g, av, cv, au, cu, e1, hlt, hve, hvf, c0, c1, huf⟩
theorem marks_nil (W : World) : Marks [] W := ⟨List.Pairwise.nil, fun d hd => by cases hd⟩
set_option maxRecDepth 100000 in
set_option maxHeartbeats 8000000 in
theorem frames_walk (a1 : Option Addr) (len1 cap1 : Nat) (z1 : List Int) (stop : Int) (w : World) (hB : Fr.IsRow .u8 w a1 len1 cap1 z1) (hst : -9223372036854775808 ≤ stop ∧ stop ≤ 9223372036854775807) (he : Env w) :
    Calls Tryd.prog 5 #[.slice a1 len1 cap1, .int .i64 stop] w fun e w' => e = .returned (.bool true) ∧ Below w.heap.size w w' := by
  obtain ⟨b, hbl, hbr⟩ := HasL.of_row hB
  have hbc : len1 ≤ cap1 ∧ (a1 = none → cap1 = 0) := by
    rcases hB with ⟨rfl, rfl, rfl, rfl⟩ | ⟨x, rfl, h1, h2, h3, h4, h5⟩
    · exact ⟨Nat.le_refl _, fun _ => rfl⟩
    · exact ⟨h1, fun h => by cases h⟩
  obtain ⟨hbc, hbn⟩ := hbc
  have hm1 := hbr.2.1
  rw [hbl] at hm1
  have HE := Lib.hid he; have BL := Lib.hid hbl; have BR := Lib.hid hbr; have BN := Lib.hid hbn
  clear he hbl hbr hB hbn
  obtain ⟨N, hN⟩ : ∃ N, N = w.heap.size := ⟨_, rfl⟩
  obtain ⟨W0, hW0⟩ : ∃ W0, W0 = (w.alloc (.cells #[.int .i64 stop] 3)).alloc (.cells #[.bool false] 4) := ⟨_, rfl⟩
  have b0 : Below N w W0 := by rw [hW0, hN]; exact ((Below.refl _ _).alloc (Nat.le_refl _) _).alloc (by rw [World.size_alloc]; omega) _
  have s0 : Bx W0 N (.int .i64 stop) 3 := by
    rw [hW0, hN]
    exact (Bx.new w _ _).keep ((Below.refl _ _).alloc (Nat.le_refl _) _)
  have r0 : Bx W0 (N + 1) (.bool false) 4 := by
    rw [hW0, hN]
    have := Bx.new (w.alloc (.cells #[.int .i64 stop] 3)) (.bool false) 4
    rwa [World.size_alloc] at this
  have HN := Lib.hid hN; have HW0 := Lib.hid hW0; have B0 := Lib.hid b0; have S0 := Lib.hid s0; have R0 := Lib.hid r0
  have hz0 : N + 2 ≤ W0.heap.size := r0.lt
  clear b0 s0 r0 hN hW0
  refine calls_marks Tryd.func5 rfl ?_
  simp only [Tryd.ntmps5, List.size_toArray, List.length_cons, List.length_nil, Nat.reduceAdd, Nat.reduceSub, Array.replicate_succ, Array.replicate_zero, List.push_toArray, List.append_toArray, List.nil_append, List.cons_append]
  rw [← HN.out]
  go_wp2_with fail
  rw [← HN.out, ← HW0.out]
  clear HW0
  refine (wakes_any _ (HE.out.keep (by have := B0.out; rwa [HN.out] at this)).pow).mono ?_
  rintro e w1 ⟨rfl, hb1⟩
  have B1 : Hid (Below N w w1) := Lib.hid (B0.out.trans (hb1.mono (by omega)))
  have S1 := Lib.hid (S0.out.keep hb1); have R1 := Lib.hid (R0.out.keep hb1)
  have hz1 : N + 2 ≤ w1.heap.size := Nat.le_trans hz0 hb1.size
  clear hb1 S0 R0 B0 hz0 W0
  by_cases hbig : 4096 < len1
  · have d1 : decide ((4096 : Int) < (len1 : Int)) = true := by rw [decide_eq_true_eq]; omega
    have rc := R1.out.cell; have rf := R1.out.free
    go_wp2
    exact ret_true rfl rfl (marks_nil _) (fun d hd => by cases hd) (R1.out.set _) (B1.out.setCell (p := ⟨N + 1, 0, none⟩) (by simp) _)
  have d1 : decide ((4096 : Int) < (len1 : Int)) = false := by rw [decide_eq_false_iff_not]; omega
  have E1 : Hid (Env w1) := Lib.hid (HE.out.keep (by have := B1.out; rwa [HN.out] at this))
  have BR1 : Hid (HasL w1 a1 b) := Lib.hid (BR.out.keep (by have := B1.out; rwa [HN.out] at this))
  go_wp2_with fail
  refine (rframes_any a1 len1 cap1 b w1 BR1.out BL.out hbc (by omega) E1.out.pow).mono ?_
  rintro e w2 ⟨v2, xs, rfl, hxs, ho2, hb2⟩
  obtain ⟨a2, c2, hv2, _⟩ := ho2.slice
  obtain ⟨W3, hW3⟩ : ∃ W3, W3 = w2.alloc (.cells #[.slice a2 xs.length c2] 34) := ⟨_, rfl⟩
  obtain ⟨q, hq⟩ : ∃ q, q = w2.heap.size := ⟨_, rfl⟩
  have hal : Below w2.heap.size w2 W3 := by rw [hW3]; exact (Below.refl _ _).alloc (Nat.le_refl _) _
  have hb3 : Below w1.heap.size w1 W3 := hb2.trans (hal.mono hb2.size)
  have hq3 : Bx W3 q (.slice a2 xs.length c2) 34 := by rw [hW3, hq]; exact Bx.new w2 _ _
  have HW3 := Lib.hid hW3; have HQ := Lib.hid hq
  have HXS := Lib.hid hxs
  have O3 : Hid (OwnI W3 N v2 xs) := Lib.hid ⟨⟨(ho2.keep hal).1.1, by
    rcases (ho2.keep hal).1.2 with h | ⟨g, cap, cur, h1, h2, h3⟩
    · exact .inl h
    · exact .inr ⟨g, cap, cur, h1, by omega, h3⟩⟩, fun x hx => ((ho2.keep hal).2 x hx).low2 (by omega)⟩
  have hqN : N + 2 ≤ q := by rw [hq]; exact Nat.le_trans hz1 hb2.size
  subst hv2
  have B3 : Hid (Below N w W3) := Lib.hid (B1.out.trans (hb3.mono (by omega)))
  have S3 := Lib.hid (S1.out.keep hb3); have R3 := Lib.hid (R1.out.keep hb3); have E3 := Lib.hid (E1.out.keep hb3); have BR3 := Lib.hid (BR1.out.keep hb3)
  have Q3 := Lib.hid hq3
  clear hal hb3 hq3 ho2 hb2 hW3 hq hxs S1 R1 E1 BR1
  go_wp2_with fail
  rw [← HQ.out, ← HW3.out]
  clear HW3 HQ B1 hz1
  refine (tframes_any a1 len1 cap1 b W3 BR3.out BL.out BN.out (by omega)).mono ?_
  rintro e W4 ⟨p, vc, rfl, hp, hbox, hoc, hb4⟩
  obtain ⟨ac, cc, hvc, hrc, _, hcc, _⟩ := hoc.row
  subst hvc
  rw [BL.out] at hbox hcc
  have B4 : Hid (Below N w W4) := Lib.hid (B3.out.trans (hb4.mono (by have := Q3.out.lt; omega)))
  have S4 := Lib.hid (S3.out.keep hb4); have R4 := Lib.hid (R3.out.keep hb4); have E4 := Lib.hid (E3.out.keep hb4); have BR4 := Lib.hid (BR3.out.keep hb4)
  have Q4 := Lib.hid (Q3.out.keep hb4); have O4 := Lib.hid (O3.out.keep hb4); have RC4 := Lib.hid hrc
  have P4 : Hid (Bx W4 p (.slice ac len1 cc) 25) := Lib.hid hbox
  clear hb4 hrc hoc hbox hp S3 R3 E3 BR3 Q3 O3 B3
  have qnf := fun w => run_eql_func_nil (P := Tryd.prog) w 38 Tryd.underlying38 (.func 34) #[] #[.pointer (some ⟨p, 0, none⟩)]
  go_wp2_with fail
  refine (rest_any a1 len1 cap1 b W4 BR4.out BL.out hbc (by omega) E4.out).mono ?_
  rintro e W5 ⟨rfl, hb5⟩
  have B5 : Hid (Below N w W5) := Lib.hid (B4.out.trans (hb5.mono (by have := Q4.out.lt; omega)))
  have S5 := Lib.hid (S4.out.keep hb5); have R5 := Lib.hid (R4.out.keep hb5); have E5 := Lib.hid (E4.out.keep hb5); have Q5 := Lib.hid (Q4.out.keep hb5); have O5 := Lib.hid (O4.out.keep hb5); have RC5 := Lib.hid (RC4.out.keep hb5); have P5 := Lib.hid (P4.out.keep hb5)
  have hn5 : (((framesS b).2 : Int) != ((framesS b).2 : Int)) = false := bne_self_eq_false _
  clear hb5 S4 R4 E4 BR4 Q4 O4 RC4 P4 B4
  generalize ((framesS b).2 : Int) = rest at *
  go_wp2_with fail
  clear qnf hn5
  have hxl : xs.length ≤ 4096 := by
    have h1 := congrArg List.length HXS.out
    have h2 := framesS_len b
    rw [List.length_map] at h1
    rw [BL.out] at h2
    omega
  refine wp_loop_rounds 3 ?_
  rw [rounds_succ]
  go_wp2_with fail
  obtain ⟨W6, hW6⟩ : ∃ W6, W6 = W5.alloc (.cells #[.int .i64 0] 3) := ⟨_, rfl⟩
  have hb6 : Below W5.heap.size W5 W6 := by rw [hW6]; exact (Below.refl _ _).alloc (Nat.le_refl _) _
  have hx6 : Bx W6 W5.heap.size (.int .i64 0) 3 := by rw [hW6]; exact Bx.new W5 _ _
  have hz6 : W6.heap.size = W5.heap.size + 1 := by rw [hW6, World.size_alloc]
  rw [← hW6]
  clear hW6
  refine wp_frames p ac len1 cc b rfl rfl BL.out hcc (by omega) (P5.out.keep hb6) (fun pre W => Below W5.heap.size W5 W ∧ Bx W W5.heap.size (.int .i64 (pre.length : Int)) 3) (fun _ _ _ => False) ?_ (fun _ _ _ _ _ h _ _ => h) (fun pre A h => ⟨E5.out.keep h.1, RC5.out.keep h.1⟩) ⟨hb6, hx6⟩ ?_ ?_ ?_
  · rintro pre A C row ⟨h1, h2⟩ hg hr
    have hlt := h2.lt
    refine ⟨h1.grown hg h1.size (fun k hk => ?_), (hg.block _ hlt (fun e => ?_)).trans h2⟩
    · rcases hr with hr | hr | hr <;> rw [hr] at hk <;> cases hk <;> omega
    · rcases hr with hr | hr | hr <;> rw [hr] at e
      · cases e
      · have := Option.some.inj e; omega
      · have := Option.some.inj e; omega
  · rintro l pre ⟨v, F, E⟩ W _ _ Kr hKr
    gi_wp2
    rintro W' ⟨hi1, hi2⟩ hok hlt
    obtain ⟨g, av, cv, au, cu, rfl, hjl, hv, hvf, k0, k1, huf⟩ := round_facts (O5.out.keep hi1) HXS.out hok
    simp only at hv hvf k0 k1 huf
    subst hv
    have hsame := same_q av au F.length cv F.length cu F F W' hvf rfl huf rfl
    rw [show decide (F = F) = true from decide_eq_true rfl] at hsame
    have n0 := hi2.cell; have n1 := hi2.free
    have q0 := (Q5.out.keep hi1).cell
    have HI1 := Lib.hid hi1; have HI2 := Lib.hid hi2
    have d3 : decide ((xs.length : Int) ≤ (pre.length : Int)) = false := by rw [decide_eq_false_iff_not]; omega
    have d4 : (E != E) = false := bne_self_eq_false _
    have i0 : (pre.length : Int) < (xs.length : Int) := by omega
    clear hok hvf huf hi1 hi2
    gi_wp2_with (refine ⟨trivial, ?_⟩; gi_at_call 18; refine (CallsIn.inRound _ (callsIn_wide.2 hsame)).mono ?_; rintro e w9 ⟨rfl, qq, rfl⟩)
    refine ⟨⟨Below.heap_setCell _ _ _ _ (by simp; omega), Below.heap_setCell _ _ _ _ (by simp; omega)⟩, trivial, ?_, ?_⟩
    · exact Below.setCell (p := ⟨W5.heap.size, 0, none⟩) (HI1.out.trans (show Below W5.heap.size W' (W'.drewN qq) from ⟨rfl, rfl, rfl, Nat.le_refl _, fun _ _ => rfl⟩)) (Nat.le_refl _) _
    · have := Bx.set (W := W'.drewN qq) HI2.out (.int .i64 ((pre.length : Int) + 1))
      rw [List.length_append, List.length_singleton]
      exact this
  rotate_left
  · rintro c pre W7 h _
    exact h.elim
  rintro xs7 W7 hS' ⟨hi1, hi2⟩ hK
  have hlen' : xs7.length = xs.length := by
    have h1 := congrArg List.length (hS'.trans HXS.out.symm)
    simpa using h1
  rw [hlen'] at hi2
  have n0 := hi2.cell
  have q0 := (Q5.out.keep hi1).cell
  have hn7 : ((xs.length : Int) != (xs.length : Int)) = false := bne_self_eq_false _
  have HK7 : Hid (W7.heap[W6.heap.size]? = some (.deferred (some []))) := Lib.hid hK
  have hsz7 : W6.heap.size < W7.heap.size := (Array.getElem?_eq_some_iff.1 hK).1
  have HI7 := Lib.hid hi1
  have B7 : Hid (Below N w W7) := Lib.hid (B5.out.trans (hi1.mono (by have := S5.out.lt; omega)))
  have S7 := Lib.hid (S5.out.keep hi1); have R7 := Lib.hid (R5.out.keep hi1); have E7 := Lib.hid (E5.out.keep hi1); have Q7 := Lib.hid (Q5.out.keep hi1); have O7 := Lib.hid (O5.out.keep hi1); have RC7 := Lib.hid (RC5.out.keep hi1); have P7 := Lib.hid (P5.out.keep hi1)
  clear hS' hi1 hi2 hK hlen' hx6 hb6 xs7
  go_wp2_with fail
  clear n0 q0 hn7
  rw [rounds_succ]
  go_wp2_with fail
  obtain ⟨W8, hW8⟩ : ∃ W8, W8 = W7.alloc (.cells #[.int .i64 0] 3) := ⟨_, rfl⟩
  have hb8 : Below W7.heap.size W7 W8 := by rw [hW8]; exact (Below.refl _ _).alloc (Nat.le_refl _) _
  have hx8 : Bx W8 W7.heap.size (.int .i64 0) 3 := by rw [hW8]; exact Bx.new W7 _ _
  have hz8 : W8.heap.size = W7.heap.size + 1 := by rw [hW8, World.size_alloc]
  rw [← hW8]
  clear hW8
  refine wp_frames p ac len1 cc b rfl rfl BL.out hcc (by omega) (P7.out.keep hb8) (fun pre W => Below W7.heap.size W7 W ∧ Bx W W7.heap.size (.int .i64 (pre.length : Int)) 3) (fun _ _ _ => False) ?_ (fun _ _ _ _ _ h _ _ => h) (fun pre A h => ⟨E7.out.keep h.1, RC7.out.keep h.1⟩) ⟨hb8, hx8⟩ ?_ ?_ ?_
  · rintro pre A C row ⟨h1, h2⟩ hg hr
    have hlt := h2.lt
    refine ⟨h1.grown hg h1.size (fun k hk => ?_), (hg.block _ hlt (fun e => ?_)).trans h2⟩
    · rcases hr with hr | hr | hr <;> rw [hr] at hk <;> cases hk <;> omega
    · rcases hr with hr | hr | hr <;> rw [hr] at e
      · cases e
      · have := Option.some.inj e; omega
      · have := Option.some.inj e; omega
  · rintro l pre ⟨v, F, E⟩ W _ _ Kr hKr
    gi_wp2
    rintro W' ⟨hi1, hi2⟩ hok hlt
    obtain ⟨g, av, cv, au, cu, rfl, hjl, hv, hvf, k0, k1, huf⟩ := round_facts (O7.out.keep hi1) HXS.out hok
    simp only at hv hvf k0 k1 huf
    subst hv
    have hsame := same_q av au F.length cv F.length cu F F W' hvf rfl huf rfl
    rw [show decide (F = F) = true from decide_eq_true rfl] at hsame
    have n0 := hi2.cell; have n1 := hi2.free
    have q0 := (Q7.out.keep hi1).cell
    have HI1 := Lib.hid hi1; have HI2 := Lib.hid hi2
    have d3 : decide ((xs.length : Int) ≤ (pre.length : Int)) = false := by rw [decide_eq_false_iff_not]; omega
    have d4 : (E != E) = false := bne_self_eq_false _
    have i0 : (pre.length : Int) < (xs.length : Int) := by omega
    clear hok hvf huf hi1 hi2
    gi_wp2_with (refine ⟨trivial, ?_⟩; gi_at_call 18; refine (CallsIn.inRound _ (callsIn_wide.2 hsame)).mono ?_; rintro e w9 ⟨rfl, qq, rfl⟩)
    refine ⟨⟨Below.heap_setCell _ _ _ _ (by simp; omega), Below.heap_setCell _ _ _ _ (by simp; omega)⟩, trivial, ?_, ?_⟩
    · exact Below.setCell (p := ⟨W7.heap.size, 0, none⟩) (HI1.out.trans (show Below W7.heap.size W' (W'.drewN qq) from ⟨rfl, rfl, rfl, Nat.le_refl _, fun _ _ => rfl⟩)) (Nat.le_refl _) _
    · have := Bx.set (W := W'.drewN qq) HI2.out (.int .i64 ((pre.length : Int) + 1))
      rw [List.length_append, List.length_singleton]
      exact this
  rotate_left
  · rintro c pre W9 h _
    exact h.elim
  rintro xs9 W9 hS' ⟨hi1, hi2⟩ hK
  have hlen' : xs9.length = xs.length := by
    have h1 := congrArg List.length (hS'.trans HXS.out.symm)
    simpa using h1
  rw [hlen'] at hi2
  have n0 := hi2.cell
  have q0 := (Q7.out.keep hi1).cell
  have hn7 : ((xs.length : Int) != (xs.length : Int)) = false := bne_self_eq_false _
  have HK9 : Hid (W9.heap[W8.heap.size]? = some (.deferred (some []))) := Lib.hid hK
  have hsz9 : W8.heap.size < W9.heap.size := (Array.getElem?_eq_some_iff.1 hK).1
  have HI9 := Lib.hid hi1
  have B9 : Hid (Below N w W9) := Lib.hid (B7.out.trans (hi1.mono (by have := S7.out.lt; omega)))
  have S9 := Lib.hid (S7.out.keep hi1); have R9 := Lib.hid (R7.out.keep hi1); have E9 := Lib.hid (E7.out.keep hi1); have Q9 := Lib.hid (Q7.out.keep hi1); have O9 := Lib.hid (O7.out.keep hi1); have RC9 := Lib.hid (RC7.out.keep hi1); have P9 := Lib.hid (P7.out.keep hi1)
  clear hS' hi1 hi2 hK hlen' hx8 hb8 xs9
  go_wp2_with fail
  clear n0 q0 hn7
  have HK9b : Hid (W9.heap[W6.heap.size]? = some (.deferred (some []))) := Lib.hid ((HI9.out.block _ hsz7).trans HK7.out)
  rw [rounds_succ]
  go_wp2_with fail
  obtain ⟨W10, hW10⟩ : ∃ W10, W10 = W9.alloc (.cells #[.int .i64 0] 3) := ⟨_, rfl⟩
  have hb10 : Below W9.heap.size W9 W10 := by rw [hW10]; exact (Below.refl _ _).alloc (Nat.le_refl _) _
  have hx10 : Bx W10 W9.heap.size (.int .i64 0) 3 := by rw [hW10]; exact Bx.new W9 _ _
  have hz10 : W10.heap.size = W9.heap.size + 1 := by rw [hW10, World.size_alloc]
  have hN9 := S9.out.lt
  rw [← hW10]
  clear hW10
  refine wp_frames p ac len1 cc b rfl rfl BL.out hcc (by omega) (P9.out.keep hb10) (fun pre W => Below W9.heap.size W9 W ∧ Bx W W9.heap.size (.int .i64 (pre.length : Int)) 3 ∧ (pre.length = 0 ∨ (pre.length : Int) < stop))
    (fun c pre W => c = .exit 4 ∧ Below W9.heap.size W9 W ∧ Bx W W9.heap.size (.int .i64 (pre.length : Int)) 3 ∧ stop ≤ (pre.length : Int) ∧ (pre.length = 1 ∨ (pre.length : Int) - 1 < stop) ∧ pre.length ≤ xs.length) ?_ ?_ (fun pre A h => ⟨E9.out.keep h.1, RC9.out.keep h.1⟩) ⟨hb10, hx10, .inl rfl⟩ ?_ ?_ ?_
  · rintro pre A C row ⟨h1, h2, h3⟩ hg hr
    have hlt := h2.lt
    refine ⟨h1.grown hg h1.size (fun k hk => ?_), (hg.block _ hlt (fun e => ?_)).trans h2, h3⟩
    · rcases hr with hr | hr | hr <;> rw [hr] at hk <;> cases hk <;> omega
    · rcases hr with hr | hr | hr <;> rw [hr] at e
      · cases e
      · have := Option.some.inj e; omega
      · have := Option.some.inj e; omega
  · rintro c pre A C row ⟨h0, h1, h2, h3⟩ hg hr
    have hlt := h2.lt
    refine ⟨h0, h1.grown hg h1.size (fun k hk => ?_), (hg.block _ hlt (fun e => ?_)).trans h2, h3⟩
    · rcases hr with hr | hr | hr <;> rw [hr] at hk <;> cases hk <;> omega
    · rcases hr with hr | hr | hr <;> rw [hr] at e
      · cases e
      · have := Option.some.inj e; omega
      · have := Option.some.inj e; omega
  · rintro l pre ⟨v, F, E⟩ W _ _ Kr hKr
    gi_wp2
    rintro W' ⟨hi1, hi2, hi3⟩ hok hlt
    obtain ⟨g, av, cv, au, cu, _, hjl, _⟩ := round_facts (O9.out.keep hi1) HXS.out hok
    have n0 := hi2.cell; have n1 := hi2.free
    have n2 : (W'.setCell ⟨W9.heap.size, 0, none⟩ (.int .i64 ((pre.length : Int) + 1))).cell? ⟨W9.heap.size, 0, none⟩ = some (.int .i64 ((pre.length : Int) + 1)) := (hi2.set _).cell
    have st2 : (W'.setCell ⟨W9.heap.size, 0, none⟩ (.int .i64 ((pre.length : Int) + 1))).cell? ⟨N, 0, none⟩ = some (.int .i64 stop) := by
      have h1 : Bx (W'.setCell ⟨W9.heap.size, 0, none⟩ (.int .i64 ((pre.length : Int) + 1))) N (.int .i64 stop) 3 := (Below.heap_setCell _ _ _ _ (by simp; omega)).trans (S9.out.keep hi1)
      exact h1.cell
    have HEND : Hid ((W'.setCell ⟨W9.heap.size, 0, none⟩ (.int .i64 ((pre.length : Int) + 1))).heap[W9.heap.size + 1]? = W'.heap[W9.heap.size + 1]? ∧ (W'.setCell ⟨W9.heap.size, 0, none⟩ (.int .i64 ((pre.length : Int) + 1))).heap[W9.heap.size + 1 + 1]? = W'.heap[W9.heap.size + 1 + 1]?) := Lib.hid ⟨Below.heap_setCell _ _ _ _ (by simp <;> omega), Below.heap_setCell _ _ _ _ (by simp <;> omega)⟩
    have HBL : Hid (Below W9.heap.size W9 (W'.setCell ⟨W9.heap.size, 0, none⟩ (.int .i64 ((pre.length : Int) + 1)))) := Lib.hid (hi1.setCell (p := ⟨W9.heap.size, 0, none⟩) (Nat.le_refl _) _)
    have HBX : Hid (Bx (W'.setCell ⟨W9.heap.size, 0, none⟩ (.int .i64 ((pre.length : Int) + 1))) W9.heap.size (.int .i64 ((pre.length : Int) + 1)) 3) := Lib.hid (hi2.set _)
    have H3 := Lib.hid hi3
    have HPL : Hid (∀ z : Itm, (pre ++ [z]).length = pre.length + 1) := Lib.hid fun z => by simp
    clear hok hi1 hi2 hi3
    by_cases hs : stop ≤ (pre.length : Int) + 1
    · have d5 : decide (stop ≤ (pre.length : Int) + 1) = true := by rw [decide_eq_true_eq]; exact hs
      gi_wp2
      refine ⟨HEND.out, rfl, HBL.out, ?_, ?_, ?_, ?_⟩
      · rw [HPL.out]; exact HBX.out
      · rw [HPL.out]; omega
      · rw [HPL.out]; have := H3.out; omega
      · rw [HPL.out]; omega
    · have d5 : decide (stop ≤ (pre.length : Int) + 1) = false := by rw [decide_eq_false_iff_not]; exact hs
      gi_wp2
      refine ⟨HEND.out, trivial, HBL.out, ?_, ?_⟩
      · rw [HPL.out]; exact HBX.out
      · rw [HPL.out]; omega
  · rintro xs11 W11 hS' ⟨hi1, hi2, hi3⟩ hK
    have hlen' : xs11.length = xs.length := by
      have h1 := congrArg List.length (hS'.trans HXS.out.symm)
      simpa using h1
    rw [hlen'] at hi2 hi3
    clear hS' hlen'
    have n0 := hi2.cell
    have q0 := (Q9.out.keep hi1).cell
    have st0 := (S9.out.keep hi1).cell
    have R11 := Lib.hid (R9.out.keep hi1)
    have rc := R11.out.cell; have rf := R11.out.free
    have B11 : Hid (Below N w W11) := Lib.hid (B9.out.trans (hi1.mono (by have := S9.out.lt; omega)))
    have m11 : Marks [{ target := .collected W10.heap.size, args := #[] }, { target := .collected W8.heap.size, args := #[] }, { target := .collected W6.heap.size, args := #[] }] W11 := ⟨by simp; omega, fun d hd => by
      simp only [List.mem_cons, List.not_mem_nil, or_false] at hd
      rcases hd with rfl | rfl | rfl
      · exact ⟨_, rfl, hK⟩
      · exact ⟨_, rfl, (hi1.block _ hsz9).trans HK9.out⟩
      · exact ⟨_, rfl, (hi1.block _ (by omega)).trans HK9b.out⟩⟩
    have hN5 : N + 2 ≤ W5.heap.size := R5.out.lt
    have hlow : ∀ d ∈ ([{ target := .collected W10.heap.size, args := #[] }, { target := .collected W8.heap.size, args := #[] }, { target := .collected W6.heap.size, args := #[] }] : List Deferred), ∀ r, d.target = .collected r → N ≤ r := fun d hd r e => by
      simp only [List.mem_cons, List.not_mem_nil, or_false] at hd
      rcases hd with rfl | rfl | rfl <;> (cases e; omega)
    have M11a := Lib.hid m11; have HLOWa := Lib.hid hlow
    rw [hz10, hz8, hz6] at m11 hlow
    have M11 := Lib.hid m11; have HLOW := Lib.hid hlow
    clear hi1 hi2 hK m11 hlow
    by_cases hs1 : stop < 1
    · have d6 : decide (stop < 1) = true := by rw [decide_eq_true_eq]; exact hs1
      go_wp2
      first
        | exact ret_true rfl rfl (Marks.box M11.out R11.out) HLOW.out (R11.out.set _) (B11.out.setCell (p := ⟨N + 1, 0, none⟩) (by simp) _)
        | exact ret_true rfl rfl (Marks.box M11a.out R11.out) HLOWa.out (R11.out.set _) (B11.out.setCell (p := ⟨N + 1, 0, none⟩) (by simp) _)
    · have d6 : decide (stop < 1) = false := by rw [decide_eq_false_iff_not]; exact hs1
      have d7 : min stop (xs.length : Int) = (xs.length : Int) := by omega
      go_wp2
      first
        | exact ret_true rfl rfl (Marks.box M11.out R11.out) HLOW.out (R11.out.set _) (B11.out.setCell (p := ⟨N + 1, 0, none⟩) (by simp) _)
        | exact ret_true rfl rfl (Marks.box M11a.out R11.out) HLOWa.out (R11.out.set _) (B11.out.setCell (p := ⟨N + 1, 0, none⟩) (by simp) _)
  · rintro c pre W11 ⟨rfl, hi1, hi2, hi3, hi4, hi5⟩ hK
    have n0 := hi2.cell
    have q0 := (Q9.out.keep hi1).cell
    have st0 := (S9.out.keep hi1).cell
    have R11 := Lib.hid (R9.out.keep hi1)
    have rc := R11.out.cell; have rf := R11.out.free
    have B11 : Hid (Below N w W11) := Lib.hid (B9.out.trans (hi1.mono (by have := S9.out.lt; omega)))
    have m11 : Marks [{ target := .collected W10.heap.size, args := #[] }, { target := .collected W8.heap.size, args := #[] }, { target := .collected W6.heap.size, args := #[] }] W11 := ⟨by simp; omega, fun d hd => by
      simp only [List.mem_cons, List.not_mem_nil, or_false] at hd
      rcases hd with rfl | rfl | rfl
      · exact ⟨_, rfl, hK⟩
      · exact ⟨_, rfl, (hi1.block _ hsz9).trans HK9.out⟩
      · exact ⟨_, rfl, (hi1.block _ (by omega)).trans HK9b.out⟩⟩
    have hN5 : N + 2 ≤ W5.heap.size := R5.out.lt
    have hlow : ∀ d ∈ ([{ target := .collected W10.heap.size, args := #[] }, { target := .collected W8.heap.size, args := #[] }, { target := .collected W6.heap.size, args := #[] }] : List Deferred), ∀ r, d.target = .collected r → N ≤ r := fun d hd r e => by
      simp only [List.mem_cons, List.not_mem_nil, or_false] at hd
      rcases hd with rfl | rfl | rfl <;> (cases e; omega)
    have M11a := Lib.hid m11; have HLOWa := Lib.hid hlow
    rw [hz10, hz8, hz6] at m11 hlow
    have M11 := Lib.hid m11; have HLOW := Lib.hid hlow
    clear hi1 hi2 hK m11 hlow
    by_cases hs1 : stop < 1
    · have d6 : decide (stop < 1) = true := by rw [decide_eq_true_eq]; exact hs1
      have d8 : decide ((pre.length : Int) ≤ (xs.length : Int)) = true := by rw [decide_eq_true_eq]; omega
      go_wp2
      first
        | exact ret_true rfl rfl (Marks.box M11.out R11.out) HLOW.out (R11.out.set _) (B11.out.setCell (p := ⟨N + 1, 0, none⟩) (by simp) _)
        | exact ret_true rfl rfl (Marks.box M11a.out R11.out) HLOWa.out (R11.out.set _) (B11.out.setCell (p := ⟨N + 1, 0, none⟩) (by simp) _)
    · have d6 : decide (stop < 1) = false := by rw [decide_eq_false_iff_not]; exact hs1
      have d8 : decide ((pre.length : Int) ≤ (xs.length : Int)) = true := by rw [decide_eq_true_eq]; omega
      obtain rfl : stop = (pre.length : Int) := by omega
      have d7 : min (pre.length : Int) (xs.length : Int) = (pre.length : Int) := by omega
      go_wp2
      first
        | exact ret_true rfl rfl (Marks.box M11.out R11.out) HLOW.out (R11.out.set _) (B11.out.setCell (p := ⟨N + 1, 0, none⟩) (by simp) _)
        | exact ret_true rfl rfl (Marks.box M11a.out R11.out) HLOWa.out (R11.out.set _) (B11.out.setCell (p := ⟨N + 1, 0, none⟩) (by simp) _)
end Go.Proofs.YtjgkjmegpinelaaDoor.Tg

/-
  Layer 11: Value.
-/
import Derived.Test.YtbnihoimhfcjiaaDoorGb
import Derived.Lib.SmallJoins
import Derived.Lib.Builder
import Derived.Deep.RegionHeld3
namespace Go.Proofs.YtbnihoimhfcjiaaDoor.Ot
open Go.RowKit Go.Joins
open Go.Proofs.YtbnihoimhfcjiaaDoor.Fx
set_option linter.unusedVariables false
set_option linter.unusedSimpArgs false

theorem leaves_ret {P : Program} {fn : Func} {R : Ending → World → Prop} {a : Act} {w : World} {v : Value} (hd : a.defers = []) (h : (results fn a.tmps).run P w = .ok v w) (hr : R (.returned v) w) : bodyPostD P fn R .ret a w := by
  show Leaves P fn a.tmps R a.defers .returning w
  rw [hd]
  exact ⟨v, h, hr⟩
theorem below_two (w : World) (o o' : Obj) : Below w.heap.size w ((w.alloc o).alloc o') := ((Below.refl _ _).alloc (Nat.le_refl _) _).alloc (by simp) _

set_option maxRecDepth 100000 in
theorem value_no1 (call : Bool) (k p v n : Int) (w : World) (h1 : mkB k = false) :
    Calls Tryd.prog 37 #[.bool call, .int .i64 k, .int .i64 p, .int .i64 v, .int .i64 n] w fun e w' => e = .returned (.tuple #[.int .i64 (optS call k p v n).1, .int .i64 (optS call k p v n).2]) ∧ Below w.heap.size w w' := by
  have HS := Lib.hid (optS_no1 (call := call) (p := p) (v := v) (n := n) h1)
  go_enter_defers Tryd.func37, Tryd.ntmps37
  go_wp2_with (go_at_call 35; refine (mark_any _ _).mono ?_; rintro e w' ⟨rfl, rfl⟩)
  refine leaves_ret (v := .tuple #[.int .i64 0, .int .i64 1]) rfl ?_ ⟨by rw [HS.out], ?_⟩
  · simp [results, Tryd.results37, go_sem]
  · exact below_two _ _ _

set_option maxRecDepth 100000 in
theorem value_no2 (call : Bool) (k p v n : Int) (w : World) (h1 : mkB k = true) (h2 : mkB p = false) :
    Calls Tryd.prog 37 #[.bool call, .int .i64 k, .int .i64 p, .int .i64 v, .int .i64 n] w fun e w' => e = .returned (.tuple #[.int .i64 (optS call k p v n).1, .int .i64 (optS call k p v n).2]) ∧ Below w.heap.size w w' := by
  have HS := Lib.hid (optS_no2 (call := call) (k := k) (v := v) (n := n) h2)
  go_enter_defers Tryd.func37, Tryd.ntmps37
  go_wp2_with (go_at_call 35; refine (mark_any _ _).mono ?_; rintro e w' ⟨rfl, rfl⟩)
  refine leaves_ret (v := .tuple #[.int .i64 0, .int .i64 1]) rfl ?_ ⟨by rw [HS.out], ?_⟩
  · simp [results, Tryd.results37, go_sem]
  · exact below_two _ _ _

set_option maxRecDepth 100000 in
theorem value_no3 (call : Bool) (k p v n : Int) (w : World) (h1 : mkB k = true) (h2 : mkB p = true) (h3 : mkB v = false) :
    Calls Tryd.prog 37 #[.bool call, .int .i64 k, .int .i64 p, .int .i64 v, .int .i64 n] w fun e w' => e = .returned (.tuple #[.int .i64 (optS call k p v n).1, .int .i64 (optS call k p v n).2]) ∧ Below w.heap.size w w' := by
  have HS := Lib.hid (optS_no3 (call := call) (k := k) (p := p) (n := n) h3)
  go_enter_defers Tryd.func37, Tryd.ntmps37
  go_wp2_with (go_at_call 35; refine (mark_any _ _).mono ?_; rintro e w' ⟨rfl, rfl⟩)
  refine leaves_ret (v := .tuple #[.int .i64 0, .int .i64 1]) rfl ?_ ⟨by rw [HS.out], ?_⟩
  · simp [results, Tryd.results37, go_sem]
  · exact below_two _ _ _

set_option maxRecDepth 100000 in
theorem value_far (call : Bool) (k p v n : Int) (w : World) (h1 : mkB k = true) (h2 : mkB p = true) (h3 : mkB v = true) (h4 : 100000 < n) :
    Calls Tryd.prog 37 #[.bool call, .int .i64 k, .int .i64 p, .int .i64 v, .int .i64 n] w fun e w' => e = .returned (.tuple #[.int .i64 (optS call k p v n).1, .int .i64 (optS call k p v n).2]) ∧ Below w.heap.size w w' := by
  have HS := Lib.hid (optS_far (call := call) (k := k) (p := p) (v := v) h4)
  go_enter_defers Tryd.func37, Tryd.ntmps37
  go_wp2_with (go_at_call 35; refine (mark_any _ _).mono ?_; rintro e w' ⟨rfl, rfl⟩)
  refine leaves_ret (v := .tuple #[.int .i64 0, .int .i64 1]) rfl ?_ ⟨by rw [HS.out], ?_⟩
  · simp [results, Tryd.results37, go_sem]
  · exact below_two _ _ _

set_option maxRecDepth 100000 in
theorem value_now (call : Bool) (k p v n : Int) (w : World) (h1 : mkB k = true) (h2 : mkB p = true) (h3 : mkB v = true) (h4 : n ≤ 0) :
    Calls Tryd.prog 37 #[.bool call, .int .i64 k, .int .i64 p, .int .i64 v, .int .i64 n] w fun e w' => e = .returned (.tuple #[.int .i64 (optS call k p v n).1, .int .i64 (optS call k p v n).2]) ∧ Below w.heap.size w w' := by
  have b1 := mkB_iff.1 h1; have b2 := mkB_iff.1 h2
  have hs := optS_now (call := call) h1 h2 h3 h4
  have d1 : decide (100000 < n) = false := decide_eq_false (by omega)
  have d2 : decide (n ≤ 0) = true := decide_eq_true h4
  unfold gapS at hs
  cases call
  · by_cases hg : 0 ≤ k - p
    · rw [if_neg (by decide), show max (k - p) 0 = k - p by omega] at hs
      have HS := Lib.hid hs; clear hs h4
      go_enter_defers Tryd.func37, Tryd.ntmps37
      go_wp2_with (go_at_call 35; refine (mark_any _ _).mono ?_; rintro e w' ⟨rfl, rfl⟩)
      refine leaves_ret (v := .tuple #[.int .i64 (k - p), .int .i64 0]) rfl ?_ ⟨by rw [HS.out], ?_⟩
      · simp [results, Tryd.results37, go_sem]
      · exact below_two _ _ _
    · rw [if_neg (by decide), show max (k - p) 0 = 0 by omega] at hs
      have HS := Lib.hid hs; clear hs h4
      go_enter_defers Tryd.func37, Tryd.ntmps37
      go_wp2_with (go_at_call 35; refine (mark_any _ _).mono ?_; rintro e w' ⟨rfl, rfl⟩)
      refine leaves_ret (v := .tuple #[.int .i64 0, .int .i64 0]) rfl ?_ ⟨by rw [HS.out], ?_⟩
      · simp [results, Tryd.results37, go_sem]
      · exact below_two _ _ _
  · by_cases hg : 0 ≤ p - k
    · rw [if_pos rfl, show max (p - k) 0 = p - k by omega] at hs
      have HS := Lib.hid hs; clear hs h4
      go_enter_defers Tryd.func37, Tryd.ntmps37
      go_wp2_with (go_at_call 35; refine (mark_any _ _).mono ?_; rintro e w' ⟨rfl, rfl⟩)
      refine leaves_ret (v := .tuple #[.int .i64 (p - k), .int .i64 0]) rfl ?_ ⟨by rw [HS.out], ?_⟩
      · simp [results, Tryd.results37, go_sem]
      · exact below_two _ _ _
    · rw [if_pos rfl, show max (p - k) 0 = 0 by omega] at hs
      have HS := Lib.hid hs; clear hs h4
      go_enter_defers Tryd.func37, Tryd.ntmps37
      go_wp2_with (go_at_call 35; refine (mark_any _ _).mono ?_; rintro e w' ⟨rfl, rfl⟩)
      refine leaves_ret (v := .tuple #[.int .i64 0, .int .i64 0]) rfl ?_ ⟨by rw [HS.out], ?_⟩
      · simp [results, Tryd.results37, go_sem]
      · exact below_two _ _ _


abbrev outW (w : World) : World := (w.alloc (.cells #[.int .i64 0] 3)).alloc (.cells #[.int .i64 0] 23)
theorem out_blocks (w : World) : (outW w).heap[w.heap.size]? = some (.cells #[.int .i64 0] 3 (0, 0)) ∧ (outW w).heap[w.heap.size + 1]? = some (.cells #[.int .i64 0] 23 (0, 0)) := by
  refine ⟨?_, ?_⟩
  · rw [(MapKept.heap_alloc _ _).2 _ (by simp), (MapKept.heap_alloc _ _).1]
  · have := (MapKept.heap_alloc (w.alloc (.cells #[.int .i64 0] 3)) (.cells #[.int .i64 0] 23)).1
    rwa [show (w.alloc (.cells #[.int .i64 0] 3)).heap.size = w.heap.size + 1 by simp] at this
theorem out_cell4 (w : World) (n : Nat) : ((outW w).drewN n).cell? ⟨w.heap.size, 0, none⟩ = some (.int .i64 0) := Joins.cell_of_block (out_blocks w).1 0
theorem out_cell5 (w : World) (n : Nat) : ((outW w).drewN n).cell? ⟨w.heap.size + 1, 0, none⟩ = some (.int .i64 0) := Joins.cell_of_block (out_blocks w).2 0
theorem out_free4 (w : World) (n : Nat) : ((outW w).drewN n).frozen? ⟨w.heap.size, 0, none⟩ = false := Joins.unfrozen_of_block (out_blocks w).1 0
theorem out_free5 (w : World) (n : Nat) : ((outW w).drewN n).frozen? ⟨w.heap.size + 1, 0, none⟩ = false := Joins.unfrozen_of_block (out_blocks w).2 0
theorem below_drewN {B : Nat} {a w : World} (h : Below B a w) (n : Nat) : Below B a (w.drewN n) := h.trans ⟨rfl, rfl, rfl, Nat.le_refl _, fun _ _ => rfl⟩
theorem out_below (w : World) (n : Nat) : Below w.heap.size w ((outW w).drewN n) := below_drewN (below_two w _ _) n
theorem leaves_panic {P : Program} {fn : Func} {R : Ending → World → Prop} {a : Act} {w : World} {ds : List Deferred} {ch : List PanicEntry} (hd : a.defers = ds) (h : Leaves P fn a.tmps R ds (.panicking ch) w) : bodyPostD P fn R (.panic ch) a w := by
  subst hd; exact h
theorem leaves_over {P : Program} {fn : Func} {R : Ending → World → Prop} {a : Act} {w : World} {ds : List Deferred} (hd : a.defers = ds) (h : Leaves P fn a.tmps R ds .returning w) : bodyPostD P fn R .ret a w := by
  subst hd; exact h
theorem leaves_back {P : Program} {fn : Func} {R : Ending → World → Prop} {ts : Array Value} {w : World} {v : Value} (h : (results fn ts).run P w = .ok v w) (hr : R (.returned v) w) : Leaves P fn ts R [] .returning w := ⟨v, h, hr⟩

theorem out_set (w : World) (n : Nat) (x c : Int) : ((((((outW w).drewN n).setCell ⟨w.heap.size, 0, none⟩ (.int .i64 x))).setCell ⟨w.heap.size + 1, 0, none⟩ (.int .i64 c))).cell? ⟨w.heap.size, 0, none⟩ = some (.int .i64 x) ∧
    ((((outW w).drewN n).setCell ⟨w.heap.size, 0, none⟩ (.int .i64 x)).setCell ⟨w.heap.size + 1, 0, none⟩ (.int .i64 c)).cell? ⟨w.heap.size + 1, 0, none⟩ = some (.int .i64 c) ∧
    Below w.heap.size w ((((outW w).drewN n).setCell ⟨w.heap.size, 0, none⟩ (.int .i64 x)).setCell ⟨w.heap.size + 1, 0, none⟩ (.int .i64 c)) := by
  refine ⟨?_, ?_, (((out_below w n).setCell (by simp) _).setCell (by simp) _)⟩
  · rw [World.cell?_setCell_far _ _ _ _ (by show w.heap.size + 1 ≠ w.heap.size; omega)]
    exact World.cell?_setCell_same _ _ _ (out_cell4 w n)
  · exact World.cell?_setCell_same _ _ _ (by rw [World.cell?_setCell_far _ _ _ _ (by show w.heap.size ≠ w.heap.size + 1; omega)]; exact out_cell5 w n)
theorem out_caught (w : World) (n : Nat) (c : Int) : (((((outW w).drewN n).setCell ⟨w.heap.size, 0, none⟩ (.int .i64 0)).setCell ⟨w.heap.size + 1, 0, none⟩ (.int .i64 c)).drew).cell? ⟨w.heap.size, 0, none⟩ = some (.int .i64 0) ∧
    (((((outW w).drewN n).setCell ⟨w.heap.size, 0, none⟩ (.int .i64 0)).setCell ⟨w.heap.size + 1, 0, none⟩ (.int .i64 c)).drew).cell? ⟨w.heap.size + 1, 0, none⟩ = some (.int .i64 c) ∧
    Below w.heap.size w (((((outW w).drewN n).setCell ⟨w.heap.size, 0, none⟩ (.int .i64 0)).setCell ⟨w.heap.size + 1, 0, none⟩ (.int .i64 c)).drew) :=
  ⟨(out_set w n 0 c).1, (out_set w n 0 c).2.1, below_drewN (out_set w n 0 c).2.2 1⟩
theorem add_err {a b x c : Int} (h : addS a b = (x, c)) (hc : c ≠ 0) : x = 0 := by
  unfold addS chkS at h
  split at h
  · split at h
    · exact absurd (congrArg Prod.snd h).symm hc
    · exact (congrArg Prod.fst h).symm
  · exact (congrArg Prod.fst h).symm
-- GEN
set_option maxRecDepth 100000 in
theorem value_stop (call : Bool) (k p v n c : Int) (w : World) (h1 : mkB k = true) (h2 : mkB p = true) (h3 : mkB v = true) (h4 : 0 < n) (h5 : n ≤ 100000) (e1 : (topS k v n).2 = c) (hc : c ≠ 0) :
    Calls Tryd.prog 37 #[.bool call, .int .i64 k, .int .i64 p, .int .i64 v, .int .i64 n] w fun e w' => e = .returned (.tuple #[.int .i64 (optS call k p v n).1, .int .i64 (optS call k p v n).2]) ∧ Below w.heap.size w w' := by
  have b1 := mkB_iff.1 h1; have b2 := mkB_iff.1 h2
  have hs := optS_go (call := call) h1 h2 h3 h4 h5
  have d1 : decide (100000 < n) = false := decide_eq_false (by omega)
  have d2 : decide (n ≤ 0) = false := decide_eq_false (by omega)
  have hmf : ∀ (fn : Fn) (first cap : Array Value) (w : World), (Instr.makeFunc fn first cap).run Tryd.prog w = .ok (.func fn first cap) w := fun _ _ _ _ => rfl
  rw [goS_no (show topS k v n = ((topS k v n).1, c) by rw [← e1]) hc] at hs
  have tm := fun g w => time_no k g v n c w e1 hc
  have HS := Lib.hid hs; clear hs h4 h5 e1
  cases call
  · go_enter_defers Tryd.func37, Tryd.ntmps37
    go_wp2_with (first | (go_at_call 35; refine (mark_any _ _).mono ?_; rintro e w' ⟨rfl, rfl⟩) | (go_at_call 44; with_reducible refine (tm _ _).mono ?_; rintro e w1 ⟨rfl, n1, rfl⟩))
    all_goals
      refine leaves_panic rfl ?_
      refine leaves_cons (f := 41) (args := #[.pointer (some ⟨w.heap.size, 0, none⟩), .pointer (some ⟨w.heap.size + 1, 0, none⟩)]) (by simp) (by simp [go_sem]) ?_
      refine (catch_panicking _ _ c [] _ ⟨_, out_cell4 w _⟩ ⟨_, out_cell5 w _⟩ (out_free4 w _) (out_free5 w _) rfl).mono ?_
      rintro e u' w'' ⟨rfl, rfl, rfl⟩
      obtain ⟨q1, q2, q3⟩ := out_caught w n1 c
      refine leaves_back (v := .tuple #[.int .i64 0, .int .i64 c]) ?_ ⟨by rw [HS.out], q3⟩
      simp [results, Tryd.results37, go_sem, q1, q2]
  · go_enter_defers Tryd.func37, Tryd.ntmps37
    go_wp2_with (first | (go_at_call 35; refine (mark_any _ _).mono ?_; rintro e w' ⟨rfl, rfl⟩) | (go_at_call 44; with_reducible refine (tm _ _).mono ?_; rintro e w1 ⟨rfl, n1, rfl⟩))
    all_goals
      refine leaves_panic rfl ?_
      refine leaves_cons (f := 41) (args := #[.pointer (some ⟨w.heap.size, 0, none⟩), .pointer (some ⟨w.heap.size + 1, 0, none⟩)]) (by simp) (by simp [go_sem]) ?_
      refine (catch_panicking _ _ c [] _ ⟨_, out_cell4 w _⟩ ⟨_, out_cell5 w _⟩ (out_free4 w _) (out_free5 w _) rfl).mono ?_
      rintro e u' w'' ⟨rfl, rfl, rfl⟩
      obtain ⟨q1, q2, q3⟩ := out_caught w n1 c
      refine leaves_back (v := .tuple #[.int .i64 0, .int .i64 c]) ?_ ⟨by rw [HS.out], q3⟩
      simp [results, Tryd.results37, go_sem, q1, q2]
set_option maxRecDepth 100000 in
theorem value_run (call : Bool) (k p v n m : Int) (w : World) (h1 : mkB k = true) (h2 : mkB p = true) (h3 : mkB v = true) (h4 : 0 < n) (h5 : n ≤ 100000) (e1 : topS k v n = (m, 0)) :
    Calls Tryd.prog 37 #[.bool call, .int .i64 k, .int .i64 p, .int .i64 v, .int .i64 n] w fun e w' => e = .returned (.tuple #[.int .i64 (optS call k p v n).1, .int .i64 (optS call k p v n).2]) ∧ Below w.heap.size w w' := by
  have b1 := mkB_iff.1 h1; have b2 := mkB_iff.1 h2
  have hs := optS_go (call := call) h1 h2 h3 h4 h5
  have d1 : decide (100000 < n) = false := decide_eq_false (by omega)
  have d2 : decide (n ≤ 0) = false := decide_eq_false (by omega)
  have hg := gap_bound call h1 h2
  have hmf : ∀ (fn : Fn) (first cap : Array Value) (w : World), (Instr.makeFunc fn first cap).run Tryd.prog w = .ok (.func fn first cap) w := fun _ _ _ _ => rfl
  rw [goS_ok e1] at hs
  obtain ⟨t, d, e2⟩ : ∃ t d, mulS v n = (t, d) := ⟨_, _, rfl⟩
  have hd : d = 0 := by
    by_cases hd : d = 0
    · exact hd
    · rw [topS_no e2 hd] at e1; exact absurd (congrArg Prod.snd e1) hd
  subst hd
  rw [topS_ok e2] at e1
  have tm := fun w => time_ok k (gapS call k p) v n t m w e2 e1 hg
  generalize moreS m (gapS call k p) = mo at tm hs
  obtain ⟨I, hI⟩ : ∃ I, max (gapS call k p) 0 = I := ⟨_, rfl⟩
  rw [hI] at hs
  obtain ⟨x, c, e3⟩ : ∃ x c, addS I mo = (x, c) := ⟨_, _, rfl⟩
  have ad := fun w => add_any I mo w
  rw [e3] at ad hs
  simp only at ad
  clear h4 h5 e1 e2 hg
  unfold gapS at tm hI
  cases call
  · rw [if_neg (by decide)] at tm hI
    by_cases hp : 0 ≤ k - p
    · obtain rfl : I = k - p := by omega
      clear hI
      by_cases hc : c = 0
      · subst hc
        have HS := Lib.hid hs; clear hs e3
        go_enter_defers Tryd.func37, Tryd.ntmps37
        go_wp2_with (first | (go_at_call 35; refine (mark_any _ _).mono ?_; rintro e w' ⟨rfl, rfl⟩) | (go_at_call 44; with_reducible refine (tm _).mono ?_; rintro e w1 ⟨rfl, n1, rfl⟩; have c4 := out_cell4 w n1; have c5 := out_cell5 w n1; have f4 := out_free4 w n1; have f5 := out_free5 w n1) | (go_at_call 43; with_reducible refine (ad _).mono ?_; rintro e w' ⟨rfl, rfl⟩) | (go_at_call 42; with_reducible refine (must_ok x _).mono ?_; rintro e w' ⟨rfl, rfl⟩))
        refine leaves_over rfl ?_
        refine leaves_cons (f := 41) (args := #[.pointer (some ⟨w.heap.size, 0, none⟩), .pointer (some ⟨w.heap.size + 1, 0, none⟩)]) (by simp) (by simp [go_sem]) ?_
        refine (catch_idle _ _ _).mono ?_
        rintro e u' w'' ⟨rfl, rfl, rfl⟩
        obtain ⟨q1, q2, q3⟩ := out_set w n1 x 0
        refine leaves_back (v := .tuple #[.int .i64 x, .int .i64 0]) ?_ ⟨by rw [HS.out], q3⟩
        simp [results, Tryd.results37, go_sem, q1, q2]
      · obtain rfl := add_err e3 hc
        have HS := Lib.hid hs; clear hs e3
        go_enter_defers Tryd.func37, Tryd.ntmps37
        go_wp2_with (first | (go_at_call 35; refine (mark_any _ _).mono ?_; rintro e w' ⟨rfl, rfl⟩) | (go_at_call 44; with_reducible refine (tm _).mono ?_; rintro e w1 ⟨rfl, n1, rfl⟩; have c4 := out_cell4 w n1; have c5 := out_cell5 w n1; have f4 := out_free4 w n1; have f5 := out_free5 w n1) | (go_at_call 43; with_reducible refine (ad _).mono ?_; rintro e w' ⟨rfl, rfl⟩) | (go_at_call 42; with_reducible refine (must_no 0 _ hc _).mono ?_; rintro e w' ⟨rfl, rfl⟩))
        refine leaves_panic rfl ?_
        refine leaves_cons (f := 41) (args := #[.pointer (some ⟨w.heap.size, 0, none⟩), .pointer (some ⟨w.heap.size + 1, 0, none⟩)]) (by simp) (by simp [go_sem]) ?_
        refine (catch_panicking _ _ c [] _ ⟨_, out_cell4 w _⟩ ⟨_, out_cell5 w _⟩ (out_free4 w _) (out_free5 w _) rfl).mono ?_
        rintro e u' w'' ⟨rfl, rfl, rfl⟩
        obtain ⟨q1, q2, q3⟩ := out_caught w n1 c
        refine leaves_back (v := .tuple #[.int .i64 0, .int .i64 c]) ?_ ⟨by rw [HS.out], q3⟩
        simp [results, Tryd.results37, go_sem, q1, q2]
    · obtain rfl : I = 0 := by omega
      clear hI
      by_cases hc : c = 0
      · subst hc
        have HS := Lib.hid hs; clear hs e3
        go_enter_defers Tryd.func37, Tryd.ntmps37
        go_wp2_with (first | (go_at_call 35; refine (mark_any _ _).mono ?_; rintro e w' ⟨rfl, rfl⟩) | (go_at_call 44; with_reducible refine (tm _).mono ?_; rintro e w1 ⟨rfl, n1, rfl⟩; have c4 := out_cell4 w n1; have c5 := out_cell5 w n1; have f4 := out_free4 w n1; have f5 := out_free5 w n1) | (go_at_call 43; with_reducible refine (ad _).mono ?_; rintro e w' ⟨rfl, rfl⟩) | (go_at_call 42; with_reducible refine (must_ok x _).mono ?_; rintro e w' ⟨rfl, rfl⟩))
        refine leaves_over rfl ?_
        refine leaves_cons (f := 41) (args := #[.pointer (some ⟨w.heap.size, 0, none⟩), .pointer (some ⟨w.heap.size + 1, 0, none⟩)]) (by simp) (by simp [go_sem]) ?_
        refine (catch_idle _ _ _).mono ?_
        rintro e u' w'' ⟨rfl, rfl, rfl⟩
        obtain ⟨q1, q2, q3⟩ := out_set w n1 x 0
        refine leaves_back (v := .tuple #[.int .i64 x, .int .i64 0]) ?_ ⟨by rw [HS.out], q3⟩
        simp [results, Tryd.results37, go_sem, q1, q2]
      · obtain rfl := add_err e3 hc
        have HS := Lib.hid hs; clear hs e3
        go_enter_defers Tryd.func37, Tryd.ntmps37
        go_wp2_with (first | (go_at_call 35; refine (mark_any _ _).mono ?_; rintro e w' ⟨rfl, rfl⟩) | (go_at_call 44; with_reducible refine (tm _).mono ?_; rintro e w1 ⟨rfl, n1, rfl⟩; have c4 := out_cell4 w n1; have c5 := out_cell5 w n1; have f4 := out_free4 w n1; have f5 := out_free5 w n1) | (go_at_call 43; with_reducible refine (ad _).mono ?_; rintro e w' ⟨rfl, rfl⟩) | (go_at_call 42; with_reducible refine (must_no 0 _ hc _).mono ?_; rintro e w' ⟨rfl, rfl⟩))
        refine leaves_panic rfl ?_
        refine leaves_cons (f := 41) (args := #[.pointer (some ⟨w.heap.size, 0, none⟩), .pointer (some ⟨w.heap.size + 1, 0, none⟩)]) (by simp) (by simp [go_sem]) ?_
        refine (catch_panicking _ _ c [] _ ⟨_, out_cell4 w _⟩ ⟨_, out_cell5 w _⟩ (out_free4 w _) (out_free5 w _) rfl).mono ?_
        rintro e u' w'' ⟨rfl, rfl, rfl⟩
        obtain ⟨q1, q2, q3⟩ := out_caught w n1 c
        refine leaves_back (v := .tuple #[.int .i64 0, .int .i64 c]) ?_ ⟨by rw [HS.out], q3⟩
        simp [results, Tryd.results37, go_sem, q1, q2]
  · rw [if_pos rfl] at tm hI
    by_cases hp : 0 ≤ p - k
    · obtain rfl : I = p - k := by omega
      clear hI
      by_cases hc : c = 0
      · subst hc
        have HS := Lib.hid hs; clear hs e3
        go_enter_defers Tryd.func37, Tryd.ntmps37
        go_wp2_with (first | (go_at_call 35; refine (mark_any _ _).mono ?_; rintro e w' ⟨rfl, rfl⟩) | (go_at_call 44; with_reducible refine (tm _).mono ?_; rintro e w1 ⟨rfl, n1, rfl⟩; have c4 := out_cell4 w n1; have c5 := out_cell5 w n1; have f4 := out_free4 w n1; have f5 := out_free5 w n1) | (go_at_call 43; with_reducible refine (ad _).mono ?_; rintro e w' ⟨rfl, rfl⟩) | (go_at_call 42; with_reducible refine (must_ok x _).mono ?_; rintro e w' ⟨rfl, rfl⟩))
        refine leaves_over rfl ?_
        refine leaves_cons (f := 41) (args := #[.pointer (some ⟨w.heap.size, 0, none⟩), .pointer (some ⟨w.heap.size + 1, 0, none⟩)]) (by simp) (by simp [go_sem]) ?_
        refine (catch_idle _ _ _).mono ?_
        rintro e u' w'' ⟨rfl, rfl, rfl⟩
        obtain ⟨q1, q2, q3⟩ := out_set w n1 x 0
        refine leaves_back (v := .tuple #[.int .i64 x, .int .i64 0]) ?_ ⟨by rw [HS.out], q3⟩
        simp [results, Tryd.results37, go_sem, q1, q2]
      · obtain rfl := add_err e3 hc
        have HS := Lib.hid hs; clear hs e3
        go_enter_defers Tryd.func37, Tryd.ntmps37
        go_wp2_with (first | (go_at_call 35; refine (mark_any _ _).mono ?_; rintro e w' ⟨rfl, rfl⟩) | (go_at_call 44; with_reducible refine (tm _).mono ?_; rintro e w1 ⟨rfl, n1, rfl⟩; have c4 := out_cell4 w n1; have c5 := out_cell5 w n1; have f4 := out_free4 w n1; have f5 := out_free5 w n1) | (go_at_call 43; with_reducible refine (ad _).mono ?_; rintro e w' ⟨rfl, rfl⟩) | (go_at_call 42; with_reducible refine (must_no 0 _ hc _).mono ?_; rintro e w' ⟨rfl, rfl⟩))
        refine leaves_panic rfl ?_
        refine leaves_cons (f := 41) (args := #[.pointer (some ⟨w.heap.size, 0, none⟩), .pointer (some ⟨w.heap.size + 1, 0, none⟩)]) (by simp) (by simp [go_sem]) ?_
        refine (catch_panicking _ _ c [] _ ⟨_, out_cell4 w _⟩ ⟨_, out_cell5 w _⟩ (out_free4 w _) (out_free5 w _) rfl).mono ?_
        rintro e u' w'' ⟨rfl, rfl, rfl⟩
        obtain ⟨q1, q2, q3⟩ := out_caught w n1 c
        refine leaves_back (v := .tuple #[.int .i64 0, .int .i64 c]) ?_ ⟨by rw [HS.out], q3⟩
        simp [results, Tryd.results37, go_sem, q1, q2]
    · obtain rfl : I = 0 := by omega
      clear hI
      by_cases hc : c = 0
      · subst hc
        have HS := Lib.hid hs; clear hs e3
        go_enter_defers Tryd.func37, Tryd.ntmps37
        go_wp2_with (first | (go_at_call 35; refine (mark_any _ _).mono ?_; rintro e w' ⟨rfl, rfl⟩) | (go_at_call 44; with_reducible refine (tm _).mono ?_; rintro e w1 ⟨rfl, n1, rfl⟩; have c4 := out_cell4 w n1; have c5 := out_cell5 w n1; have f4 := out_free4 w n1; have f5 := out_free5 w n1) | (go_at_call 43; with_reducible refine (ad _).mono ?_; rintro e w' ⟨rfl, rfl⟩) | (go_at_call 42; with_reducible refine (must_ok x _).mono ?_; rintro e w' ⟨rfl, rfl⟩))
        refine leaves_over rfl ?_
        refine leaves_cons (f := 41) (args := #[.pointer (some ⟨w.heap.size, 0, none⟩), .pointer (some ⟨w.heap.size + 1, 0, none⟩)]) (by simp) (by simp [go_sem]) ?_
        refine (catch_idle _ _ _).mono ?_
        rintro e u' w'' ⟨rfl, rfl, rfl⟩
        obtain ⟨q1, q2, q3⟩ := out_set w n1 x 0
        refine leaves_back (v := .tuple #[.int .i64 x, .int .i64 0]) ?_ ⟨by rw [HS.out], q3⟩
        simp [results, Tryd.results37, go_sem, q1, q2]
      · obtain rfl := add_err e3 hc
        have HS := Lib.hid hs; clear hs e3
        go_enter_defers Tryd.func37, Tryd.ntmps37
        go_wp2_with (first | (go_at_call 35; refine (mark_any _ _).mono ?_; rintro e w' ⟨rfl, rfl⟩) | (go_at_call 44; with_reducible refine (tm _).mono ?_; rintro e w1 ⟨rfl, n1, rfl⟩; have c4 := out_cell4 w n1; have c5 := out_cell5 w n1; have f4 := out_free4 w n1; have f5 := out_free5 w n1) | (go_at_call 43; with_reducible refine (ad _).mono ?_; rintro e w' ⟨rfl, rfl⟩) | (go_at_call 42; with_reducible refine (must_no 0 _ hc _).mono ?_; rintro e w' ⟨rfl, rfl⟩))
        refine leaves_panic rfl ?_
        refine leaves_cons (f := 41) (args := #[.pointer (some ⟨w.heap.size, 0, none⟩), .pointer (some ⟨w.heap.size + 1, 0, none⟩)]) (by simp) (by simp [go_sem]) ?_
        refine (catch_panicking _ _ c [] _ ⟨_, out_cell4 w _⟩ ⟨_, out_cell5 w _⟩ (out_free4 w _) (out_free5 w _) rfl).mono ?_
        rintro e u' w'' ⟨rfl, rfl, rfl⟩
        obtain ⟨q1, q2, q3⟩ := out_caught w n1 c
        refine leaves_back (v := .tuple #[.int .i64 0, .int .i64 c]) ?_ ⟨by rw [HS.out], q3⟩
        simp [results, Tryd.results37, go_sem, q1, q2]
theorem value_any (call : Bool) (k p v n : Int) (w : World) :
    Calls Tryd.prog 37 #[.bool call, .int .i64 k, .int .i64 p, .int .i64 v, .int .i64 n] w fun e w' => e = .returned (.tuple #[.int .i64 (optS call k p v n).1, .int .i64 (optS call k p v n).2]) ∧ Below w.heap.size w w' := by
  cases h1 : mkB k
  · exact value_no1 call k p v n w h1
  cases h2 : mkB p
  · exact value_no2 call k p v n w h1 h2
  cases h3 : mkB v
  · exact value_no3 call k p v n w h1 h2 h3
  by_cases h4 : n ≤ 0
  · exact value_now call k p v n w h1 h2 h3 h4
  by_cases h5 : n ≤ 100000
  · obtain ⟨m, c, e1⟩ : ∃ m c, topS k v n = (m, c) := ⟨_, _, rfl⟩
    by_cases hc : c = 0
    · subst hc
      exact value_run call k p v n m w h1 h2 h3 (by omega) h5 e1
    · exact value_stop call k p v n c w h1 h2 h3 (by omega) h5 (congrArg Prod.snd e1) hc
  · exact value_far call k p v n w h1 h2 h3 (by omega)
end Go.Proofs.YtbnihoimhfcjiaaDoor.Ot

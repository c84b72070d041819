/-
  Layer 11: the reference's Value; Unit of both; what the laws wake with.
-/
import Derived.Test.YtbnihoimhfcjiaaDoorGc
import Derived.Test.YtbnihoimhfcjiaaDoorGo
namespace Go.Proofs.YtbnihoimhfcjiaaDoor.Ot
open Go.RowKit Go.Joins
open Go.Proofs.YtbnihoimhfcjiaaDoor.Fx Ao
set_option linter.unusedVariables false
set_option linter.unusedSimpArgs false

set_option maxRecDepth 100000 in
theorem rvalue_no1 (call : Bool) (k p v n : Int) (w : World) (h1 : mkB k = false) :
    Calls Tryd.prog 34 #[.bool call, .int .i64 k, .int .i64 p, .int .i64 v, .int .i64 n] w fun e w' => e = .returned (.tuple #[.int .i64 (optS call k p v n).1, .int .i64 (optS call k p v n).2]) ∧ Below w.heap.size w w' := by
  have HS := Lib.hid (optS_no1 (call := call) (p := p) (v := v) (n := n) h1)
  go_enter Tryd.func34, Tryd.ntmps34
  go_wp2_with (go_at_call 33; refine (rfit_any _ _).mono ?_; rintro e w' ⟨rfl, rfl⟩)
  go_ret2
  exact ⟨by rw [HS.out] <;> rfl, Below.refl _ _⟩
set_option maxRecDepth 100000 in
theorem rvalue_no2 (call : Bool) (k p v n : Int) (w : World) (h1 : mkB k = true) (h2 : mkB p = false) :
    Calls Tryd.prog 34 #[.bool call, .int .i64 k, .int .i64 p, .int .i64 v, .int .i64 n] w fun e w' => e = .returned (.tuple #[.int .i64 (optS call k p v n).1, .int .i64 (optS call k p v n).2]) ∧ Below w.heap.size w w' := by
  have HS := Lib.hid (optS_no2 (call := call) (k := k) (v := v) (n := n) h2)
  go_enter Tryd.func34, Tryd.ntmps34
  go_wp2_with (go_at_call 33; refine (rfit_any _ _).mono ?_; rintro e w' ⟨rfl, rfl⟩)
  go_ret2
  exact ⟨by rw [HS.out] <;> rfl, Below.refl _ _⟩
set_option maxRecDepth 100000 in
theorem rvalue_no3 (call : Bool) (k p v n : Int) (w : World) (h1 : mkB k = true) (h2 : mkB p = true) (h3 : mkB v = false) :
    Calls Tryd.prog 34 #[.bool call, .int .i64 k, .int .i64 p, .int .i64 v, .int .i64 n] w fun e w' => e = .returned (.tuple #[.int .i64 (optS call k p v n).1, .int .i64 (optS call k p v n).2]) ∧ Below w.heap.size w w' := by
  have HS := Lib.hid (optS_no3 (call := call) (k := k) (p := p) (n := n) h3)
  go_enter Tryd.func34, Tryd.ntmps34
  go_wp2_with (go_at_call 33; refine (rfit_any _ _).mono ?_; rintro e w' ⟨rfl, rfl⟩)
  go_ret2
  exact ⟨by rw [HS.out] <;> rfl, Below.refl _ _⟩
set_option maxRecDepth 100000 in
theorem rvalue_far (call : Bool) (k p v n : Int) (w : World) (h1 : mkB k = true) (h2 : mkB p = true) (h3 : mkB v = true) (h4 : 100000 < n) :
    Calls Tryd.prog 34 #[.bool call, .int .i64 k, .int .i64 p, .int .i64 v, .int .i64 n] w fun e w' => e = .returned (.tuple #[.int .i64 (optS call k p v n).1, .int .i64 (optS call k p v n).2]) ∧ Below w.heap.size w w' := by
  have b1 := mkB_iff.1 h1; have b2 := mkB_iff.1 h2
  have hs := optS_far (call := call) (k := k) (p := p) (v := v) h4
  have d1 : decide (100000 < n) = true := decide_eq_true h4
  have d2 : decide (n ≤ 0) = false := decide_eq_false (by omega)
  obtain ⟨G, hG⟩ : ∃ G, (if call then p - k else k - p) = G := ⟨_, rfl⟩
  clear h4
  cases call
  · rw [if_neg (by decide)] at hG
    subst hG
    by_cases hp : k - p < 0
    · have dg : decide (k - p < 0) = true := decide_eq_true hp
      have HS := Lib.hid hs; clear hs hp
      go_enter Tryd.func34, Tryd.ntmps34
      go_wp2_with (go_at_call 33; refine (rfit_any _ _).mono ?_; rintro e w' ⟨rfl, rfl⟩)
      go_ret2
      exact ⟨by rw [HS.out] <;> rfl, Below.refl _ _⟩
    · have dg : decide (k - p < 0) = false := decide_eq_false hp
      have HS := Lib.hid hs; clear hs hp
      go_enter Tryd.func34, Tryd.ntmps34
      go_wp2_with (go_at_call 33; refine (rfit_any _ _).mono ?_; rintro e w' ⟨rfl, rfl⟩)
      go_ret2
      exact ⟨by rw [HS.out] <;> rfl, Below.refl _ _⟩
  · rw [if_pos rfl] at hG
    subst hG
    by_cases hp : p - k < 0
    · have dg : decide (p - k < 0) = true := decide_eq_true hp
      have HS := Lib.hid hs; clear hs hp
      go_enter Tryd.func34, Tryd.ntmps34
      go_wp2_with (go_at_call 33; refine (rfit_any _ _).mono ?_; rintro e w' ⟨rfl, rfl⟩)
      go_ret2
      exact ⟨by rw [HS.out] <;> rfl, Below.refl _ _⟩
    · have dg : decide (p - k < 0) = false := decide_eq_false hp
      have HS := Lib.hid hs; clear hs hp
      go_enter Tryd.func34, Tryd.ntmps34
      go_wp2_with (go_at_call 33; refine (rfit_any _ _).mono ?_; rintro e w' ⟨rfl, rfl⟩)
      go_ret2
      exact ⟨by rw [HS.out] <;> rfl, Below.refl _ _⟩
set_option maxRecDepth 100000 in
theorem rvalue_now (call : Bool) (k p v n : Int) (w : World) (h1 : mkB k = true) (h2 : mkB p = true) (h3 : mkB v = true) (h4 : n ≤ 0) :
    Calls Tryd.prog 34 #[.bool call, .int .i64 k, .int .i64 p, .int .i64 v, .int .i64 n] w fun e w' => e = .returned (.tuple #[.int .i64 (optS call k p v n).1, .int .i64 (optS call k p v n).2]) ∧ Below w.heap.size w w' := by
  have b1 := mkB_iff.1 h1; have b2 := mkB_iff.1 h2
  have hs := optS_now (call := call) h1 h2 h3 h4
  have d2 : decide (n ≤ 0) = true := decide_eq_true h4
  obtain ⟨G, hG⟩ : ∃ G, (if call then p - k else k - p) = G := ⟨_, rfl⟩
  unfold gapS at hs; rw [hG] at hs
  clear h4
  cases call
  · rw [if_neg (by decide)] at hG
    subst hG
    by_cases hp : k - p < 0
    · have dg : decide (k - p < 0) = true := decide_eq_true hp
      have hs' : optS false k p v n = (0, 0) := hs.trans (congrArg (fun z => (z, (0 : Int))) (show max (k - p) 0 = 0 by omega))
      have HS := Lib.hid hs'; clear hs hs' hp
      go_enter Tryd.func34, Tryd.ntmps34
      go_wp2_with (go_at_call 33; refine (rfit_any _ _).mono ?_; rintro e w' ⟨rfl, rfl⟩)
      go_ret2
      exact ⟨by rw [HS.out] <;> rfl, Below.refl _ _⟩
    · have dg : decide (k - p < 0) = false := decide_eq_false hp
      have hs' : optS false k p v n = (k - p, 0) := hs.trans (congrArg (fun z => (z, (0 : Int))) (show max (k - p) 0 = k - p by omega))
      have HS := Lib.hid hs'; clear hs hs' hp
      go_enter Tryd.func34, Tryd.ntmps34
      go_wp2_with (go_at_call 33; refine (rfit_any _ _).mono ?_; rintro e w' ⟨rfl, rfl⟩)
      go_ret2
      exact ⟨by rw [HS.out] <;> rfl, Below.refl _ _⟩
  · rw [if_pos rfl] at hG
    subst hG
    by_cases hp : p - k < 0
    · have dg : decide (p - k < 0) = true := decide_eq_true hp
      have hs' : optS true k p v n = (0, 0) := hs.trans (congrArg (fun z => (z, (0 : Int))) (show max (p - k) 0 = 0 by omega))
      have HS := Lib.hid hs'; clear hs hs' hp
      go_enter Tryd.func34, Tryd.ntmps34
      go_wp2_with (go_at_call 33; refine (rfit_any _ _).mono ?_; rintro e w' ⟨rfl, rfl⟩)
      go_ret2
      exact ⟨by rw [HS.out] <;> rfl, Below.refl _ _⟩
    · have dg : decide (p - k < 0) = false := decide_eq_false hp
      have hs' : optS true k p v n = (p - k, 0) := hs.trans (congrArg (fun z => (z, (0 : Int))) (show max (p - k) 0 = p - k by omega))
      have HS := Lib.hid hs'; clear hs hs' hp
      go_enter Tryd.func34, Tryd.ntmps34
      go_wp2_with (go_at_call 33; refine (rfit_any _ _).mono ?_; rintro e w' ⟨rfl, rfl⟩)
      go_ret2
      exact ⟨by rw [HS.out] <;> rfl, Below.refl _ _⟩
set_option maxRecDepth 100000 in
theorem rvalue_mul (call : Bool) (k p v n t c : Int) (w : World) (h1 : mkB k = true) (h2 : mkB p = true) (h3 : mkB v = true) (h4 : 0 < n) (h5 : n ≤ 100000) (e1 : mulS v n = (t, c)) (hc : c ≠ 0) :
    Calls Tryd.prog 34 #[.bool call, .int .i64 k, .int .i64 p, .int .i64 v, .int .i64 n] w fun e w' => e = .returned (.tuple #[.int .i64 (optS call k p v n).1, .int .i64 (optS call k p v n).2]) ∧ Below w.heap.size w w' := by
  have b1 := mkB_iff.1 h1; have b2 := mkB_iff.1 h2
  have hs := optS_go (call := call) h1 h2 h3 h4 h5
  rw [goS_no (topS_no e1 hc) hc] at hs
  have d1 : decide (100000 < n) = false := decide_eq_false (by omega)
  have d2 : decide (n ≤ 0) = false := decide_eq_false (by omega)
  have d3 : (c != 0) = true := bne_iff_ne.2 hc
  have ml := fun w => rmul_any v n w
  rw [e1] at ml; simp only at ml
  obtain ⟨G, hG⟩ : ∃ G, (if call then p - k else k - p) = G := ⟨_, rfl⟩
  clear h4 h5 e1
  cases call
  · rw [if_neg (by decide)] at hG
    subst hG
    by_cases hp : k - p < 0
    · have dg : decide (k - p < 0) = true := decide_eq_true hp
      have HS := Lib.hid hs; clear hs hp
      go_enter Tryd.func34, Tryd.ntmps34
      go_wp2_with (first | (go_at_call 33; refine (rfit_any _ _).mono ?_; rintro e w' ⟨rfl, rfl⟩) | (go_at_call 39; with_reducible refine (ml _).mono ?_; rintro e w1 ⟨rfl, hb1⟩; have HB := Lib.hid hb1))
      go_ret2
      exact ⟨by rw [HS.out] <;> rfl, HB.out⟩
    · have dg : decide (k - p < 0) = false := decide_eq_false hp
      have HS := Lib.hid hs; clear hs hp
      go_enter Tryd.func34, Tryd.ntmps34
      go_wp2_with (first | (go_at_call 33; refine (rfit_any _ _).mono ?_; rintro e w' ⟨rfl, rfl⟩) | (go_at_call 39; with_reducible refine (ml _).mono ?_; rintro e w1 ⟨rfl, hb1⟩; have HB := Lib.hid hb1))
      go_ret2
      exact ⟨by rw [HS.out] <;> rfl, HB.out⟩
  · rw [if_pos rfl] at hG
    subst hG
    by_cases hp : p - k < 0
    · have dg : decide (p - k < 0) = true := decide_eq_true hp
      have HS := Lib.hid hs; clear hs hp
      go_enter Tryd.func34, Tryd.ntmps34
      go_wp2_with (first | (go_at_call 33; refine (rfit_any _ _).mono ?_; rintro e w' ⟨rfl, rfl⟩) | (go_at_call 39; with_reducible refine (ml _).mono ?_; rintro e w1 ⟨rfl, hb1⟩; have HB := Lib.hid hb1))
      go_ret2
      exact ⟨by rw [HS.out] <;> rfl, HB.out⟩
    · have dg : decide (p - k < 0) = false := decide_eq_false hp
      have HS := Lib.hid hs; clear hs hp
      go_enter Tryd.func34, Tryd.ntmps34
      go_wp2_with (first | (go_at_call 33; refine (rfit_any _ _).mono ?_; rintro e w' ⟨rfl, rfl⟩) | (go_at_call 39; with_reducible refine (ml _).mono ?_; rintro e w1 ⟨rfl, hb1⟩; have HB := Lib.hid hb1))
      go_ret2
      exact ⟨by rw [HS.out] <;> rfl, HB.out⟩
set_option maxRecDepth 100000 in
theorem rvalue_div (call : Bool) (k p v n t m c : Int) (w : World) (h1 : mkB k = true) (h2 : mkB p = true) (h3 : mkB v = true) (h4 : 0 < n) (h5 : n ≤ 100000) (e1 : mulS v n = (t, 0)) (e2 : divS k t 3650000 0 = (m, c)) (hc : c ≠ 0) :
    Calls Tryd.prog 34 #[.bool call, .int .i64 k, .int .i64 p, .int .i64 v, .int .i64 n] w fun e w' => e = .returned (.tuple #[.int .i64 (optS call k p v n).1, .int .i64 (optS call k p v n).2]) ∧ Below w.heap.size w w' := by
  have b1 := mkB_iff.1 h1; have b2 := mkB_iff.1 h2
  have hs := optS_go (call := call) h1 h2 h3 h4 h5
  rw [goS_no ((topS_ok e1).trans e2) hc] at hs
  have d1 : decide (100000 < n) = false := decide_eq_false (by omega)
  have d2 : decide (n ≤ 0) = false := decide_eq_false (by omega)
  have d3 : (c != 0) = true := bne_iff_ne.2 hc
  have ml := fun w => rmul_any v n w
  rw [e1] at ml; simp only at ml
  have md := fun w => rmuldiv_any k t 3650000 0 w
  rw [e2] at md; simp only at md
  obtain ⟨G, hG⟩ : ∃ G, (if call then p - k else k - p) = G := ⟨_, rfl⟩
  clear h4 h5 e1 e2
  cases call
  · rw [if_neg (by decide)] at hG
    subst hG
    by_cases hp : k - p < 0
    · have dg : decide (k - p < 0) = true := decide_eq_true hp
      have HS := Lib.hid hs; clear hs hp
      go_enter Tryd.func34, Tryd.ntmps34
      go_wp2_with (first | (go_at_call 33; refine (rfit_any _ _).mono ?_; rintro e w' ⟨rfl, rfl⟩) | (go_at_call 39; with_reducible refine (ml _).mono ?_; rintro e w1 ⟨rfl, hb1⟩; have HB := Lib.hid hb1) | (go_at_call 21; with_reducible refine (md _).mono ?_; rintro e w2 ⟨rfl, hb2⟩; have HB := Lib.hid (below_next HB.out hb2)))
      go_ret2
      exact ⟨by rw [HS.out] <;> rfl, HB.out⟩
    · have dg : decide (k - p < 0) = false := decide_eq_false hp
      have HS := Lib.hid hs; clear hs hp
      go_enter Tryd.func34, Tryd.ntmps34
      go_wp2_with (first | (go_at_call 33; refine (rfit_any _ _).mono ?_; rintro e w' ⟨rfl, rfl⟩) | (go_at_call 39; with_reducible refine (ml _).mono ?_; rintro e w1 ⟨rfl, hb1⟩; have HB := Lib.hid hb1) | (go_at_call 21; with_reducible refine (md _).mono ?_; rintro e w2 ⟨rfl, hb2⟩; have HB := Lib.hid (below_next HB.out hb2)))
      go_ret2
      exact ⟨by rw [HS.out] <;> rfl, HB.out⟩
  · rw [if_pos rfl] at hG
    subst hG
    by_cases hp : p - k < 0
    · have dg : decide (p - k < 0) = true := decide_eq_true hp
      have HS := Lib.hid hs; clear hs hp
      go_enter Tryd.func34, Tryd.ntmps34
      go_wp2_with (first | (go_at_call 33; refine (rfit_any _ _).mono ?_; rintro e w' ⟨rfl, rfl⟩) | (go_at_call 39; with_reducible refine (ml _).mono ?_; rintro e w1 ⟨rfl, hb1⟩; have HB := Lib.hid hb1) | (go_at_call 21; with_reducible refine (md _).mono ?_; rintro e w2 ⟨rfl, hb2⟩; have HB := Lib.hid (below_next HB.out hb2)))
      go_ret2
      exact ⟨by rw [HS.out] <;> rfl, HB.out⟩
    · have dg : decide (p - k < 0) = false := decide_eq_false hp
      have HS := Lib.hid hs; clear hs hp
      go_enter Tryd.func34, Tryd.ntmps34
      go_wp2_with (first | (go_at_call 33; refine (rfit_any _ _).mono ?_; rintro e w' ⟨rfl, rfl⟩) | (go_at_call 39; with_reducible refine (ml _).mono ?_; rintro e w1 ⟨rfl, hb1⟩; have HB := Lib.hid hb1) | (go_at_call 21; with_reducible refine (md _).mono ?_; rintro e w2 ⟨rfl, hb2⟩; have HB := Lib.hid (below_next HB.out hb2)))
      go_ret2
      exact ⟨by rw [HS.out] <;> rfl, HB.out⟩
set_option maxRecDepth 100000 in
set_option maxHeartbeats 1000000 in
theorem rvalue_add (call : Bool) (k p v n t m : Int) (w : World) (h1 : mkB k = true) (h2 : mkB p = true) (h3 : mkB v = true) (h4 : 0 < n) (h5 : n ≤ 100000) (e1 : mulS v n = (t, 0)) (e2 : divS k t 3650000 0 = (m, 0)) :
    Calls Tryd.prog 34 #[.bool call, .int .i64 k, .int .i64 p, .int .i64 v, .int .i64 n] w fun e w' => e = .returned (.tuple #[.int .i64 (optS call k p v n).1, .int .i64 (optS call k p v n).2]) ∧ Below w.heap.size w w' := by
  have b1 := mkB_iff.1 h1; have b2 := mkB_iff.1 h2
  have hs := optS_go (call := call) h1 h2 h3 h4 h5
  rw [goS_ok ((topS_ok e1).trans e2)] at hs
  have d1 : decide (100000 < n) = false := decide_eq_false (by omega)
  have d2 : decide (n ≤ 0) = false := decide_eq_false (by omega)
  have ml := fun w => rmul_any v n w
  rw [e1] at ml; simp only at ml
  have md := fun w => rmuldiv_any k t 3650000 0 w
  rw [e2] at md; simp only at md
  obtain ⟨_, _, _, _, hl, hm0⟩ := divS_ok e2
  have bm : -4611686018427387904 ≤ m ∧ m ≤ 4611686018427387904 := by rw [hm0]; split <;> omega
  have ad := fun w => radd_any (max (gapS call k p) 0) (moreS m (gapS call k p)) w
  obtain ⟨G, hG⟩ : ∃ G, (if call then p - k else k - p) = G := ⟨_, rfl⟩
  unfold gapS at hs ad; rw [hG] at hs ad
  clear h4 h5 e1 e2 hl hm0
  cases call
  · rw [if_neg (by decide)] at hG
    subst hG
    by_cases hp : k - p < 0
    · have dg : decide (k - p < 0) = true := decide_eq_true hp
      obtain ⟨Z, eZ⟩ : ∃ Z, -(k - p) = Z := ⟨_, rfl⟩
      have bZ : 0 < Z ∧ Z ≤ 100000000000000 := by omega
      have hI : max (k - p) 0 = 0 := by omega
      have hZ : max (k - p) (-(k - p)) = Z := by omega
      unfold moreS at hs ad; rw [hI, hZ] at hs ad
      by_cases hm : m - (Z) / 2 < 0
      · have dm : decide (m - (Z) / 2 < 0) = true := decide_eq_true hm
        rw [show max (m - (Z) / 2) 0 = 0 by omega] at hs ad
        have HS := Lib.hid hs; clear hs hm hI hZ
        go_enter Tryd.func34, Tryd.ntmps34
        go_wp2_with (first | (go_at_call 33; refine (rfit_any _ _).mono ?_; rintro e w' ⟨rfl, rfl⟩) | (go_at_call 39; with_reducible refine (ml _).mono ?_; rintro e w1 ⟨rfl, hb1⟩; have HB := Lib.hid hb1) | (go_at_call 21; with_reducible refine (md _).mono ?_; rintro e w2 ⟨rfl, hb2⟩; have HB := Lib.hid (below_next HB.out hb2)) | (go_at_call 40; with_reducible refine (ad _).mono ?_; rintro e w3 ⟨rfl, rfl⟩))
        go_ret2
        exact ⟨by rw [HS.out] <;> rfl, HB.out⟩
      · have dm : decide (m - (Z) / 2 < 0) = false := decide_eq_false hm
        rw [show max (m - (Z) / 2) 0 = m - (Z) / 2 by omega] at hs ad
        have HS := Lib.hid hs; clear hs hm hI hZ
        go_enter Tryd.func34, Tryd.ntmps34
        go_wp2_with (first | (go_at_call 33; refine (rfit_any _ _).mono ?_; rintro e w' ⟨rfl, rfl⟩) | (go_at_call 39; with_reducible refine (ml _).mono ?_; rintro e w1 ⟨rfl, hb1⟩; have HB := Lib.hid hb1) | (go_at_call 21; with_reducible refine (md _).mono ?_; rintro e w2 ⟨rfl, hb2⟩; have HB := Lib.hid (below_next HB.out hb2)) | (go_at_call 40; with_reducible refine (ad _).mono ?_; rintro e w3 ⟨rfl, rfl⟩))
        go_ret2
        exact ⟨by rw [HS.out] <;> rfl, HB.out⟩
    · have dg : decide (k - p < 0) = false := decide_eq_false hp
      have hI : max (k - p) 0 = k - p := by omega
      have hZ : max (k - p) (-(k - p)) = k - p := by omega
      unfold moreS at hs ad; rw [hI, hZ] at hs ad
      by_cases hm : m - (k - p) / 2 < 0
      · have dm : decide (m - (k - p) / 2 < 0) = true := decide_eq_true hm
        rw [show max (m - (k - p) / 2) 0 = 0 by omega] at hs ad
        have HS := Lib.hid hs; clear hs hm hI hZ
        go_enter Tryd.func34, Tryd.ntmps34
        go_wp2_with (first | (go_at_call 33; refine (rfit_any _ _).mono ?_; rintro e w' ⟨rfl, rfl⟩) | (go_at_call 39; with_reducible refine (ml _).mono ?_; rintro e w1 ⟨rfl, hb1⟩; have HB := Lib.hid hb1) | (go_at_call 21; with_reducible refine (md _).mono ?_; rintro e w2 ⟨rfl, hb2⟩; have HB := Lib.hid (below_next HB.out hb2)) | (go_at_call 40; with_reducible refine (ad _).mono ?_; rintro e w3 ⟨rfl, rfl⟩))
        go_ret2
        exact ⟨by rw [HS.out] <;> rfl, HB.out⟩
      · have dm : decide (m - (k - p) / 2 < 0) = false := decide_eq_false hm
        rw [show max (m - (k - p) / 2) 0 = m - (k - p) / 2 by omega] at hs ad
        have HS := Lib.hid hs; clear hs hm hI hZ
        go_enter Tryd.func34, Tryd.ntmps34
        go_wp2_with (first | (go_at_call 33; refine (rfit_any _ _).mono ?_; rintro e w' ⟨rfl, rfl⟩) | (go_at_call 39; with_reducible refine (ml _).mono ?_; rintro e w1 ⟨rfl, hb1⟩; have HB := Lib.hid hb1) | (go_at_call 21; with_reducible refine (md _).mono ?_; rintro e w2 ⟨rfl, hb2⟩; have HB := Lib.hid (below_next HB.out hb2)) | (go_at_call 40; with_reducible refine (ad _).mono ?_; rintro e w3 ⟨rfl, rfl⟩))
        go_ret2
        exact ⟨by rw [HS.out] <;> rfl, HB.out⟩
  · rw [if_pos rfl] at hG
    subst hG
    by_cases hp : p - k < 0
    · have dg : decide (p - k < 0) = true := decide_eq_true hp
      obtain ⟨Z, eZ⟩ : ∃ Z, -(p - k) = Z := ⟨_, rfl⟩
      have bZ : 0 < Z ∧ Z ≤ 100000000000000 := by omega
      have hI : max (p - k) 0 = 0 := by omega
      have hZ : max (p - k) (-(p - k)) = Z := by omega
      unfold moreS at hs ad; rw [hI, hZ] at hs ad
      by_cases hm : m - (Z) / 2 < 0
      · have dm : decide (m - (Z) / 2 < 0) = true := decide_eq_true hm
        rw [show max (m - (Z) / 2) 0 = 0 by omega] at hs ad
        have HS := Lib.hid hs; clear hs hm hI hZ
        go_enter Tryd.func34, Tryd.ntmps34
        go_wp2_with (first | (go_at_call 33; refine (rfit_any _ _).mono ?_; rintro e w' ⟨rfl, rfl⟩) | (go_at_call 39; with_reducible refine (ml _).mono ?_; rintro e w1 ⟨rfl, hb1⟩; have HB := Lib.hid hb1) | (go_at_call 21; with_reducible refine (md _).mono ?_; rintro e w2 ⟨rfl, hb2⟩; have HB := Lib.hid (below_next HB.out hb2)) | (go_at_call 40; with_reducible refine (ad _).mono ?_; rintro e w3 ⟨rfl, rfl⟩))
        go_ret2
        exact ⟨by rw [HS.out] <;> rfl, HB.out⟩
      · have dm : decide (m - (Z) / 2 < 0) = false := decide_eq_false hm
        rw [show max (m - (Z) / 2) 0 = m - (Z) / 2 by omega] at hs ad
        have HS := Lib.hid hs; clear hs hm hI hZ
        go_enter Tryd.func34, Tryd.ntmps34
        go_wp2_with (first | (go_at_call 33; refine (rfit_any _ _).mono ?_; rintro e w' ⟨rfl, rfl⟩) | (go_at_call 39; with_reducible refine (ml _).mono ?_; rintro e w1 ⟨rfl, hb1⟩; have HB := Lib.hid hb1) | (go_at_call 21; with_reducible refine (md _).mono ?_; rintro e w2 ⟨rfl, hb2⟩; have HB := Lib.hid (below_next HB.out hb2)) | (go_at_call 40; with_reducible refine (ad _).mono ?_; rintro e w3 ⟨rfl, rfl⟩))
        go_ret2
        exact ⟨by rw [HS.out] <;> rfl, HB.out⟩
    · have dg : decide (p - k < 0) = false := decide_eq_false hp
      have hI : max (p - k) 0 = p - k := by omega
      have hZ : max (p - k) (-(p - k)) = p - k := by omega
      unfold moreS at hs ad; rw [hI, hZ] at hs ad
      by_cases hm : m - (p - k) / 2 < 0
      · have dm : decide (m - (p - k) / 2 < 0) = true := decide_eq_true hm
        rw [show max (m - (p - k) / 2) 0 = 0 by omega] at hs ad
        have HS := Lib.hid hs; clear hs hm hI hZ
        go_enter Tryd.func34, Tryd.ntmps34
        go_wp2_with (first | (go_at_call 33; refine (rfit_any _ _).mono ?_; rintro e w' ⟨rfl, rfl⟩) | (go_at_call 39; with_reducible refine (ml _).mono ?_; rintro e w1 ⟨rfl, hb1⟩; have HB := Lib.hid hb1) | (go_at_call 21; with_reducible refine (md _).mono ?_; rintro e w2 ⟨rfl, hb2⟩; have HB := Lib.hid (below_next HB.out hb2)) | (go_at_call 40; with_reducible refine (ad _).mono ?_; rintro e w3 ⟨rfl, rfl⟩))
        go_ret2
        exact ⟨by rw [HS.out] <;> rfl, HB.out⟩
      · have dm : decide (m - (p - k) / 2 < 0) = false := decide_eq_false hm
        rw [show max (m - (p - k) / 2) 0 = m - (p - k) / 2 by omega] at hs ad
        have HS := Lib.hid hs; clear hs hm hI hZ
        go_enter Tryd.func34, Tryd.ntmps34
        go_wp2_with (first | (go_at_call 33; refine (rfit_any _ _).mono ?_; rintro e w' ⟨rfl, rfl⟩) | (go_at_call 39; with_reducible refine (ml _).mono ?_; rintro e w1 ⟨rfl, hb1⟩; have HB := Lib.hid hb1) | (go_at_call 21; with_reducible refine (md _).mono ?_; rintro e w2 ⟨rfl, hb2⟩; have HB := Lib.hid (below_next HB.out hb2)) | (go_at_call 40; with_reducible refine (ad _).mono ?_; rintro e w3 ⟨rfl, rfl⟩))
        go_ret2
        exact ⟨by rw [HS.out] <;> rfl, HB.out⟩
theorem rvalue_any (call : Bool) (k p v n : Int) (w : World) :
    Calls Tryd.prog 34 #[.bool call, .int .i64 k, .int .i64 p, .int .i64 v, .int .i64 n] w fun e w' => e = .returned (.tuple #[.int .i64 (optS call k p v n).1, .int .i64 (optS call k p v n).2]) ∧ Below w.heap.size w w' := by
  cases h1 : mkB k
  · exact rvalue_no1 call k p v n w h1
  cases h2 : mkB p
  · exact rvalue_no2 call k p v n w h1 h2
  cases h3 : mkB v
  · exact rvalue_no3 call k p v n w h1 h2 h3
  by_cases h4 : n ≤ 0
  · exact rvalue_now call k p v n w h1 h2 h3 h4
  by_cases h5 : n ≤ 100000
  · obtain ⟨t, c, e1⟩ : ∃ t c, mulS v n = (t, c) := ⟨_, _, rfl⟩
    by_cases hc : c = 0
    · subst hc
      obtain ⟨m, c, e2⟩ : ∃ m c, divS k t 3650000 0 = (m, c) := ⟨_, _, rfl⟩
      by_cases hc : c = 0
      · subst hc
        exact rvalue_add call k p v n t m w h1 h2 h3 (by omega) h5 e1 e2
      · exact rvalue_div call k p v n t m c w h1 h2 h3 (by omega) h5 e1 e2 hc
    · exact rvalue_mul call k p v n t c w h1 h2 h3 (by omega) h5 e1 hc
  · exact rvalue_far call k p v n w h1 h2 h3 (by omega)

/-- A unit's value. -/
def unitS (i : Ins) (p v d : Int) : Int × Int :=
  if i.kind = 1 ∨ i.kind = 2 ∨ i.kind = 3 then
    if mkB p && mkB v && dayB d then
      if i.kind = 3 then if dayB i.expiry then optS i.call i.strike p v (i.expiry - d) else (0, 32) else (p, 0)
    else (0, 1)
  else (0, 32)
theorem unit_kind {i : Ins} {p v d : Int} (h : ¬ (i.kind = 1 ∨ i.kind = 2 ∨ i.kind = 3)) : unitS i p v d = (0, 32) := if_neg h
theorem unit_no1 {i : Ins} {p v d : Int} (h : i.kind = 1 ∨ i.kind = 2 ∨ i.kind = 3) (h1 : mkB p = false) : unitS i p v d = (0, 1) := by unfold unitS; rw [if_pos h, h1]; rfl
theorem unit_no2 {i : Ins} {p v d : Int} (h : i.kind = 1 ∨ i.kind = 2 ∨ i.kind = 3) (h1 : mkB v = false) : unitS i p v d = (0, 1) := by unfold unitS; rw [if_pos h, h1, Bool.and_false]; rfl
theorem unit_no3 {i : Ins} {p v d : Int} (h : i.kind = 1 ∨ i.kind = 2 ∨ i.kind = 3) (h1 : dayB d = false) : unitS i p v d = (0, 1) := by unfold unitS; rw [if_pos h, h1, Bool.and_false]; rfl
theorem unit_price {i : Ins} {p v d : Int} (h : i.kind = 1 ∨ i.kind = 2) (h1 : mkB p = true) (h2 : mkB v = true) (h3 : dayB d = true) : unitS i p v d = (p, 0) := by
  unfold unitS
  rw [if_pos (show i.kind = 1 ∨ i.kind = 2 ∨ i.kind = 3 by omega), h1, h2, h3]
  exact if_neg (show ¬ i.kind = 3 by omega)
theorem unit_late {i : Ins} {p v d : Int} (h : i.kind = 3) (h1 : mkB p = true) (h2 : mkB v = true) (h3 : dayB d = true) (h4 : dayB i.expiry = false) : unitS i p v d = (0, 32) := by
  unfold unitS
  rw [if_pos (show i.kind = 1 ∨ i.kind = 2 ∨ i.kind = 3 by omega), h1, h2, h3, h4]
  exact if_pos h
theorem unit_opt {i : Ins} {p v d : Int} (h : i.kind = 3) (h1 : mkB p = true) (h2 : mkB v = true) (h3 : dayB d = true) (h4 : dayB i.expiry = true) : unitS i p v d = optS i.call i.strike p v (i.expiry - d) := by
  unfold unitS
  rw [if_pos (show i.kind = 1 ∨ i.kind = 2 ∨ i.kind = 3 by omega), h1, h2, h3, h4]
  exact if_pos h
set_option maxRecDepth 100000 in
set_option maxHeartbeats 1000000 in
theorem unit_any (i : Ins) (p v d : Int) (w : World) :
    Calls Tryd.prog 26 #[.agg #[.int .i64 i.kind, .int .i64 i.under, .int .i64 i.mult, .int .i64 i.strike, .int .i64 i.expiry, .bool i.call, .int .i64 i.mark], .int .i64 p, .int .i64 v, .int .i64 d] w fun e w' => e = .returned (.tuple #[.int .i64 (unitS i p v d).1, .int .i64 (unitS i p v d).2]) ∧ Below w.heap.size w w' := by
  have HB := Lib.hid (one_alloc w (.cells #[.int .i64 i.kind, .int .i64 i.under, .int .i64 i.mult, .int .i64 i.strike, .int .i64 i.expiry, .bool i.call, .int .i64 i.mark] 33))
  obtain ⟨x0, x1, x2, x3, x4, x5, x6⟩ := Bk.seven (Bk.new w #[.int .i64 i.kind, .int .i64 i.under, .int .i64 i.mult, .int .i64 i.strike, .int .i64 i.expiry, .bool i.call, .int .i64 i.mark] 33)
  have va := fun w => value_any i.call i.strike p v (i.expiry - d) w
  by_cases k1 : i.kind = 1
  · have t1 : (i.kind == 1) = true := by rw [beq_iff_eq]; omega
    have t2 : (i.kind == 2) = false := by rw [beq_eq_false_iff_ne]; omega
    have t3 : (i.kind == 3) = false := by rw [beq_eq_false_iff_ne]; omega
    have n1 : (i.kind != 1) = false := by rw [bne, t1]; rfl
    have n2 : (i.kind != 2) = true := by rw [bne, t2]; rfl
    have n3 : (i.kind != 3) = true := by rw [bne, t3]; rfl
    cases h1 : mkB p
    · have hs := unit_no1 (v := v) (d := d) (Or.inl k1) h1
      have HS := Lib.hid hs; clear hs k1
      go_enter Tryd.func26, Tryd.ntmps26
      go_wp2_with (first | (go_at_call 35; refine (mark_any _ _).mono ?_; rintro e w' ⟨rfl, rfl⟩) | (go_at_call 36; refine (date_any _ _).mono ?_; rintro e w' ⟨rfl, rfl⟩))
      go_ret2
      exact ⟨by rw [HS.out] <;> rfl, HB.out⟩
    cases h2 : mkB v
    · have hs := unit_no2 (p := p) (d := d) (Or.inl k1) h2
      have HS := Lib.hid hs; clear hs k1
      go_enter Tryd.func26, Tryd.ntmps26
      go_wp2_with (first | (go_at_call 35; refine (mark_any _ _).mono ?_; rintro e w' ⟨rfl, rfl⟩) | (go_at_call 36; refine (date_any _ _).mono ?_; rintro e w' ⟨rfl, rfl⟩))
      go_ret2
      exact ⟨by rw [HS.out] <;> rfl, HB.out⟩
    cases h3 : dayB d
    · have hs := unit_no3 (p := p) (v := v) (Or.inl k1) h3
      have HS := Lib.hid hs; clear hs k1
      go_enter Tryd.func26, Tryd.ntmps26
      go_wp2_with (first | (go_at_call 35; refine (mark_any _ _).mono ?_; rintro e w' ⟨rfl, rfl⟩) | (go_at_call 36; refine (date_any _ _).mono ?_; rintro e w' ⟨rfl, rfl⟩))
      go_ret2
      exact ⟨by rw [HS.out] <;> rfl, HB.out⟩
    have hs := unit_price (Or.inl k1) h1 h2 h3
    have HS := Lib.hid hs; clear hs k1
    go_enter Tryd.func26, Tryd.ntmps26
    go_wp2_with (first | (go_at_call 35; refine (mark_any _ _).mono ?_; rintro e w' ⟨rfl, rfl⟩) | (go_at_call 36; refine (date_any _ _).mono ?_; rintro e w' ⟨rfl, rfl⟩))
    go_ret2
    exact ⟨by rw [HS.out] <;> rfl, HB.out⟩
  by_cases k2 : i.kind = 2
  · have t1 : (i.kind == 1) = false := by rw [beq_eq_false_iff_ne]; omega
    have t2 : (i.kind == 2) = true := by rw [beq_iff_eq]; omega
    have t3 : (i.kind == 3) = false := by rw [beq_eq_false_iff_ne]; omega
    have n1 : (i.kind != 1) = true := by rw [bne, t1]; rfl
    have n2 : (i.kind != 2) = false := by rw [bne, t2]; rfl
    have n3 : (i.kind != 3) = true := by rw [bne, t3]; rfl
    cases h1 : mkB p
    · have hs := unit_no1 (v := v) (d := d) (Or.inr (Or.inl k2)) h1
      have HS := Lib.hid hs; clear hs k2
      go_enter Tryd.func26, Tryd.ntmps26
      go_wp2_with (first | (go_at_call 35; refine (mark_any _ _).mono ?_; rintro e w' ⟨rfl, rfl⟩) | (go_at_call 36; refine (date_any _ _).mono ?_; rintro e w' ⟨rfl, rfl⟩))
      go_ret2
      exact ⟨by rw [HS.out] <;> rfl, HB.out⟩
    cases h2 : mkB v
    · have hs := unit_no2 (p := p) (d := d) (Or.inr (Or.inl k2)) h2
      have HS := Lib.hid hs; clear hs k2
      go_enter Tryd.func26, Tryd.ntmps26
      go_wp2_with (first | (go_at_call 35; refine (mark_any _ _).mono ?_; rintro e w' ⟨rfl, rfl⟩) | (go_at_call 36; refine (date_any _ _).mono ?_; rintro e w' ⟨rfl, rfl⟩))
      go_ret2
      exact ⟨by rw [HS.out] <;> rfl, HB.out⟩
    cases h3 : dayB d
    · have hs := unit_no3 (p := p) (v := v) (Or.inr (Or.inl k2)) h3
      have HS := Lib.hid hs; clear hs k2
      go_enter Tryd.func26, Tryd.ntmps26
      go_wp2_with (first | (go_at_call 35; refine (mark_any _ _).mono ?_; rintro e w' ⟨rfl, rfl⟩) | (go_at_call 36; refine (date_any _ _).mono ?_; rintro e w' ⟨rfl, rfl⟩))
      go_ret2
      exact ⟨by rw [HS.out] <;> rfl, HB.out⟩
    have hs := unit_price (Or.inr k2) h1 h2 h3
    have HS := Lib.hid hs; clear hs k2
    go_enter Tryd.func26, Tryd.ntmps26
    go_wp2_with (first | (go_at_call 35; refine (mark_any _ _).mono ?_; rintro e w' ⟨rfl, rfl⟩) | (go_at_call 36; refine (date_any _ _).mono ?_; rintro e w' ⟨rfl, rfl⟩))
    go_ret2
    exact ⟨by rw [HS.out] <;> rfl, HB.out⟩
  by_cases k3 : i.kind = 3
  · have t1 : (i.kind == 1) = false := by rw [beq_eq_false_iff_ne]; omega
    have t2 : (i.kind == 2) = false := by rw [beq_eq_false_iff_ne]; omega
    have t3 : (i.kind == 3) = true := by rw [beq_iff_eq]; omega
    have n1 : (i.kind != 1) = true := by rw [bne, t1]; rfl
    have n2 : (i.kind != 2) = true := by rw [bne, t2]; rfl
    have n3 : (i.kind != 3) = false := by rw [bne, t3]; rfl
    cases h1 : mkB p
    · have hs := unit_no1 (v := v) (d := d) (Or.inr (Or.inr k3)) h1
      have HS := Lib.hid hs; clear hs k3
      go_enter Tryd.func26, Tryd.ntmps26
      go_wp2_with (first | (go_at_call 35; refine (mark_any _ _).mono ?_; rintro e w' ⟨rfl, rfl⟩) | (go_at_call 36; refine (date_any _ _).mono ?_; rintro e w' ⟨rfl, rfl⟩))
      go_ret2
      exact ⟨by rw [HS.out] <;> rfl, HB.out⟩
    cases h2 : mkB v
    · have hs := unit_no2 (p := p) (d := d) (Or.inr (Or.inr k3)) h2
      have HS := Lib.hid hs; clear hs k3
      go_enter Tryd.func26, Tryd.ntmps26
      go_wp2_with (first | (go_at_call 35; refine (mark_any _ _).mono ?_; rintro e w' ⟨rfl, rfl⟩) | (go_at_call 36; refine (date_any _ _).mono ?_; rintro e w' ⟨rfl, rfl⟩))
      go_ret2
      exact ⟨by rw [HS.out] <;> rfl, HB.out⟩
    cases h3 : dayB d
    · have hs := unit_no3 (p := p) (v := v) (Or.inr (Or.inr k3)) h3
      have HS := Lib.hid hs; clear hs k3
      go_enter Tryd.func26, Tryd.ntmps26
      go_wp2_with (first | (go_at_call 35; refine (mark_any _ _).mono ?_; rintro e w' ⟨rfl, rfl⟩) | (go_at_call 36; refine (date_any _ _).mono ?_; rintro e w' ⟨rfl, rfl⟩))
      go_ret2
      exact ⟨by rw [HS.out] <;> rfl, HB.out⟩
    have bd := dayB_iff.1 h3
    cases h4 : dayB i.expiry
    · have hs := unit_late k3 h1 h2 h3 h4
      have HS := Lib.hid hs; clear hs k3
      go_enter Tryd.func26, Tryd.ntmps26
      go_wp2_with (first | (go_at_call 35; refine (mark_any _ _).mono ?_; rintro e w' ⟨rfl, rfl⟩) | (go_at_call 36; refine (date_any _ _).mono ?_; rintro e w' ⟨rfl, rfl⟩))
      go_ret2
      exact ⟨by rw [HS.out] <;> rfl, HB.out⟩
    have bx := dayB_iff.1 h4
    have hs := unit_opt k3 h1 h2 h3 h4
    have HS := Lib.hid hs; clear hs k3
    go_enter Tryd.func26, Tryd.ntmps26
    go_wp2_with (first | (go_at_call 35; refine (mark_any _ _).mono ?_; rintro e w' ⟨rfl, rfl⟩) | (go_at_call 36; refine (date_any _ _).mono ?_; rintro e w' ⟨rfl, rfl⟩) | (go_at_call 37; with_reducible refine (va _).mono ?_; rintro e w2 ⟨rfl, hb2⟩; have HB := Lib.hid (below_next HB.out hb2)))
    go_ret2
    exact ⟨by rw [HS.out] <;> rfl, HB.out⟩
  have hs := unit_kind (i := i) (p := p) (v := v) (d := d) (by omega)
  have n1 : (i.kind != 1) = true := bne_iff_ne.2 k1
  have n2 : (i.kind != 2) = true := bne_iff_ne.2 k2
  have n3 : (i.kind != 3) = true := bne_iff_ne.2 k3
  have HS := Lib.hid hs; clear hs
  go_enter Tryd.func26, Tryd.ntmps26
  go_wp2_with (first | (go_at_call 35; refine (mark_any _ _).mono ?_; rintro e w' ⟨rfl, rfl⟩) | (go_at_call 36; refine (date_any _ _).mono ?_; rintro e w' ⟨rfl, rfl⟩))
  go_ret2
  exact ⟨by rw [HS.out] <;> rfl, HB.out⟩
set_option maxRecDepth 100000 in
set_option maxHeartbeats 1000000 in
theorem runit_any (i : Ins) (p v d : Int) (w : World) :
    Calls Tryd.prog 25 #[.agg #[.int .i64 i.kind, .int .i64 i.under, .int .i64 i.mult, .int .i64 i.strike, .int .i64 i.expiry, .bool i.call, .int .i64 i.mark], .int .i64 p, .int .i64 v, .int .i64 d] w fun e w' => e = .returned (.tuple #[.int .i64 (unitS i p v d).1, .int .i64 (unitS i p v d).2]) ∧ Below w.heap.size w w' := by
  have HB := Lib.hid (one_alloc w (.cells #[.int .i64 i.kind, .int .i64 i.under, .int .i64 i.mult, .int .i64 i.strike, .int .i64 i.expiry, .bool i.call, .int .i64 i.mark] 33))
  obtain ⟨x0, x1, x2, x3, x4, x5, x6⟩ := Bk.seven (Bk.new w #[.int .i64 i.kind, .int .i64 i.under, .int .i64 i.mult, .int .i64 i.strike, .int .i64 i.expiry, .bool i.call, .int .i64 i.mark] 33)
  have va := fun w => rvalue_any i.call i.strike p v (i.expiry - d) w
  by_cases k1 : i.kind < 1
  · have hs := unit_kind (i := i) (p := p) (v := v) (d := d) (by omega)
    have t1 : decide (i.kind < 1) = true := decide_eq_true k1
    have HS := Lib.hid hs; clear hs
    go_enter Tryd.func25, Tryd.ntmps25
    go_wp2_with (first | (go_at_call 33; refine (rfit_any _ _).mono ?_; rintro e w' ⟨rfl, rfl⟩))
    go_ret2
    exact ⟨by rw [HS.out] <;> rfl, HB.out⟩
  have t1 : decide (i.kind < 1) = false := decide_eq_false k1
  by_cases k2 : 3 < i.kind
  · have hs := unit_kind (i := i) (p := p) (v := v) (d := d) (by omega)
    have t2 : decide (3 < i.kind) = true := decide_eq_true k2
    have HS := Lib.hid hs; clear hs
    go_enter Tryd.func25, Tryd.ntmps25
    go_wp2_with (first | (go_at_call 33; refine (rfit_any _ _).mono ?_; rintro e w' ⟨rfl, rfl⟩))
    go_ret2
    exact ⟨by rw [HS.out] <;> rfl, HB.out⟩
  have t2 : decide (3 < i.kind) = false := decide_eq_false k2
  have kk : i.kind = 1 ∨ i.kind = 2 ∨ i.kind = 3 := by omega
  cases h1 : mkB p
  · have hs := unit_no1 (v := v) (d := d) kk h1
    clear kk
    have HS := Lib.hid hs; clear hs
    go_enter Tryd.func25, Tryd.ntmps25
    go_wp2_with (first | (go_at_call 33; refine (rfit_any _ _).mono ?_; rintro e w' ⟨rfl, rfl⟩))
    go_ret2
    exact ⟨by rw [HS.out] <;> rfl, HB.out⟩
  cases h2 : mkB v
  · have hs := unit_no2 (p := p) (d := d) kk h2
    clear kk
    have HS := Lib.hid hs; clear hs
    go_enter Tryd.func25, Tryd.ntmps25
    go_wp2_with (first | (go_at_call 33; refine (rfit_any _ _).mono ?_; rintro e w' ⟨rfl, rfl⟩))
    go_ret2
    exact ⟨by rw [HS.out] <;> rfl, HB.out⟩
  by_cases h3 : d < 0
  · have hs := unit_no3 (p := p) (v := v) (d := d) kk (dayB_no.2 (by omega))
    have t3 : decide (d < 0) = true := decide_eq_true h3
    clear kk
    have HS := Lib.hid hs; clear hs
    go_enter Tryd.func25, Tryd.ntmps25
    go_wp2_with (first | (go_at_call 33; refine (rfit_any _ _).mono ?_; rintro e w' ⟨rfl, rfl⟩))
    go_ret2
    exact ⟨by rw [HS.out] <;> rfl, HB.out⟩
  have t3 : decide (d < 0) = false := decide_eq_false h3
  by_cases h4 : 100000 < d
  · have hs := unit_no3 (p := p) (v := v) (d := d) kk (dayB_no.2 (by omega))
    have t4 : decide (100000 < d) = true := decide_eq_true h4
    clear kk
    have HS := Lib.hid hs; clear hs
    go_enter Tryd.func25, Tryd.ntmps25
    go_wp2_with (first | (go_at_call 33; refine (rfit_any _ _).mono ?_; rintro e w' ⟨rfl, rfl⟩))
    go_ret2
    exact ⟨by rw [HS.out] <;> rfl, HB.out⟩
  have t4 : decide (100000 < d) = false := decide_eq_false h4
  have hd : dayB d = true := dayB_iff.2 (by omega)
  by_cases k3 : i.kind < 3
  · have hs := unit_price (i := i) (by omega) h1 h2 hd
    have t5 : decide (i.kind < 3) = true := decide_eq_true k3
    clear kk
    have HS := Lib.hid hs; clear hs
    go_enter Tryd.func25, Tryd.ntmps25
    go_wp2_with (first | (go_at_call 33; refine (rfit_any _ _).mono ?_; rintro e w' ⟨rfl, rfl⟩))
    go_ret2
    exact ⟨by rw [HS.out] <;> rfl, HB.out⟩
  have t5 : decide (i.kind < 3) = false := decide_eq_false k3
  have k4 : i.kind = 3 := by omega
  clear kk
  by_cases h5 : i.expiry < 0
  · have hs := unit_late k4 h1 h2 hd (dayB_no.2 (by omega))
    have t6 : decide (i.expiry < 0) = true := decide_eq_true h5
    clear k4
    have HS := Lib.hid hs; clear hs
    go_enter Tryd.func25, Tryd.ntmps25
    go_wp2_with (first | (go_at_call 33; refine (rfit_any _ _).mono ?_; rintro e w' ⟨rfl, rfl⟩))
    go_ret2
    exact ⟨by rw [HS.out] <;> rfl, HB.out⟩
  have t6 : decide (i.expiry < 0) = false := decide_eq_false h5
  by_cases h6 : 100000 < i.expiry
  · have hs := unit_late k4 h1 h2 hd (dayB_no.2 (by omega))
    have t7 : decide (100000 < i.expiry) = true := decide_eq_true h6
    clear k4
    have HS := Lib.hid hs; clear hs
    go_enter Tryd.func25, Tryd.ntmps25
    go_wp2_with (first | (go_at_call 33; refine (rfit_any _ _).mono ?_; rintro e w' ⟨rfl, rfl⟩))
    go_ret2
    exact ⟨by rw [HS.out] <;> rfl, HB.out⟩
  have t7 : decide (100000 < i.expiry) = false := decide_eq_false h6
  have hs := unit_opt k4 h1 h2 hd (dayB_iff.2 (by omega))
  clear k4
  have HS := Lib.hid hs; clear hs
  go_enter Tryd.func25, Tryd.ntmps25
  go_wp2_with (first | (go_at_call 33; refine (rfit_any _ _).mono ?_; rintro e w' ⟨rfl, rfl⟩) | (go_at_call 34; with_reducible refine (va _).mono ?_; rintro e w2 ⟨rfl, hb2⟩; have HB := Lib.hid (below_next HB.out hb2)))
  go_ret2
  exact ⟨by rw [HS.out] <;> rfl, HB.out⟩

end Go.Proofs.YtbnihoimhfcjiaaDoor.Ot

/-
  Layer 2: dec.number; dec.Parse.
-/
import Derived.Test.YtdapcmokibkokaaDoorDe
import Derived.Test.YtdapcmokibkokaaDoorFx6
namespace Go.Proofs.YtdapcmokibkokaaDoor.Dx
open Go.RowKit Go.Sort
set_option linter.unusedVariables false
set_option linter.unusedSimpArgs false

theorem mul10 (T : Nat) (h : T ≤ 4611686018427387904) : Fx.mulS T 10 = if T * 10 ≤ 4611686018427387904 then (((T * 10 : Nat) : Int), (0 : Int)) else (0, 4) := by
  have f1 : Fx.fitB (T : Int) = true := Fx.fitB_mk (by omega) (by omega)
  have f2 : Fx.fitB (10 : Int) = true := by decide
  split
  · rename_i h1
    rw [Fx.mulS_yes f1 f2 (Fx.fitB_mk (by omega) (by omega))]
    simp
  · rename_i h1
    rw [Fx.mulS_not f1 f2 (Fx.fitB_not (Or.inr (by omega)))]
theorem add_dig (T d : Nat) (h : T ≤ 4611686018427387904) (hd : d < 10) : Fx.addS T d = if T + d ≤ 4611686018427387904 then (((T + d : Nat) : Int), (0 : Int)) else (0, 4) := by
  have f1 : Fx.fitB (T : Int) = true := Fx.fitB_mk (by omega) (by omega)
  have f2 : Fx.fitB (d : Int) = true := Fx.fitB_mk (by omega) (by omega)
  rw [Fx.addS_fit f1 f2]
  split
  · rw [Fx.chkS_fit (Fx.fitB_mk (by omega) (by omega))]; simp
  · rw [Fx.chkS_no (Fx.fitB_not (Or.inr (by omega)))]

def numS (l : List UInt8) : Int × Int := if val l ≤ 4611686018427387904 then ((val l : Int), 0) else (0, 4)
theorem take_next {l : List UInt8} {k : Nat} (h : k < l.length) : l.take (k + 1) = l.take k ++ [l[k]] := by
  rw [List.take_succ_eq_append_getElem h]

set_option maxHeartbeats 1000000 in
theorem number_any (l : List UInt8) (w : World) (hd : l.all isD = true) (hl : l.length ≤ 4611686018427387904) :
    Calls Tryd.prog 22 #[.string (bs l)] w fun e w' => e = .returned (.tuple #[.int .i64 (numS l).1, .int .i64 (numS l).2]) ∧ ∃ n, w' = w.drewN n := by
  have hS : (bs l).size = l.length := rfl
  have hI : ∀ k (h : k < l.length) (h' : k < (bs l).size), (bs l)[k]'h' = l[k]'h := fun _ _ _ => rfl
  generalize bs l = L at hS hI ⊢
  have HI := Lib.hid hI; clear hI
  obtain ⟨N, hN⟩ : ∃ N, l.length = N := ⟨_, rfl⟩
  rw [hN] at hS hl
  have HN := Lib.hid hN; clear hN
  go_enter Tryd.func22, Tryd.ntmps22
  go_wp2
  go_loopg [4, 10] N (fun m x i wr => ∃ (k : Nat), k + m = N ∧ x = .int .i64 (val (l.take k) : Int) ∧ i = .int .i64 (k : Int) ∧ val (l.take k) ≤ 4611686018427387904 ∧ ∃ n, wr = w.drewN n)
  case atStart => exact ⟨0, by omega, rfl, rfl, by simp [val], 0, rfl⟩
  case round =>
    obtain ⟨k, hk, rfl, rfl, hv, n, rfl⟩ := hrel
    by_cases hlt : k < N
    · have hlt' : k < l.length := by rw [HN.out]; exact hlt
      have hc := List.all_eq_true.1 hd l[k] (List.getElem_mem hlt')
      have hnx : val (l.take (k + 1)) = val (l.take k) * 10 + dv l[k] := by rw [take_next hlt', val_snoc]
      have hle := val_take_le l (k + 1)
      have hd10 := dv_lt hc
      have hbyte : l[k].toNat = dv l[k] + 48 := by unfold isD at hc; unfold dv; simp at hc; omega
      have hidx : ∀ h, (L[k]'h).toNat = dv l[k] + 48 := fun h => by rw [HI.out k hlt' h]; exact hbyte
      obtain ⟨T, hT⟩ : ∃ T, val (l.take k) = T := ⟨_, rfl⟩
      obtain ⟨d, hdd⟩ : ∃ d, dv l[k] = d := ⟨_, rfl⟩
      obtain ⟨T', hT'⟩ : ∃ T', val (l.take (k + 1)) = T' := ⟨_, rfl⟩
      rw [hT, hdd, hT'] at hnx
      rw [hT] at hv ⊢
      rw [hdd] at hd10
      simp only [hdd] at hidx
      rw [hT'] at hle
      obtain ⟨V, hV⟩ : ∃ V, val l = V := ⟨_, rfl⟩
      rw [hV] at hle
      have HV := Lib.hid hV
      have HT := Lib.hid hT'
      have hM := mul10 T hv
      clear hbyte hdd hT hc hV hT'
      by_cases h1 : T * 10 ≤ 4611686018427387904
      · rw [if_pos h1] at hM
        have hcm := fun w => Fx.mul_any (T : Int) 10 w
        rw [hM] at hcm
        obtain ⟨U, hU⟩ : ∃ U, T * 10 = U := ⟨_, rfl⟩
        rw [hU] at hcm h1 hnx
        have hA := add_dig U d h1 hd10
        clear hM hU
        by_cases h2 : U + d ≤ 4611686018427387904
        · rw [if_pos h2] at hA
          have hca := fun w => Fx.add_any (U : Int) (d : Int) w
          rw [hA, ← hnx] at hca
          clear hA
          go_wp2_with (first | (go_at_call 29; refine (hcm _).mono ?_; rintro e w' ⟨rfl, n, rfl⟩) | (go_at_call 30; refine (hca _).mono ?_; rintro e w' ⟨rfl, rfl⟩))
          go_roundg (gk - 1)
          case measure => omega
          case rel => exact ⟨k + 1, by omega, by rw [HT.out, hnx]; go_num, by go_num, by rw [HT.out]; omega, _, rfl⟩
        · rw [if_neg h2] at hA
          have hca := fun w => Fx.add_any (U : Int) (d : Int) w
          rw [hA] at hca
          clear hA
          go_wp2_with (first | (go_at_call 29; refine (hcm _).mono ?_; rintro e w' ⟨rfl, n, rfl⟩) | (go_at_call 30; refine (hca _).mono ?_; rintro e w' ⟨rfl, rfl⟩))
          go_ret2
          have hgt : ¬ val l ≤ 4611686018427387904 := by rw [HV.out]; omega
          exact ⟨by rw [show numS l = (0, 4) from if_neg hgt] <;> rfl, _, rfl⟩
      · rw [if_neg h1] at hM
        have hcm := fun w => Fx.mul_any (T : Int) 10 w
        rw [hM] at hcm
        clear hM
        go_wp2_with (go_at_call 29; refine (hcm _).mono ?_; rintro e w' ⟨rfl, n, rfl⟩)
        go_ret2
        have hgt : ¬ val l ≤ 4611686018427387904 := by rw [HV.out]; omega
        exact ⟨by rw [show numS l = (0, 4) from if_neg hgt] <;> rfl, _, rfl⟩
    · have he : l.take k = l := List.take_of_length_le (by rw [HN.out]; omega)
      rw [he] at hv ⊢
      have HE := Lib.hid (show numS l = ((val l : Int), 0) from if_pos hv)
      obtain ⟨V, hV⟩ : ∃ V, val l = V := ⟨_, rfl⟩
      rw [hV] at hv ⊢
      have HV := Lib.hid hV
      clear hV he
      have hkN : k = N := by omega
      subst hkN
      go_wp2
      go_ret2
      exact ⟨by rw [HE.out, HV.out] <;> rfl, _, rfl⟩

theorem parse_arg (s : ByteArray) (p : Int) (w : World) (h : ¬ (0 ≤ p ∧ p ≤ 9)) :
    Calls Tryd.prog 10 #[.string s, .int .i64 p] w fun e w' => e = .returned (.tuple #[.int .i64 0, .int .i64 1]) ∧ Below w.heap.size w w' := by
  go_enter Tryd.func10, Tryd.ntmps10
  go_wp2_with (go_at_call 12; refine (places_no _ _ h).mono ?_; rintro e w' ⟨rfl, rfl⟩)
  go_ret2
  exact ⟨rfl, Below.refl _ _⟩

theorem below_pre {w w1 : World} {n : Nat} (h : Below (w.drewN n).heap.size (w.drewN n) w1) : Below w.heap.size w w1 := ⟨h.os, h.tape, h.output, h.size, h.block⟩
theorem sign_has (l : List UInt8) : Lib.hasPrefix l [45] = signB l := by
  unfold Lib.hasPrefix signB
  cases l with
  | nil => rfl
  | cons c r =>
    simp only [List.isPrefixOf, List.head?_cons, Bool.and_true]
    rw [Bool.eq_iff_iff, beq_iff_eq, beq_iff_eq, Option.some.injEq]
    exact eq_comm
theorem sign_trim (l : List UInt8) : Lib.trimPrefix l [45] = unsig l := by
  unfold Lib.trimPrefix unsig
  rw [sign_has]
  simp
theorem unsig_len (l : List UInt8) : (unsig l).length ≤ l.length := by
  unfold unsig
  split
  · rw [List.length_tail]; omega
  · exact Nat.le_refl _
theorem cutD_len (l : List UInt8) : (cutD l).1.length + (cutD l).2.1.length ≤ l.length := by
  have h := (cutD_back l).1
  have h2 := (cutD_back l).2
  have h3 := congrArg List.length h
  rw [List.length_append] at h3
  cases hp : (cutD l).2.2
  · rw [h2 hp]; simp; rw [hp] at h3; simp at h3; omega
  · rw [hp] at h3; simp at h3; omega

set_option maxHeartbeats 4000000 in
theorem parse_ok (l : List UInt8) (p : Nat) (w : World) (hp : p ≤ 9) (hl : l.length ≤ 281474976710656) :
    Calls Tryd.prog 10 #[.string (bs l), .int .i64 p] w fun e w' => e = .returned (.tuple #[.int .i64 (parseS l p).1, .int .i64 (parseS l p).2]) ∧ Below w.heap.size w w' := by
  have hC : ∀ w, Calls Tryd.prog 14 #[.string (bs l), .string { data := #[45] }] w fun e w' => e = .returned (.tuple #[.string (bs (unsig l)), .bool (signB l)]) ∧ w' = w := by
    intro w
    have h := Tryd.strings_CutPrefix (bs l) { data := #[45] } w
    rw [show (bs l).data.toList = l from rfl, show (ByteArray.mk #[45]).data.toList = [45] from rfl, sign_has, sign_trim] at h
    exact h
  have hul := unsig_len l
  have hU := fun w => cut_any (unsig l) w (by omega)
  have hlen := cutD_len (unsig l)
  have hpf := (cutD_back (unsig l)).2
  have hR : ∃ R, parseS l p = R := ⟨_, rfl⟩
  have hRe := parseS.eq_1 l p
  generalize bs (unsig l) = U at hC hU
  generalize bs l = L at hC ⊢
  have hWl : (cutD (unsig l)).1.length ≤ 281474976710656 := by omega
  have hFl : (cutD (unsig l)).2.1.length ≤ 281474976710656 := by omega
  have hsum : (cutD (unsig l)).1.length + (cutD (unsig l)).2.1.length ≤ 281474976710656 := by omega
  generalize (cutD (unsig l)).2.2 = pt at hU hpf hRe
  generalize (cutD (unsig l)).1 = wl at hU hRe hWl hsum
  generalize (cutD (unsig l)).2.1 = fl at hU hpf hRe hFl hsum
  generalize signB l = neg at hC hRe
  clear hlen hul hR
  generalize parseS l p = R at hRe ⊢
  clear hl
  have hW := fun w => whole_any wl w (by omega)
  have hF := fun w => frac_any fl p w (by omega) hp
  have hO := fun w => cons0_any (wl ++ fl) w (by rw [List.length_append]; omega)
  have hZ := fun w => zeros_any (↑p - ↑fl.length) w (by omega)
  have ezn : (↑p - (fl.length : Int)).toNat = p - fl.length := by omega
  rw [ezn] at hZ
  have hN : wl.all isD = true → fl.all isD = true → ∀ w, _ := fun h1 h2 w => number_any (wl ++ fl ++ List.replicate (p - fl.length) 48) w (by rw [List.all_append, List.all_append, h1, h2, all_rep]; rfl) (by rw [List.length_append, List.length_append, List.length_replicate]; omega)
  have sW : (bs wl).size = wl.length := rfl
  have sF : (bs fl).size = fl.length := rfl
  have eWF : bs wl ++ bs fl = bs (wl ++ fl) := bs_app _ _
  have sWF : (bs (wl ++ fl)).size ≤ 281474976710656 := by rw [bs_size, List.length_append]; omega
  have sZ : (bs (List.replicate (p - fl.length) 48)).size ≤ 9 := by rw [bs_size, List.length_replicate]; omega
  have eD : bs (wl ++ fl) ++ bs (List.replicate (p - fl.length) 48) = bs (wl ++ fl ++ List.replicate (p - fl.length) 48) := bs_app _ _
  generalize bs (wl ++ fl ++ List.replicate (p - fl.length) 48) = D at hN eD
  generalize bs (wl ++ fl) = WF at hO eWF sWF eD
  generalize bs (List.replicate (p - fl.length) 48) = Z at hZ sZ eD
  have hw1 : wholeB wl = true → wl.all isD = true := fun h => by unfold wholeB at h; simp only [Bool.and_eq_true] at h; exact h.1.2
  have hf1 : fracB fl p = true → fl.all isD = true := fun h => by unfold fracB at h; simp only [Bool.and_eq_true] at h; exact h.1.2
  generalize bs wl = W at hU hW sW eWF
  generalize bs fl = F at hU hF sF eWF
  generalize (wl ++ fl).all (· == 48) = zb at hO hRe
  have hNr : numS (wl ++ fl ++ List.replicate (p - fl.length) 48) = if val (wl ++ fl ++ List.replicate (p - fl.length) 48) ≤ 4611686018427387904 then ((val (wl ++ fl ++ List.replicate (p - fl.length) 48) : Int), 0) else (0, 4) := rfl
  unfold maxA at hRe
  generalize numS (wl ++ fl ++ List.replicate (p - fl.length) 48) = nr at hN hNr
  generalize val (wl ++ fl ++ List.replicate (p - fl.length) 48) = V at hRe hNr
  cases hwb : wholeB wl
  · rw [hwb] at hW hRe
    have HR := Lib.hid hRe
    clear hRe hNr hN hpf hw1 hf1
    go_enter Tryd.func10, Tryd.ntmps10
    go_wp2_with (first | (go_at_call 12; refine (places_yes _ _ hp).mono ?_; rintro e w' ⟨rfl, rfl⟩) | (go_at_call 14; refine (hC _).mono ?_; rintro e w' ⟨rfl, rfl⟩) | (go_at_call 18; refine (hU _).mono ?_; rintro e w' ⟨rfl, n, rfl⟩) | (go_at_call 19; refine (hW _).mono ?_; rintro e w1 ⟨rfl, hb1⟩) | (go_at_call 20; refine (hF _).mono ?_; rintro e w2 ⟨rfl, hb2⟩) | (go_at_call 21; refine (hO _).mono ?_; rintro e w3 ⟨rfl, hb3⟩) | (go_at_call 16; refine (hZ _).mono ?_; rintro e w4 ⟨rfl, hb4⟩) | (go_at_call 22; refine (hN _).mono ?_; rintro e w5 ⟨rfl, n, rfl⟩))
    go_ret2
    exact ⟨by rw [HR.out] <;> rfl, below_next (below_drewN (Below.refl _ _) _) (by assumption)⟩
  · rw [hwb] at hW hRe
    have hwa := hw1 hwb
    cases hpt : pt
    · have hf0 : fl = [] := hpf hpt
      have hfa : fl.all isD = true := by rw [hf0]; rfl
      rw [hpt] at hU hRe
      have hN := hN hwa hfa
      clear hf0 hfa hwa
      cases hneg : neg
      · rw [hneg] at hC hRe
        by_cases hv : V ≤ 4611686018427387904
        · rw [if_pos hv] at hNr hRe
          have HR := Lib.hid (show R = ((V : Int), 0) from hRe)
          rw [hNr] at hN
          clear hRe hNr hpf hw1 hf1
          go_enter Tryd.func10, Tryd.ntmps10
          go_wp2_with (first | (go_at_call 12; refine (places_yes _ _ hp).mono ?_; rintro e w' ⟨rfl, rfl⟩) | (go_at_call 14; refine (hC _).mono ?_; rintro e w' ⟨rfl, rfl⟩) | (go_at_call 18; refine (hU _).mono ?_; rintro e w' ⟨rfl, n, rfl⟩) | (go_at_call 19; refine (hW _).mono ?_; rintro e w1 ⟨rfl, hb1⟩) | (go_at_call 20; refine (hF _).mono ?_; rintro e w2 ⟨rfl, hb2⟩) | (go_at_call 21; refine (hO _).mono ?_; rintro e w3 ⟨rfl, hb3⟩) | (go_at_call 16; refine (hZ _).mono ?_; rintro e w4 ⟨rfl, hb4⟩) | (go_at_call 22; refine (hN _).mono ?_; rintro e w5 ⟨rfl, n, rfl⟩))
          go_ret2
          exact ⟨by rw [HR.out] <;> rfl, by repeat (first | exact below_pre hb1 | refine below_next ?_ hb4 | refine below_next ?_ hb3 | refine below_next ?_ hb2 | apply below_drewN)⟩
        · rw [if_neg hv] at hNr hRe
          have HR := Lib.hid (show R = (0, 4) from hRe)
          rw [hNr] at hN
          clear hRe hNr hpf hw1 hf1
          go_enter Tryd.func10, Tryd.ntmps10
          go_wp2_with (first | (go_at_call 12; refine (places_yes _ _ hp).mono ?_; rintro e w' ⟨rfl, rfl⟩) | (go_at_call 14; refine (hC _).mono ?_; rintro e w' ⟨rfl, rfl⟩) | (go_at_call 18; refine (hU _).mono ?_; rintro e w' ⟨rfl, n, rfl⟩) | (go_at_call 19; refine (hW _).mono ?_; rintro e w1 ⟨rfl, hb1⟩) | (go_at_call 20; refine (hF _).mono ?_; rintro e w2 ⟨rfl, hb2⟩) | (go_at_call 21; refine (hO _).mono ?_; rintro e w3 ⟨rfl, hb3⟩) | (go_at_call 16; refine (hZ _).mono ?_; rintro e w4 ⟨rfl, hb4⟩) | (go_at_call 22; refine (hN _).mono ?_; rintro e w5 ⟨rfl, n, rfl⟩))
          go_ret2
          exact ⟨by rw [HR.out] <;> rfl, by repeat (first | exact below_pre hb1 | refine below_next ?_ hb4 | refine below_next ?_ hb3 | refine below_next ?_ hb2 | apply below_drewN)⟩
      · rw [hneg] at hC hRe
        cases hzb : zb
        · rw [hzb] at hO hRe
          by_cases hv : V ≤ 4611686018427387904
          · rw [if_pos hv] at hNr hRe
            have HR := Lib.hid (show R = (-(V : Int), 0) from hRe)
            rw [hNr] at hN
            clear hRe hNr hpf hw1 hf1
            go_enter Tryd.func10, Tryd.ntmps10
            go_wp2_with (first | (go_at_call 12; refine (places_yes _ _ hp).mono ?_; rintro e w' ⟨rfl, rfl⟩) | (go_at_call 14; refine (hC _).mono ?_; rintro e w' ⟨rfl, rfl⟩) | (go_at_call 18; refine (hU _).mono ?_; rintro e w' ⟨rfl, n, rfl⟩) | (go_at_call 19; refine (hW _).mono ?_; rintro e w1 ⟨rfl, hb1⟩) | (go_at_call 20; refine (hF _).mono ?_; rintro e w2 ⟨rfl, hb2⟩) | (go_at_call 21; refine (hO _).mono ?_; rintro e w3 ⟨rfl, hb3⟩) | (go_at_call 16; refine (hZ _).mono ?_; rintro e w4 ⟨rfl, hb4⟩) | (go_at_call 22; refine (hN _).mono ?_; rintro e w5 ⟨rfl, n, rfl⟩))
            go_ret2
            exact ⟨by rw [HR.out] <;> rfl, by repeat (first | exact below_pre hb1 | refine below_next ?_ hb4 | refine below_next ?_ hb3 | refine below_next ?_ hb2 | apply below_drewN)⟩
          · rw [if_neg hv] at hNr hRe
            have HR := Lib.hid (show R = (0, 4) from hRe)
            rw [hNr] at hN
            clear hRe hNr hpf hw1 hf1
            go_enter Tryd.func10, Tryd.ntmps10
            go_wp2_with (first | (go_at_call 12; refine (places_yes _ _ hp).mono ?_; rintro e w' ⟨rfl, rfl⟩) | (go_at_call 14; refine (hC _).mono ?_; rintro e w' ⟨rfl, rfl⟩) | (go_at_call 18; refine (hU _).mono ?_; rintro e w' ⟨rfl, n, rfl⟩) | (go_at_call 19; refine (hW _).mono ?_; rintro e w1 ⟨rfl, hb1⟩) | (go_at_call 20; refine (hF _).mono ?_; rintro e w2 ⟨rfl, hb2⟩) | (go_at_call 21; refine (hO _).mono ?_; rintro e w3 ⟨rfl, hb3⟩) | (go_at_call 16; refine (hZ _).mono ?_; rintro e w4 ⟨rfl, hb4⟩) | (go_at_call 22; refine (hN _).mono ?_; rintro e w5 ⟨rfl, n, rfl⟩))
            go_ret2
            exact ⟨by rw [HR.out] <;> rfl, by repeat (first | exact below_pre hb1 | refine below_next ?_ hb4 | refine below_next ?_ hb3 | refine below_next ?_ hb2 | apply below_drewN)⟩
        · rw [hzb] at hO hRe
          have HR := Lib.hid (show R = (0, 11) from hRe)
          clear hRe hNr hN hpf hw1 hf1
          go_enter Tryd.func10, Tryd.ntmps10
          go_wp2_with (first | (go_at_call 12; refine (places_yes _ _ hp).mono ?_; rintro e w' ⟨rfl, rfl⟩) | (go_at_call 14; refine (hC _).mono ?_; rintro e w' ⟨rfl, rfl⟩) | (go_at_call 18; refine (hU _).mono ?_; rintro e w' ⟨rfl, n, rfl⟩) | (go_at_call 19; refine (hW _).mono ?_; rintro e w1 ⟨rfl, hb1⟩) | (go_at_call 20; refine (hF _).mono ?_; rintro e w2 ⟨rfl, hb2⟩) | (go_at_call 21; refine (hO _).mono ?_; rintro e w3 ⟨rfl, hb3⟩) | (go_at_call 16; refine (hZ _).mono ?_; rintro e w4 ⟨rfl, hb4⟩) | (go_at_call 22; refine (hN _).mono ?_; rintro e w5 ⟨rfl, n, rfl⟩))
          go_ret2
          exact ⟨by rw [HR.out] <;> rfl, by repeat (first | exact below_pre hb1 | refine below_next ?_ hb4 | refine below_next ?_ hb3 | refine below_next ?_ hb2 | apply below_drewN)⟩
    · rw [hpt] at hU hRe
      cases hfb : fracB fl p
      · rw [hfb] at hF hRe
        have HR := Lib.hid (show R = (0, 11) from hRe)
        clear hRe hNr hN hpf hw1 hf1 hwa
        go_enter Tryd.func10, Tryd.ntmps10
        go_wp2_with (first | (go_at_call 12; refine (places_yes _ _ hp).mono ?_; rintro e w' ⟨rfl, rfl⟩) | (go_at_call 14; refine (hC _).mono ?_; rintro e w' ⟨rfl, rfl⟩) | (go_at_call 18; refine (hU _).mono ?_; rintro e w' ⟨rfl, n, rfl⟩) | (go_at_call 19; refine (hW _).mono ?_; rintro e w1 ⟨rfl, hb1⟩) | (go_at_call 20; refine (hF _).mono ?_; rintro e w2 ⟨rfl, hb2⟩) | (go_at_call 21; refine (hO _).mono ?_; rintro e w3 ⟨rfl, hb3⟩) | (go_at_call 16; refine (hZ _).mono ?_; rintro e w4 ⟨rfl, hb4⟩) | (go_at_call 22; refine (hN _).mono ?_; rintro e w5 ⟨rfl, n, rfl⟩))
        go_ret2
        exact ⟨by rw [HR.out] <;> rfl, by repeat (first | exact below_pre hb1 | refine below_next ?_ hb4 | refine below_next ?_ hb3 | refine below_next ?_ hb2 | apply below_drewN)⟩
      · rw [hfb] at hF hRe
        have hfa := hf1 hfb
        have hN := hN hwa hfa
        clear hfa hwa
        cases hneg : neg
        · rw [hneg] at hC hRe
          by_cases hv : V ≤ 4611686018427387904
          · rw [if_pos hv] at hNr hRe
            have HR := Lib.hid (show R = ((V : Int), 0) from hRe)
            rw [hNr] at hN
            clear hRe hNr hpf hw1 hf1
            go_enter Tryd.func10, Tryd.ntmps10
            go_wp2_with (first | (go_at_call 12; refine (places_yes _ _ hp).mono ?_; rintro e w' ⟨rfl, rfl⟩) | (go_at_call 14; refine (hC _).mono ?_; rintro e w' ⟨rfl, rfl⟩) | (go_at_call 18; refine (hU _).mono ?_; rintro e w' ⟨rfl, n, rfl⟩) | (go_at_call 19; refine (hW _).mono ?_; rintro e w1 ⟨rfl, hb1⟩) | (go_at_call 20; refine (hF _).mono ?_; rintro e w2 ⟨rfl, hb2⟩) | (go_at_call 21; refine (hO _).mono ?_; rintro e w3 ⟨rfl, hb3⟩) | (go_at_call 16; refine (hZ _).mono ?_; rintro e w4 ⟨rfl, hb4⟩) | (go_at_call 22; refine (hN _).mono ?_; rintro e w5 ⟨rfl, n, rfl⟩))
            go_ret2
            exact ⟨by rw [HR.out] <;> rfl, by repeat (first | exact below_pre hb1 | refine below_next ?_ hb4 | refine below_next ?_ hb3 | refine below_next ?_ hb2 | apply below_drewN)⟩
          · rw [if_neg hv] at hNr hRe
            have HR := Lib.hid (show R = (0, 4) from hRe)
            rw [hNr] at hN
            clear hRe hNr hpf hw1 hf1
            go_enter Tryd.func10, Tryd.ntmps10
            go_wp2_with (first | (go_at_call 12; refine (places_yes _ _ hp).mono ?_; rintro e w' ⟨rfl, rfl⟩) | (go_at_call 14; refine (hC _).mono ?_; rintro e w' ⟨rfl, rfl⟩) | (go_at_call 18; refine (hU _).mono ?_; rintro e w' ⟨rfl, n, rfl⟩) | (go_at_call 19; refine (hW _).mono ?_; rintro e w1 ⟨rfl, hb1⟩) | (go_at_call 20; refine (hF _).mono ?_; rintro e w2 ⟨rfl, hb2⟩) | (go_at_call 21; refine (hO _).mono ?_; rintro e w3 ⟨rfl, hb3⟩) | (go_at_call 16; refine (hZ _).mono ?_; rintro e w4 ⟨rfl, hb4⟩) | (go_at_call 22; refine (hN _).mono ?_; rintro e w5 ⟨rfl, n, rfl⟩))
            go_ret2
            exact ⟨by rw [HR.out] <;> rfl, by repeat (first | exact below_pre hb1 | refine below_next ?_ hb4 | refine below_next ?_ hb3 | refine below_next ?_ hb2 | apply below_drewN)⟩
        · rw [hneg] at hC hRe
          cases hzb : zb
          · rw [hzb] at hO hRe
            by_cases hv : V ≤ 4611686018427387904
            · rw [if_pos hv] at hNr hRe
              have HR := Lib.hid (show R = (-(V : Int), 0) from hRe)
              rw [hNr] at hN
              clear hRe hNr hpf hw1 hf1
              go_enter Tryd.func10, Tryd.ntmps10
              go_wp2_with (first | (go_at_call 12; refine (places_yes _ _ hp).mono ?_; rintro e w' ⟨rfl, rfl⟩) | (go_at_call 14; refine (hC _).mono ?_; rintro e w' ⟨rfl, rfl⟩) | (go_at_call 18; refine (hU _).mono ?_; rintro e w' ⟨rfl, n, rfl⟩) | (go_at_call 19; refine (hW _).mono ?_; rintro e w1 ⟨rfl, hb1⟩) | (go_at_call 20; refine (hF _).mono ?_; rintro e w2 ⟨rfl, hb2⟩) | (go_at_call 21; refine (hO _).mono ?_; rintro e w3 ⟨rfl, hb3⟩) | (go_at_call 16; refine (hZ _).mono ?_; rintro e w4 ⟨rfl, hb4⟩) | (go_at_call 22; refine (hN _).mono ?_; rintro e w5 ⟨rfl, n, rfl⟩))
              go_ret2
              exact ⟨by rw [HR.out] <;> rfl, by repeat (first | exact below_pre hb1 | refine below_next ?_ hb4 | refine below_next ?_ hb3 | refine below_next ?_ hb2 | apply below_drewN)⟩
            · rw [if_neg hv] at hNr hRe
              have HR := Lib.hid (show R = (0, 4) from hRe)
              rw [hNr] at hN
              clear hRe hNr hpf hw1 hf1
              go_enter Tryd.func10, Tryd.ntmps10
              go_wp2_with (first | (go_at_call 12; refine (places_yes _ _ hp).mono ?_; rintro e w' ⟨rfl, rfl⟩) | (go_at_call 14; refine (hC _).mono ?_; rintro e w' ⟨rfl, rfl⟩) | (go_at_call 18; refine (hU _).mono ?_; rintro e w' ⟨rfl, n, rfl⟩) | (go_at_call 19; refine (hW _).mono ?_; rintro e w1 ⟨rfl, hb1⟩) | (go_at_call 20; refine (hF _).mono ?_; rintro e w2 ⟨rfl, hb2⟩) | (go_at_call 21; refine (hO _).mono ?_; rintro e w3 ⟨rfl, hb3⟩) | (go_at_call 16; refine (hZ _).mono ?_; rintro e w4 ⟨rfl, hb4⟩) | (go_at_call 22; refine (hN _).mono ?_; rintro e w5 ⟨rfl, n, rfl⟩))
              go_ret2
              exact ⟨by rw [HR.out] <;> rfl, by repeat (first | exact below_pre hb1 | refine below_next ?_ hb4 | refine below_next ?_ hb3 | refine below_next ?_ hb2 | apply below_drewN)⟩
          · rw [hzb] at hO hRe
            have HR := Lib.hid (show R = (0, 11) from hRe)
            clear hRe hNr hN hpf hw1 hf1
            go_enter Tryd.func10, Tryd.ntmps10
            go_wp2_with (first | (go_at_call 12; refine (places_yes _ _ hp).mono ?_; rintro e w' ⟨rfl, rfl⟩) | (go_at_call 14; refine (hC _).mono ?_; rintro e w' ⟨rfl, rfl⟩) | (go_at_call 18; refine (hU _).mono ?_; rintro e w' ⟨rfl, n, rfl⟩) | (go_at_call 19; refine (hW _).mono ?_; rintro e w1 ⟨rfl, hb1⟩) | (go_at_call 20; refine (hF _).mono ?_; rintro e w2 ⟨rfl, hb2⟩) | (go_at_call 21; refine (hO _).mono ?_; rintro e w3 ⟨rfl, hb3⟩) | (go_at_call 16; refine (hZ _).mono ?_; rintro e w4 ⟨rfl, hb4⟩) | (go_at_call 22; refine (hN _).mono ?_; rintro e w5 ⟨rfl, n, rfl⟩))
            go_ret2
            exact ⟨by rw [HR.out] <;> rfl, by repeat (first | exact below_pre hb1 | refine below_next ?_ hb4 | refine below_next ?_ hb3 | refine below_next ?_ hb2 | apply below_drewN)⟩
end Go.Proofs.YtdapcmokibkokaaDoor.Dx

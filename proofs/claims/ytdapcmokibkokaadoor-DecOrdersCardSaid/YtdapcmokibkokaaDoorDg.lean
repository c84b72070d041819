/-
  Layer 2: the reference's Parse.
-/
import Derived.Test.YtdapcmokibkokaaDoorDf
namespace Go.Proofs.YtdapcmokibkokaaDoor.Dx
open Go.RowKit Go.Sort
set_option linter.unusedVariables false
set_option linter.unusedSimpArgs false

theorem run_bounds {l : List UInt8} {s : St} (h : runR l = some s) : s.whole ≤ l.length ∧ -1 ≤ s.part ∧ s.part ≤ l.length ∧ s.acc.1 ≤ 4611686018427387909 := by
  rcases runR_some l s h with ⟨hd, rfl⟩ | ⟨w, f, rfl, hne, hw, hf, rfl⟩
  · exact ⟨Nat.le_refl _, Int.le_refl _, by simp only; omega, (accV_spec _ hd).1⟩
  · refine ⟨by simp, by simp only; omega, by simp; omega, (accV_spec _ (by rw [List.all_append, hw, hf]; rfl)).1⟩
theorem run_none {l : List UInt8} {k : Nat} (h : runR (l.take k) = none) : runR l = none := by
  have h2 := runR_app (l.take k) (l.drop k)
  rw [List.take_append_drop, h] at h2
  exact h2
def foldz (k : Nat) (a : Nat × Bool) : Nat × Bool := (List.replicate k (48 : UInt8)).foldl (fun a c => stepV a (dv c)) a
theorem foldz_succ (k : Nat) (a : Nat × Bool) : foldz (k + 1) a = stepV (foldz k a) 0 := by
  unfold foldz; rw [List.replicate_succ', List.foldl_append]; rfl
theorem foldz_le : ∀ (k : Nat) (a : Nat × Bool), a.1 ≤ 4611686018427387909 → (foldz k a).1 ≤ 4611686018427387909
  | 0, a, h => h
  | k + 1, a, h => by
    have ih := foldz_le k a h
    rw [foldz_succ]
    unfold stepV
    split
    · exact ih
    · rename_i h2
      simp at h2
      simp only
      omega
theorem head_at (l : List UInt8) (h : 0 < l.length) : l[0]'h = l.headD 0 := by
  cases l with
  | nil => cases h
  | cons c r => rfl
theorem sign_first (l : List UInt8) (hs : signB l = false) (h : 0 < (bs l).size) : ((((bs l)[0]'h).toNat : Int) == 45) = false := by
  cases l with
  | nil => cases h
  | cons c r =>
    show ((c.toNat : Int) == 45) = false
    rw [beq_eq_false_iff_ne]
    intro h0
    have hc : c = 45 := UInt8.toNat_inj.1 (by rw [show c.toNat = 45 by omega]; rfl)
    subst hc; cases hs
theorem sign_first1 (l : List UInt8) (hs : signB l = true) (h : 0 < (bs l).size) : ((((bs l)[0]'h).toNat : Int) == 45) = true := by
  cases l with
  | nil => cases h
  | cons c r =>
    have hc : c = 45 := by simpa [signB] using hs
    subst hc; rfl
theorem rparse_arg (s : ByteArray) (p : Int) (w : World) (h : ¬ (0 ≤ p ∧ p ≤ 9)) :
    Calls Tryd.prog 11 #[.string s, .int .i64 p] w fun e w' => e = .returned (.tuple #[.int .i64 0, .int .i64 1]) ∧ Below w.heap.size w w' := by
  rcases Int.lt_or_le p 0 with h1 | h1
  · go_enter Tryd.func11, Tryd.ntmps11
    go_wp2
    go_ret2
    exact ⟨rfl, Below.refl _ _⟩
  · have h2 : 9 < p := by omega
    go_enter Tryd.func11, Tryd.ntmps11
    go_wp2
    go_ret2
    exact ⟨rfl, Below.refl _ _⟩

set_option maxRecDepth 100000 in
set_option maxHeartbeats 4000000 in
theorem rparse_pos (l : List UInt8) (p : Nat) (w : World) (hp : p ≤ 9) (hl : l.length ≤ 281474976710656) (hs : signB l = false) :
    Calls Tryd.prog 11 #[.string (bs l), .int .i64 p] w fun e w' => e = .returned (.tuple #[.int .i64 (parseS l p).1, .int .i64 (parseS l p).2]) ∧ Below w.heap.size w w' := by
  have hu : unsig l = l.drop 0 := by unfold unsig; rw [hs]; simp
  have hend := fun s => ref_end (l := l) (p := p) (s := s)
  have hnone : runR (unsig l) = none → parseS l p = (0, 11) := fun h => by
    have h2 := runR_none p h
    unfold parseS
    rw [h2]; rfl
  have hN : (unsig l).length + 0 = l.length := by
    rw [hu, List.length_drop]
    
    omega
  have hS : (bs l).size = l.length := rfl
  have hI : ∀ k (h : k < (unsig l).length) (h' : k + 0 < (bs l).size), (bs l)[k + 0]'h' = (unsig l)[k]'h := by
    intro k h h'
    show l[k + 0]'h' = _
    simp only [hu, List.getElem_drop]
    congr 1; omega
  have hH : ∀ (h' : 0 < (bs l).size), (bs l)[0]'h' = (unsig l).headD 0 := by
    intro h'
    have h0 : 0 < (unsig l).length := by have : 0 < l.length := h'; omega
    have := hI 0 h0 (by simpa using h')
    rw [show ((bs l)[0]'h') = (bs l)[0 + 0]'(by simpa using h') by congr 1, this]
    exact head_at _ h0
  rw [hs] at hend
  generalize unsig l = u at hend hnone hN hI hH
  generalize parseS l p = R at hend hnone ⊢
  have hE : ∀ (h : 0 < (bs l).size), ((((bs l)[0]).toNat : Int) == 45) = false := fun h => sign_first l hs h
  
  generalize bs l = L at hS hI hH hE ⊢
  generalize l.length = n at hl hN hS
  clear hu hs
  have HI := Lib.hid hI; have HH := Lib.hid hH; have HE := Lib.hid hE; have HEND := Lib.hid hend; have HNO := Lib.hid hnone
  clear hI hH hE hend hnone
  have hh : decide ((9 : Int) < ↑p) = false := by simp; omega
  go_enter Tryd.func11, Tryd.ntmps11
  go_upto_region 4 with fail
  go_cut [7] (fun s wc => s = .bool false ∧ wc = w)
  case first =>
    by_cases h0 : 0 < n
    · have hE := fun h => HE.out h
      have hn0 : decide (0 < n) = true := by simp; omega
      go_wp2_with fail
      go_meet
      exact ⟨rfl, rfl⟩
    · have hn0 : decide (0 < n) = false := by simp; omega
      go_wp2_with fail
      go_meet
      exact ⟨rfl, rfl⟩
  case rest =>
    obtain ⟨rfl, rfl⟩ := hcut
    go_wp2
    go_loopg [6, 9, 10, 11, 12] u.length (fun g at_ wh pa ov x wr => ∃ (k : Nat) (j : Nat) (s : St), k + g = u.length ∧ j = k + 0 ∧ at_ = .int .i64 (j : Int) ∧ runR (u.take k) = some s ∧ wh = .int .i64 (s.whole : Int) ∧ pa = .int .i64 s.part ∧ ov = .bool s.acc.2 ∧ x = .int .i64 (s.acc.1 : Int) ∧ wr = wc)
    case atStart => exact ⟨0, 0, { whole := 0, part := -1, acc := (0, false) }, by omega, by omega, rfl, rfl, rfl, rfl, rfl, rfl, rfl⟩
    case round =>
      obtain ⟨k, j, s, hk, hj, rfl, hrun, rfl, rfl, rfl, rfl, rfl⟩ := hrel
      obtain ⟨hb1, hb2, hb3, hb4⟩ := run_bounds hrun
      rw [List.length_take] at hb1 hb3
      obtain ⟨wh, pa, ⟨x, ov⟩⟩ := s
      simp only at hb1 hb2 hb3 hb4 ⊢
      by_cases hlt : k < u.length
      · have hrun1 : runR (u.take (k + 1)) = stepR { whole := wh, part := pa, acc := (x, ov) } (u[k]'hlt) := by
          rw [take_next hlt, runR_snoc, hrun]; rfl
        obtain ⟨c, hc⟩ : ∃ c, u[k]'hlt = c := ⟨_, rfl⟩
        rw [hc] at hrun1
        have hidn : ∀ h, (L[j]'h).toNat = c.toNat := by
          rw [hj]
          exact fun h => by rw [HI.out k hlt h, hc]
        clear hc
        have hjn : j < n := by omega
        have HJ := Lib.hid hj; clear hj
        by_cases hdot : c = 46 ∧ pa < 0 ∧ 0 < wh
        · unfold stepR at hrun1
          dsimp only at hrun1
          rw [if_pos hdot] at hrun1
          have HR1 := Lib.hid hrun1
          have hC : c.toNat = 46 := by rw [hdot.1]; rfl
          rw [hC] at hidn
          have hpa0 := hdot.2.1
          have hwh0 := hdot.2.2
          clear hrun hrun1 hdot hC
          go_wp2
          go_roundg (gk - 1)
          case measure => omega
          case rel => exact ⟨k + 1, j + 1, { whole := wh, part := 0, acc := (x, ov) }, by omega, (by have := HJ.out; omega), by go_num, HR1.out, by go_num, by go_num, rfl, by go_num, rfl⟩
        · cases hdig : isD c
          · have hbad : R = (0, 11) := by
              refine HNO.out (run_none (k := k + 1) ?_)
              rw [hrun1]; unfold stepR; dsimp only; rw [if_neg hdot, hdig]; rfl
            have HR1 := Lib.hid hbad
            have hC : c.toNat < 48 ∨ 57 < c.toNat := by unfold isD at hdig; simp at hdig; omega
            have hdot' : c.toNat = 46 → ¬ (pa < 0 ∧ 0 < wh) := fun h0 h1 => hdot ⟨UInt8.toNat_inj.1 (by rw [h0]; rfl), h1⟩
            have hC256 := c.toNat_lt
            clear hrun hrun1 hbad hdot hdig
            generalize c.toNat = C at hidn hC hdot' hC256
            by_cases h46 : C = 46
            · by_cases hpa0 : pa < 0
              · have hwh0 : wh = 0 := by
                  have := hdot' h46
                  omega
                subst hwh0
                subst h46
                clear hdot'
                go_wp2
                go_ret2
                exact ⟨by rw [HR1.out] <;> rfl, Below.refl _ _⟩
              · subst h46
                clear hdot'
                have fpa : decide (pa < 0) = false := by simp; omega
                go_wp2
                go_ret2
                exact ⟨by rw [HR1.out] <;> rfl, Below.refl _ _⟩
            · clear hdot'
              by_cases hlo : C < 48
              · have f1 : ((C : Int) == 46) = false := by simp; omega
                have f2 : decide ((C : Int) < 48) = true := by simp; omega
                go_wp2
                go_ret2
                exact ⟨by rw [HR1.out] <;> rfl, Below.refl _ _⟩
              · have f1 : ((C : Int) == 46) = false := by simp; omega
                have f2 : decide ((C : Int) < 48) = false := by simp; omega
                have f3 : decide ((57 : Int) < (C : Int)) = true := by simp; omega
                go_wp2
                go_ret2
                exact ⟨by rw [HR1.out] <;> rfl, Below.refl _ _⟩
          · have hcd : c.toNat = dv c + 48 := by unfold isD at hdig; unfold dv; simp at hdig; omega
            have hd10 := dv_lt hdig
            unfold stepR at hrun1
            dsimp only at hrun1
            rw [if_neg hdot, hdig, if_neg (by decide)] at hrun1
            rw [hcd] at hidn
            obtain ⟨d, hd⟩ : ∃ d, dv c = d := ⟨_, rfl⟩
            rw [hd] at hidn hrun1 hd10
            clear hrun hdot hdig hcd hd
            by_cases hpa : 0 ≤ pa
            · rw [if_pos hpa] at hrun1
              cases ov
              · by_cases hx : 461168601842738790 < x
                · have fx : decide ((461168601842738790 : Int) < ↑x) = true := by simp; omega
                  rw [show stepV (x, false) d = (x, true) by simp [stepV, hx]] at hrun1
                  have HR1 := Lib.hid hrun1; clear hrun1
                  go_wp2
                  go_roundg (gk - 1)
                  case measure => omega
                  case rel => exact ⟨k + 1, j + 1, { whole := wh, part := pa + 1, acc := (x, true) }, by omega, (by have := HJ.out; omega), by go_num, HR1.out, by go_num, by go_num, rfl, by go_num, rfl⟩
                · have fx : decide ((461168601842738790 : Int) < ↑x) = false := by simp; omega
                  rw [show stepV (x, false) d = (x * 10 + d, false) by simp [stepV, hx]] at hrun1
                  have HR1 := Lib.hid hrun1; clear hrun1
                  go_wp2
                  go_roundg (gk - 1)
                  case measure => omega
                  case rel => exact ⟨k + 1, j + 1, { whole := wh, part := pa + 1, acc := (x * 10 + d, false) }, by omega, (by have := HJ.out; omega), by go_num, HR1.out, by go_num, by go_num, rfl, by go_num, rfl⟩
              · rw [show stepV (x, true) d = (x, true) from rfl] at hrun1
                have HR1 := Lib.hid hrun1; clear hrun1
                go_wp2
                go_roundg (gk - 1)
                case measure => omega
                case rel => exact ⟨k + 1, j + 1, { whole := wh, part := pa + 1, acc := (x, true) }, by omega, (by have := HJ.out; omega), by go_num, HR1.out, by go_num, by go_num, rfl, by go_num, rfl⟩
            · rw [if_neg hpa] at hrun1
              cases ov
              · by_cases hx : 461168601842738790 < x
                · have fx : decide ((461168601842738790 : Int) < ↑x) = true := by simp; omega
                  rw [show stepV (x, false) d = (x, true) by simp [stepV, hx]] at hrun1
                  have HR1 := Lib.hid hrun1; clear hrun1
                  go_wp2
                  go_roundg (gk - 1)
                  case measure => omega
                  case rel => exact ⟨k + 1, j + 1, { whole := wh + 1, part := pa, acc := (x, true) }, by omega, (by have := HJ.out; omega), by go_num, HR1.out, by go_num, by go_num, rfl, by go_num, rfl⟩
                · have fx : decide ((461168601842738790 : Int) < ↑x) = false := by simp; omega
                  rw [show stepV (x, false) d = (x * 10 + d, false) by simp [stepV, hx]] at hrun1
                  have HR1 := Lib.hid hrun1; clear hrun1
                  go_wp2
                  go_roundg (gk - 1)
                  case measure => omega
                  case rel => exact ⟨k + 1, j + 1, { whole := wh + 1, part := pa, acc := (x * 10 + d, false) }, by omega, (by have := HJ.out; omega), by go_num, HR1.out, by go_num, by go_num, rfl, by go_num, rfl⟩
              · rw [show stepV (x, true) d = (x, true) from rfl] at hrun1
                have HR1 := Lib.hid hrun1; clear hrun1
                go_wp2
                go_roundg (gk - 1)
                case measure => omega
                case rel => exact ⟨k + 1, j + 1, { whole := wh + 1, part := pa, acc := (x, true) }, by omega, (by have := HJ.out; omega), by go_num, HR1.out, by go_num, by go_num, rfl, by go_num, rfl⟩
      · have htk : u.take k = u := List.take_of_length_le (by omega)
        rw [htk] at hrun
        have hend := HEND.out _ hrun
        have hjn : j = n := by omega
        subst hjn
        clear htk hrun
        have hwj : wh + 0 ≤ j := by omega
        clear hk hj hlt hb1 hb3 hN
        obtain ⟨B, hB⟩ : ∃ B, badR { whole := wh, part := pa, acc := (x, ov) } u false p = B := ⟨_, rfl⟩
        rw [hB] at hend
        go_upto_region 25 with fail
        go_cut [106] (fun s wd => s = .bool B ∧ wd = wr)
        case first =>
          by_cases h1 : wh = 0
          · have f1 : ((wh : Int) == 0) = true := by simp; omega
            have hBv : B = true := by rw [← hB]; unfold badR; dsimp only; rw [decide_eq_true h1]; rfl
            clear hB hend
            subst hBv
            go_wp2_with fail
            go_meet
            exact ⟨rfl, rfl⟩
          · have f1 : ((wh : Int) == 0) = false := by simp; omega
            by_cases h2 : pa = 0
            · have f2 : (pa == 0) = true := by simp; omega
              have hBv : B = true := by rw [← hB]; unfold badR; dsimp only; rw [decide_eq_true h2, Bool.or_true]; rfl
              clear hB hend
              subst hBv
              go_wp2_with fail
              go_meet
              exact ⟨rfl, rfl⟩
            · have f2 : (pa == 0) = false := by simp; omega
              by_cases h3 : (p : Int) < pa
              · have f3 : decide ((p : Int) < pa) = true := by simp; omega
                have hBv : B = true := by rw [← hB]; unfold badR; dsimp only; rw [decide_eq_true h3, Bool.or_true]; rfl
                clear hB hend
                subst hBv
                go_wp2_with fail
                go_meet
                exact ⟨rfl, rfl⟩
              · have f3 : decide ((p : Int) < pa) = false := by simp; omega
                have hpre : ∀ (q r : Bool), (decide (wh = 0) || decide (pa = 0) || decide ((p : Int) < pa) || q || r) = (q || r) := fun q r => by
                  rw [decide_eq_false h1, decide_eq_false h2, decide_eq_false h3]; rfl
                by_cases h4 : 1 < wh
                · have f4 : decide ((1 : Int) < ↑wh) = true := by simp; omega
                  have hofn : 0 < j := by omega
                  have hHH := fun h => congrArg (fun c : UInt8 => (c.toNat : Nat)) (HH.out h)
                  have hdz : ∀ h, ((L[0]'h).toNat) = (u.headD 0).toNat := fun h => hHH h
                  clear hHH
                  by_cases h5 : u.headD 0 = 48
                  · rw [h5] at hdz
                    have hdz' : ∀ h, ((L[0]'h).toNat) = 48 := hdz
                    clear hdz
                    have hBv : B = true := by rw [← hB]; unfold badR; dsimp only; rw [hpre, decide_eq_true h4, h5]; rfl
                    clear hB hend
                    subst hBv
                    go_wp2_with fail
                    go_meet
                    exact ⟨rfl, rfl⟩
                  · have h5' : (u.headD 0).toNat ≠ 48 := fun h0 => h5 (UInt8.toNat_inj.1 (by rw [h0]; rfl))
                    have hb5 : (u.headD 0 == 48) = false := beq_eq_false_iff_ne.2 h5
                    have h5r := (u.headD 0).toNat_lt
                    obtain ⟨H, hH⟩ : ∃ H, (u.headD 0).toNat = H := ⟨_, rfl⟩
                    rw [hH] at hdz h5' h5r
                    have f5 : ((H : Int) == 48) = false := by simp; omega
                    clear hH
                    have hBv : B = false := by rw [← hB]; unfold badR; dsimp only; rw [hpre, hb5, Bool.and_false]; rfl
                    clear hB hend
                    subst hBv
                    go_wp2_with fail
                    go_meet
                    exact ⟨rfl, rfl⟩
                · have f4 : decide ((1 : Int) < ↑wh) = false := by simp; omega
                  have hBv : B = false := by rw [← hB]; unfold badR; dsimp only; rw [hpre, decide_eq_false h4, Bool.false_and]; rfl
                  clear hB hend
                  subst hBv
                  go_wp2_with fail
                  go_meet
                  exact ⟨rfl, rfl⟩
        case rest =>
          obtain ⟨rfl, rfl⟩ := hcut
          clear hB
          cases B
          · have hend2 : R = _ := hend
            rw [if_neg (by decide)] at hend2
            unfold scaled at hend2
            dsimp only at hend2
            clear hend
            by_cases hpa : pa < 0
            · have hq : pa.toNat = 0 := by omega
              rw [hq] at hend2
              have HE2 := Lib.hid (show R = if (foldz (p - 0) (x, ov)).2 || decide (maxA < (foldz (p - 0) (x, ov)).1) then (0, 4) else (if false = true then -((foldz (p - 0) (x, ov)).1 : Int) else ((foldz (p - 0) (x, ov)).1 : Int), 0) from hend2)
              clear hend2 hq
              go_wp2
              go_loopg [11, 12, 14] (p - 0) (fun g ov_ x_ i_ wz => ∃ (k : Nat) (t : Nat × Bool), k + g = p - 0 ∧ foldz k (x, ov) = t ∧ ov_ = .bool t.2 ∧ x_ = .int .i64 (t.1 : Int) ∧ i_ = .int .i64 ((0 : Nat) + (k : Nat) : Int) ∧ wz = wc)
              case atStart => exact ⟨0, (x, ov), by omega, rfl, rfl, rfl, by go_num, rfl⟩
              case round =>
                obtain ⟨k2, ⟨y, o⟩, hk2, hfz, rfl, rfl, rfl, rfl⟩ := hrel
                have hyb := foldz_le k2 (x, ov) hb4
                rw [hfz] at hyb
                have hnx := foldz_succ k2 (x, ov)
                rw [hfz] at hnx
                simp only at hyb ⊢
                by_cases hlt2 : k2 < p - 0
                · clear hfz
                  have hi : decide ((0 : Int) + ↑k2 < ↑p) = true := by simp; omega
                  cases o
                  · by_cases hx : 461168601842738790 < y
                    · have fx : decide ((461168601842738790 : Int) < ↑y) = true := by simp; omega
                      rw [show stepV (y, false) 0 = (y, true) by simp [stepV, hx]] at hnx
                      have HF := Lib.hid hnx; clear hnx
                      go_wp2
                      go_roundg (gk - 1)
                      case measure => omega
                      case rel => exact ⟨k2 + 1, (y, true), by omega, HF.out, rfl, by go_num, by go_num, rfl⟩
                    · have fx : decide ((461168601842738790 : Int) < ↑y) = false := by simp; omega
                      rw [show stepV (y, false) 0 = (y * 10, false) by simp [stepV, hx]] at hnx
                      have HF := Lib.hid hnx; clear hnx
                      go_wp2
                      go_roundg (gk - 1)
                      case measure => omega
                      case rel => exact ⟨k2 + 1, (y * 10, false), by omega, HF.out, rfl, by go_num, by go_num, rfl⟩
                  · rw [show stepV (y, true) 0 = (y, true) from rfl] at hnx
                    have HF := Lib.hid hnx; clear hnx
                    go_wp2
                    go_roundg (gk - 1)
                    case measure => omega
                    case rel => exact ⟨k2 + 1, (y, true), by omega, HF.out, rfl, by go_num, by go_num, rfl⟩
                · have hkq : k2 = p - 0 := by omega
                  have hi : decide ((0 : Int) + ↑k2 < ↑p) = false := by simp; omega
                  have hend := HE2.out
                  rw [← hkq, hfz] at hend
                  clear hfz hnx
                  cases o
                  · by_cases hm : 4611686018427387904 < y
                    · have fm : decide ((4611686018427387904 : Int) < ↑y) = true := by simp; omega
                      have hR : R = (0, 4) := by rw [hend]; unfold maxA; rw [decide_eq_true hm]; rfl
                      have HR1 := Lib.hid hR; clear hR hend
                      go_wp2
                      go_ret2
                      exact ⟨by rw [HR1.out] <;> rfl, Below.refl _ _⟩
                    · have fm : decide ((4611686018427387904 : Int) < ↑y) = false := by simp; omega
                      have hR : R = ((y : Int), 0) := by rw [hend]; unfold maxA; rw [decide_eq_false hm]; rfl
                      have HR1 := Lib.hid hR; clear hR hend
                      go_wp2
                      go_ret2
                      exact ⟨by rw [HR1.out] <;> rfl, Below.refl _ _⟩
                  · have hR : R = (0, 4) := by rw [hend]; rfl
                    have HR1 := Lib.hid hR; clear hR hend
                    go_wp2
                    go_ret2
                    exact ⟨by rw [HR1.out] <;> rfl, Below.refl _ _⟩
            · obtain ⟨q, hq⟩ : ∃ q : Nat, pa = (q : Int) := ⟨pa.toNat, by omega⟩
              subst hq
              rw [Int.toNat_natCast] at hend2
              have HE2 := Lib.hid (show R = if (foldz (p - q) (x, ov)).2 || decide (maxA < (foldz (p - q) (x, ov)).1) then (0, 4) else (if false = true then -((foldz (p - q) (x, ov)).1 : Int) else ((foldz (p - q) (x, ov)).1 : Int), 0) from hend2)
              clear hend2
              go_wp2
              go_loopg [11, 12, 14] (p - q) (fun g ov_ x_ i_ wz => ∃ (k : Nat) (t : Nat × Bool), k + g = p - q ∧ foldz k (x, ov) = t ∧ ov_ = .bool t.2 ∧ x_ = .int .i64 (t.1 : Int) ∧ i_ = .int .i64 ((q : Nat) + (k : Nat) : Int) ∧ wz = wc)
              case atStart => exact ⟨0, (x, ov), by omega, rfl, rfl, rfl, by go_num, rfl⟩
              case round =>
                obtain ⟨k2, ⟨y, o⟩, hk2, hfz, rfl, rfl, rfl, rfl⟩ := hrel
                have hyb := foldz_le k2 (x, ov) hb4
                rw [hfz] at hyb
                have hnx := foldz_succ k2 (x, ov)
                rw [hfz] at hnx
                simp only at hyb ⊢
                by_cases hlt2 : k2 < p - q
                · clear hfz
                  have hi : decide ((q : Int) + ↑k2 < ↑p) = true := by simp; omega
                  cases o
                  · by_cases hx : 461168601842738790 < y
                    · have fx : decide ((461168601842738790 : Int) < ↑y) = true := by simp; omega
                      rw [show stepV (y, false) 0 = (y, true) by simp [stepV, hx]] at hnx
                      have HF := Lib.hid hnx; clear hnx
                      go_wp2
                      go_roundg (gk - 1)
                      case measure => omega
                      case rel => exact ⟨k2 + 1, (y, true), by omega, HF.out, rfl, by go_num, by go_num, rfl⟩
                    · have fx : decide ((461168601842738790 : Int) < ↑y) = false := by simp; omega
                      rw [show stepV (y, false) 0 = (y * 10, false) by simp [stepV, hx]] at hnx
                      have HF := Lib.hid hnx; clear hnx
                      go_wp2
                      go_roundg (gk - 1)
                      case measure => omega
                      case rel => exact ⟨k2 + 1, (y * 10, false), by omega, HF.out, rfl, by go_num, by go_num, rfl⟩
                  · rw [show stepV (y, true) 0 = (y, true) from rfl] at hnx
                    have HF := Lib.hid hnx; clear hnx
                    go_wp2
                    go_roundg (gk - 1)
                    case measure => omega
                    case rel => exact ⟨k2 + 1, (y, true), by omega, HF.out, rfl, by go_num, by go_num, rfl⟩
                · have hkq : k2 = p - q := by omega
                  have hi : decide ((q : Int) + ↑k2 < ↑p) = false := by simp; omega
                  have hend := HE2.out
                  rw [← hkq, hfz] at hend
                  clear hfz hnx
                  cases o
                  · by_cases hm : 4611686018427387904 < y
                    · have fm : decide ((4611686018427387904 : Int) < ↑y) = true := by simp; omega
                      have hR : R = (0, 4) := by rw [hend]; unfold maxA; rw [decide_eq_true hm]; rfl
                      have HR1 := Lib.hid hR; clear hR hend
                      go_wp2
                      go_ret2
                      exact ⟨by rw [HR1.out] <;> rfl, Below.refl _ _⟩
                    · have fm : decide ((4611686018427387904 : Int) < ↑y) = false := by simp; omega
                      have hR : R = ((y : Int), 0) := by rw [hend]; unfold maxA; rw [decide_eq_false hm]; rfl
                      have HR1 := Lib.hid hR; clear hR hend
                      go_wp2
                      go_ret2
                      exact ⟨by rw [HR1.out] <;> rfl, Below.refl _ _⟩
                  · have hR : R = (0, 4) := by rw [hend]; rfl
                    have HR1 := Lib.hid hR; clear hR hend
                    go_wp2
                    go_ret2
                    exact ⟨by rw [HR1.out] <;> rfl, Below.refl _ _⟩
          · have hR : R = (0, 11) := hend
            have HR1 := Lib.hid hR; clear hR hend
            go_wp2
            go_ret2
            exact ⟨by rw [HR1.out] <;> rfl, Below.refl _ _⟩
end Go.Proofs.YtdapcmokibkokaaDoor.Dx

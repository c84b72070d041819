/-
  Layer 13: orders: Find, Put, Cut, Drop and Selling of the program.
-/
import Derived.Test.YtpagkeklilgknaaIho
import Derived.Test.YtpagkeklilgknaaIk
namespace Go.Proofs.Ytpagkeklilgknaa.Bo
open Go.RowKit Rw
set_option linter.unusedVariables false
set_option linter.unusedSimpArgs false

def findI (L : List Od) (o : Option Od) : Int := if o.isSome then (L.length : Int) else -1
def putE (n : Nat) (o : Option Od) : Int := if o.isSome then 35 else if 32 ≤ n then 40 else 0
def putL (n : Nat) (L : List Od) (o : Option Od) (R : List Od) (x : Od) : List Od := if putE n o = 0 then L ++ ([x] ++ R) else []
def cutE (o : Option Od) (q : Int) : Int := match o with | none => 34 | some y => if 1 ≤ q ∧ q ≤ absS y.qty then 0 else 36
def cutN (o : Option Od) (q : Int) : Int := match o with | none => 0 | some y => if 1 ≤ q ∧ q ≤ absS y.qty then absS y.qty - q else 0
def cutQ (y : Od) (q : Int) : Int := if 0 < y.qty then y.qty - q else y.qty + q
def cutO (o : Option Od) (q : Int) : Option Od := match o with | none => none | some y => if q = absS y.qty then none else some { y with qty := cutQ y q }
def cutL (L : List Od) (o : Option Od) (R : List Od) (q : Int) : List Od := if cutE o q = 0 then L ++ ((cutO o q).toList ++ R) else []
def dropE (o : Option Od) : Int := if o.isSome then 0 else 34
def dropL (L : List Od) (o : Option Od) (R : List Od) : List Od := if o.isSome then L ++ R else []
def PutIt (n : Nat) (L : List Od) (o : Option Od) (R : List Od) (x : Od) (w : World) (e : Ending) (w' : World) : Prop := ∃ v, e = .returned (.tuple #[v, .int .i64 (putE n o)]) ∧ Own enco w' w.heap.size v (putL n L o R x) ∧ Below w.heap.size w w'
def CutIt (L : List Od) (o : Option Od) (R : List Od) (q : Int) (w : World) (e : Ending) (w' : World) : Prop := ∃ v, e = .returned (.tuple #[v, .int .i64 (cutN o q), .int .i64 (cutE o q)]) ∧ Own enco w' w.heap.size v (cutL L o R q) ∧ Below w.heap.size w w'
def DropIt (L : List Od) (o : Option Od) (R : List Od) (w : World) (e : Ending) (w' : World) : Prop := ∃ v, e = .returned (.tuple #[v, .int .i64 (dropE o)]) ∧ Own enco w' w.heap.size v (dropL L o R) ∧ Below w.heap.size w w'
theorem getD_mid' {α : Type} (L : List α) (y d : α) (R : List α) : (L ++ (y :: R)).getD L.length d = y := by simp [List.getD]
theorem set_mid' {α : Type} (L : List α) (y z : α) (R : List α) : (L ++ (y :: R)).set L.length z = L ++ (z :: R) := by simp
theorem absS_bd {q : Int} (h : qtyB q = true) : 0 ≤ absS q ∧ absS q ≤ 1000000000 := by
  obtain ⟨h1, h2⟩ := qtyB_iff.1 h
  unfold absS
  split <;> omega
set_option maxRecDepth 100000 in
theorem find_any (a : Option Addr) (len cap : Nat) (X L R : List Od) (o : Option Od) (c d : Int) (w : World) (h : Has enco w a X) (hl : X.length = len) (hm : len ≤ 4611686018427387903) (hd : Dec keyo X (c, d) L o R) :
    Calls Try.prog 24 #[.slice a len cap, .int .i64 c, .int .i64 d] w fun e w' => e = .returned (.int .i64 (findI L o)) ∧ Below w.heap.size w w' := by
  have hp := place_o a len cap X L R o c d w h hl hm hd
  clear h hd hl
  cases o with
  | none =>
    go_enter Try.func24, Try.ntmps24
    go_wp2_with (go_at_call 44; (with_reducible refine hp.mono ?_); rintro e w5 ⟨rfl, hb5⟩)
    go_ret
    exact ⟨rfl, hb5⟩
  | some y =>
    have HE : Hid (findI L (some y) = (L.length : Int)) := Lib.hid rfl
    generalize L.length = k at *
    go_enter Try.func24, Try.ntmps24
    go_wp2_with (go_at_call 44; (with_reducible refine hp.mono ?_); rintro e w5 ⟨rfl, hb5⟩)
    go_ret
    exact ⟨by rw [HE.out] <;> rfl, hb5⟩
set_option maxRecDepth 100000 in
set_option maxHeartbeats 4000000 in
theorem put_any (a : Option Addr) (len cap : Nat) (x : Od) (X L R : List Od) (o : Option Od) (w : World) (h : Has enco w a X) (hl : X.length = len) (hlc : len ≤ cap) (hn : a = none → cap = 0) (hm : len ≤ 900) (hcm : cap ≤ 9223372036854775807) (hd : Dec keyo X (x.acct, x.id) L o R) :
    Calls Try.prog 21 #[.slice a len cap, .agg #[.int .i64 x.acct, .int .i64 x.id, .int .i64 x.instr, .int .i64 x.qty, .int .i64 x.price]] w (PutIt len L o R x w) := by
  unfold PutIt
  obtain ⟨N, hN⟩ : ∃ N, N = w.heap.size := ⟨_, rfl⟩
  obtain ⟨W0, hW0⟩ : ∃ W0, W0 = w.alloc (.cells #[.int .i64 x.acct, .int .i64 x.id, .int .i64 x.instr, .int .i64 x.qty, .int .i64 x.price] 37) := ⟨_, rfl⟩
  have x0 : Blk W0 N #[.int .i64 x.acct, .int .i64 x.id, .int .i64 x.instr, .int .i64 x.qty, .int .i64 x.price] 37 := by rw [hW0, hN]; exact Blk.new w _ _
  have hb : Below w.heap.size w W0 := by rw [hW0]; exact one_alloc _ _
  have KS : Hid (∀ wx, Below W0.heap.size W0 wx → wx.cell? ⟨N, 0, none⟩ = some (.int .i64 x.acct) ∧ wx.cell? ⟨N, 1, none⟩ = some (.int .i64 x.id) ∧ wx.cell? ⟨N, 2, none⟩ = some (.int .i64 x.instr) ∧ wx.cell? ⟨N, 3, none⟩ = some (.int .i64 x.qty) ∧ wx.cell? ⟨N, 4, none⟩ = some (.int .i64 x.price)) :=
    Lib.hid fun wx hb => ⟨(x0.keep hb).cell 0, (x0.keep hb).cell 1, (x0.keep hb).cell 2, (x0.keep hb).cell 3, (x0.keep hb).cell 4⟩
  have HB := Lib.hid hb; have HN := Lib.hid hN; have HW := Lib.hid hW0
  have HP : Hid (∀ wx, Below W0.heap.size W0 wx → Calls Try.prog 44 #[.slice a len cap, .func (.func 36) #[] #[], .agg #[.int .i64 x.acct, .int .i64 x.id]] wx fun e w' => e = .returned (.tuple #[.int .i64 (L.length : Int), .bool o.isSome]) ∧ Below wx.heap.size wx w') :=
    Lib.hid fun wx hb2 => place_o a len cap X L R o x.acct x.id wx ((h.keep hb).keep hb2) hl (by omega) hd
  have HF := Lib.hid (of_o x.acct x.id x.instr x.qty x.price W0)
  obtain ⟨c0, c1, c2, c3, c4⟩ := KS.out W0 (Below.refl _ _)
  cases o with
  | some y =>
    have HE : Hid (putE len (some y) = 35) := Lib.hid rfl
    have HL : Hid (putL len L (some y) R x = []) := Lib.hid rfl
    rw [HE.out, HL.out]
    clear h hl hd x0 hb hN hW0
    generalize L.length = k at *
    go_enter Try.func21, Try.ntmps21
    go_upto_region 1 with (fail)
    rw [← HN.out, ← HW.out]
    go_wp2_with (first | (go_at_call 36; (with_reducible refine HF.out.mono ?_); rintro e w5 ⟨rfl, hb5⟩) | (go_at_call 44; (with_reducible refine (HP.out _ hb5).mono ?_); rintro e w6 ⟨rfl, hb6⟩))
    go_ret2
    exact ⟨_, rfl, Own.nil _ _, below_next HB.out (below_next hb5 hb6)⟩
  | none =>
    by_cases h32 : 32 ≤ len
    · have HE : Hid (putE len none = 40) := Lib.hid (by simp [putE, h32])
      have HL : Hid (putL len L none R x = []) := Lib.hid (by unfold putL; rw [HE.out]; rfl)
      rw [HE.out, HL.out]
      have i0 : (32 : Int) ≤ (len : Int) := by omega
      clear h hl hd x0 hb hN hW0
      generalize L.length = k at *
      go_enter Try.func21, Try.ntmps21
      go_upto_region 1 with (fail)
      rw [← HN.out, ← HW.out]
      go_wp2_with (first | (go_at_call 36; (with_reducible refine HF.out.mono ?_); rintro e w5 ⟨rfl, hb5⟩) | (go_at_call 44; (with_reducible refine (HP.out _ hb5).mono ?_); rintro e w6 ⟨rfl, hb6⟩))
      go_ret2
      exact ⟨_, rfl, Own.nil _ _, below_next HB.out (below_next hb5 hb6)⟩
    · have HE : Hid (putE len none = 0) := Lib.hid (by simp [putE, h32])
      have HL : Hid (putL len L none R x = L ++ ([x] ++ R)) := Lib.hid (by unfold putL; rw [HE.out, if_pos rfl])
      rw [HE.out, HL.out]
      have hX : X = L ++ R := hd.eq
      have i0 : ¬ (32 : Int) ≤ (len : Int) := by omega
      have HW2 : Hid (∀ wx, Below W0.heap.size W0 wx → Calls Try.prog 45 #[.slice a len cap, .int .i64 (L.length : Int), .agg #[.int .i64 x.acct, .int .i64 x.id, .int .i64 x.instr, .int .i64 x.qty, .int .i64 x.price]] wx fun e w' => ∃ v, e = .returned v ∧ Own enco w' wx.heap.size v (L ++ ([x] ++ R)) ∧ Below wx.heap.size wx w') :=
        Lib.hid fun wx hb2 => with_o a len cap L.length x L R wx (by rw [← hX]; exact (h.keep hb).keep hb2) rfl (by rw [← hX]; exact hl) hlc hn hm hcm
      clear h hl hd x0 hb hN hW0 hX
      generalize L.length = k at *
      go_enter Try.func21, Try.ntmps21
      go_upto_region 1 with (fail)
      rw [← HN.out, ← HW.out]
      go_wp2_with (first | (go_at_call 36; (with_reducible refine HF.out.mono ?_); rintro e w5 ⟨rfl, hb5⟩) | (go_at_call 44; (with_reducible refine (HP.out _ hb5).mono ?_); rintro e w6 ⟨rfl, hb6⟩; have hb7 := below_next hb5 hb6; clear c0 c1 c2 c3 c4; obtain ⟨c0, c1, c2, c3, c4⟩ := KS.out w6 hb7) | (go_at_call 45; (with_reducible refine (HW2.out _ hb7).mono ?_); rintro e w8 ⟨v8, rfl, ho8, hb8⟩; have HO8 := Lib.hid ho8; clear ho8))
      go_ret2
      exact ⟨_, rfl, HO8.out.low (by have := HB.out.size; have := hb7.size; have := HN.out; omega), below_next HB.out (below_next hb7 hb8)⟩
set_option maxRecDepth 100000 in
set_option maxHeartbeats 2000000 in
theorem drop_any (a : Option Addr) (len cap : Nat) (X L R : List Od) (o : Option Od) (c d : Int) (w : World) (h : Has enco w a X) (hl : X.length = len) (hlc : len ≤ cap) (hm : len ≤ 900) (hcm : cap ≤ 9223372036854775807) (hd : Dec keyo X (c, d) L o R) :
    Calls Try.prog 30 #[.slice a len cap, .int .i64 c, .int .i64 d] w (DropIt L o R w) := by
  unfold DropIt
  have hp := place_o a len cap X L R o c d w h hl (by omega) hd
  cases o with
  | none =>
    have HE : Hid (dropE none = 34) := Lib.hid rfl
    have HL : Hid (dropL L none R = []) := Lib.hid rfl
    rw [HE.out, HL.out]
    clear h hl hd
    generalize L.length = k at *
    go_enter Try.func30, Try.ntmps30
    go_wp2_with (go_at_call 44; (with_reducible refine hp.mono ?_); rintro e w5 ⟨rfl, hb5⟩)
    go_ret2
    exact ⟨_, rfl, Own.nil _ _, hb5⟩
  | some y =>
    have HE : Hid (dropE (some y) = 0) := Lib.hid rfl
    have HL : Hid (dropL L (some y) R = L ++ R) := Lib.hid rfl
    rw [HE.out, HL.out]
    have hX : X = L ++ (y :: R) := hd.eq
    have HW : Hid (∀ wx, Below w.heap.size w wx → Calls Try.prog 48 #[.slice a len cap, .int .i64 (L.length : Int)] wx fun e w' => ∃ v, e = .returned v ∧ Own enco w' wx.heap.size v (L ++ R) ∧ Below wx.heap.size wx w') :=
      Lib.hid fun wx hb => without_o a len cap L.length y L R wx (by rw [← hX]; exact h.keep hb) rfl (by rw [← hX]; exact hl) hlc hm hcm
    clear h hl hd hX
    generalize L.length = k at *
    go_enter Try.func30, Try.ntmps30
    go_wp2_with (first | (go_at_call 44; (with_reducible refine hp.mono ?_); rintro e w5 ⟨rfl, hb5⟩) | (go_at_call 48; (with_reducible refine (HW.out _ hb5).mono ?_); rintro e w7 ⟨v7, rfl, ho7, hb7⟩; have HO7 := Lib.hid ho7; clear ho7))
    go_ret2
    exact ⟨_, rfl, HO7.out.low hb5.size, below_next hb5 hb7⟩
set_option maxRecDepth 100000 in
set_option maxHeartbeats 8000000 in
theorem cut_any (a : Option Addr) (len cap : Nat) (X L R : List Od) (o : Option Od) (c d q : Int) (w : World) (h : Has enco w a X) (hl : X.length = len) (hlc : len ≤ cap) (hn : a = none → cap = 0) (hm : len ≤ 900) (hcm : cap ≤ 9223372036854775807) (hd : Dec keyo X (c, d) L o R) (hq : ∀ y, o = some y → qtyB y.qty = true) :
    Calls Try.prog 28 #[.slice a len cap, .int .i64 c, .int .i64 d, .int .i64 q] w (CutIt L o R q w) := by
  unfold CutIt
  have hp := place_o a len cap X L R o c d w h hl (by omega) hd
  have H := Lib.hid h
  cases o with
  | none =>
    have HE : Hid (cutE none q = 34) := Lib.hid rfl
    have HL : Hid (cutL L none R q = []) := Lib.hid rfl
    have HNN : Hid (cutN none q = 0) := Lib.hid rfl
    rw [HE.out, HL.out, HNN.out]
    clear h hl hd
    generalize L.length = k at *
    go_enter Try.func28, Try.ntmps28
    go_wp2_with (go_at_call 44; (with_reducible refine hp.mono ?_); rintro e w5 ⟨rfl, hb5⟩)
    go_ret3
    exact ⟨_, rfl, Own.nil _ _, hb5⟩
  | some y =>
    have hX : X = L ++ (y :: R) := hd.eq
    have hlt : L.length < X.length := hd.isSome_lt rfl
    have hg : X.getD L.length zo = y := by rw [hX]; exact getD_mid' _ _ _ _
    obtain ⟨k, hk⟩ : ∃ k, k = L.length := ⟨_, rfl⟩
    rw [← hk] at hp hlt hg
    have i0 : (0 : Int) ≤ (k : Int) := by omega
    have i1 : (k : Int) < (len : Int) := by omega
    have hqy := hq y rfl
    obtain ⟨y1, y2⟩ := qtyB_iff.1 hqy
    obtain ⟨s1, s2⟩ := absS_bd hqy
    have HA := Lib.hid fun w => abs_any y.qty w hqy
    have HWI := Lib.hid fun w => within_any q 1 (absS y.qty) w
    have HC : Hid (∀ wx, Below w.heap.size w wx → ∃ b off, a = some ⟨b, off, none⟩ ∧ wx.cell? ⟨b, off + k * 5 + 3, none⟩ = some (.int .i64 y.qty)) := Lib.hid fun wx hb => by
      obtain ⟨b, off, e, _, _, _, c3, _⟩ := ato (H.out.keep hb) hlt
      rw [hg] at c3
      exact ⟨b, off, e, c3⟩
    obtain ⟨b, off, rfl, _⟩ := HC.out w (Below.refl _ _)
    by_cases hr : 1 ≤ q ∧ q ≤ absS y.qty
    rotate_left
    · have HE : Hid (cutE (some y) q = 36) := Lib.hid (by simp only [cutE, if_neg hr])
      have HL : Hid (cutL L (some y) R q = []) := Lib.hid (by unfold cutL; rw [HE.out]; rfl)
      have HNN : Hid (cutN (some y) q = 0) := Lib.hid (by simp only [cutN, if_neg hr])
      have HF : Hid ((decide (1 ≤ q) && decide (q ≤ absS y.qty)) = false) := Lib.hid (by
        rw [Bool.eq_false_iff]; intro h2; rw [Bool.and_eq_true, decide_eq_true_eq, decide_eq_true_eq] at h2; exact hr h2)
      rw [HE.out, HL.out, HNN.out]
      rw [HF.out] at HWI
      generalize absS y.qty = S at *
      clear h hl hd hX hg hlt hk hr hq HF HE HL HNN
      go_enter Try.func28, Try.ntmps28
      go_wp2_with (first | (go_at_call 44; (with_reducible refine hp.mono ?_); rintro e w6 ⟨rfl, hb6⟩; obtain ⟨b', off', e, c3⟩ := HC.out w6 hb6; cases e) | (go_at_call 47; (with_reducible refine (HA.out _).mono ?_); rintro e w5 ⟨rfl, rfl⟩) | (go_at_call 37; (with_reducible refine (HWI.out _).mono ?_); rintro e w5 ⟨rfl, rfl⟩))
      go_ret3
      exact ⟨_, rfl, Own.nil _ _, hb6⟩
    have HF : Hid ((decide (1 ≤ q) && decide (q ≤ absS y.qty)) = true) := Lib.hid (by rw [Bool.and_eq_true, decide_eq_true_eq, decide_eq_true_eq]; exact hr)
    have HE : Hid (cutE (some y) q = 0) := Lib.hid (by simp only [cutE, if_pos hr])
    have HNN : Hid (cutN (some y) q = absS y.qty - q) := Lib.hid (by simp only [cutN, if_pos hr])
    rw [HF.out] at HWI
    rw [HE.out, HNN.out]
    by_cases hs : q = absS y.qty
    · have HL : Hid (cutL L (some y) R q = L ++ R) := Lib.hid (by unfold cutL; rw [HE.out, if_pos rfl]; simp only [cutO, if_pos hs]; rfl)
      rw [HL.out]
      have HW : Hid (∀ wx, Below w.heap.size w wx → Calls Try.prog 48 #[.slice (some ⟨b, off, none⟩) len cap, .int .i64 (k : Int)] wx fun e w' => ∃ v, e = .returned v ∧ Own enco w' wx.heap.size v (L ++ R) ∧ Below wx.heap.size wx w') :=
        Lib.hid fun wx hb => without_o _ len cap k y L R wx (by rw [← hX]; exact h.keep hb) hk.symm (by rw [← hX]; exact hl) hlc hm hcm
      have HZ : Hid (absS y.qty - q = 0) := Lib.hid (by omega)
      rw [HZ.out]
      have bq : (q == absS y.qty) = true := beq_iff_eq.2 hs
      clear h hl hd hX hg hlt hk hr hq HF HE HL HNN hs HZ
      generalize absS y.qty = S at *
      go_enter Try.func28, Try.ntmps28
      go_wp2_with (first | (go_at_call 44; (with_reducible refine hp.mono ?_); rintro e w6 ⟨rfl, hb6⟩; obtain ⟨b', off', e, c3⟩ := HC.out w6 hb6; cases e) | (go_at_call 47; (with_reducible refine (HA.out _).mono ?_); rintro e w5 ⟨rfl, rfl⟩) | (go_at_call 37; (with_reducible refine (HWI.out _).mono ?_); rintro e w5 ⟨rfl, rfl⟩) | (go_at_call 48; (with_reducible refine (HW.out _ hb6).mono ?_); rintro e w7 ⟨v7, rfl, ho7, hb7⟩; have HO7 := Lib.hid ho7; clear ho7))
      go_ret3
      exact ⟨_, rfl, HO7.out.low hb6.size, below_next hb6 hb7⟩
    · have HL : Hid (cutL L (some y) R q = L ++ ([{ y with qty := cutQ y q }] ++ R)) := Lib.hid (by unfold cutL; rw [HE.out, if_pos rfl]; simp only [cutO, if_neg hs]; rfl)
      rw [HL.out]
      have HW : Hid (∀ wx, Below w.heap.size w wx → Calls Try.prog 49 #[.slice (some ⟨b, off, none⟩) len cap] wx fun e w' => ∃ v, e = .returned v ∧ Own enco w' wx.heap.size v X ∧ Below wx.heap.size wx w') :=
        Lib.hid fun wx hb => clone_o _ len cap X wx (h.keep hb) hl hn (by omega)
      have HS : Hid (∀ t, X.set k { X.getD k zo with qty := t } = L ++ ([{ y with qty := t }] ++ R)) := Lib.hid fun t => by
        rw [hg, hX, hk, set_mid']; rfl
      have HG := Lib.hid hg
      have bq : (q == absS y.qty) = false := beq_eq_false_iff_ne.2 hs
      have iw : IntKind.i64.wrap (absS y.qty - q) = absS y.qty - q := IntWalk.i64_in _ (by omega)
      have HLT := Lib.hid hlt; have HLL := Lib.hid hl
      by_cases hpos : 0 < y.qty
      · obtain ⟨t, ht⟩ : ∃ t, t = cutQ y q := ⟨_, rfl⟩
        have it : IntKind.i64.wrap (y.qty - q) = t := by rw [ht]; simp only [cutQ, if_pos hpos]; exact IntWalk.i64_in _ (by omega)
        rw [← ht]
        clear h hl hd hX hg hlt hk hr hq HF HE HL HNN hs ht
        generalize absS y.qty = S at *
        go_enter Try.func28, Try.ntmps28
        go_wp2_with (first | (go_at_call 44; (with_reducible refine hp.mono ?_); rintro e w6 ⟨rfl, hb6⟩; obtain ⟨b', off', e, c3⟩ := HC.out w6 hb6; cases e) | (go_at_call 47; (with_reducible refine (HA.out _).mono ?_); rintro e w5 ⟨rfl, rfl⟩) | (go_at_call 37; (with_reducible refine (HWI.out _).mono ?_); rintro e w5 ⟨rfl, rfl⟩) | (go_at_call 49; (with_reducible refine (HW.out _ hb6).mono ?_); rintro e w7 ⟨v7, rfl, ho7, hb7⟩; obtain ⟨g7, c7, rfl, hg7, hgl7, hf7⟩ := ho7.block (by have := HLT.out; omega); rw [HLL.out] at ho7 ⊢; have HO7 := Lib.hid ho7; obtain ⟨e0, e1, e2, e3, e4⟩ := own_ato (X := X) (g := g7) (c := c7) (by rw [HLL.out]; exact ho7) HLT.out; rw [HG.out] at e3; have hfz := hf7 (k * 5 + 3); clear ho7 e0 e1 e2 e4 hf7))
        go_ret3
        refine ⟨_, rfl, ?_, below_next hb6 (hb7.setCell (p := ⟨g7, k * 5 + 3, none⟩) hg7 _)⟩
        have := own_seto_qty (w := w7) (base := w6.heap.size) (g := g7) (c := c7) (X := X) (by rw [HLL.out]; exact HO7.out) HLT.out t
        rw [HS.out, HLL.out] at this
        exact this.low hb6.size
      · obtain ⟨t, ht⟩ : ∃ t, t = cutQ y q := ⟨_, rfl⟩
        have it : IntKind.i64.wrap (y.qty + q) = t := by rw [ht]; simp only [cutQ, if_neg hpos]; exact IntWalk.i64_in _ (by omega)
        rw [← ht]
        clear h hl hd hX hg hlt hk hr hq HF HE HL HNN hs ht
        generalize absS y.qty = S at *
        go_enter Try.func28, Try.ntmps28
        go_wp2_with (first | (go_at_call 44; (with_reducible refine hp.mono ?_); rintro e w6 ⟨rfl, hb6⟩; obtain ⟨b', off', e, c3⟩ := HC.out w6 hb6; cases e) | (go_at_call 47; (with_reducible refine (HA.out _).mono ?_); rintro e w5 ⟨rfl, rfl⟩) | (go_at_call 37; (with_reducible refine (HWI.out _).mono ?_); rintro e w5 ⟨rfl, rfl⟩) | (go_at_call 49; (with_reducible refine (HW.out _ hb6).mono ?_); rintro e w7 ⟨v7, rfl, ho7, hb7⟩; obtain ⟨g7, c7, rfl, hg7, hgl7, hf7⟩ := ho7.block (by have := HLT.out; omega); rw [HLL.out] at ho7 ⊢; have HO7 := Lib.hid ho7; obtain ⟨e0, e1, e2, e3, e4⟩ := own_ato (X := X) (g := g7) (c := c7) (by rw [HLL.out]; exact ho7) HLT.out; rw [HG.out] at e3; have hfz := hf7 (k * 5 + 3); clear ho7 e0 e1 e2 e4 hf7))
        go_ret3
        refine ⟨_, rfl, ?_, below_next hb6 (hb7.setCell (p := ⟨g7, k * 5 + 3, none⟩) hg7 _)⟩
        have := own_seto_qty (w := w7) (base := w6.heap.size) (g := g7) (c := c7) (X := X) (by rw [HLL.out]; exact HO7.out) HLT.out t
        rw [HS.out, HLL.out] at this
        exact this.low hb6.size

/-! ### Selling -/
def sell1 (c i : Int) (x : Od) : Int := if x.acct = c ∧ x.instr = i ∧ x.qty < 0 then -x.qty else 0
def sellS (c i : Int) : List Od → Int
  | [] => 0
  | x :: X => sell1 c i x + sellS c i X
theorem sellS_app (c i : Int) : ∀ (X Y : List Od), sellS c i (X ++ Y) = sellS c i X + sellS c i Y
  | [], Y => by simp [sellS]
  | x :: X, Y => by simp only [List.cons_append, sellS, sellS_app c i X Y]; omega
theorem sell1_bd (c i : Int) (x : Od) (h : qtyB x.qty = true) : 0 ≤ sell1 c i x ∧ sell1 c i x ≤ 1000000000 := by
  obtain ⟨h1, h2⟩ := qtyB_iff.1 h
  unfold sell1
  split <;> omega
theorem sellS_bd (c i : Int) : ∀ (X : List Od), (∀ x ∈ X, qtyB x.qty = true) → 0 ≤ sellS c i X ∧ sellS c i X ≤ 1000000000 * (X.length : Int)
  | [], _ => by simp [sellS]
  | x :: X, h => by
    have h1 := sell1_bd c i x (h x (by simp))
    have h2 := sellS_bd c i X fun y hy => h y (by simp [hy])
    simp only [sellS, List.length_cons]
    omega
theorem sellS_take {c i : Int} {X : List Od} {k : Nat} (hk : k < X.length) : sellS c i (X.take (k + 1)) = sellS c i (X.take k) + sell1 c i (X.getD k zo) := by
  rw [take_getD zo hk, sellS_app]
  simp [sellS]
set_option maxRecDepth 100000 in
set_option maxHeartbeats 8000000 in
theorem selling_any (a : Option Addr) (len cap : Nat) (X : List Od) (c i : Int) (w : World) (h : Has enco w a X) (hl : X.length = len) (hm : len ≤ 900) (hq : ∀ x ∈ X, qtyB x.qty = true) :
    Calls Try.prog 26 #[.slice a len cap, .int .i64 c, .int .i64 i] w fun e w' => e = .returned (.int .i64 (sellS c i X)) ∧ Below w.heap.size w w' := by
  have H := Lib.hid h; have HL := Lib.hid hl; have HQ := Lib.hid hq
  have HT : Hid (∀ k, 0 ≤ sellS c i (X.take k) ∧ sellS c i (X.take k) ≤ 900000000000) := Lib.hid fun k => by
    have h1 := sellS_bd c i (X.take k) fun x hx => hq x (List.mem_of_mem_take hx)
    have : (X.take k).length ≤ 900 := by rw [List.length_take]; omega
    omega
  clear h hl hq
  go_enter Try.func26, Try.ntmps26
  go_wp2
  go_loopg [7, 12] len (fun m s j wr => ∃ k : Nat, k + m = len ∧ s = .int .i64 (sellS c i (X.take k)) ∧ j = .int .i64 (k : Int) ∧ Hid (Below w.heap.size w wr))
  case atStart => exact ⟨0, by omega, rfl, rfl, Lib.hid (Below.refl _ _)⟩
  case round =>
    obtain ⟨k, hk, rfl, rfl, HB⟩ := hrel
    by_cases hlt : k < len
    · obtain ⟨b, off, rfl, c0, c1, c2, c3, c4⟩ := ato (H.out.keep HB.out) (show k < X.length by rw [HL.out]; exact hlt)
      have HS : Hid (sellS c i (X.take (k + 1)) = sellS c i (X.take k) + sell1 c i (X.getD k zo)) := Lib.hid (sellS_take (by rw [HL.out]; exact hlt))
      have t1 := HT.out k
      have hqx : qtyB (X.getD k zo).qty = true := HQ.out _ (by
        rw [List.getD_eq_getElem?_getD, List.getElem?_eq_getElem (show k < X.length by rw [HL.out]; exact hlt)]
        exact List.getElem_mem _)
      generalize X.getD k zo = x at *
      generalize sellS c i (X.take k) = T at *
      obtain ⟨x1, x2⟩ := qtyB_iff.1 hqx
      obtain ⟨g, hg⟩ : ∃ g, g = wr.heap.size := ⟨_, rfl⟩
      obtain ⟨W1, hW1⟩ : ∃ W1, W1 = wr.alloc (.cells #[.int .i64 x.acct, .int .i64 x.id, .int .i64 x.instr, .int .i64 x.qty, .int .i64 x.price] 37) := ⟨_, rfl⟩
      have x0 : Blk W1 g #[.int .i64 x.acct, .int .i64 x.id, .int .i64 x.instr, .int .i64 x.qty, .int .i64 x.price] 37 := by rw [hW1, hg]; exact Blk.new wr _ _
      have hb1 : Below wr.heap.size wr W1 := by rw [hW1]; exact one_alloc _ _
      have HB1 := Lib.hid (below_next HB.out hb1); have HG := Lib.hid hg; have HW1 := Lib.hid hW1
      have d0 : W1.cell? ⟨g, 0, none⟩ = some (.int .i64 x.acct) := x0.cell 0
      have d2 : W1.cell? ⟨g, 2, none⟩ = some (.int .i64 x.instr) := x0.cell 2
      have d3 : W1.cell? ⟨g, 3, none⟩ = some (.int .i64 x.qty) := x0.cell 3
      have HX0 := Lib.hid x0
      clear hg hW1 hb1 x0 hqx
      have i1 : (0 : Int) ≤ (k : Int) := by omega
      have i2 : (k : Int) < (len : Int) := by omega
      go_upto_region 5 with (fail)
      rw [← HG.out, ← HW1.out]
      by_cases e1 : x.acct = c
      rotate_left
      · have b1 : (x.acct == c) = false := beq_eq_false_iff_ne.2 e1
        have HE : Hid (sell1 c i x = 0) := Lib.hid (by simp [sell1, e1])
        clear e1
        go_wp2
        go_roundg (len - (k + 1))
        case measure => omega
        case rel => exact ⟨k + 1, by omega, by rw [HS.out, HE.out, Int.add_zero], by go_num, HB1⟩
      have b1 : (x.acct == c) = true := beq_iff_eq.2 e1
      by_cases e2 : x.instr = i
      rotate_left
      · have b2 : (x.instr == i) = false := beq_eq_false_iff_ne.2 e2
        have HE : Hid (sell1 c i x = 0) := Lib.hid (by simp [sell1, e2])
        clear e1 e2
        go_wp2
        go_roundg (len - (k + 1))
        case measure => omega
        case rel => exact ⟨k + 1, by omega, by rw [HS.out, HE.out, Int.add_zero], by go_num, HB1⟩
      have b2 : (x.instr == i) = true := beq_iff_eq.2 e2
      by_cases e3 : x.qty < 0
      · have HE : Hid (sell1 c i x = -x.qty) := Lib.hid (by simp [sell1, e1, e2, e3])
        have iw : IntKind.i64.wrap (T - x.qty) = T - x.qty := IntWalk.i64_in _ (by omega)
        clear e1 e2
        go_wp2
        go_roundg (len - (k + 1))
        case measure => omega
        case rel => exact ⟨k + 1, by omega, by rw [HS.out, HE.out, ← Int.sub_eq_add_neg], by go_num, HB1⟩
      · have HE : Hid (sell1 c i x = 0) := Lib.hid (by simp [sell1, e3])
        clear e1 e2
        go_wp2
        go_roundg (len - (k + 1))
        case measure => omega
        case rel => exact ⟨k + 1, by omega, by rw [HS.out, HE.out, Int.add_zero], by go_num, HB1⟩
    · have HE : Hid (X.take k = X) := Lib.hid (List.take_of_length_le (by rw [HL.out]; omega))
      go_wp2
      go_ret
      exact ⟨by rw [HE.out] <;> rfl, HB.out⟩
end Go.Proofs.Ytpagkeklilgknaa.Bo

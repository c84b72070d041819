/-
  Layer 13: positions: Qty and Add of the program.
-/
import Derived.Test.YtpagkeklilgknaaIhp
namespace Go.Proofs.Ytpagkeklilgknaa.Bo
open Go.RowKit Rw
set_option linter.unusedVariables false
set_option linter.unusedSimpArgs false

def qtyOf (o : Option Ps) : Int := match o with | none => 0 | some y => y.qty
def addO (c d : Int) (o : Option Ps) (q : Int) : Option Ps := if qtyOf o + q = 0 then none else some ⟨c, d, qtyOf o + q⟩
def addE (n : Nat) (o : Option Ps) (q : Int) : Int := if qtyB q = false then 36 else if q = 0 then 0 else if o.isNone = true ∧ 64 ≤ n then 40 else if qtyB (qtyOf o + q) = false then 36 else 0
def addL (X L : List Ps) (o : Option Ps) (R : List Ps) (c d q : Int) : List Ps := if addE X.length o q ≠ 0 then [] else if q = 0 then X else L ++ ((addO c d o q).toList ++ R)
theorem getD_mid {α : Type} (L : List α) (y d : α) (R : List α) : (L ++ (y :: R)).getD L.length d = y := by simp [List.getD]
theorem set_mid {α : Type} (L : List α) (y z : α) (R : List α) : (L ++ (y :: R)).set L.length z = L ++ (z :: R) := by simp
def AddIt (X L : List Ps) (o : Option Ps) (R : List Ps) (c d q : Int) (w : World) (e : Ending) (w' : World) : Prop := ∃ v, e = .returned (.tuple #[v, .int .i64 (addE X.length o q)]) ∧ Own encp w' w.heap.size v (addL X L o R c d q) ∧ Below w.heap.size w w'
set_option maxRecDepth 100000 in
set_option maxHeartbeats 2000000 in
theorem qty_any (a : Option Addr) (len cap : Nat) (X L R : List Ps) (o : Option Ps) (c d : Int) (w : World) (h : Has encp w a X) (hl : X.length = len) (hm : len ≤ 4611686018427387903) (hd : Dec keyp X (c, d) L o R) :
    Calls Try.prog 18 #[.slice a len cap, .int .i64 c, .int .i64 d] w fun e w' => e = .returned (.int .i64 (qtyOf o)) ∧ Below w.heap.size w w' := by
  have hp := place_p a len cap X L R o c d w h hl hm hd
  have H := Lib.hid h
  cases o with
  | none =>
    clear h hd hl
    go_enter Try.func18, Try.ntmps18
    go_wp2_with (go_at_call 41; (with_reducible refine hp.mono ?_); rintro e w5 ⟨rfl, hb5⟩)
    go_ret
    exact ⟨rfl, hb5⟩
  | some y =>
    have hX : X = L ++ (y :: R) := hd.eq
    have hlt : L.length < X.length := hd.isSome_lt rfl
    have hg : X.getD L.length zp = y := by rw [hX]; exact getD_mid _ _ _ _
    obtain ⟨k, hk⟩ : ∃ k, k = L.length := ⟨_, rfl⟩
    rw [← hk] at hp hlt hg
    have i0 : (0 : Int) ≤ (k : Int) := by omega
    have i1 : (k : Int) < (len : Int) := by omega
    have HE : Hid (qtyOf (some y) = y.qty) := Lib.hid rfl
    have HC : Hid (∀ wx, Below w.heap.size w wx → ∃ b off, a = some ⟨b, off, none⟩ ∧ wx.cell? ⟨b, off + k * 3 + 2, none⟩ = some (.int .i64 y.qty)) := Lib.hid fun wx hb => by
      obtain ⟨b, off, e, _, _, c2⟩ := atp (H.out.keep hb) hlt
      rw [hg] at c2
      exact ⟨b, off, e, c2⟩
    obtain ⟨b, off, rfl, _⟩ := HC.out w (Below.refl _ _)
    clear h hd hl hX hg hlt hk
    go_enter Try.func18, Try.ntmps18
    go_wp2_with (go_at_call 41; (with_reducible refine hp.mono ?_); rintro e w5 ⟨rfl, hb5⟩; obtain ⟨b', off', e, c2⟩ := HC.out w5 hb5; cases e)
    go_ret
    exact ⟨by rw [HE.out] <;> rfl, hb5⟩
set_option maxRecDepth 100000 in
set_option maxHeartbeats 4000000 in
theorem add_any (a : Option Addr) (len cap : Nat) (X L R : List Ps) (o : Option Ps) (c d q : Int) (w : World) (h : Has encp w a X) (hl : X.length = len) (hlc : len ≤ cap) (hn : a = none → cap = 0) (hm : len ≤ 900) (hcm : cap ≤ 9223372036854775807) (hd : Dec keyp X (c, d) L o R) (hq : ∀ y, o = some y → qtyB y.qty = true) :
    Calls Try.prog 15 #[.slice a len cap, .int .i64 c, .int .i64 d, .int .i64 q] w (AddIt X L o R c d q w) := by
  unfold AddIt
  have hqq := quantity_any q w
  by_cases hQ : qtyB q = true
  rotate_left
  · have hQf : qtyB q = false := by simpa using hQ
    have HE : Hid (addE X.length o q = 36) := Lib.hid (by simp [addE, hQf])
    have HL : Hid (addL X L o R c d q = []) := Lib.hid (by unfold addL; rw [HE.out]; rfl)
    rw [hQf] at hqq
    rw [HE.out, HL.out]
    clear hQ hQf h hl hd
    go_enter Try.func15, Try.ntmps15
    go_wp2_with (go_at_call 39; (with_reducible refine hqq.mono ?_); rintro e w5 ⟨rfl, rfl⟩)
    go_ret2
    exact ⟨_, rfl, Own.nil _ _, Below.refl _ _⟩
  rw [hQ] at hqq
  by_cases h0 : q = 0
  · have HE : Hid (addE X.length o q = 0) := Lib.hid (by simp [addE, h0, qtyB])
    have HL : Hid (addL X L o R c d q = X) := Lib.hid (by unfold addL; rw [HE.out, if_neg (by simp), if_pos h0])
    rw [HE.out, HL.out]
    have hc := clone_p a len cap X w h hl hn (by omega)
    subst h0
    clear hQ h hl hd
    go_enter Try.func15, Try.ntmps15
    go_wp2_with (first | (go_at_call 39; (with_reducible refine hqq.mono ?_); rintro e w5 ⟨rfl, rfl⟩) | (go_at_call 40; (with_reducible refine hc.mono ?_); rintro e w6 ⟨v6, rfl, ho6, hb6⟩; have HO6 := Lib.hid ho6; clear ho6))
    go_ret2
    exact ⟨_, rfl, HO6.out, hb6⟩
  have b0 : (q == 0) = false := beq_eq_false_iff_ne.2 h0
  have hp := place_p a len cap X L R o c d w h hl (by omega) hd
  have H := Lib.hid h
  cases o with
  | none =>
    by_cases h64 : 64 ≤ len
    · have HE : Hid (addE X.length none q = 40) := Lib.hid (by simp [addE, h0, hQ, hl, h64])
      have HL : Hid (addL X L none R c d q = []) := Lib.hid (by unfold addL; rw [HE.out]; rfl)
      rw [HE.out, HL.out]
      have i0 : (64 : Int) ≤ (len : Int) := by omega
      clear hQ h hl hd h0
      go_enter Try.func15, Try.ntmps15
      go_wp2_with (first | (go_at_call 39; (with_reducible refine hqq.mono ?_); rintro e w5 ⟨rfl, rfl⟩) | (go_at_call 41; (with_reducible refine hp.mono ?_); rintro e w6 ⟨rfl, hb6⟩))
      go_ret2
      exact ⟨_, rfl, Own.nil _ _, hb6⟩
    · have HE : Hid (addE X.length none q = 0) := Lib.hid (by simp [addE, h0, hQ, hl, h64, qtyOf])
      have HL : Hid (addL X L none R c d q = L ++ ([⟨c, d, q⟩] ++ R)) := Lib.hid (by unfold addL; rw [HE.out, if_neg (by simp), if_neg h0]; simp [addO, qtyOf, h0])
      rw [HE.out, HL.out]
      have hX : X = L ++ R := hd.eq
      have i0 : ¬ (64 : Int) ≤ (len : Int) := by omega
      have HW : Hid (∀ wx, Below w.heap.size w wx → Calls Try.prog 42 #[.slice a len cap, .int .i64 (L.length : Int), .agg #[.int .i64 c, .int .i64 d, .int .i64 q]] wx fun e w' => ∃ v, e = .returned v ∧ Own encp w' wx.heap.size v (L ++ ([⟨c, d, q⟩] ++ R)) ∧ Below wx.heap.size wx w') :=
        Lib.hid fun wx hb => with_p a len cap L.length ⟨c, d, q⟩ L R wx (by rw [← hX]; exact h.keep hb) rfl (by rw [← hX]; exact hl) hlc hn hm hcm
      clear hQ h hl hd h0 hX
      generalize L.length = k at *
      go_enter Try.func15, Try.ntmps15
      go_wp2_with (first | (go_at_call 39; (with_reducible refine hqq.mono ?_); rintro e w5 ⟨rfl, rfl⟩) | (go_at_call 41; (with_reducible refine hp.mono ?_); rintro e w6 ⟨rfl, hb6⟩) | (go_at_call 42; (with_reducible refine (HW.out _ hb6).mono ?_); rintro e w7 ⟨v7, rfl, ho7, hb7⟩; have HO7 := Lib.hid ho7; clear ho7))
      go_ret2
      exact ⟨_, rfl, HO7.out.low hb6.size, below_next hb6 hb7⟩
  | some y =>
    have hX : X = L ++ (y :: R) := hd.eq
    have hlt : L.length < X.length := hd.isSome_lt rfl
    have hg : X.getD L.length zp = y := by rw [hX]; exact getD_mid _ _ _ _
    have hky : keyp y = (c, d) := hd.mid y rfl
    obtain ⟨k, hk⟩ : ∃ k, k = L.length := ⟨_, rfl⟩
    rw [← hk] at hp hlt hg
    have i0 : (0 : Int) ≤ (k : Int) := by omega
    have i1 : (k : Int) < (len : Int) := by omega
    obtain ⟨y1, y2⟩ := qtyB_iff.1 (hq y rfl)
    obtain ⟨q1, q2⟩ := qtyB_iff.1 hQ
    obtain ⟨t, ht⟩ : ∃ t, y.qty + q = t := ⟨_, rfl⟩
    have i2 : IntKind.i64.wrap (y.qty + q) = t := by rw [← ht]; exact IntWalk.i64_in _ (by omega)
    have hqt := fun w => quantity_any t w
    have HC : Hid (∀ wx, Below w.heap.size w wx → ∃ b off, a = some ⟨b, off, none⟩ ∧ wx.cell? ⟨b, off + k * 3 + 2, none⟩ = some (.int .i64 y.qty)) := Lib.hid fun wx hb => by
      obtain ⟨b, off, e, _, _, c2⟩ := atp (H.out.keep hb) hlt
      rw [hg] at c2
      exact ⟨b, off, e, c2⟩
    by_cases hT : qtyB t = true
    rotate_left
    · have hTf : qtyB t = false := by simpa using hT
      have HE : Hid (addE X.length (some y) q = 36) := Lib.hid (by simp [addE, h0, hQ, qtyOf, ht, hTf])
      have HL : Hid (addL X L (some y) R c d q = []) := Lib.hid (by unfold addL; rw [HE.out]; rfl)
      rw [HE.out, HL.out]
      simp only [hTf] at hqt
      obtain ⟨b, off, rfl, _⟩ := HC.out w (Below.refl _ _)
      clear hQ h hl hd h0 hX hg hlt hk hT hTf ht hq
      go_enter Try.func15, Try.ntmps15
      go_wp2_with (first | (go_at_call 39; (with_reducible refine hqq.mono ?_); rintro e w5 ⟨rfl, rfl⟩) | (go_at_call 39; (with_reducible refine (hqt _).mono ?_); rintro e w5 ⟨rfl, rfl⟩) | (go_at_call 41; (with_reducible refine hp.mono ?_); rintro e w6 ⟨rfl, hb6⟩; obtain ⟨b', off', e, c2⟩ := HC.out w6 hb6; cases e))
      go_ret2
      exact ⟨_, rfl, Own.nil _ _, hb6⟩
    simp only [hT] at hqt
    by_cases ht0 : t = 0
    · have HE : Hid (addE X.length (some y) q = 0) := Lib.hid (by simp [addE, h0, hQ, qtyOf, ht, hT])
      have HL : Hid (addL X L (some y) R c d q = L ++ R) := Lib.hid (by unfold addL; rw [HE.out, if_neg (by simp), if_neg h0]; simp [addO, qtyOf, ht, ht0])
      rw [HE.out, HL.out]
      have HW : Hid (∀ wx, Below w.heap.size w wx → Calls Try.prog 43 #[.slice a len cap, .int .i64 (k : Int)] wx fun e w' => ∃ v, e = .returned v ∧ Own encp w' wx.heap.size v (L ++ R) ∧ Below wx.heap.size wx w') :=
        Lib.hid fun wx hb => without_p a len cap k y L R wx (by rw [← hX]; exact h.keep hb) hk.symm (by rw [← hX]; exact hl) hlc hm hcm
      subst ht0
      obtain ⟨b, off, rfl, _⟩ := HC.out w (Below.refl _ _)
      clear hQ h hl hd h0 hX hg hlt hk hT ht hq
      go_enter Try.func15, Try.ntmps15
      go_wp2_with (first | (go_at_call 39; (with_reducible refine hqq.mono ?_); rintro e w5 ⟨rfl, rfl⟩) | (go_at_call 39; (with_reducible refine (hqt _).mono ?_); rintro e w5 ⟨rfl, rfl⟩) | (go_at_call 41; (with_reducible refine hp.mono ?_); rintro e w6 ⟨rfl, hb6⟩; obtain ⟨b', off', e, c2⟩ := HC.out w6 hb6; cases e) | (go_at_call 43; (with_reducible refine (HW.out _ hb6).mono ?_); rintro e w7 ⟨v7, rfl, ho7, hb7⟩; have HO7 := Lib.hid ho7; clear ho7))
      go_ret2
      exact ⟨_, rfl, HO7.out.low hb6.size, below_next hb6 hb7⟩
    · have HE : Hid (addE X.length (some y) q = 0) := Lib.hid (by simp [addE, h0, hQ, qtyOf, ht, hT])
      have HL : Hid (addL X L (some y) R c d q = L ++ ([⟨c, d, t⟩] ++ R)) := Lib.hid (by unfold addL; rw [HE.out, if_neg (by simp), if_neg h0]; simp [addO, qtyOf, ht, ht0])
      rw [HE.out, HL.out]
      have bt : (t == 0) = false := beq_eq_false_iff_ne.2 ht0
      have HW : Hid (∀ wx, Below w.heap.size w wx → Calls Try.prog 40 #[.slice a len cap] wx fun e w' => ∃ v, e = .returned v ∧ Own encp w' wx.heap.size v X ∧ Below wx.heap.size wx w') :=
        Lib.hid fun wx hb => clone_p a len cap X wx (h.keep hb) hl hn (by omega)
      have HS : Hid (X.set k { X.getD k zp with qty := t } = L ++ ([⟨c, d, t⟩] ++ R)) := Lib.hid (by
        rw [hg, hX, hk, set_mid]
        have e1 : y.acct = c := congrArg Prod.fst hky
        have e2 : y.instr = d := congrArg Prod.snd hky
        rw [← e1, ← e2]; rfl)
      have HLT := Lib.hid hlt; have HLL := Lib.hid hl
      obtain ⟨b, off, rfl, _⟩ := HC.out w (Below.refl _ _)
      clear hQ h hl hd h0 hX hg hlt hk hT ht hq ht0
      go_enter Try.func15, Try.ntmps15
      go_wp2_with (first | (go_at_call 39; (with_reducible refine hqq.mono ?_); rintro e w5 ⟨rfl, rfl⟩) | (go_at_call 39; (with_reducible refine (hqt _).mono ?_); rintro e w5 ⟨rfl, rfl⟩) | (go_at_call 41; (with_reducible refine hp.mono ?_); rintro e w6 ⟨rfl, hb6⟩; obtain ⟨b', off', e, c2⟩ := HC.out w6 hb6; cases e) | (go_at_call 40; (with_reducible refine (HW.out _ hb6).mono ?_); rintro e w7 ⟨v7, rfl, ho7, hb7⟩; obtain ⟨g7, c7, rfl, hg7, hgl7, hf7⟩ := ho7.block (by have := HLT.out; omega); rw [HLL.out] at ho7 ⊢; have HO7 := Lib.hid ho7; obtain ⟨e0, e1, e2⟩ := own_atp (X := X) (g := g7) (c := c7) (by rw [HLL.out]; exact ho7) HLT.out; have hfz := hf7 (k * 3 + 2); clear ho7 e0 e1 hf7))
      go_ret2
      refine ⟨_, rfl, ?_, below_next hb6 (hb7.setCell (p := ⟨g7, k * 3 + 2, none⟩) hg7 _)⟩
      have := own_setp_qty (w := w7) (base := w6.heap.size) (g := g7) (c := c7) (X := X) (by rw [HLL.out]; exact HO7.out) HLT.out t
      rw [HS.out, HLL.out] at this
      exact this.low hb6.size
end Go.Proofs.Ytpagkeklilgknaa.Bo

/-
  Layer 7: all the frames of some bytes; the program's Frames, Rest, visit.
-/
import Derived.Test.YtjgkjmegpinelaaDoorUi
import Derived.Test.YtjgkjmegpinelaaDoorUc
import Derived.Lib.SliceRun
namespace Go.Proofs.YtjgkjmegpinelaaDoor.Tg
open Go.RowKit Go.Shelf Dx Sx Rf
set_option linter.unusedVariables false
set_option linter.unusedSimpArgs false
attribute [local go_sem] Oper.semAt_some

def frN : Nat → List UInt8 → List (List Fld × Int) × Nat
  | 0, b => ([], b.length)
  | k + 1, b => if (decS b).2.2 = 10 then ([], b.length) else (((decS b).1, (decS b).2.2) :: (frN k (b.drop (decS b).2.1)).1, (frN k (b.drop (decS b).2.1)).2)
def framesS (b : List UInt8) : List (List Fld × Int) × Nat := frN b.length b
theorem decS_nil : decS [] = ([], 0, 10) := decS_wait0
  where decS_wait0 : decS [] = ([], 0, 10) := by unfold decS; rw [decE_nil]; rfl
theorem frN_short {k : Nat} {b : List UInt8} (h : (decS b).2.2 = 10) : frN k b = ([], b.length) := by
  cases k with
  | zero => rfl
  | succ k => rw [frN, if_pos h]
theorem frN_enough : ∀ (k j : Nat) (b : List UInt8), b.length ≤ k → b.length ≤ j → frN k b = frN j b
  | 0, j, b, h, _ => by
    have e : b = [] := List.eq_nil_of_length_eq_zero (by omega)
    subst e
    rw [frN_short (by rw [decS_nil]), frN_short (by rw [decS_nil])]
  | k + 1, 0, b, _, h => by
    have e : b = [] := List.eq_nil_of_length_eq_zero (by omega)
    subst e
    rw [frN_short (by rw [decS_nil]), frN_short (by rw [decS_nil])]
  | k + 1, j + 1, b, h1, h2 => by
    by_cases h : (decS b).2.2 = 10
    · rw [frN_short h, frN_short h]
    · obtain ⟨p1, p2⟩ := decS_pos h
      rw [frN, frN, if_neg h, if_neg h, frN_enough k j (b.drop (decS b).2.1) (by rw [List.length_drop]; omega) (by rw [List.length_drop]; omega)]
theorem framesS_short {b : List UInt8} (h : (decS b).2.2 = 10) : framesS b = ([], b.length) := frN_short h
theorem framesS_step {b : List UInt8} (h : (decS b).2.2 ≠ 10) : framesS b = (((decS b).1, (decS b).2.2) :: (framesS (b.drop (decS b).2.1)).1, (framesS (b.drop (decS b).2.1)).2) := by
  obtain ⟨p1, p2⟩ := decS_pos h
  have e : frN (b.length - 1) (b.drop (decS b).2.1) = framesS (b.drop (decS b).2.1) := frN_enough _ _ _ (by rw [List.length_drop]; omega) (Nat.le_refl _)
  rw [← e]
  unfold framesS
  obtain ⟨m, hm⟩ : ∃ m, b.length = m + 1 := ⟨b.length - 1, by omega⟩
  rw [hm, frN, if_neg h]
  rfl

/-! ### bytes.Clone, Frames -/
def CloneIt (b : List UInt8) (w : World) (e : Ending) (w' : World) : Prop := ∃ v, e = .returned v ∧ OwnG w' w.heap.size v b ∧ Below w.heap.size w w'
set_option maxRecDepth 100000 in
set_option maxHeartbeats 1000000 in
theorem clone_any (a : Option Addr) (len cap : Nat) (b : List UInt8) (w : World) (h : HasL w a b) (hl : b.length = len) (hn : a = none → cap = 0) (hm : len ≤ 1048576) :
    Calls Tryd.prog 33 #[.slice a len cap] w (CloneIt b w) := by
  unfold CloneIt
  cases a with
  | none =>
    have hb : b = [] := by
      rcases Nat.eq_zero_or_pos b.length with h0 | h0
      · exact List.eq_nil_of_length_eq_zero h0
      · obtain ⟨g, o, e, _⟩ := h.at h0; cases e
    subst hb
    have h0 := hn rfl
    simp at hl
    subst hl h0
    clear h hn
    have qn := fun w => Lib.run_eql_slice_nil (P := Tryd.prog) w 25 5 none 0 0 0 0 Tryd.underlying25
    go_enter Tryd.func33, Tryd.ntmps33
    go_wp2
    go_ret
    exact ⟨_, rfl, .inl ⟨rfl, rfl⟩, Below.refl _ _⟩
  | some ad =>
    have hb1 : Below w.heap.size w (w.alloc (.cells #[] 5)) := (Below.refl _ _).alloc (Nat.le_refl _) _
    have HLIT := Lib.hid (ownG_lit w _ rfl w.heap.size (Nat.le_refl _))
    have HB1 := Lib.hid hb1; have H := Lib.hid h; have HL := Lib.hid hl
    clear hb1 h hl hn
    have qn := fun w => Lib.run_eql_slice_nil (P := Tryd.prog) w 25 5 (some ad) len cap 0 0 Tryd.underlying25
    go_enter Tryd.func33, Tryd.ntmps33
    go_wp2_with (at_builtin; refine wp_apd_row rfl (.tmp 5) (.tmp 6) rfl w.heap.size _ [] b rfl HLIT.out _ _ _ rfl (H.out.keep HB1.out) HL.out (fun h => by cases h) (by have := HL.out; simp; omega) HB1.out.size ?_; intro v5 w5 ho5 hg5 hb5; have HO5 := Lib.hid ho5; have HB5 := Lib.hid (HB1.out.trans hb5); clear ho5 hg5 hb5)
    go_ret
    exact ⟨_, rfl, HO5.out, HB5.out⟩
def FramesIt (b : List UInt8) (w : World) (e : Ending) (w' : World) : Prop := ∃ p v, e = .returned (.func (.func 34) #[] #[.pointer (some ⟨p, 0, none⟩)]) ∧ w.heap.size ≤ p ∧ w'.heap[p]? = some (.cells #[v] 25 (0, 0)) ∧ OwnG w' w.heap.size v b ∧ Below w.heap.size w w'
set_option maxRecDepth 100000 in
set_option maxHeartbeats 1000000 in
theorem tframes_any (a : Option Addr) (len cap : Nat) (b : List UInt8) (w : World) (h : HasL w a b) (hl : b.length = len) (hn : a = none → cap = 0) (hm : len ≤ 1048576) :
    Calls Tryd.prog 20 #[.slice a len cap] w (FramesIt b w) := by
  have hc := clone_any a len cap b w h hl hn hm
  unfold CloneIt at hc
  unfold FramesIt
  clear h hl hn
  go_enter Tryd.func20, Tryd.ntmps20
  go_wp2_with fail
  refine hc.mono ?_
  rintro e w1 ⟨v, rfl, ho, hb⟩
  have hal : Below w1.heap.size w1 (w1.alloc (.cells #[v] 25)) := (Below.refl _ _).alloc (Nat.le_refl _) _
  have HO := Lib.hid (ho.keep hal); have HB := Lib.hid (hb.trans (hal.mono hb.size)); have HZ := Lib.hid hb.size
  have HH : Hid ((w1.alloc (.cells #[v] 25)).heap[w1.heap.size]? = some (.cells #[v] 25)) := Lib.hid (MapKept.heap_alloc w1 _).1
  obtain ⟨ax, cx, rfl, _⟩ := ho.row
  clear ho hb hal hc
  go_wp2
  go_ret
  exact ⟨_, _, rfl, HZ.out, HH.out, HO.out, HB.out⟩

/-! ### Rest -/
theorem has_tail {a : Option Addr} {b : List UInt8} {k n : Nat} {bb off : Nat} (h : ∀ A, HasL A a b → HasL A (some ⟨bb, off, none⟩) (b.drop k)) (hn : k + n ≤ b.length) : ∀ A, HasL A a b → HasL A (some ⟨bb, off + n, none⟩) (b.drop (k + n)) := fun A hA => by
  have := (h A hA).back n (by rw [List.length_drop]; omega)
  rwa [List.drop_drop] at this
theorem has_end {a' : Option Addr} {a : Option Addr} {b : List UInt8} {k : Nat} (hn : b.length ≤ k) : ∀ A, HasL A a b → HasL A a' (b.drop k) := fun A hA => by
  rw [List.drop_eq_nil_of_le hn]
  exact ⟨Nat.le_refl _, by decide, fun h => absurd h (by decide)⟩
set_option maxRecDepth 100000 in
theorem rest1_any (x y : Value) (w : World) : Calls Tryd.prog 36 #[x, y] w fun e w' => e = .returned (.bool true) ∧ w = w' := by
  go_enter Tryd.func36, Tryd.ntmps36
  go_wp2
  go_ret
  exact ⟨rfl, rfl⟩
def RestIt (b : List UInt8) (w : World) (e : Ending) (w' : World) : Prop := e = .returned (.int .i64 ((framesS b).2 : Int)) ∧ Below w.heap.size w w'
set_option maxRecDepth 100000 in
set_option maxHeartbeats 2000000 in
theorem visitR_any (a : Option Addr) (len cap : Nat) (b : List UInt8) (w : World) (h : HasL w a b) (hl : b.length = len) (hcap : len ≤ cap) (hm : len ≤ 1048576) (he : Env w) :
    Calls Tryd.prog 35 #[.slice a len cap, .func (.func 36) #[] #[]] w (RestIt b w) := by
  have H := Lib.hid h; have HL := Lib.hid hl; have HE := Lib.hid he
  clear h hl he
  unfold RestIt
  go_enter Tryd.func35, Tryd.ntmps35
  go_wp2
  go_loopg [0] len (fun m x wr => ∃ (k L C : Nat) (a' : Option Addr), m = L ∧ k + L = len ∧ k + C = cap ∧ x = .slice a' L C ∧ Hid (∀ A, HasL A a b → HasL A a' (b.drop k)) ∧ Hid ((framesS b).2 = (framesS (b.drop k)).2) ∧ Hid (Below w.heap.size w wr))
  case atStart => exact ⟨0, len, cap, a, rfl, by omega, by omega, rfl, Lib.hid fun A h => h, Lib.hid rfl, Lib.hid (Below.refl _ _)⟩
  case round =>
    obtain ⟨k, L, C, a', rfl, hkL, hkC, rfl, HA, HF, HB⟩ := hrel
    have hra := HA.out wr (H.out.keep HB.out)
    have hrl : (b.drop k).length = gk := by rw [List.length_drop, HL.out]; omega
    have hdec := Decode_any a' gk C (b.drop k) wr hra hrl (by omega) (by omega) (HE.out.keep HB.out)
    unfold DecIt at hdec
    by_cases h10 : (decS (b.drop k)).2.2 = 10
    · have HR : Hid ((framesS b).2 = gk) := Lib.hid (by rw [HF.out, framesS_short h10]; exact hrl)
      rw [h10] at hdec
      clear hra hrl h10 HF
      go_wp2_with fail
      refine hdec.mono ?_
      rintro e w3 ⟨v, rfl, ho, hb3⟩
      have HB3 := Lib.hid (HB.out.trans (hb3.mono HB.out.size))
      clear ho hb3 hdec
      go_wp2
      go_ret
      exact ⟨by rw [HR.out] <;> rfl, HB3.out⟩
    · obtain ⟨p1, p2⟩ := decS_pos h10
      have hst := framesS_step h10
      rw [List.drop_drop] at hst
      have HF2 : Hid ((framesS b).2 = (framesS (b.drop (k + (decS (b.drop k)).2.1))).2) := Lib.hid (by rw [HF.out, hst])
      have hne : ((decS (b.drop k)).2.2 == 10) = false := beq_eq_false_iff_ne.2 h10
      rw [hrl] at p2
      obtain ⟨bb, off, rfl, _⟩ := hra.at (by omega)
      clear hst hra hrl h10 HF
      generalize (decS (b.drop k)).1 = F at *
      generalize (decS (b.drop k)).2.1 = n at *
      generalize (decS (b.drop k)).2.2 = E at *
      go_wp2_with fail
      refine hdec.mono ?_
      rintro e w3 ⟨v, rfl, ho, hb3⟩
      have HB3 := Lib.hid (HB.out.trans (hb3.mono HB.out.size))
      obtain ⟨ax, cx, rfl, _⟩ := ho.has
      clear ho hb3 hdec
      have i0 : (0 : Int) ≤ (n : Int) := by omega
      have i1 : (n : Int) ≤ (gk : Int) := by omega
      by_cases hnC : n < C
      · have i2 : (n : Int) < (C : Int) := by omega
        go_wp2_with (go_at_call 36; (with_reducible refine (rest1_any _ _ _).mono ?_); rintro e wz ⟨rfl, rfl⟩)
        go_roundg (gk - n)
        case measure => omega
        case rel => exact ⟨k + n, gk - n, C - n, some ⟨bb, off + n, none⟩, rfl, by omega, by omega, rfl, Lib.hid (has_tail HA.out (by rw [HL.out]; omega)), HF2, HB3⟩
      · obtain rfl : n = C := by omega
        go_wp2_with (go_at_call 36; (with_reducible refine (rest1_any _ _ _).mono ?_); rintro e wz ⟨rfl, rfl⟩)
        go_roundg (gk - n)
        case measure => omega
        case rel => exact ⟨k + n, gk - n, 0, _, rfl, by omega, by omega, rfl, Lib.hid (has_end (by rw [HL.out]; omega)), HF2, HB3⟩
set_option maxRecDepth 100000 in
theorem rest_any (a : Option Addr) (len cap : Nat) (b : List UInt8) (w : World) (h : HasL w a b) (hl : b.length = len) (hcap : len ≤ cap) (hm : len ≤ 1048576) (he : Env w) :
    Calls Tryd.prog 21 #[.slice a len cap] w (RestIt b w) := by
  have hv := visitR_any a len cap b w h hl hcap hm he
  unfold RestIt at hv ⊢
  clear h hl he
  go_enter Tryd.func21, Tryd.ntmps21
  go_wp2_with (go_at_call 35; (with_reducible refine hv.mono ?_); rintro e w1 ⟨rfl, hb⟩)
  go_ret
  exact ⟨rfl, hb⟩
end Go.Proofs.YtjgkjmegpinelaaDoor.Tg

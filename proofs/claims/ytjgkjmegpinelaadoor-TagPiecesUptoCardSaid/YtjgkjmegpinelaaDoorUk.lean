/-
  Layer 7: the program's visit and Frames' iterator in a range over a function.
-/
import Derived.Test.YtjgkjmegpinelaaDoorUj
import Derived.Shelf.Abstract
import Derived.Shelf.RegionOpen
import Derived.OwnWalkIn
import Derived.TacticsInMore
import Derived.LoopIn
import Derived.Sort.LoopGhostIn
namespace Go.Proofs.YtjgkjmegpinelaaDoor.Tg
open Go.RowKit Go.Shelf Dx Sx Rf
set_option linter.unusedVariables false
set_option linter.unusedSimpArgs false
attribute [local go_sem] Oper.semAt_some

/-- What is handed over: the slice's own value, and what it holds, with the error. -/
abbrev Itm := Value × (List Fld × Int)
theorem round_any {m m' : Nat} {P : Program} {l : Nat} {f : FuncId} {tmps : Array Value} {assign body : Code} {w : World} {R : Ending → World → Prop}
    (h : RoundIn Fence.wide m P l f tmps assign body w R) : RoundIn Fence.wide m' P l f tmps assign body w R := ⟨h.1, fun c cs _ => h.2 c cs (room_wide _)⟩
theorem yield_any {m m' : Nat} {P : Program} {l : Nat} {args : Array Value} {W : World} {R : Ending → World → Prop} (h : YieldAt Fence.wide m P l args W R) : YieldAt Fence.wide m' P l args W R := by
  obtain ⟨fn, tmps, assign, body, hy, hR⟩ := h
  exact ⟨fn, tmps, assign, body, hy, round_any hR⟩
/-- What a round over the frames is told, and what it must tell. -/
def Rounds (l : Nat) (b : List UInt8) (J Jx : List Itm → World → Prop) : Prop := ∀ (m : Nat) (pre : List Itm) (x : Itm) (A W1 : World), J pre A → Below A.heap.size A W1 → OwnF W1 A.heap.size x.1 x.2.1 → (pre ++ [x]).map Prod.snd <+: (framesS b).1 →
  YieldAt Fence.wide m Tryd.prog l #[x.1, .int .i64 x.2.2] W1 fun e W' => (e = .returned (.bool true) ∧ J (pre ++ [x]) W') ∨ (e = .returned (.bool false) ∧ Jx (pre ++ [x]) W')
set_option maxRecDepth 100000 in
set_option maxHeartbeats 4000000 in
theorem visit_iter (n l : Nat) (hn1 : 1 ≤ n) (a : Option Addr) (len cap : Nat) (b : List UInt8) (hl : b.length = len) (hcap : len ≤ cap) (hm : len ≤ 1048576) (J Jx : List Itm → World → Prop)
    (hJ : ∀ pre A B, J pre A → Below A.heap.size A B → J pre B) (hE : ∀ pre A, J pre A → Env A ∧ HasL A a b) (hY : Rounds l b J Jx) (W : World) (h0 : J [] W) :
    CallsIn Fence.wide n Tryd.prog 35 #[.slice a len cap, .func (.yield l) #[] #[]] W fun e W' => (∃ v, e = .returned v) ∧ ((∃ xs, xs.map Prod.snd = (framesS b).1 ∧ J xs W') ∨ (∃ pre, Jx pre W')) := by
  have HL := Lib.hid hl; have HE := Lib.hid hE; have HJ := Lib.hid hJ; have HY := Lib.hid hY; have H0 := Lib.hid h0
  clear hl hE hJ hY h0
  refine callsIn_of_wp Tryd.func35 rfl trivial ?_ rfl
  simp only [Tryd.ntmps35, List.size_toArray, List.length_cons, List.length_nil, Nat.reduceAdd, Nat.reduceSub, Array.replicate_succ, Array.replicate_zero, List.push_toArray, List.append_toArray, List.nil_append, List.cons_append]
  gi_wp2
  gi_loopg [0] len (fun m x wr => ∃ (pre : List Itm) (k L C : Nat) (a' : Option Addr), m = L ∧ k + L = len ∧ k + C = cap ∧ x = .slice a' L C ∧ Hid (∀ A, HasL A a b → HasL A a' (b.drop k)) ∧ Hid ((framesS b).1 = pre.map Prod.snd ++ (framesS (b.drop k)).1) ∧ Hid (J pre wr))
  case atStart => exact ⟨[], 0, len, cap, a, rfl, by omega, by omega, rfl, Lib.hid fun A h => h, Lib.hid rfl, H0⟩
  case round =>
    obtain ⟨pre, k, L, C, a', rfl, hkL, hkC, rfl, HA, HF, HJa⟩ := hrel
    obtain ⟨henv, hrow⟩ := HE.out pre wr HJa.out
    have hra := HA.out wr hrow
    have hrl : (b.drop k).length = gk := by rw [List.length_drop, HL.out]; omega
    have hdec := Decode_any a' gk C (b.drop k) wr hra hrl (by omega) (by omega) henv
    unfold DecIt at hdec
    by_cases h10 : (decS (b.drop k)).2.2 = 10
    · have HR : Hid (pre.map Prod.snd = (framesS b).1) := Lib.hid (by rw [HF.out, framesS_short h10, List.append_nil])
      rw [h10] at hdec
      clear hra hrl h10 HF henv hrow
      gi_wp2_with fail
      refine ⟨trivial, ?_⟩
      gi_at_call 16
      refine (callsIn_wide.2 hdec).mono ?_
      rintro e w3 ⟨v, rfl, ho, hb3⟩
      have HJ3 := Lib.hid (HJ.out _ _ _ HJa.out hb3)
      clear ho hb3 hdec
      gi_wp2
      refine ⟨(fun f h => by cases h), ?_⟩
      gi_wp2
      go_ret
      exact ⟨⟨_, rfl⟩, .inl ⟨pre, HR.out, HJ3.out⟩⟩
    · obtain ⟨p1, p2⟩ := decS_pos h10
      have hst := framesS_step h10
      rw [List.drop_drop] at hst
      have HF2 : Hid ((framesS b).1 = (pre.map Prod.snd ++ [((decS (b.drop k)).1, (decS (b.drop k)).2.2)]) ++ (framesS (b.drop (k + (decS (b.drop k)).2.1))).1) := Lib.hid (by rw [HF.out, hst]; simp)
      have hne : ((decS (b.drop k)).2.2 == 10) = false := beq_eq_false_iff_ne.2 h10
      rw [hrl] at p2
      obtain ⟨bb, off, rfl, _⟩ := hra.at (by omega)
      clear hst hra hrl h10 HF henv hrow
      generalize (decS (b.drop k)).1 = F at *
      generalize (decS (b.drop k)).2.1 = nn at *
      generalize (decS (b.drop k)).2.2 = E at *
      gi_wp2_with fail
      refine ⟨trivial, ?_⟩
      gi_at_call 16
      refine (callsIn_wide.2 hdec).mono ?_
      rintro e w3 ⟨v, rfl, ho, hb3⟩
      have hyl := HY.out (n - 1) pre (v, (F, E)) wr w3 HJa.out hb3 ho (by rw [HF2.out, List.map_append]; exact List.prefix_append _ _)
      have HF3 : Hid ((framesS b).1 = (pre ++ [(v, (F, E))]).map Prod.snd ++ (framesS (b.drop (k + nn))).1) := Lib.hid (by rw [HF2.out, List.map_append]; rfl)
      obtain ⟨fn, tmps, assign, body, hy, hR⟩ := hyl
      simp only at hy
      have HR := Lib.hid hR
      obtain ⟨ax, cx, rfl, _⟩ := ho.has
      clear ho hb3 hdec HF2 hR
      gi_wp2
      refine HR.out.mono ?_
      rintro e W3 (⟨rfl, hJ3⟩ | ⟨rfl, hx⟩)
      · have HJ3 := Lib.hid hJ3
        clear hJ3 hy HR
        have i0 : (0 : Int) ≤ (nn : Int) := by omega
        have i1 : (nn : Int) ≤ (gk : Int) := by omega
        by_cases hnC : nn < C
        · have i2 : (nn : Int) < (C : Int) := by omega
          gi_wp2
          gi_roundg (gk - nn)
          case measure => omega
          case rel => exact ⟨_, k + nn, gk - nn, C - nn, some ⟨bb, off + nn, none⟩, rfl, by omega, by omega, rfl, Lib.hid (has_tail HA.out (by rw [HL.out]; omega)), HF3, HJ3⟩
        · obtain rfl : nn = C := by omega
          gi_wp2
          gi_roundg (gk - nn)
          case measure => omega
          case rel => exact ⟨_, k + nn, gk - nn, 0, _, rfl, by omega, by omega, rfl, Lib.hid (has_end (by rw [HL.out]; omega)), HF3, HJ3⟩
      · have HX := Lib.hid hx
        clear hx hy HR
        gi_wp2
        go_ret
        exact ⟨⟨_, rfl⟩, .inr ⟨_, HX.out⟩⟩
set_option maxRecDepth 100000 in
set_option maxHeartbeats 1000000 in
theorem frames_iter (n l p : Nat) (hn1 : 2 ≤ n) (a : Option Addr) (len cap : Nat) (b : List UInt8) (hl : b.length = len) (hcap : len ≤ cap) (hm : len ≤ 1048576) (J Jx : List Itm → World → Prop)
    (hJ : ∀ pre A B, J pre A → Below A.heap.size A B → J pre B) (hE : ∀ pre A, J pre A → Env A ∧ HasL A a b) (hY : Rounds l b J Jx) (W : World) (hp : W.heap[p]? = some (.cells #[.slice a len cap] 25 (0, 0))) (h0 : J [] W) :
    CallsIn Fence.wide n Tryd.prog 34 #[.func (.yield l) #[] #[], .pointer (some ⟨p, 0, none⟩)] W fun e W' => (∃ v, e = .returned v) ∧ ((∃ xs, xs.map Prod.snd = (framesS b).1 ∧ J xs W') ∨ (∃ pre, Jx pre W')) := by
  have hc : W.cell? ⟨p, 0, none⟩ = some (.slice a len cap) := by rw [Lib.cell_of_heap hp]; rfl
  have hv := visit_iter (n - 1) l (by omega) a len cap b hl hcap hm J Jx hJ hE hY W h0
  have HV := Lib.hid hv
  have h1 : 1 ≤ n := by omega
  clear hl hE hJ hY h0 hp hv
  refine callsIn_of_wp Tryd.func34 rfl trivial ?_ rfl
  simp only [Tryd.ntmps34, List.size_toArray, List.length_cons, List.length_nil, Nat.reduceAdd, Nat.reduceSub, Array.replicate_succ, Array.replicate_zero, List.push_toArray, List.append_toArray, List.nil_append, List.cons_append]
  gi_wp2_with fail
  refine ⟨trivial, ?_⟩
  gi_at_call 35
  refine HV.out.mono ?_
  rintro e w3 ⟨⟨v, rfl⟩, hr⟩
  have HR := Lib.hid hr
  clear hr HV
  gi_wp2
  go_end0
  exact ⟨⟨_, rfl⟩, HR.out⟩
end Go.Proofs.YtjgkjmegpinelaaDoor.Tg

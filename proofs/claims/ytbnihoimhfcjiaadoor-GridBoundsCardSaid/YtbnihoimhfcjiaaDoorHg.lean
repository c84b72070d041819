/-
  Layer 12: All, the law of a range over it.
-/
import Derived.Test.YtbnihoimhfcjiaaDoorHf
import Derived.Test.YtbnihoimhfcjiaaDoorGr
import Derived.Shelf.Abstract
import Derived.Shelf.RegionOpen
import Derived.OwnWalkIn
import Derived.TacticsInMore
import Derived.LoopIn
import Derived.Sort.LoopGhostIn
namespace Go.Proofs.YtbnihoimhfcjiaaDoor.Gr
open Go.RowKit Go.Shelf Rf
open Go.Proofs.YtbnihoimhfcjiaaDoor.Fx Ot Ao
set_option linter.unusedVariables false
set_option linter.unusedSimpArgs false
attribute [local go_sem] Oper.semAt_some

theorem yield_any {m m' : Nat} {P : Program} {l : Nat} {args : Array Value} {W : World} {R : Ending → World → Prop} (h : YieldAt Fence.wide m P l args W R) : YieldAt Fence.wide m' P l args W R := by
  obtain ⟨fn, tmps, assign, body, hy, hR⟩ := h
  exact ⟨fn, tmps, assign, body, hy, hR.1, fun c cs _ => hR.2 c cs (room_wide _)⟩
/-- What is handed over for scenario s. -/
abbrev enc12 (s : Nat) : Array Value := #[.int .i64 (s : Int), .agg #[.int .i64 (shP s), .int .i64 (shV s)]]
def Rounds (l : Nat) (J Jx : List Nat → World → Prop) : Prop := ∀ (m : Nat) (pre : List Nat) (A : World), J pre A → pre.length < 21 →
  YieldAt Fence.wide m Tryd.prog l (enc12 pre.length) A fun e W' => (e = .returned (.bool true) ∧ J (pre ++ [pre.length]) W') ∨ (e = .returned (.bool false) ∧ Jx (pre ++ [pre.length]) W')
set_option maxRecDepth 100000 in
set_option maxHeartbeats 4000000 in
theorem all_iter (nf l : Nat) (hn1 : 1 ≤ nf) (J Jx : List Nat → World → Prop) (hJ : ∀ pre A B, J pre A → Below A.heap.size A B → J pre B) (hE : ∀ pre A, J pre A → Tabs A) (hY : Rounds l J Jx) (W : World) (h0 : J [] W) :
    CallsIn Fence.wide nf Tryd.prog 22 #[.func (.yield l) #[] #[]] W fun e W' => (∃ v, e = .returned v) ∧ ((∃ xs, xs.length = 21 ∧ J xs W') ∨ (∃ pre, Jx pre W')) := by
  have HE := Lib.hid hE; have HJ := Lib.hid hJ; have HY := Lib.hid hY; have H0 := Lib.hid h0
  clear hE hJ hY h0
  refine callsIn_of_wp Tryd.func22 rfl trivial ?_ rfl
  simp only [Tryd.ntmps22, List.size_toArray, List.length_cons, List.length_nil, Nat.reduceAdd, Nat.reduceSub, Array.replicate_succ, Array.replicate_zero, List.push_toArray, List.append_toArray, List.nil_append, List.cons_append]
  gi_wp2
  gi_loopg [3] 21 (fun m x wr => ∃ (pre : List Nat), pre.length + m = 21 ∧ x = .int .i64 (pre.length : Int) ∧ Hid (J pre wr))
  case atStart => exact ⟨[], by simp, rfl, H0⟩
  case round =>
    obtain ⟨pre, hk, rfl, HJa⟩ := hrel
    by_cases hlt : pre.length < 21
    · have hsh := shifts_any pre.length hlt wr (HE.out _ _ HJa.out)
      obtain ⟨k, hkk⟩ : ∃ k, pre.length = k := ⟨_, rfl⟩
      have HK := Lib.hid hkk
      rw [hkk] at hsh hlt hk ⊢
      clear hkk
      gi_wp2_with fail
      refine ⟨trivial, ?_⟩
      gi_at_call 23
      refine (callsIn_wide.2 hsh).mono ?_
      rintro e w3 ⟨rfl, hb3⟩
      have hJ3 := HJ.out _ _ _ HJa.out hb3
      have hyl := HY.out (nf - 1) pre w3 hJ3 (by rw [HK.out]; exact hlt)
      rw [HK.out] at hyl
      obtain ⟨fn, tmps, assign, body, hy, hR⟩ := hyl
      have HR := Lib.hid hR
      have HLN : Hid ((pre ++ [k]).length = k + 1) := Lib.hid (by rw [List.length_append, HK.out]; rfl)
      clear hJ3 hb3 hsh hR
      gi_wp2
      refine HR.out.mono ?_
      rintro e W3 (⟨rfl, hJ3⟩ | ⟨rfl, hx⟩)
      · have HJ3 := Lib.hid hJ3
        clear hJ3 hy HR
        gi_wp2
        gi_roundg (20 - k)
        case measure => omega
        case rel => exact ⟨pre ++ [k], by rw [HLN.out]; omega, by rw [HLN.out]; go_num, HJ3⟩
      · have HX := Lib.hid hx
        clear hx hy HR
        gi_wp2
        exact ⟨rfl, _, results_none rfl _ _ _, ⟨_, rfl⟩, .inr ⟨_, HX.out⟩⟩
    · have h21 : Hid (pre.length = 21) := Lib.hid (by omega)
      gi_wp2
      exact ⟨rfl, _, results_none rfl _ _ _, ⟨_, rfl⟩, .inl ⟨pre, h21.out, HJa.out⟩⟩

theorem wp_all {g : Operand} {ps : Array Tmp} {assign body : Code} {Q : Exit → Act → World → Prop} {a : Act} {w : World}
    (hg : a.eval g = .func (.func 22) #[] #[]) (hps : ps.size = 2)
    (I : List Nat → World → Prop) (Ix : Code → List Nat → World → Prop) (hI : Stands w.heap.size I) (hIx : ∀ c, Stands w.heap.size (Ix c)) (hE : ∀ pre A, I pre A → Tabs A) (h0 : I [] w)
    (hround : ∀ (l : Nat) (pre : List Nat) (x : Nat) (W : World), I pre W → (x = pre.length ∧ x < 21) → ∀ (K : Act → World → Prop),
      (∀ a' W2, Below W.heap.size W W2 → (∀ o, I pre (W2.putObj (w.heap.size + 1) o) → (x = pre.length ∧ x < 21) → w.heap.size + 1 < W.heap.size → body.wpIn (Fence.wide.inRound (w.heap.size + 1)) 4 Tryd.prog (roundEnd w.heap.size (fun _ _ => True) I Ix (pre ++ [x]) (W2.putObj (w.heap.size + 1) o)) a' (W2.putObj (w.heap.size + 1) o)) → K a' W2) →
      assign.wpIn (Fence.wide.inRound l) 4 Tryd.prog (Exit.then K (fun _ _ _ => False)) { tmps := (ps.zip (enc12 x)).foldl (fun t (p, v) => t.setIfInBounds p v) a.tmps, defers := [] } W)
    (hdone : ∀ (xs : List Nat) (W : World), xs.length = 21 → I xs W → W.heap[w.heap.size]? = some (.deferred (some [])) → Q .normal { a with defers := { target := .collected w.heap.size, args := #[] } :: a.defers } W)
    (hstop : ∀ (c : Code) (pre : List Nat) (W : World), Ix c pre W → W.heap[w.heap.size]? = some (.deferred (some [])) → c.wp Tryd.prog Q { a with defers := { target := .collected w.heap.size, args := #[] } :: a.defers } W) :
    (Code.rangeFunc g ps assign body).wp Tryd.prog Q a w := by
  refine wp_range3 (gf := 22) (lb := #[]) (encs := enc12) hg (enters_of Tryd.func22 (by kernel_rfl) rfl) (fun _ => hps.symm) (fun xs => xs.length = 21) (fun _ => True) (fun pre x _ => x = pre.length ∧ x < 21)
    (fun _ _ _ _ h _ _ => h) I Ix hI hIx h0 ?_ hround hdone (fun c pre W _ h => hstop c pre W h)
  intro Rd Dn hRd hDn hRs W1 hI1 hR1 hb1 hY
  refine (all_iter 5 (w.heap.size + 1) (by decide) (fun pre W => I pre W ∧ Rd W) (fun pre W => ∃ c, Ix c pre W ∧ Dn c W) (fun pre A B h hb => ⟨hI _ _ _ none h.1 ⟨hb.os, hb.tape, hb.output, hb.size, fun k hk _ => hb.block k hk⟩ (.inl rfl), hRd _ _ none h.2 ⟨hb.os, hb.tape, hb.output, hb.size, fun k hk _ => hb.block k hk⟩ (by simp) (by simp)⟩)
    (fun pre A h => hE pre A h.1) ?_ W1 ⟨hI1, hR1⟩).mono ?_
  · rintro m pre A ⟨h1, h2⟩ hpre
    refine yield_any (m := 4) ?_
    obtain ⟨fn, tm, asg, bd, hy, hR⟩ := hY pre pre.length A h1 h2 ⟨rfl, hpre⟩
    refine ⟨fn, tm, asg, bd, hy, hR.mono ?_⟩
    rintro e W' (⟨h, q1, q2⟩ | ⟨h, q⟩)
    · exact .inl ⟨h, q1, q2⟩
    · exact .inr ⟨h, q⟩
  · rintro e W' ⟨hv, (⟨xs, hl, h2, h3⟩ | ⟨pre, c, h1, h2⟩)⟩
    · exact ⟨hv, .inl ⟨_, hl, h2, h3⟩⟩
    · exact ⟨hv, .inr ⟨pre, c, trivial, h1, h2⟩⟩
end Go.Proofs.YtbnihoimhfcjiaaDoor.Gr

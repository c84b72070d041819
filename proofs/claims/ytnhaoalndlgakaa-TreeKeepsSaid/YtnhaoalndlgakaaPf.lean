/-
  Layer 10: the program's Above, the law of a range over it, Depth.
-/
import Derived.Test.YtnhaoalndlgakaaPe
import Derived.Test.YtnhaoalndlgakaaUi
import Derived.Shelf.Abstract
import Derived.Shelf.RegionOpen
import Derived.OwnWalkIn
import Derived.TacticsInMore
import Derived.LoopIn
import Derived.Sort.LoopGhostIn
namespace Go.Proofs.Ytnhaoalndlgakaa.Tr
open Go.RowKit Go.Shelf Rf
set_option linter.unusedVariables false
set_option linter.unusedSimpArgs false
attribute [local go_sem] Oper.semAt_some

/-- An iterator that goes over a path: its boxes (the account's p, the list's q), the list's clone. -/
structure It where
  p : Nat
  q : Nat
  n : Nat
  a : Option Addr
  cap : Nat
  z : List Int
def gfO : Option It → FuncId
  | none => 19
  | some _ => 21
def lbO : Option It → Array Value
  | none => #[]
  | some i => #[.pointer (some ⟨i.p, 0, none⟩), .pointer (some ⟨i.q, 0, none⟩)]
def xsO : Option It → List Int
  | none => []
  | some i => pth i.z i.n
structure ItOk (W : World) (N : Nat) (i : It) : Prop where
  hp : N ≤ i.p
  hq : N ≤ i.q
  bp : Bx W i.p (.int .i64 (i.n : Int)) 3
  bq : Bx W i.q (.slice i.a i.z.length i.cap) 22
  own : OwnN W N (.slice i.a i.z.length i.cap) i.z
  lt : i.n < i.z.length
  dn : Dn i.z (i.n + 1)
def IsIt (W : World) (N : Nat) : Option It → Prop
  | none => True
  | some i => ItOk W N i
theorem ItOk.row {W : World} {N : Nat} {i : It} (h : ItOk W N i) : HasZ W i.a i.z := by
  obtain ⟨a2, c2, e, h2, _⟩ := h.own.has
  cases e
  exact h2
theorem ItOk.kept {A B : World} {N : Nat} {i : It} {row : Option Nat} (h : ItOk A N i) (hg : A.grownBy B row) (hr : ∀ r, row = some r → r < N ∨ A.heap.size ≤ r) : ItOk B N i := by
  refine ⟨h.hp, h.hq, h.bp.gone hg fun e => ?_, h.bq.gone hg fun e => ?_, h.own.gone hg fun k hk e => ?_, h.lt, h.dn⟩
  · have := hr _ e; have := h.hp; have := h.bp.lt; omega
  · have := hr _ e; have := h.hq; have := h.bq.lt; omega
  · have := hr _ e; have := h.own.lt hk; omega
theorem IsIt.kept {A B : World} {N : Nat} {o : Option It} {row : Option Nat} (h : IsIt A N o) (hg : A.grownBy B row) (hr : ∀ r, row = some r → r < N ∨ A.heap.size ≤ r) : IsIt B N o := by
  cases o with
  | none => trivial
  | some i => exact ItOk.kept h hg hr
theorem IsIt.keep {A B : World} {N : Nat} {o : Option It} (h : IsIt A N o) (hb : Below A.heap.size A B) : IsIt B N o := h.kept (grown_of_below hb none) (fun r e => by cases e)

set_option maxRecDepth 100000 in
set_option maxHeartbeats 1000000 in
theorem above_any (a : Option Addr) (len cap : Nat) (z : List Int) (v : Int) (w : World) (h : HasZ w a z) (hl : z.length = len) (hn : a = none → cap = 0) :
    Calls Try.prog 13 #[.slice a len cap, .int .i64 v] w fun e w' => ∃ o, e = .returned (.func (.func (gfO o)) #[] (lbO o)) ∧ IsIt w' w.heap.size o ∧ xsO o = aboveS z v ∧ Below w.heap.size w w' := by
  obtain ⟨D, hD⟩ : ∃ D, D = w.heap.size := ⟨_, rfl⟩
  obtain ⟨W0, hW0⟩ : ∃ W0, W0 = (w.alloc (.cells #[.slice a len cap] 22)).alloc (.cells #[.int .i64 v] 3) := ⟨_, rfl⟩
  have b0 : Below D w W0 := by rw [hW0, hD]; exact ((Below.refl _ _).alloc (Nat.le_refl _) _).alloc (by rw [World.size_alloc]; omega) _
  have q0 : Bx W0 D (.slice a len cap) 22 := by
    rw [hW0, hD]
    exact (Bx.new w _ _).keep ((Below.refl _ _).alloc (Nat.le_refl _) _)
  have p0 : Bx W0 (D + 1) (.int .i64 v) 3 := by
    rw [hW0, hD]
    have := Bx.new (w.alloc (.cells #[.slice a len cap] 22)) (.int .i64 v) 3
    rwa [World.size_alloc] at this
  have h0 : HasZ W0 a z := h.keep (by rw [← hD]; exact b0)
  have hf := found_any a len cap z v W0 h0 hl
  have HN := Lib.hid hn; have HB0 := Lib.hid b0; have HQ0 := Lib.hid q0; have HP0 := Lib.hid p0; have HH0 := Lib.hid h0; have HL := Lib.hid hl; have HD := Lib.hid hD; have HW0 := Lib.hid hW0
  have hz0 : D + 2 ≤ W0.heap.size := p0.lt
  cases hfb : foundB z v with
  | false =>
    have HE := Lib.hid (above_no hfb)
    rw [hfb] at hf
    have HF := Lib.hid hf
    clear h hl hn hfb h0 b0 q0 p0 hf hD hW0
    rw [← HD.out]
    go_enter Try.func13, Try.ntmps13
    go_wp2_with fail
    rw [← HW0.out]
    refine HF.out.mono ?_
    rintro e w1 ⟨rfl, hb⟩
    have HB := Lib.hid (HB0.out.trans (hb.mono (by omega)))
    clear hb HF HW0 HB0 HQ0 HP0 HH0
    go_wp2
    go_ret
    exact ⟨none, rfl, trivial, by rw [HE.out] <;> rfl, HB.out⟩
  | true =>
    obtain ⟨n, rfl, hnl, h16, h2, hg⟩ := found_nat hfb
    rw [hfb] at hf
    have HE := Lib.hid (above_yes hfb); have HF := Lib.hid hf
    have HG := Lib.hid (hg.dn.less (show n + 1 ≤ z.length by omega))
    have HNL := Lib.hid hnl
    rw [hl] at h16 hnl
    clear h hl hn hfb h0 b0 q0 p0 hf hD hW0 hg h2
    rw [← HD.out]
    go_enter Try.func13, Try.ntmps13
    go_wp2_with fail
    rw [← HW0.out]
    refine HF.out.mono ?_
    rintro e w1 ⟨rfl, hb⟩
    have HB1 := Lib.hid (HB0.out.trans (hb.mono (by omega)))
    have HQ1 := Lib.hid (HQ0.out.keep hb); have HP1 := Lib.hid (HP0.out.keep hb); have HH1 := Lib.hid (HH0.out.keep hb)
    have hz1 : D + 2 ≤ w1.heap.size := HP1.out.lt
    clear hb HF HW0 HB0 HQ0 HP0 HH0
    have c1 := HQ1.out.cell
    rw [HD.out] at c1
    go_wp2_with fail
    clear c1
    refine (clone_any a len cap z w1 HH1.out HL.out HN.out (by omega)).mono ?_
    rintro e w2 ⟨u, rfl, ho, hb⟩
    have HB2 := Lib.hid (HB1.out.trans (hb.mono (by omega)))
    have HQ2 := Lib.hid (HQ1.out.keep hb); have HP2 := Lib.hid (HP1.out.keep hb); have HO2 := Lib.hid ho
    obtain ⟨a2, c2, rfl, hr2, _⟩ := ho.has
    clear hb ho HB1 HQ1 HP1 HH1 hr2
    have c2' := HQ2.out.cell; have f2 := HQ2.out.free
    rw [HD.out] at c2' f2
    go_wp2
    go_ret
    have hst : w2.grownBy (w2.setCell ⟨D, 0, none⟩ (.slice a2 z.length c2)) (some D) := set_grown _ _ _ _
    refine ⟨some ⟨D + 1, D, n, a2, c2, z⟩, by rw [HD.out] <;> rfl, ?_, HE.out.symm, ?_⟩
    · rw [← HD.out]
      exact ⟨by simp, Nat.le_refl _, HP2.out.gone hst (by simp), HQ2.out.set _, (HO2.out.low (base' := D) (by omega)).gone hst (fun k hk e => by have := (HO2.out.lt hk).1; have := Option.some.inj e; omega), HNL.out, HG.out⟩
    · rw [← HD.out]
      exact HB2.out.setCell (p := ⟨D, 0, none⟩) (Nat.le_refl _) _

/-! ### The iterators -/
theorem yield_any {m m' : Nat} {P : Program} {l : Nat} {args : Array Value} {W : World} {R : Ending → World → Prop} (h : YieldAt Fence.wide m P l args W R) : YieldAt Fence.wide m' P l args W R := by
  obtain ⟨fn, tmps, assign, body, hy, hR⟩ := h
  exact ⟨fn, tmps, assign, body, hy, hR.1, fun c cs _ => hR.2 c cs (room_wide _)⟩
/-- What a round over the path is told, and what it must tell. -/
def Rounds (l : Nat) (xs : List Int) (J Jx : List Int → World → Prop) : Prop := ∀ (m : Nat) (pre : List Int) (x : Int) (A : World), J pre A → (pre ++ [x]) <+: xs →
  YieldAt Fence.wide m Try.prog l #[.int .i64 x] A fun e W' => (e = .returned (.bool true) ∧ J (pre ++ [x]) W') ∨ (e = .returned (.bool false) ∧ Jx (pre ++ [x]) W')
theorem none_iter (nf l : Nat) (hn1 : 1 ≤ nf) (W : World) : CallsIn Fence.wide nf Try.prog 19 #[.func (.yield l) #[] #[]] W fun e W' => (∃ v, e = .returned v) ∧ W = W' := by
  refine callsIn_of_wp Try.func19 rfl trivial ?_ rfl
  simp only [Try.ntmps19, List.size_toArray, List.length_cons, List.length_nil, Nat.reduceAdd, Nat.reduceSub, Array.replicate_succ, Array.replicate_zero, List.push_toArray, List.append_toArray, List.nil_append, List.cons_append]
  gi_wp2
  exact ⟨rfl, _, results_none rfl _ _ _, ⟨_, rfl⟩, rfl⟩
set_option maxRecDepth 100000 in
set_option maxHeartbeats 4000000 in
theorem path_iter (nf l : Nat) (hn1 : 1 ≤ nf) (N : Nat) (i : It) (J Jx : List Int → World → Prop)
    (hE : ∀ pre A, J pre A → ItOk A N i) (hY : Rounds l (pth i.z i.n) J Jx) (W : World) (h0 : J [] W) :
    CallsIn Fence.wide nf Try.prog 21 #[.func (.yield l) #[] #[], .pointer (some ⟨i.p, 0, none⟩), .pointer (some ⟨i.q, 0, none⟩)] W fun e W' => (∃ v, e = .returned v) ∧ (J (pth i.z i.n) W' ∨ (∃ pre, Jx pre W')) := by
  obtain ⟨p, q, n, a, cap, z⟩ := i
  simp only at hE hY ⊢
  have hi := hE _ _ h0
  have hlt : n < z.length := hi.lt
  have hdn : Dn z (n + 1) := hi.dn
  have b1 : W.cell? ⟨p, 0, none⟩ = some (.int .i64 (n : Int)) := hi.bp.cell
  have HE := Lib.hid hE; have HY := Lib.hid hY; have H0 := Lib.hid h0; have HD := Lib.hid hdn; have HLT := Lib.hid hlt
  clear hE hY h0 hi hdn hlt
  refine callsIn_of_wp Try.func21 rfl trivial ?_ rfl
  simp only [Try.ntmps21, List.size_toArray, List.length_cons, List.length_nil, Nat.reduceAdd, Nat.reduceSub, Array.replicate_succ, Array.replicate_zero, List.push_toArray, List.append_toArray, List.nil_append, List.cons_append]
  gi_wp2
  clear b1
  gi_loopg [4] (pth z n).length (fun m x wr => ∃ (pre rest : List Int) (at' : Int), m = rest.length ∧ x = .int .i64 at' ∧ Hid (pth z n = pre ++ rest) ∧ Hid (J pre wr) ∧
    Hid ((at' = -1 ∧ rest = []) ∨ ∃ r : Nat, at' = (r : Int) ∧ r ≤ n ∧ rest = pth z r))
  case atStart => exact ⟨[], _, _, rfl, rfl, Lib.hid rfl, H0, Lib.hid (.inr ⟨n, rfl, Nat.le_refl _, rfl⟩)⟩
  case round =>
    obtain ⟨pre, rest, at', rfl, rfl, HP, HJ, HQ⟩ := hrel
    rcases HQ.out with ⟨rfl, rfl⟩ | ⟨r, rfl, hrn, hrq⟩
    · have HR : Hid (J (pth z n) wr) := Lib.hid (by rw [HP.out, List.append_nil]; exact HJ.out)
      clear HP HQ HJ
      gi_wp2
      refine ⟨(fun f h => by cases h), ?_⟩
      gi_wp2
      exact ⟨rfl, _, results_none rfl _ _ _, ⟨_, rfl⟩, .inl HR.out⟩
    · obtain ⟨rest2, at2, hp2, hr2, hq2⟩ : ∃ (rest2 : List Int) (at2 : Int), par z r = at2 ∧ rest = (r : Int) :: rest2 ∧ ((at2 = -1 ∧ rest2 = []) ∨ ∃ s : Nat, at2 = (s : Int) ∧ s ≤ n ∧ rest2 = pth z s) := by
        by_cases hr : par z r = -1
        · exact ⟨[], _, rfl, by rw [hrq, pth_root hr], .inl ⟨hr, rfl⟩⟩
        · rcases HD.out r (by omega) with h1 | ⟨h1, h2⟩
          · exact absurd h1 hr
          · exact ⟨_, _, rfl, by rw [hrq, pth_step (HD.out.less (by omega)) hr], .inr ⟨(par z r).toNat, by omega, by omega, rfl⟩⟩
      have HP2 : Hid (pth z n = (pre ++ [(r : Int)]) ++ rest2) := Lib.hid (by rw [HP.out, hr2, List.append_assoc]; rfl)
      have HQ2 := Lib.hid hq2
      have hrl : rest.length = rest2.length + 1 := by rw [hr2]; rfl
      have HP3 := Lib.hid hp2
      have hne : ((r : Int) != -1) = true := by rw [bne_iff_ne]; omega
      have hyl := HY.out (nf - 1) pre (r : Int) wr HJ.out (by rw [HP2.out]; exact List.prefix_append _ _)
      obtain ⟨fn, tmps, assign, body, hy, hR⟩ := hyl
      have HR := Lib.hid hR
      clear hp2 hr2 hq2 hrq HP HQ hR
      gi_wp2
      refine HR.out.mono ?_
      rintro e W3 (⟨rfl, hJ3⟩ | ⟨rfl, hx⟩)
      · have hi3 := HE.out _ _ hJ3
        have b2 : W3.cell? ⟨q, 0, none⟩ = some (.slice a z.length cap) := hi3.bq.cell
        obtain ⟨bb, off, e2, c3⟩ := hi3.row.at (show r < z.length by have := HLT.out; omega)
        have e2' : a = some ⟨bb, off, none⟩ := e2
        have c3' : W3.cell? ⟨bb, off + r, none⟩ = some (.int .i64 (par z r)) := c3
        clear e2 c3
        subst e2'
        rw [HP3.out] at c3'
        have HJ3 := Lib.hid hJ3
        have hrz : r < z.length := by have := HLT.out; omega
        clear hJ3 hy HR hi3
        gi_wp2
        gi_roundg rest2.length
        case measure => omega
        case rel => exact ⟨_, rest2, at2, rfl, rfl, HP2, HJ3, HQ2⟩
      · have HX := Lib.hid hx
        clear hx hy HR
        gi_wp2
        exact ⟨rfl, _, results_none rfl _ _ _, ⟨_, rfl⟩, .inr ⟨_, HX.out⟩⟩
end Go.Proofs.Ytnhaoalndlgakaa.Tr

/-
  Layer 7: the library's strings.SplitSeq, walked at this program: the pieces between the bytes 01, one by one.
-/
import Derived.Test.YtjgkjmegpinelaaDoorTo
import Derived.Test.YtjgkjmegpinelaaDoorTi
import Derived.Shelf.Abstract
import Derived.Shelf.RegionOpen
import Derived.OwnWalkIn
import Derived.TacticsInMore
import Derived.LoopIn
import Derived.Sort.LoopGhostIn
import Derived.Lib.IndexLaws
namespace Go.Proofs.YtjgkjmegpinelaaDoor.Tg
open Go.RowKit Go.Shelf Dx Sx Rf
set_option linter.unusedVariables false
set_option linter.unusedSimpArgs false
attribute [local go_sem] Oper.semAt_some

theorem splitS_index {s : List UInt8} {i : Nat} (h : Lib.indexByte s 1 = (i : Int)) : i < s.length ∧ splitS s = s.take i :: splitS (s.drop (i + 1)) := by
  obtain ⟨h1, h2⟩ := Lib.indexByte_some h
  have hi : i < s.length := (List.getElem?_eq_some_iff.1 h1).1
  have h3 : s[i] = 1 := (List.getElem?_eq_some_iff.1 h1).2
  refine ⟨hi, ?_⟩
  have hno : (1 : UInt8) ∉ s.take i := by
    intro hm
    obtain ⟨j, hj, e⟩ := List.getElem_of_mem hm
    rw [List.length_take] at hj
    have := h2 j (by omega)
    rw [List.getElem_take] at e
    exact this (by rw [List.getElem?_eq_getElem (by omega), e])
  have e : s = s.take i ++ 1 :: s.drop (i + 1) := by
    conv => lhs; rw [← List.take_append_drop i s, List.drop_eq_getElem_cons hi, h3]
  conv => lhs; rw [e]
  exact splitS_piece _ _ hno
theorem splitS_none {s : List UInt8} (h : Lib.indexByte s 1 = -1) : splitS s = [s] := by
  refine splitS_last s fun hm => ?_
  obtain ⟨j, hj, e⟩ := List.getElem_of_mem hm
  exact Lib.indexByte_none h j (by rw [List.getElem?_eq_getElem hj, e])
/-- The iterator's three blocks. -/
structure Caps (W : World) (N : Nat) (rest : List UInt8) : Prop where
  s : W.heap[N]? = some (.cells #[.string (bs rest)] 9 (0, 0))
  sep : W.heap[N + 1]? = some (.cells #[.string { data := #[1] }] 9 (0, 0))
  sav : W.heap[N + 2]? = some (.cells #[.int .i64 0] 3 (0, 0))
def Keep3 (N : Nat) (A B : World) : Prop := ∀ k, N ≤ k → k < N + 3 → B.heap[k]? = A.heap[k]?
theorem Caps.keep {A B : World} {N : Nat} {r : List UInt8} (h : Caps A N r) (hk : Keep3 N A B) : Caps B N r :=
  ⟨(hk N (Nat.le_refl _) (by omega)).trans h.s, (hk (N + 1) (by omega) (by omega)).trans h.sep, (hk (N + 2) (by omega) (by omega)).trans h.sav⟩
theorem Caps.put {A : World} {N : Nat} {r r' : List UInt8} (h : Caps A N r) : Caps (A.setCell ⟨N, 0, none⟩ (.string (bs r'))) N r' ∧ A.grownBy (A.setCell ⟨N, 0, none⟩ (.string (bs r'))) (some N) := by
  refine ⟨⟨?_, ?_, ?_⟩, ⟨rfl, rfl, rfl, by simp [World.setCell], fun k _ hk => Below.heap_setCell _ _ _ _ (fun e => hk (by rw [e]))⟩⟩
  · rw [setCell_eq_setRow A N 0 _ _ _ _ h.s]
    exact setRow_heap A N _ _ _ _ h.s
  · rw [Below.heap_setCell _ _ _ _ (by simp)]; exact h.sep
  · rw [Below.heap_setCell _ _ _ _ (by simp)]; exact h.sav
set_option maxRecDepth 100000 in
set_option maxHeartbeats 2000000 in
theorem split_iter (n l N : Nat) (hn : 2 ≤ n) (s : List UInt8) (hs : s.length ≤ 1000000000) (J : List (List UInt8) → World → Prop) (Jx : World → Prop)
    (hJ : ∀ pre A B row, J pre A → A.grownBy B row → (row = none ∨ row = some N) → J pre B)
    (hY : ∀ pre x W1, J pre W1 → x.length ≤ s.length ∧ pre.length ≤ s.length → YieldAt Fence.wide (n - 1) Tryd.prog l #[.string (bs x)] W1 fun e W' => (e = .returned (.bool true) ∧ J (pre ++ [x]) W' ∧ Keep3 N W1 W') ∨ (e = .returned (.bool false) ∧ False))
    (W : World) (hc : Caps W N s) (h0 : J [] W) :
    CallsIn Fence.wide n Tryd.prog 85 #[.func (.yield l) #[] #[], .pointer (some ⟨N + 1, 0, none⟩), .pointer (some ⟨N, 0, none⟩), .pointer (some ⟨N + 2, 0, none⟩)] W fun e W' => (∃ v, e = .returned v) ∧ J (splitS s) W' := by
  have h1 : 1 ≤ n := by omega
  have HJ := Lib.hid hJ; have HY := Lib.hid hY; have HC := Lib.hid hc; have H0 := Lib.hid h0
  have c1 : W.cell? ⟨N + 1, 0, none⟩ = some (.string { data := #[1] }) := by rw [Lib.cell_of_heap hc.sep]; rfl
  clear hJ hY hc h0
  refine callsIn_of_wp Tryd.func85 rfl trivial ?_ rfl
  simp only [Tryd.ntmps85, List.size_toArray, List.length_cons, List.length_nil, Nat.reduceAdd, Nat.reduceSub, Array.replicate_succ, Array.replicate_zero, List.push_toArray, List.append_toArray, List.nil_append, List.cons_append]
  gi_wp2
  gi_loopg [] (s.length) (fun m wr => ∃ (pre : List (List UInt8)) (rest : List UInt8), rest.length = m ∧ pre.length + rest.length ≤ s.length ∧ Hid (splitS s = pre ++ splitS rest) ∧ Hid (Caps wr N rest) ∧ Hid (J pre wr))
  case atStart => exact ⟨[], s, rfl, by simp, Lib.hid rfl, HC, H0⟩
  case round =>
    obtain ⟨pre, rest, rfl, hle, HP, HCa, HJa⟩ := hrel
    clear c1
    have c0 : wr.cell? ⟨N, 0, none⟩ = some (.string (bs rest)) := by rw [Lib.cell_of_heap HCa.out.s]; rfl
    have c1 : wr.cell? ⟨N + 1, 0, none⟩ = some (.string { data := #[1] }) := by rw [Lib.cell_of_heap HCa.out.sep]; rfl
    have c2 : wr.cell? ⟨N + 2, 0, none⟩ = some (.int .i64 0) := by rw [Lib.cell_of_heap HCa.out.sav]; rfl
    have hidx := Tryd.strings_Index_one (bs rest) 1 wr
    rw [bs_data] at hidx
    have hge := Lib.indexByte_ge rest 1
    have hrl : (bs rest).size = rest.length := rfl
    rcases (show Lib.indexByte rest 1 = -1 ∨ 0 ≤ Lib.indexByte rest 1 by omega) with hi | hi
    · have hsp := splitS_none hi
      rw [hi] at hidx
      have HP2 : Hid (splitS s = pre ++ [rest]) := Lib.hid (by rw [HP.out, hsp])
      obtain ⟨fn, tmps, assign, body, hy, hR⟩ := HY.out pre rest wr HJa.out ⟨by omega, by omega⟩
      have HR := Lib.hid hR
      clear hsp hi hge hR HP
      generalize bs rest = R at *
      gi_wp2_with (refine ⟨trivial, ?_⟩; gi_at_call 66; refine (callsIn_wide.2 hidx).mono ?_; rintro e w' ⟨rfl, rfl⟩)
      refine HR.out.mono ?_
      rintro e W3 (⟨rfl, hJ3, hk3⟩ | ⟨rfl, hf⟩)
      · gi_wp2
        go_end0
        exact ⟨⟨_, rfl⟩, by rw [HP2.out]; exact hJ3⟩
      · exact hf.elim
    · obtain ⟨i, hii⟩ : ∃ i : Nat, Lib.indexByte rest 1 = (i : Int) := ⟨(Lib.indexByte rest 1).toNat, by omega⟩
      obtain ⟨hil, hsp⟩ := splitS_index hii
      rw [hii] at hidx
      have HP2 : Hid (splitS s = (pre ++ [rest.take i]) ++ splitS (rest.drop (i + 1))) := Lib.hid (by rw [HP.out, hsp]; simp)
      obtain ⟨fn, tmps, assign, body, hy, hR⟩ := HY.out pre (rest.take i) wr HJa.out ⟨by rw [List.length_take]; omega, by omega⟩
      have HR := Lib.hid hR
      have sx : (bs rest).extract 0 i = bs (rest.take i) := by rw [bs_extract]; simp
      have sy : (bs rest).extract (i + 1) rest.length = bs (rest.drop (i + 1)) := by
        rw [bs_extract, List.take_of_length_le (by rw [List.length_drop]; omega)]
      have hdl : (rest.drop (i + 1)).length < rest.length := by rw [List.length_drop]; omega
      have HDL := Lib.hid hdl
      have i0 : (0 : Int) ≤ (i : Int) := by omega
      have i1 : (i : Int) < (rest.length : Int) := by omega
      clear hsp hi hge hR HP hii hdl
      have hDD : ∀ A, Caps A N rest → Caps (A.setCell ⟨N, 0, none⟩ (.string (bs (rest.drop (i + 1))))) N (rest.drop (i + 1)) ∧ A.grownBy (A.setCell ⟨N, 0, none⟩ (.string (bs (rest.drop (i + 1))))) (some N) := fun A h => h.put
      have HDD := Lib.hid hDD; clear hDD
      generalize hDe : bs (rest.drop (i + 1)) = D at *
      clear hDe
      generalize bs (rest.take i) = T at *
      obtain ⟨R, hRd⟩ : ∃ R, bs rest = R := ⟨_, rfl⟩
      rw [hRd] at c0 hidx hrl sx sy
      have HRD := Lib.hid hRd; clear hRd
      gi_wp2_with (refine ⟨trivial, ?_⟩; gi_at_call 66; refine (callsIn_wide.2 hidx).mono ?_; rintro e w' ⟨rfl, rfl⟩)
      refine HR.out.mono ?_
      rintro e W3 (⟨rfl, hJ3, hk3⟩ | ⟨rfl, hf⟩)
      · have HC3 := Lib.hid (HCa.out.keep hk3)
        have d0 : W3.cell? ⟨N, 0, none⟩ = some (.string R) := by rw [Lib.cell_of_heap HC3.out.s, HRD.out]; rfl
        have d1 : W3.cell? ⟨N + 1, 0, none⟩ = some (.string { data := #[1] }) := by rw [Lib.cell_of_heap HC3.out.sep]; rfl
        have f0 : W3.frozen? ⟨N, 0, none⟩ = false := Lib.frozen_of_heap HC3.out.s 0
        have HJ3 := Lib.hid hJ3
        clear c0 c1 c2 hJ3 hk3
        gi_wp2
        gi_roundg (rest.drop (i + 1)).length
        case measure => exact HDL.out
        case rel =>
          obtain ⟨k1, k2⟩ := HDD.out W3 HC3.out
          exact ⟨pre ++ [rest.take i], rest.drop (i + 1), rfl, by have := HDL.out; rw [List.length_append, List.length_singleton]; omega, HP2, Lib.hid k1, Lib.hid (HJ.out _ _ _ _ HJ3.out k2 (.inr rfl))⟩
      · exact hf.elim
end Go.Proofs.YtjgkjmegpinelaaDoor.Tg

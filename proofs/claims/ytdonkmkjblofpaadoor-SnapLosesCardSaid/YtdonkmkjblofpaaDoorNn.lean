/-
  Layer 6: the argument of the law on losses, opened; the law's mathematics.
-/
import Derived.Test.YtdonkmkjblofpaaDoorNQ
import Derived.Test.YtdonkmkjblofpaaDoorFl
namespace Go.Proofs.YtdonkmkjblofpaaDoor.Fo
open Go.ChangeShapes Go.WideShapes Go.ChangeAt Go.RowKit Go.Deep
set_option linter.unusedVariables false
section
variable {H : Type} {enc : TypeId × Value → H} {W : World} {d : DataW H} {p : List MemPlace}
set_option maxRecDepth 100000 in
theorem loss6_of {v : Value} {r : Reach} {b0 : Nat} (hv : Value.okWide Tryd.prog W r b0 44 v) (hw : ∀ n, n ∈ d.weights Tryd.prog 44 → n ≤ reachBytes) (h : DataW.Trod enc Tryd.prog W 0 (fun _ => true) true 44 v d p) :
    ∃ (a : Option Addr) (len cap : Nat) (R : Nat → Rw) (a2 : Option Addr) (len2 cap2 : Nat) (zs : List Int) (x1 x2 : Int), v = .agg #[.slice a len cap, .slice a2 len2 cap2, .int .i64 x1, .int .i64 x2] ∧ HasRows W a len R ∧ (∀ j, j < len → Sx.Bytes (R j).zs) ∧ Fr.IsRow .i64 W a2 len2 cap2 zs ∧ (Lit.int .i64 x1).wf = true := by
  have k3 : Tryd.prog.cellsOf 3 = 1 := by kernel_rfl
  have k22 : Tryd.prog.cellsOf 22 = 1 := by kernel_rfl
  have k39 : Tryd.prog.cellsOf 39 = 1 := by kernel_rfl
  have k6 : Tryd.prog.cellsOf 44 = 4 := by kernel_rfl
  simp only [Value.okWide, Tryd.underlying44] at hv
  obtain ⟨cs, rfl, hsz, _⟩ := hv
  obtain ⟨l⟩ := cs
  match l, hsz.trans k6 with
  | [c0, c1, c2, c3], _ =>
    obtain ⟨fuel, hf⟩ := h
    obtain ⟨xs, m, _, hy, hl, hlen, hx⟩ := DataW.trod_struct Tryd.underlying44 hf
    have x6 : xs.length = 4 := hlen
    match xs, x6, hy, hx with
    | [y0, y1, y2, y3], _, hy, hx =>
      have h0 := hx 0 _ rfl
      have h1 := hx 1 _ rfl
      have h2 := hx 2 _ rfl
      have h3 := hx 3 _ rfl
      simp [k22, Value.cells] at h0
      simp [k39, Value.cells] at h1
      simp [k3, Value.cells] at h2 h3
      obtain ⟨a1, e1, _, w1⟩ := DataW.trod_int Tryd.underlying3 h2
      obtain ⟨a3, e3, _, w3⟩ := DataW.trod_int Tryd.underlying3 h3
      obtain ⟨a0, len, cap, e0⟩ := shape_slice Tryd.underlying22 h0
      obtain ⟨a2, len2, cap2, e2⟩ := shape_slice Tryd.underlying39 h1
      simp at e0 e1 e2 e3
      subst e0 e1 e2 e3
      obtain ⟨R, hR, hB, _⟩ := rowsE_of (P := Tryd.prog) (W := W) (a := a0) (len := len) (cap := cap) Tryd.underlying22 Tryd.underlying26 Tryd.underlying5 (by kernel_rfl) (by kernel_rfl) (show Tryd.prog.bytesOf 5 = 1 from by kernel_rfl) (fun n hn => hw n (by
        have hd := congrArg Prod.fst hy
        simp only at hd
        rw [hd]
        simp only [List.map_cons, List.map_nil, DataW.weights, Tryd.underlying44]
        exact DataW.weights_mem_each (j := 0) rfl rfl n hn)) ⟨m, h0⟩
      obtain ⟨zs, hz, _⟩ := Fr.row_of Tryd.underlying39 Tryd.underlying3 (by kernel_rfl) ⟨m, h1⟩
      exact ⟨a0, len, cap, R, a2, len2, cap2, zs, a1, a3, rfl, hR, hB, hz, w1⟩
end
end Go.Proofs.YtdonkmkjblofpaaDoor.Fo
namespace Go.Proofs.YtdonkmkjblofpaaDoor.Sn
open Go.RowKit Go.Sort Dx Sx Dk Wl Fo
set_option linter.unusedVariables false
set_option linter.unusedSimpArgs false
def recOf (R : Nat → Rw) (i : Nat) : List Int := (R i).zs.take (R i).len
theorem rec_len {w : World} {r : Rw} (h : RowOk w r) : (r.zs.take r.len).length = r.len := by rw [List.length_take]; have := h.row.1; omega
/-- What was answered last, when j are: its number and its bytes. -/
def LastR (R : Nat → Rw) (j n : Nat) (N : List (Nat × List Int)) (lv : Int) (lb : Option Addr × Nat × Nat) : Prop :=
  (j = 0 ∧ n = 0 ∧ N = [] ∧ lv = -1 ∧ lb = (none, 0, 0)) ∨ ∃ i, j = i + 1 ∧ N = [(n, recOf R i)] ∧ lv = (n : Int) ∧ lb = ((R i).a, (R i).len, (R i).cap)
/-- What is found: nothing, what was answered last, or what was under way. -/
def FoundR (R : Nat → Rw) (len : Nat) (M : List (Nat × List Int)) (lv : Int) (lb : Option Addr × Nat × Nat) (nv : Int) (nb : Option Addr × Nat × Nat) : Prop :=
  (M = [] ∧ lv = -1 ∧ lb = (none, 0, 0)) ∨ (∃ m i, M.getLast? = some (m, recOf R i) ∧ i < len ∧ lv = ((m : Nat) : Int) ∧ lb = ((R i).a, (R i).len, (R i).cap)) ∨
  (∃ m i, M.getLast? = some (m, recOf R i) ∧ i < len ∧ lv ≠ ((m : Nat) : Int) ∧ nv = (m : Int) ∧ nb = ((R i).a, (R i).len, (R i).cap))
structure Rest6 (R : Nat → Rw) (len n : Nat) (S : St) (Dr : List File) (M : List (Nat × List Int)) : Prop where
  fs : S.fs = Dr ++ sfs M
  dr : IsDr Dr
  up : Up (M ++ [(n + 1, [122])])
  few : M.length ≤ 2
  size : used (sfs M) ≤ 600000
  mem : ∀ p ∈ M, ∃ i, i < len ∧ p.2 = recOf R i
theorem used_one (p : Nat × List Int) : used (sfs [p]) = 12 + p.2.length := by
  show (encN p.1 p.2).length + 0 = _
  rw [enc_length]; omega
theorem used_two (p q : Nat × List Int) : used (sfs [p, q]) = (12 + p.2.length) + (12 + q.2.length) := by
  show (encN p.1 p.2).length + ((encN q.1 q.2).length + 0) = _
  rw [enc_length, enc_length]; omega
def Loss6 (W : World) (d : Nat) (R : Nat → Rw) (len j n' : Nat) (lv : Int) (lb : Option Addr × Nat × Nat) (e : Ending) (w' : World) : Prop :=
  (e = .returned (.int .i64 0) ∧ ∃ S', Ok W w' d S' ∧ S'.fs = sfs [(n', recOf R j)] ∧ S'.down = false ∧ S'.room = 2097152) ∨
  (e = .returned (.int .i64 20) ∧ ∃ S' Dr M, Ok W w' d S' ∧ S'.down = true ∧ S'.room = 2097152 ∧ Rest6 R len n' S' Dr M ∧ FoundR R len M lv lb (n' : Int) ((R j).a, (R j).len, (R j).cap))
theorem loss6_save {W w : World} {d : Nat} {S : St} {R : Nat → Rw} {a : Option Addr} {len j n n' : Nat} {N : List (Nat × List Int)} {lv : Int} {lb : Option Addr × Nat × Nat} (h : Ok W w d S) (ht : Tabs W) (rows : HasRows W a len R) (hby : ∀ i, i < len → Bytes (R i).zs) (hj : j < len) (hl : LastR R j n N lv lb) (hn : n < n') (hb : n' ≤ 65536) (hfs : S.fs = sfs N) (hup : S.down = false) (hroom : S.room = 2097152) (hsz : ∀ i, i < len → (R i).len ≤ 262144) :
    Calls Tryd.prog 21 #[.pointer (some ⟨d, 0, none⟩), .int .i64 (n' : Int), .slice (R j).a (R j).len (R j).cap] w (Loss6 W d R len j n' lv lb) := by
  have hok := (rows.keep h.frame).2.2 j hj
  have hlen : ∀ i, i < len → (recOf R i).length ≤ 262144 := fun i hi => by
    have := rec_len (rows.2.2 i hi); have := hsz i hi
    unfold recOf; omega
  have hN : N.length ≤ 1 ∧ used (sfs N) ≤ 262156 ∧ (∀ p ∈ N, p.1 = n ∧ ∃ i, i < len ∧ p.2 = recOf R i) := by
    rcases hl with ⟨_, _, rfl, _⟩ | ⟨i, rfl, rfl, _⟩
    · exact ⟨by decide, by decide, (fun p hp => by cases hp)⟩
    · refine ⟨by simp, by rw [used_one]; have := hlen i (by omega); simp only; omega, fun p hp => ?_⟩
      rw [List.mem_singleton] at hp; subst hp; exact ⟨rfl, i, by omega, rfl⟩
  have hU : ∀ l, Up (N ++ [(n', l)]) := fun l => by
    refine ⟨?_, fun p hp => ?_⟩
    · rcases hl with ⟨_, _, rfl, _⟩ | ⟨i, _, rfl, _⟩
      · simp
      · simp; exact hn
    · rcases List.mem_append.1 hp with hp | hp
      · have := (hN.2.2 p hp).1; omega
      · rw [List.mem_singleton] at hp; subst hp; simp only; omega
  obtain ⟨x, S', s1, s2, s3, s4⟩ := save_run (S := S) (Dr := []) (N := N) (n := n') (l := recOf R j) (by rw [List.nil_append]; exact hfs) (.inl rfl) (hU _) hup (by have := hlen j hj; omega) (by rw [hroom]; have := hlen j hj; omega) (by omega)
  have hrl : ((R j).zs.take (R j).len) = recOf R j := rfl
  refine (ok_save h ht (n' : Int) (R j).a (R j).len (R j).cap (R j).zs (hby j hj) hok.row hok.nil (by have := hsz j hj; omega) hrl s1).mono ?_
  rintro e w' ⟨rfl, ok'⟩
  by_cases hx : x = 0
  · subst hx
    have hd : S'.down = false := by
      rcases s2.1 with h | h
      · exact h.2
      · exact absurd h.1 (by decide)
    exact .inl ⟨rfl, S', ok', s3 rfl, hd, s2.2.2.trans hroom⟩
  · have hx20 : x = 20 ∧ S'.down = true := by
      rcases s2.1 with h | h
      · exact absurd h.1 hx
      · exact ⟨h.1, h.2.1⟩
    obtain ⟨rfl, hd⟩ := hx20
    refine .inr ⟨rfl, S', ?_⟩
    rcases s4 (by decide) with ⟨Dr', hD', hfs'⟩ | ⟨k, hfs'⟩
    · refine ⟨Dr', N, ok', hd, s2.2.2.trans hroom, ⟨hfs', hD', ⟨?_, ?_⟩, by omega, by omega, fun p hp => (hN.2.2 p hp).2⟩, ?_⟩
      · refine List.pairwise_append.2 ⟨(List.pairwise_append.1 (hU []).up).1, by simp, fun p hp q hq => ?_⟩
        rw [List.mem_singleton] at hq; subst hq
        have := (hN.2.2 p hp).1; simp only; omega
      · intro p hp
        rcases List.mem_append.1 hp with hp | hp
        · have := (hN.2.2 p hp).1; omega
        · rw [List.mem_singleton] at hp; subst hp; simp only; omega
      · rcases hl with ⟨_, _, rfl, h1, h2⟩ | ⟨i, hi, rfl, h1, h2⟩
        · exact .inl ⟨rfl, h1, h2⟩
        · exact .inr (.inl ⟨n, i, rfl, by omega, h1, h2⟩)
    · have hk : ∃ N', N.drop k = N' ∧ N'.length ≤ 1 ∧ used (sfs N') ≤ 262156 ∧ (∀ p ∈ N', p.1 = n ∧ ∃ i, i < len ∧ p.2 = recOf R i) ∧ ∀ l, Up (N' ++ [(n', l)]) := by
        rcases Nat.eq_zero_or_pos k with h0 | h0
        · subst h0; exact ⟨N, List.drop_zero, hN.1, hN.2.1, hN.2.2, hU⟩
        · exact ⟨[], List.drop_eq_nil_of_le (by omega), by decide, by decide, (fun p hp => by cases hp), fun l => up_one (by omega)⟩
      obtain ⟨N', e1, e2, e3, e4, e5⟩ := hk
      rw [e1] at hfs'
      refine ⟨[], N' ++ [(n', recOf R j)], ok', hd, s2.2.2.trans hroom, ⟨by rw [List.nil_append]; exact hfs', .inl rfl, ⟨?_, ?_⟩, by simp; omega, ?_, ?_⟩, .inr (.inr ⟨n', j, by simp, hj, ?_, rfl, rfl⟩)⟩
      · refine List.pairwise_append.2 ⟨(e5 _).up, by simp, fun p hp q hq => ?_⟩
        rw [List.mem_singleton] at hq; subst hq
        rcases List.mem_append.1 hp with hp | hp
        · have := (e4 p hp).1; simp only; omega
        · rw [List.mem_singleton] at hp; subst hp; simp only; omega
      · intro p hp
        rcases List.mem_append.1 hp with hp | hp
        · exact (e5 _).ok p hp
        · rw [List.mem_singleton] at hp; subst hp; simp only; omega
      · have : used (sfs (N' ++ [(n', recOf R j)])) = used (sfs N') + (12 + (recOf R j).length) := by
          unfold sfs; rw [List.map_append, used_append]
          show _ + used (sfs [(n', recOf R j)]) = _
          rw [used_one]
        rw [this]; have := hlen j hj; omega
      · intro p hp
        rcases List.mem_append.1 hp with hp | hp
        · exact (e4 p hp).2
        · rw [List.mem_singleton] at hp; subst hp; exact ⟨j, hj, rfl⟩
      · rcases hl with ⟨_, _, _, h1, _⟩ | ⟨i, _, _, h1, _⟩
        · omega
        · omega
end Go.Proofs.YtdonkmkjblofpaaDoor.Sn

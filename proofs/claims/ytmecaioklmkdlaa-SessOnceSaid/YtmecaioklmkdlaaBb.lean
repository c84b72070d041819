/-
  Layer 8: a line between two ends in memory.
-/
import Derived.Test.YtmecaioklmkdlaaAj
import Derived.Test.YtmecaioklmkdlaaBa
namespace Go.Proofs.Ytmecaioklmkdlaa.Ss
open Go.RowKit
set_option linter.unusedVariables false
set_option linter.unusedSimpArgs false

def up {α : Type} (f : Nat → α) (i : Nat) (x : α) : Nat → α := fun j => if j = i then x else f j
theorem up_same {α : Type} (f : Nat → α) (i : Nat) (x : α) : up f i x i = x := by simp [up]
theorem up_other {α : Type} (f : Nat → α) {i j : Nat} (x : α) (h : j ≠ i) : up f i x j = f j := by simp [up, h]
structure Line where
  e : Nat → Sd
  u : Nat → List Fm
  c : Nat → List ByteArray
def line0 : Line := ⟨fun _ => sd0, fun _ => [], fun _ => []⟩
/-- What holds of the line behind 'p' moves. -/
def Inv (L : Line) (p : Nat) : Prop := ∀ q, q < 2 → Half (L.e q) (L.e (1 - q)) (L.u q) (L.c q) ∧ (L.u q).length ≤ 64 * p
theorem inv_start : Inv line0 0 := fun q _ => ⟨half_start, Nat.zero_le _⟩
theorem two_of {m q : Nat} (hm : m < 2) (hq : q < 2) : q = m ∨ (q = 1 - m ∧ q ≠ m ∧ 1 - q = m ∧ 1 - m ≠ m) := by omega
theorem Inv.more {L : Line} {p : Nat} (h : Inv L p) : Inv L (p + 1) := fun q hq => ⟨(h q hq).1, by have := (h q hq).2; omega⟩
theorem inv_send {L : Line} {p m : Nat} (h : Inv L p) (hm : m < 2) {b : ByteArray} (hg : goodB ⟨(L.e m).S ++ [b], (L.e m).t, (L.e m).k⟩ = true) (hv : validB ⟨1, ((L.e m).S.length : Int) + 1, (L.e m).t, b⟩ = true) :
    Inv ⟨up L.e m ⟨(L.e m).S ++ [b], (L.e m).t, (L.e m).k⟩, up L.u (1 - m) (L.u (1 - m) ++ [⟨1, ((L.e m).S.length : Int) + 1, (L.e m).t, b⟩]), L.c⟩ (p + 1) := by
  intro q hq
  rcases two_of hm hq with rfl | ⟨e1, h2, h3, h4⟩
  · have hne : (1 - q) ≠ q := by omega
    simp only
    rw [up_same, up_other _ _ hne, up_other _ _ (fun e => hne e.symm)]
    exact ⟨half_send_me (h q hq).1 hg, by have := (h q hq).2; omega⟩
  · subst e1
    have hh := h (1 - m) hq
    simp only
    rw [up_same, up_other _ _ h4, h3, up_same]
    rw [h3] at hh
    exact ⟨half_send_it hh.1 hv, by have := hh.2; rw [List.length_append, List.length_singleton]; omega⟩
theorem inv_tick {L : Line} {p m : Nat} (h : Inv L p) (hm : m < 2) :
    Inv ⟨L.e, up L.u (1 - m) (L.u (1 - m) ++ [⟨3, (L.e m).S.length, (L.e m).t, em⟩]), L.c⟩ (p + 1) := by
  intro q hq
  rcases two_of hm hq with rfl | ⟨e1, h2, h3, h4⟩
  · have hne : q ≠ 1 - q := by omega
    simp only
    rw [up_other _ _ hne]
    exact ⟨(h q hq).1, by have := (h q hq).2; omega⟩
  · subst e1
    have hh := h (1 - m) hq
    simp only
    rw [up_same, h3]
    rw [h3] at hh
    exact ⟨half_tick hh.1 (h m hm).1.good, by have := hh.2; rw [List.length_append, List.length_singleton]; omega⟩
theorem inv_lose {L : Line} {p m : Nat} (h : Inv L p) (hm : m < 2) {V : List Fm} (hs : ∀ f ∈ V, f ∈ L.u m) (hl : V.length ≤ (L.u m).length) :
    Inv ⟨L.e, up L.u m V, L.c⟩ (p + 1) := by
  intro q hq
  rcases two_of hm hq with rfl | ⟨e1, h2, h3, h4⟩
  · simp only
    rw [up_same]
    exact ⟨half_lose (h q hq).1 hs, by have := (h q hq).2; omega⟩
  · simp only
    rw [up_other _ _ h2]
    exact ⟨(h q hq).1, by have := (h q hq).2; omega⟩
theorem inv_take {L : Line} {p m : Nat} (h : Inv L p) (hm : m < 2) {f : Fm} (hf : f ∈ L.u m) :
    (takeS (L.e m) f).2.2.2 = 0 ∧ (takeS (L.e m) f).2.2.1.length ≤ 64 ∧
    Inv ⟨up L.e m (takeS (L.e m) f).1, up L.u (1 - m) (L.u (1 - m) ++ (takeS (L.e m) f).2.2.1), if (takeS (L.e m) f).2.1 = em then L.c else up L.c m (L.c m ++ [(takeS (L.e m) f).2.1])⟩ (p + 1) := by
  have hi : 1 - m < 2 := by omega
  have hh := h (1 - m) hi
  have h3 : 1 - (1 - m) = m := by omega
  rw [h3] at hh
  obtain ⟨e0, e1, k1, k2⟩ := half_take (h m hm).1 hh.1 hf
  refine ⟨e0, e1, fun q hq => ?_⟩
  rcases two_of hm hq with rfl | ⟨e2, h2, h3, h4⟩
  · have hne : (1 - q) ≠ q := by omega
    simp only
    rw [up_same, up_other _ _ hne, up_other _ _ (fun e => hne e.symm)]
    refine ⟨?_, by have := (h q hq).2; omega⟩
    by_cases hm : (takeS (L.e q) f).2.1 = em
    · rw [if_pos hm] at k1 ⊢; exact k1
    · rw [if_neg hm] at k1 ⊢; rw [up_same]; exact k1
  · subst e2
    simp only
    rw [up_same, up_other _ _ h4, h3, up_same]
    refine ⟨?_, by have := hh.2; rw [List.length_append]; omega⟩
    by_cases hm : (takeS (L.e m) f).2.1 = em
    · rw [if_pos hm]; exact k2
    · rw [if_neg hm, up_other _ _ h4]; exact k2

theorem Blk.cast {W : World} {g : Nat} {cs ds : Array Value} {T : TypeId} (h : Blk W g cs T) (e : cs = ds) : Blk W g ds T := by rw [← e]; exact h
theorem arr6 (v : Nat → Value) (e : Nat → Sd) {m : Nat} (hm : m < 2) (v' : Value) (S : List ByteArray) (t k : Int) :
    (((#[v 0, .int .i64 (e 0).t, .int .i64 (e 0).k, v 1, .int .i64 (e 1).t, .int .i64 (e 1).k] : Array Value).setIfInBounds (m * 3) v').setIfInBounds (m * 3 + 1) (.int .i64 t)).setIfInBounds (m * 3 + 2) (.int .i64 k) =
      #[up v m v' 0, .int .i64 (up e m ⟨S, t, k⟩ 0).t, .int .i64 (up e m ⟨S, t, k⟩ 0).k, up v m v' 1, .int .i64 (up e m ⟨S, t, k⟩ 1).t, .int .i64 (up e m ⟨S, t, k⟩ 1).k] := by
  rcases (show m = 0 ∨ m = 1 by omega) with rfl | rfl <;> simp [up]
theorem arr2 (v : Nat → Value) (b : Nat) {m : Nat} (hm : m < 2) (v' : Value) : (#[v b, v (b + 1)] : Array Value).setIfInBounds m v' = #[up v (b + m) v' b, up v (b + m) v' (b + 1)] := by
  rcases (show m = 0 ∨ m = 1 by omega) with rfl | rfl <;> simp [up]
/-! ### In memory: rows 0, 1: what the ends sent; 2, 3: what is under way; 4, 5: what counted -/
structure Mem (W : World) (N g3 g4 g5 : Nat) (v : Nat → Value) (L : Line) : Prop where
  b3 : Blk W g3 #[v 0, .int .i64 (L.e 0).t, .int .i64 (L.e 0).k, v 1, .int .i64 (L.e 1).t, .int .i64 (L.e 1).k] 45
  b4 : Blk W g4 #[v 2, v 3] 46
  b5 : Blk W g5 #[v 4, v 5] 47
  oe : ∀ p, p < 2 → OwnS W N (v p) (L.e p).S
  ou : ∀ p, p < 2 → OwnX W N (v (2 + p)) (L.u p)
  oc : ∀ p, p < 2 → OwnS W N (v (4 + p)) (L.c p)
  ap : ∀ i j, i < 6 → j < 6 → i ≠ j → ∀ k, (v i).ownBlock = some k → (v j).ownBlock ≠ some k
  bx : ∀ i, i < 6 → ∀ k, (v i).ownBlock = some k → k ≠ g3 ∧ k ≠ g4 ∧ k ≠ g5
  ne : g3 ≠ g4 ∧ g3 ≠ g5 ∧ g4 ≠ g5
  le : N ≤ g3 ∧ N ≤ g4 ∧ N ≤ g5
section
variable {W W' : World} {N g3 g4 g5 : Nat} {v : Nat → Value} {L : Line}
theorem Mem.lt (h : Mem W N g3 g4 g5 v L) {i : Nat} (hi : i < 6) {k : Nat} (hk : (v i).ownBlock = some k) : N ≤ k ∧ k < W.heap.size := by
  rcases (show i < 2 ∨ (∃ j, i = 2 + j ∧ j < 2) ∨ (∃ j, i = 4 + j ∧ j < 2) by
    rcases (show i < 2 ∨ (2 ≤ i ∧ i < 4) ∨ (4 ≤ i ∧ i < 6) by omega) with h | h | h
    · exact .inl h
    · exact .inr (.inl ⟨i - 2, by omega, by omega⟩)
    · exact .inr (.inr ⟨i - 4, by omega, by omega⟩)) with h1 | ⟨j, rfl, h1⟩ | ⟨j, rfl, h1⟩
  · exact (h.oe i h1).lt k hk
  · exact (h.ou j h1).lt k hk
  · exact (h.oc j h1).lt k hk
theorem Mem.keep (h : Mem W N g3 g4 g5 v L) (hb : Below W.heap.size W W') : Mem W' N g3 g4 g5 v L :=
  ⟨h.b3.keep hb, h.b4.keep hb, h.b5.keep hb, fun p hp => (h.oe p hp).keep hb, fun p hp => (h.ou p hp).keep hb, fun p hp => (h.oc p hp).keep hb, h.ap, h.bx, h.ne, h.le⟩
theorem Mem.size (h : Mem W N g3 g4 g5 v L) : g3 < W.heap.size ∧ g4 < W.heap.size ∧ g5 < W.heap.size := ⟨h.b3.lt, h.b4.lt, h.b5.lt⟩
theorem Mem.c3 (h : Mem W N g3 g4 g5 v L) {m : Nat} (hm : m < 2) : W.cell? ⟨g3, m * 3, none⟩ = some (v m) ∧ W.cell? ⟨g3, m * 3 + 1, none⟩ = some (.int .i64 (L.e m).t) ∧ W.cell? ⟨g3, m * 3 + 2, none⟩ = some (.int .i64 (L.e m).k) := by
  rcases (show m = 0 ∨ m = 1 by omega) with rfl | rfl
  · exact ⟨h.b3.cell 0, h.b3.cell 1, h.b3.cell 2⟩
  · exact ⟨h.b3.cell 3, h.b3.cell 4, h.b3.cell 5⟩
theorem Mem.c4 (h : Mem W N g3 g4 g5 v L) {m : Nat} (hm : m < 2) : W.cell? ⟨g4, m, none⟩ = some (v (2 + m)) := by
  rcases (show m = 0 ∨ m = 1 by omega) with rfl | rfl
  · exact h.b4.cell 0
  · exact h.b4.cell 1
theorem Mem.c5 (h : Mem W N g3 g4 g5 v L) {m : Nat} (hm : m < 2) : W.cell? ⟨g5, m, none⟩ = some (v (4 + m)) := by
  rcases (show m = 0 ∨ m = 1 by omega) with rfl | rfl
  · exact h.b5.cell 0
  · exact h.b5.cell 1
theorem Mem.f3 (h : Mem W N g3 g4 g5 v L) (i : Nat) : W.frozen? ⟨g3, i, none⟩ = false := h.b3.free i
theorem Mem.f4 (h : Mem W N g3 g4 g5 v L) (i : Nat) : W.frozen? ⟨g4, i, none⟩ = false := h.b4.free i
theorem Mem.f5 (h : Mem W N g3 g4 g5 v L) (i : Nat) : W.frozen? ⟨g5, i, none⟩ = false := h.b5.free i
theorem OwnS.setN {w : World} {base : Nat} {v : Value} {S : List ByteArray} (h : OwnS w base v S) {g i : Nat} {u : Value} (hg : ∀ k, v.ownBlock = some k → k ≠ g) : OwnS (w.setCell ⟨g, i, none⟩ u) base v S :=
  h.gone (set_grown w g i u) (fun k hk e => hg k hk (Option.some.inj e).symm)
theorem OwnX.setN {w : World} {base : Nat} {v : Value} {X : List Fm} (h : OwnX w base v X) {g i : Nat} {u : Value} (hg : ∀ k, v.ownBlock = some k → k ≠ g) : OwnX (w.setCell ⟨g, i, none⟩ u) base v X :=
  h.gone (set_grown w g i u) (fun k hk e => hg k hk (Option.some.inj e).symm)
/-- A row of the line's becomes another, the other rows staying. -/
theorem ap_up (h : Mem W N g3 g4 g5 v L) {i : Nat} (hi : i < 6) {v' : Value} (hn : ∀ k, v'.ownBlock = some k → (v i).ownBlock = some k ∨ W.heap.size ≤ k) :
    (∀ a b, a < 6 → b < 6 → a ≠ b → ∀ k, (up v i v' a).ownBlock = some k → (up v i v' b).ownBlock ≠ some k) ∧ (∀ a, a < 6 → ∀ k, (up v i v' a).ownBlock = some k → k ≠ g3 ∧ k ≠ g4 ∧ k ≠ g5) := by
  obtain ⟨z3, z4, z5⟩ := h.size
  have key : ∀ b, b < 6 → b ≠ i → ∀ k, v'.ownBlock = some k → (v b).ownBlock ≠ some k := fun b hb hne k hk e => by
    rcases hn k hk with h1 | h1
    · exact h.ap i b hi hb (fun e => hne e.symm) k h1 e
    · have := (h.lt hb e).2; omega
  refine ⟨fun a b ha hb hab k hk e => ?_, fun a ha k hk => ?_⟩
  · by_cases h1 : a = i
    · subst h1
      rw [up_same] at hk
      rw [up_other _ _ (fun e => hab e.symm)] at e
      exact key b hb (fun e => hab e.symm) k hk e
    · rw [up_other _ _ h1] at hk
      by_cases h2 : b = i
      · subst h2
        rw [up_same] at e
        exact key a ha h1 k e hk
      · rw [up_other _ _ h2] at e
        exact h.ap a b ha hb hab k hk e
  · by_cases h1 : a = i
    · subst h1
      rw [up_same] at hk
      rcases hn k hk with h2 | h2
      · exact h.bx a ha k h2
      · refine ⟨?_, ?_, ?_⟩ <;> omega
    · rw [up_other _ _ h1] at hk
      exact h.bx a ha k hk
/-- An end is stored. -/
theorem Mem.side (h : Mem W N g3 g4 g5 v L) {m : Nat} (hm : m < 2) {v' : Value} {S : List ByteArray} {t k : Int} (ho : OwnS W N v' S) (hn : ∀ j, v'.ownBlock = some j → (∀ i, i < 6 → (v i).ownBlock ≠ some j) ∧ j ≠ g3 ∧ j ≠ g4 ∧ j ≠ g5) :
    Mem (((W.setCell ⟨g3, m * 3, none⟩ v').setCell ⟨g3, m * 3 + 1, none⟩ (.int .i64 t)).setCell ⟨g3, m * 3 + 2, none⟩ (.int .i64 k)) N g3 g4 g5 (up v m v') ⟨up L.e m ⟨S, t, k⟩, L.u, L.c⟩ := by
  obtain ⟨n1, n2, n3⟩ := h.ne
  have hap : (∀ a b, a < 6 → b < 6 → a ≠ b → ∀ k, (up v m v' a).ownBlock = some k → (up v m v' b).ownBlock ≠ some k) ∧ (∀ a, a < 6 → ∀ k, (up v m v' a).ownBlock = some k → k ≠ g3 ∧ k ≠ g4 ∧ k ≠ g5) := by
    refine ⟨fun a b ha hb hab k hk e => ?_, fun a ha k hk => ?_⟩
    · by_cases h1 : a = m
      · subst h1
        rw [up_same] at hk
        rw [up_other _ _ (fun e => hab e.symm)] at e
        exact (hn k hk).1 b hb e
      · rw [up_other _ _ h1] at hk
        by_cases h2 : b = m
        · subst h2
          rw [up_same] at e
          exact (hn k e).1 a ha hk
        · rw [up_other _ _ h2] at e
          exact h.ap a b ha hb hab k hk e
    · by_cases h1 : a = m
      · subst h1
        rw [up_same] at hk
        exact (hn k hk).2
      · rw [up_other _ _ h1] at hk
        exact h.bx a ha k hk
  have q2 : ∀ p, up v m v' (2 + p) = v (2 + p) := fun p => up_other _ _ (by omega)
  have q4 : ∀ p, up v m v' (4 + p) = v (4 + p) := fun p => up_other _ _ (by omega)
  refine ⟨?_, ?_, ?_, fun p hp => ?_, fun p hp => ?_, fun p hp => ?_, hap.1, hap.2, h.ne, h.le⟩
  · have hb := ((h.b3.set (m * 3) v').set (m * 3 + 1) (.int .i64 t)).set (m * 3 + 2) (.int .i64 k)
    rw [arr6 v L.e hm v' S t k] at hb
    exact hb
  · rw [up_other v v' (show 2 ≠ m by omega), up_other v v' (show 3 ≠ m by omega)]
    exact ((h.b4.other _ _ n1).other _ _ n1).other _ _ n1
  · rw [up_other v v' (show 4 ≠ m by omega), up_other v v' (show 5 ≠ m by omega)]
    exact ((h.b5.other _ _ n2).other _ _ n2).other _ _ n2
  · simp only
    by_cases h1 : p = m
    · subst h1
      rw [up_same, up_same]
      exact ((ho.setN fun k hk => (hn k hk).2.1).setN fun k hk => (hn k hk).2.1).setN fun k hk => (hn k hk).2.1
    · rw [up_other _ _ h1, up_other _ _ h1]
      exact (((h.oe p hp).setN fun k hk => (h.bx p (by omega) k hk).1).setN fun k hk => (h.bx p (by omega) k hk).1).setN fun k hk => (h.bx p (by omega) k hk).1
  · rw [q2]
    exact (((h.ou p hp).setN fun k hk => (h.bx (2 + p) (by omega) k hk).1).setN fun k hk => (h.bx (2 + p) (by omega) k hk).1).setN fun k hk => (h.bx (2 + p) (by omega) k hk).1
  · rw [q4]
    exact (((h.oc p hp).setN fun k hk => (h.bx (4 + p) (by omega) k hk).1).setN fun k hk => (h.bx (4 + p) (by omega) k hk).1).setN fun k hk => (h.bx (4 + p) (by omega) k hk).1
/-- What is under way to an end becomes another row, in a world in which its old row alone may have turned. -/
theorem Mem.und (h : Mem W N g3 g4 g5 v L) {i : Nat} (hi : i < 2) {v' : Value} {X : List Fm} (hg : W.grownBy W' (v (2 + i)).ownBlock) (ho : OwnX W' N v' X) (hn : ∀ k, v'.ownBlock = some k → (v (2 + i)).ownBlock = some k ∨ W.heap.size ≤ k) :
    Mem (W'.setCell ⟨g4, i, none⟩ v') N g3 g4 g5 (up v (2 + i) v') ⟨L.e, up L.u i X, L.c⟩ := by
  obtain ⟨n1, n2, n3⟩ := h.ne
  obtain ⟨z3, z4, z5⟩ := h.size
  have hi6 : 2 + i < 6 := by omega
  have hap := ap_up h hi6 hn
  have nb : ∀ g, (g = g3 ∨ g = g4 ∨ g = g5) → (v (2 + i)).ownBlock ≠ some g := fun g hg e => by
    obtain ⟨a, b, c⟩ := h.bx (2 + i) hi6 g e
    rcases hg with rfl | rfl | rfl
    · exact a rfl
    · exact b rfl
    · exact c rfl
  have hv4 : ∀ k, v'.ownBlock = some k → k ≠ g4 := fun k hk e => by
    have := hap.2 (2 + i) hi6 k (by rw [up_same]; exact hk)
    exact this.2.1 e
  have q0 : ∀ p, p < 2 → up v (2 + i) v' p = v p := fun p hp => up_other _ _ (by omega)
  have q4 : ∀ p, up v (2 + i) v' (4 + p) = v (4 + p) := fun p => up_other _ _ (by omega)
  refine ⟨?_, ?_, ?_, fun p hp => ?_, fun p hp => ?_, fun p hp => ?_, hap.1, hap.2, h.ne, h.le⟩
  · rw [q0 0 (by decide), q0 1 (by decide)]
    exact (h.b3.gone hg (nb g3 (.inl rfl))).other i _ (fun e => n1 e.symm)
  · have hb := (h.b4.gone hg (nb g4 (.inr (.inl rfl)))).set i v'
    rw [arr2 v 2 hi v'] at hb
    exact hb
  · rw [up_other v v' (show 4 ≠ 2 + i by omega), up_other v v' (show 5 ≠ 2 + i by omega)]
    exact (h.b5.gone hg (nb g5 (.inr (.inr rfl)))).other i _ n3
  · rw [q0 p hp]
    exact ((h.oe p hp).gone hg (fun k hk e => h.ap p (2 + i) (by omega) hi6 (by omega) k hk e)).setN (fun k hk => (h.bx p (by omega) k hk).2.1)
  · simp only
    by_cases h1 : p = i
    · subst h1
      rw [up_same, up_same]
      exact ho.setN hv4
    · rw [up_other _ _ (show 2 + p ≠ 2 + i by omega), up_other _ _ h1]
      exact ((h.ou p hp).gone hg (fun k hk e => h.ap (2 + p) (2 + i) (by omega) hi6 (by omega) k hk e)).setN (fun k hk => (h.bx (2 + p) (by omega) k hk).2.1)
  · rw [q4]
    exact ((h.oc p hp).gone hg (fun k hk e => h.ap (4 + p) (2 + i) (by omega) hi6 (by omega) k hk e)).setN (fun k hk => (h.bx (4 + p) (by omega) k hk).2.1)
/-- What counted at an end becomes another row. -/
theorem Mem.cnt (h : Mem W N g3 g4 g5 v L) {i : Nat} (hi : i < 2) {v' : Value} {X : List ByteArray} (hg : W.grownBy W' (v (4 + i)).ownBlock) (ho : OwnS W' N v' X) (hn : ∀ k, v'.ownBlock = some k → (v (4 + i)).ownBlock = some k ∨ W.heap.size ≤ k) :
    Mem (W'.setCell ⟨g5, i, none⟩ v') N g3 g4 g5 (up v (4 + i) v') ⟨L.e, L.u, up L.c i X⟩ := by
  obtain ⟨n1, n2, n3⟩ := h.ne
  obtain ⟨z3, z4, z5⟩ := h.size
  have hi6 : 4 + i < 6 := by omega
  have hap := ap_up h hi6 hn
  have nb : ∀ g, (g = g3 ∨ g = g4 ∨ g = g5) → (v (4 + i)).ownBlock ≠ some g := fun g hg e => by
    obtain ⟨a, b, c⟩ := h.bx (4 + i) hi6 g e
    rcases hg with rfl | rfl | rfl
    · exact a rfl
    · exact b rfl
    · exact c rfl
  have hv5 : ∀ k, v'.ownBlock = some k → k ≠ g5 := fun k hk e => by
    have := hap.2 (4 + i) hi6 k (by rw [up_same]; exact hk)
    exact this.2.2 e
  have q0 : ∀ p, p < 4 → up v (4 + i) v' p = v p := fun p hp => up_other _ _ (by omega)
  refine ⟨?_, ?_, ?_, fun p hp => ?_, fun p hp => ?_, fun p hp => ?_, hap.1, hap.2, h.ne, h.le⟩
  · rw [q0 0 (by decide), q0 1 (by decide)]
    exact (h.b3.gone hg (nb g3 (.inl rfl))).other i _ (fun e => n2 e.symm)
  · rw [q0 2 (by decide), q0 3 (by decide)]
    exact (h.b4.gone hg (nb g4 (.inr (.inl rfl)))).other i _ (fun e => n3 e.symm)
  · have hb := (h.b5.gone hg (nb g5 (.inr (.inr rfl)))).set i v'
    rw [arr2 v 4 hi v'] at hb
    exact hb
  · rw [q0 p (by omega)]
    exact ((h.oe p hp).gone hg (fun k hk e => h.ap p (4 + i) (by omega) hi6 (by omega) k hk e)).setN (fun k hk => (h.bx p (by omega) k hk).2.2)
  · rw [q0 (2 + p) (by omega)]
    exact ((h.ou p hp).gone hg (fun k hk e => h.ap (2 + p) (4 + i) (by omega) hi6 (by omega) k hk e)).setN (fun k hk => (h.bx (2 + p) (by omega) k hk).2.2)
  · simp only
    by_cases h1 : p = i
    · subst h1
      rw [up_same, up_same]
      exact ho.setN hv5
    · rw [up_other _ _ (show 4 + p ≠ 4 + i by omega), up_other _ _ h1]
      exact ((h.oc p hp).gone hg (fun k hk e => h.ap (4 + p) (4 + i) (by omega) hi6 (by omega) k hk e)).setN (fun k hk => (h.bx (4 + p) (by omega) k hk).2.2)
end
end Go.Proofs.Ytmecaioklmkdlaa.Ss

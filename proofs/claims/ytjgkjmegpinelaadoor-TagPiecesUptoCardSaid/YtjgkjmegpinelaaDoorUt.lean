/-
  Layer 7: what stands between the rounds of a loop over frames that collects them; what stands at the loop over the cuts.
-/
import Derived.Test.YtjgkjmegpinelaaDoorUs
import Derived.Maps.OwnIn
import Derived.Deep.LoopGhost
namespace Go.Proofs.YtjgkjmegpinelaaDoor.Tg
open Go.RowKit Go.Shelf Dx Sx Rf
set_option linter.unusedVariables false
set_option linter.unusedSimpArgs false

theorem Gone.ownG {A B : World} {N q base : Nat} {v vq : Value} {Tq : TypeId} {l : List UInt8} (h : Gone A B N q) (hr : OwnG A base v l) (hq : Bx A q vq Tq) (hTq : Tq ≠ 5) : OwnG B base v l := by
  refine hr.other fun k hk => ?_
  rcases hr with ⟨rfl, _⟩ | ⟨g, cap, cur, fz, rfl, hbg, hh, rest⟩
  · cases hk
  · have e : g = k := Option.some.inj hk
    subst e
    refine h.block g (Array.getElem?_eq_some_iff.1 hh).1 (fun e => ?_) (fun _ cur' fz' e => ?_)
    · subst e
      rw [show A.heap[g]? = _ from hq] at hh
      have h3 := Option.some.inj hh
      injection h3 with _ h4 _
      exact hTq h4
    · rw [hh] at e
      have h3 := Option.some.inj e
      injection h3 with _ h4 _
      exact absurd h4 (by decide)
/-- No block of the loop's own. -/
def NB (D : Nat) (v : Value) : Prop := ∀ k, v.ownBlock = some k → k ≠ D ∧ k ≠ D + 1
def itmG (x : Itm) : Got1 := (x.1, x.2.1)
def I9 (A : World) (N q : Nat) (xs0 : List Got1) (pre : List Itm) (W : World) : Prop := Gone A W N q ∧ ∃ v, Bx W q v 45 ∧ OwnX W N v (xs0 ++ pre.map itmG) ∧ NB A.heap.size v ∧ ∀ x ∈ xs0 ++ pre.map itmG, NB A.heap.size x.1
theorem OwnX.kept2 {A B : World} {base D : Nat} {v : Value} {xs : List Got1} {row : Option Nat} (h : OwnX A base v xs) (hv : NB D v) (hx : ∀ x ∈ xs, NB D x.1) (hg : A.grownBy B row) (hr : row = none ∨ row = some D ∨ row = some (D + 1)) : OwnX B base v xs := by
  have hk : ∀ {u : Value} {T : TypeId} {s n : Nat} {vs : List Value}, NB D u → A.ownsRow base T s u n vs → B.ownsRow base T s u n vs := fun {u T s n vs} hu h1 => by
    refine World.ownsRow.kept h1 hg ?_
    cases hb : u.ownBlock with
    | none => exact .inl rfl
    | some k =>
      refine .inr fun e => ?_
      obtain ⟨n1, n2⟩ := hu k hb
      rcases hr with hr | hr | hr <;> rw [hr] at e
      · cases e
      · exact n1 (Option.some.inj e)
      · exact n2 (Option.some.inj e)
  exact ⟨hk hv h.1, fun x hxm => hk (hx x hxm) (h.2 x hxm)⟩
theorem I9.stands {A : World} {N q : Nat} {xs0 : List Got1} (hq : q < A.heap.size) : Stands A.heap.size (I9 A N q xs0) := by
  rintro pre B C row ⟨h1, v, h2, h3, h4, h5⟩ hg hr
  refine ⟨h1.grown hg (fun k hk => ?_), v, (hg.block q h2.lt (fun e => ?_)).trans h2, h3.kept2 h4 h5 hg hr, h4, h5⟩
  · rcases hr with hr | hr | hr <;> rw [hr] at hk
    · cases hk
    · have := Option.some.inj hk; omega
    · have := Option.some.inj hk; omega
  · rcases hr with hr | hr | hr <;> rw [hr] at e
    · cases e
    · have := Option.some.inj e; omega
    · have := Option.some.inj e; omega
theorem OwnF.nb {w : World} {base D : Nat} {v : Value} {F : List Fld} (h : OwnF w base v F) (hb : D + 2 ≤ base) : NB D v := fun k hk => by
  have := (h.lt k hk).1
  omega
theorem nb_low {w : World} {base s n : Nat} {T : TypeId} {v : Value} {vs : List Value} (h : w.ownsRow base T s v n vs) : NB w.heap.size v := fun k hk => by
  rcases h.2 with ⟨rfl, _⟩ | ⟨g, cap, cur, rfl, hb, hh, _⟩
  · cases hk
  · have e : g = k := Option.some.inj hk
    have := (Array.getElem?_eq_some_iff.1 hh).1
    omega
/-- A round that has collected one. -/
theorem I9.app {A W w1 : World} {N q : Nat} {xs0 : List Got1} {pre : List Itm} {x : Itm} {v v' : Value} {o : Obj} {base : Nat} (hG : Gone A W N q) (hbox : Bx W q v 45) (hown : OwnX W N v (xs0 ++ pre.map itmG)) (hv : NB A.heap.size v) (hxs : ∀ y ∈ xs0 ++ pre.map itmG, NB A.heap.size y.1)
    (hx : OwnF W base x.1 x.2.1) (hbase : A.heap.size + 2 ≤ base) (hN : N ≤ A.heap.size) (hq : q < A.heap.size) (hlt : A.heap.size + 1 < W.heap.size)
    (ho : w1.ownsRow N 22 1 v' ((xs0 ++ pre.map itmG).length + 1) ((xs0 ++ pre.map itmG).map Prod.fst ++ [x.1])) (hg : (W.alloc o).grownBy w1 v.ownBlock) (hat : v'.ownBlock = v.ownBlock ∨ v'.ownBlock = some (W.alloc o).heap.size) :
    Bx w1 q v 45 ∧ ((w1.setCell ⟨q, 0, none⟩ v').heap[A.heap.size]? = W.heap[A.heap.size]? ∧ (w1.setCell ⟨q, 0, none⟩ v').heap[A.heap.size + 1]? = W.heap[A.heap.size + 1]?) ∧ I9 A N q xs0 (pre ++ [x]) (w1.setCell ⟨q, 0, none⟩ v') := by
  obtain ⟨h1, h2, h3, h4⟩ := gone_app (x := itmG x) hG hbox hown (hx.low2 (by omega)) ho hg hq
  have hal : Below W.heap.size W (W.alloc o) := (Below.refl _ _).alloc (Nat.le_refl _) _
  have same : ∀ k, k < W.heap.size → k ≠ q → v.ownBlock ≠ some k → (w1.setCell ⟨q, 0, none⟩ v').heap[k]? = W.heap[k]? := fun k hk hkq hvk => by
    rw [Below.heap_setCell _ _ _ _ (fun e => hkq (by simpa using e)), hg.block k (by rw [World.size_alloc]; omega) (fun e => hvk e.symm), hal.block k hk]
  refine ⟨h1, ⟨same _ (by omega) (by omega) (fun e => (hv _ e).1 rfl), same _ hlt (by omega) (fun e => (hv _ e).2 rfl)⟩, h2, v', h3, by rw [List.map_append, ← List.append_assoc]; exact h4, ?_, ?_⟩
  · intro k hk
    rcases hat with e | e
    · exact hv k (by rw [← e]; exact hk)
    · rw [e, World.size_alloc] at hk
      have := Option.some.inj hk
      omega
  · intro y hy
    rw [List.map_append, ← List.append_assoc] at hy
    rcases List.mem_append.1 hy with hy | hy
    · exact hxs y hy
    · obtain rfl : y = itmG x := by simpa using hy
      exact hx.nb hbase
theorem infoX : (Tryd.prog.info? 22).map (fun i => (i.zero, i.size, i.bytes)) = some (some (.slice none 0 0), 1, 24) := by kernel_rfl
theorem lit_x (w : World) (v : Value) (T : TypeId) (g : Nat) (hg : g = w.heap.size) : ∀ j u, ([v] : List Value)[j]? = some u → (w.alloc (.cells #[v] T)).cell? ((⟨g, 0, none⟩ : Addr).add j) = some u := by
  subst hg
  intro j u hu
  match j, hu with
  | 0, hu => simp at hu; subst hu; simp [Addr.add]
  | j + 1, hu => simp at hu
theorem OwnG.rowE {w : World} {base : Nat} {a : Option Addr} {n cap : Nat} {l : List UInt8} (h : OwnG w base (.slice a n cap) l) : HasL w a l ∧ l.length = n ∧ (a = none → cap = 0) ∧ n ≤ cap ∧ cap ≤ maxLen := by
  obtain ⟨a', c', e, h1, h2, h3, h4⟩ := h.row
  injection e with e1 e2 e3
  subst e1 e2 e3
  exact ⟨h1, rfl, h2, h3, h4⟩
theorem own_lit_drew (w : World) (base : Nat) (hb : base ≤ w.heap.size) : OwnG (w.alloc (.cells #[] 5)).drew base (.slice (some ⟨w.heap.size, 0, none⟩) 0 0) [] := ownG_lit w _ rfl base hb
theorem Gone.low1 {w A B : World} {N q : Nat} (h : Gone A B (N + 1) q) (hq : N + 1 ≤ q) (hN : N + 1 ≤ A.heap.size) (hb : Below N w A) : Below N w B := by
  rcases h.below hq with h1 | h1
  · exact hb.trans (h1.mono (Nat.le_succ N))
  · omega
theorem cut_math {Vs : List (List Fld)} (hv : ∀ F ∈ Vs, validE F = 0) {LL PP : List UInt8} {g t c n : Nat} (hn : (enB Vs).length = n) (hg : g ≤ Vs.length) (hVs : Vs.length ≤ 50) (htc : t ≤ c) (hcn : c ≤ n) (hP : ((enB Vs).drop t).take (c - t) = PP) (hr : LL ++ (enB Vs).drop t = enB (Vs.drop g)) :
    (LL ++ PP).length ≤ 250000 ∧ ∃ m, g + m ≤ Vs.length ∧ (framesS (LL ++ PP)).1 = ((Vs.drop g).take m).map (fun F => (F, (0 : Int))) ∧ (framesS (LL ++ PP)).2 ≤ (LL ++ PP).length ∧
      (LL ++ PP).drop ((LL ++ PP).length - (framesS (LL ++ PP)).2) ++ (enB Vs).drop c = enB (Vs.drop (g + m)) ∧ (c = n → g + m = Vs.length ∧ (LL ++ PP).drop ((LL ++ PP).length - (framesS (LL ++ PP)).2) = []) := by
  have hv2 : ∀ F ∈ Vs.drop g, validE F = 0 := fun F hF => hv F (List.mem_of_mem_drop hF)
  have e1 : (enB Vs).drop t = PP ++ (enB Vs).drop c := by
    rw [← hP]
    conv => lhs; rw [← List.take_append_drop (c - t) ((enB Vs).drop t)]
    rw [List.drop_drop, show t + (c - t) = c by omega]
  rw [e1, ← List.append_assoc] at hr
  obtain ⟨m, k1, k2, k3, k4, k5⟩ := framesS_pieces (Vs.drop g) hv2 (LL ++ PP) ((enB Vs).drop c) hr
  rw [List.length_drop] at k1
  rw [List.drop_drop] at k4
  have hsz := enB_size (Vs.drop g) hv2
  have hdl : (Vs.drop g).length = Vs.length - g := List.length_drop
  have hle := congrArg List.length hr
  rw [List.length_append] at hle
  refine ⟨by omega, m, by omega, k2, k3, k4, fun hc => ?_⟩
  have hz : (enB Vs).drop c = [] := List.drop_eq_nil_of_le (by omega)
  have hm := k5 hz
  rw [List.length_drop] at hm
  have hm2 : g + m = Vs.length := by omega
  rw [hz, List.append_nil, hm2, List.drop_eq_nil_of_le (Nat.le_refl _)] at k4
  exact ⟨hm2, k4⟩
/-- What stands at the loop over the cuts. -/
structure St2 (N q n cA cI : Nat) (aA aI : Option Addr) (Vs : List (List Fld)) (CS : List Int) (w wr : World) (g t : Nat) (xs : List Got1) (al : Option Addr) (LL : List UInt8) (cl : Nat) (ds : List Deferred) : Prop where
  bel : Below N w wr
  res : Bx wr N (.bool false) 4
  box : ∃ vg, Bx wr q vg 45 ∧ OwnX wr (N + 1) vg xs
  all : OwnG wr (N + 1) (.slice aA n cA) (enB Vs)
  ints : OwnN wr (N + 1) (.slice aI CS.length cI) CS
  row : HasL wr al LL
  nil : al = none → cl = 0
  le : LL.length ≤ cl
  gs : xs.map Prod.snd = Vs.take g
  gl : g ≤ Vs.length
  tl : t ≤ n
  rest : LL ++ (enB Vs).drop t = enB (Vs.drop g)
  marks : Marks ds wr
  low : ∀ d ∈ ds, ∀ r, d.target = .collected r → N + 1 ≤ r
def Rel2 (N q n cA cI : Nat) (aA aI : Option Addr) (Vs : List (List Fld)) (CS : List Int) (w : World) (m : Nat) (i v12 v13 : Value) (ds : List Deferred) (wr : World) : Prop :=
  ∃ (j t g : Nat) (xs : List Got1) (al : Option Addr) (LL : List UInt8) (L cl : Nat), j + m = CS.length ∧ i = .int .i64 (j : Int) ∧ v12 = .slice al L cl ∧ v13 = .int .i64 (t : Int) ∧ Hid (LL.length = L) ∧ Hid (j = CS.length → g = Vs.length ∧ LL = []) ∧ Hid (St2 N q n cA cI aA aI Vs CS w wr g t xs al LL cl ds)
theorem marks_lt {ds : List Deferred} {W : World} (h : Marks ds W) {d : Deferred} (hd : d ∈ ds) : ∃ r, d.target = .collected r ∧ W.heap[r]? = some (.deferred (some [])) ∧ r < W.heap.size := by
  obtain ⟨r, h1, h2⟩ := h.2 d hd
  exact ⟨r, h1, h2, (Array.getElem?_eq_some_iff.1 h2).1⟩
theorem marks_keep {ds : List Deferred} {A B : World} (h : Marks ds A) (hb : Below A.heap.size A B) : Marks ds B := ⟨h.1, fun d hd => by
  obtain ⟨r, h1, h2, h3⟩ := marks_lt h hd
  exact ⟨r, h1, (hb.block r h3).trans h2⟩⟩
theorem marks_gone {ds : List Deferred} {A B : World} {N q : Nat} {vq : Value} {Tq : TypeId} (h : Marks ds A) (hg : Gone A B N q) (hq : Bx A q vq Tq) : Marks ds B := ⟨h.1, fun d hd => by
  obtain ⟨r, h1, h2, h3⟩ := marks_lt h hd
  refine ⟨r, h1, hg.mark h2 (fun e => ?_) rfl⟩
  subst e
  rw [show A.heap[r]? = _ from hq] at h2
  cases h2⟩
theorem marks_cons {ds : List Deferred} {A B : World} {D : Nat} (h : Marks ds A) (hD : A.heap.size ≤ D) (hb : Marks ds B) (hk : B.heap[D]? = some (.deferred (some []))) : Marks ({ target := .collected D, args := #[] } :: ds) B := by
  refine ⟨List.pairwise_cons.2 ⟨fun d hd e => ?_, h.1⟩, fun d hd => ?_⟩
  · obtain ⟨r, h1, _, h3⟩ := marks_lt h hd
    rw [h1] at e
    have : D = r := by injection e
    omega
  · rcases List.mem_cons.1 hd with rfl | hd
    · exact ⟨D, rfl, hk⟩
    · exact hb.2 d hd
theorem validL_split (R : List FRow) (k : Nat) : validL R = validL (R.take k) ++ validL (R.drop k) := by
  unfold validL
  conv => lhs; rw [← List.take_append_drop k R]
  rw [List.map_append, List.filter_append]
theorem validL_at {R : List FRow} {k : Nat} (h : k < R.length) (hv : validE (R.getD k fr0).F = 0) : (validL R)[(validL (R.take k)).length]? = some (R.getD k fr0).F := by
  rw [validL_split R (k + 1), validL_yes h hv, List.append_assoc, List.getElem?_append_right (Nat.le_refl _), Nat.sub_self]
  rfl
end Go.Proofs.YtjgkjmegpinelaaDoor.Tg

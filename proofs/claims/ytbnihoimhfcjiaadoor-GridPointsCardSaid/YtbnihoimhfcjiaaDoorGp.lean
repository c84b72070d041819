/-
  Boxes (layers 12 on): stores into one, whole rows, three laid at once.
-/
import Derived.Test.YtbnihoimhfcjiaaDoorGo
import Derived.Deep.WholeRow
import Derived.Laws.ResultCell
import Derived.ChangeKeysEq
namespace Go.Proofs.YtbnihoimhfcjiaaDoor.Ao
open Go.RowKit Go.Joins
set_option linter.unusedVariables false

theorem Bk.set {W : World} {g : Nat} {cs : Array Value} {T : TypeId} (h : Bk W g cs T) (i : Nat) (v : Value) : Bk (W.setCell ⟨g, i, none⟩ v) g (cs.setIfInBounds i v) T := by
  rw [setCell_eq_setRow W g i _ _ _ _ h]
  exact setRow_heap W g _ _ _ _ h
theorem Bk.other {W : World} {g : Nat} {cs : Array Value} {T : TypeId} (h : Bk W g cs T) (p : Addr) (v : Value) (hp : p.block ≠ g) : Bk (W.setCell p v) g cs T := by
  unfold Bk at *
  rw [← h]
  simp only [World.setCell]
  rw [Array.getElem?_modify, if_neg hp]
theorem Bk.row {W : World} {g : Nat} {cs : Array Value} {T : TypeId} (h : Bk W g cs T) (cs' : Array Value) : Bk (W.setRow g cs') g cs' T := setRow_heap W g _ _ _ _ h
theorem Bk.apart {W : World} {g : Nat} {cs : Array Value} {T : TypeId} (h : Bk W g cs T) (g' : Nat) (cs' : Array Value) (hg : g ≠ g') : Bk (W.setRow g' cs') g cs T := (setRow_other W g' g cs' hg).trans h
theorem below_row {N : Nat} {A W : World} (h : Below N A W) {g : Nat} (hg : N ≤ g) (cs : Array Value) : Below N A (W.setRow g cs) :=
  ⟨h.os, h.tape, h.output, by rw [setRow_size]; exact h.size, fun k hk => (setRow_other W g k cs (by omega)).trans (h.block k hk)⟩
/-- A whole row is stored, is read. -/
theorem Bk.store {W : World} {g : Nat} {cs : Array Value} {T : TypeId} (h : Bk W g cs T) (cs' : Array Value) (hs : cs.size = cs'.size) (h1 : ∀ v ∈ cs'.toList, v.oneCell' = true) : (storeCells ⟨g, 0, none⟩ cs'.toList 0).run Tryd.prog W = .ok () (W.setRow g cs') := by
  have := run_storeCells_from (P := Tryd.prog) g T cs'.toList 0 cs W h (by simp; omega) h1
  simpa using this
theorem Bk.load {W : World} {g : Nat} {cs : Array Value} {T : TypeId} (h : Bk W g cs T) (n : Nat) (hn : cs.size = n) : (loadCellsFrom ⟨g, 0, none⟩ 0 n #[]).run Tryd.prog W = .ok cs W := by
  subst hn
  have := run_loadCells_list (P := Tryd.prog) W ⟨g, 0, none⟩ cs.toList (fun j v hv => by
    have hadd : (⟨g, 0, none⟩ : Addr).add j = ⟨g, j, none⟩ := by unfold Addr.add; split <;> simp_all
    rw [hadd, cell_of_row _ _ j cs T (0, 0) h]
    simpa using hv)
  simpa [loadCells] using this

/-- The same, as operations of a plain region: [21]int. -/
theorem info21 : (Tryd.prog.info? 36).map (·.size) = some 21 := by kernel_rfl
theorem wp_load21 {ops : Array Oper} {rest : List Oper} {o : Oper} {a : Act} {Q : Exit → Act → World → Prop} {w : World} (hgd : o.guard = none) (x : Operand) (ho : o.op = .load 36 x) {g : Nat} {cs : Array Value} {T : TypeId} (hx : a.eval x = .pointer (some ⟨g, 0, none⟩))
    (hb : Bk w g cs T) (hs : cs.size = 21) (h : wpList Tryd.prog ops Q rest (a.put o.dst (.agg cs)) w) : wpList Tryd.prog ops Q (o :: rest) a w := by
  have hr : (loadVar 36 ⟨g, 0, none⟩).run Tryd.prog w = .ok (.agg cs) w := run_loadVar_row w g T _ cs (0, 0) _ hb Tryd.underlying36 rfl (by rw [hs]; exact info21)
  refine wpList_plain hgd fun K hK => ?_
  unfold Oper.wp execOp
  simp only [ho, hx, Instr.loadAt, Instr.sureAddr, Sem.run_bind, Sem.run_pure, Result.andThen_ok, hr]
  exact hK _ _ h
theorem wp_store21 {ops : Array Oper} {rest : List Oper} {o : Oper} {a : Act} {Q : Exit → Act → World → Prop} {w : World} (hgd : o.guard = none) (x y : Operand) (ho : o.op = .store 36 x y) {g : Nat} {old cs : Array Value} {T : TypeId} (hx : a.eval x = .pointer (some ⟨g, 0, none⟩)) (hy : a.eval y = .agg cs)
    (hb : Bk w g old T) (ho2 : old.size = 21) (hs : cs.size = 21) (h1 : ∀ v ∈ cs.toList, v.oneCell' = true) (h : wpList Tryd.prog ops Q rest (a.put o.dst undef) (w.setRow g cs)) : wpList Tryd.prog ops Q (o :: rest) a w := by
  have hr : (storeVar 36 ⟨g, 0, none⟩ (.agg cs)).run Tryd.prog w = .ok () (w.setRow g cs) := run_storeVar_row w g T _ old cs hb (by rw [hs]; exact info21) (by rw [ho2, hs]) (Array.all_eq_true_iff_forall_mem.2 fun v hv => h1 v (by simpa using hv))
  refine wpList_plain hgd fun K hK => ?_
  unfold Oper.wp execOp
  simp only [ho, hx, hy, Instr.storeAt, Instr.sureAddr, Sem.run_bind, Sem.run_pure, Result.andThen_ok, hr]
  exact hK _ _ h
/-- The first result is read from a box. -/
theorem res_box {fn : Func} {p u : Tmp} (h : fn.results = #[.cell p 36, .tmp u]) {tmps : Array Value} {w : World} {g : Nat} {cs : Array Value} {T : TypeId} (hp : tmps.getD p undef = .pointer (some ⟨g, 0, none⟩)) (hb : Bk w g cs T) (hs : cs.size = 21) :
    (results fn tmps).run Tryd.prog w = .ok (.tuple #[.agg cs, tmps.getD u undef]) w := by
  have hr : (loadVar 36 ⟨g, 0, none⟩).run Tryd.prog w = .ok (.agg cs) w := run_loadVar_row w g T _ cs (0, 0) _ hb Tryd.underlying36 rfl (by rw [hs]; exact info21)
  rw [results_cell_tmp h, hp]
  simp [asAddr, Result.andThen, hr]
theorem index21 {R : Array Value} {x : Int} {k : Nat} (hk : k < 21) (h : R[k]? = some (.int .i64 x)) (w : World) :
    (Instr.index 36 (.agg R) (.int .i64 (k : Int))).run Tryd.prog w = .ok (.int .i64 x) w := by
  have hc : Tryd.prog.cellsOf 3 = 1 := by kernel_rfl
  simp [Instr.index, asIntOf, part, run_underlying Tryd.underlying36, h]
  exact fun h2 => absurd h2 (by omega)
/-- Two rows of integers are compared. -/
theorem eqItems_int (d : Nat) (X Y : Array Value) (f g : Nat → Int) (w : World) : ∀ is : List Nat, (∀ j ∈ is, X[j]? = some (.int .i64 (f j)) ∧ Y[j]? = some (.int .i64 (g j))) →
    (Op.eqItems (d + 1) 3 (Tryd.prog.cellsOf 3) X Y is).run Tryd.prog w = .ok (is.all fun j => f j == g j) w
  | [], _ => rfl
  | j :: is, h => by
    have hc : Tryd.prog.cellsOf 3 = 1 := by kernel_rfl
    obtain ⟨h1, h2⟩ := h j (by simp)
    have ih := eqItems_int d X Y f g w is (fun k hk => h k (List.mem_cons_of_mem _ hk))
    rw [hc] at ih ⊢
    have p1 : (part 3 X j).run Tryd.prog w = .ok (.int .i64 (f j)) w := by simp [part, h1]
    have p2 : (part 3 Y j).run Tryd.prog w = .ok (.int .i64 (g j)) w := by simp [part, h2]
    simp only [Op.eqItems, Nat.mul_one, Sem.run_bind, p1, p2, Result.andThen_ok, run_equalIn_int w d 3 .i64 .i64 (f j) (g j) Tryd.underlying3, List.all_cons]
    cases hq : f j == g j
    · simp
    · simpa using ih
theorem eql_rows {t : TypeId} {n : Nat} (hu : Tryd.prog.underlying t = some (.array n 3)) (X Y : Array Value) (f g : Nat → Int) (hX : ∀ j, j < n → X[j]? = some (.int .i64 (f j))) (hY : ∀ j, j < n → Y[j]? = some (.int .i64 (g j))) (w : World) :
    (Op.equalIn 10000 t (.agg X) (.agg Y)).run Tryd.prog w = .ok ((List.range n).all fun j => f j == g j) w := by
  obtain ⟨i, hi⟩ : ∃ i, Tryd.prog.info? 3 = some i := Option.isSome_iff_exists.1 (by kernel_rfl)
  rw [show (10000 : Nat) = 9998 + 1 + 1 from rfl, run_equalIn_array w (9998 + 1) X Y hu hi]
  exact eqItems_int 9998 X Y f g w _ fun j hj => ⟨hX j (List.mem_range.1 hj), hY j (List.mem_range.1 hj)⟩
abbrev nil21 : Array Value := #[.int .i64 0, .int .i64 0, .int .i64 0, .int .i64 0, .int .i64 0, .int .i64 0, .int .i64 0, .int .i64 0, .int .i64 0, .int .i64 0, .int .i64 0, .int .i64 0, .int .i64 0, .int .i64 0, .int .i64 0, .int .i64 0, .int .i64 0, .int .i64 0, .int .i64 0, .int .i64 0, .int .i64 0]
/-- A new box, and a row stored in it. -/
theorem new_row {A w : World} (hb : Below A.heap.size A w) (R : Array Value) (hR : R.size = 21) :
    ∃ g V, g = w.heap.size ∧ V = (w.alloc (.cells nil21 36)).setRow g R ∧ Bk (w.alloc (.cells nil21 36)) w.heap.size nil21 36 ∧ Bk V g R 36 ∧ Below A.heap.size A V :=
  ⟨_, _, rfl, rfl, Bk.new w nil21 _, Bk.row (Bk.new w nil21 _) R, below_row (below_next hb (one_alloc w _)) hb.size R⟩
/-- Two boxes one behind another. -/
theorem two_boxes (w : World) (a b : Array Value) (S T : TypeId) : Bk ((w.alloc (.cells a S)).alloc (.cells b T)) w.heap.size a S ∧ Bk ((w.alloc (.cells a S)).alloc (.cells b T)) (w.heap.size + 1) b T ∧ Below w.heap.size w ((w.alloc (.cells a S)).alloc (.cells b T)) := by
  have e1 : (w.alloc (.cells a S)).heap.size = w.heap.size + 1 := World.size_alloc ..
  refine ⟨(Bk.new w a S).more _, ?_, (one_alloc w _).alloc (by rw [e1]; omega) _⟩
  have := Bk.new (w.alloc (.cells a S)) b T
  rwa [e1] at this
/-- Three boxes one behind another. -/
theorem three_boxes (w : World) (a b c : Array Value) (S T U : TypeId) : Bk (((w.alloc (.cells a S)).alloc (.cells b T)).alloc (.cells c U)) w.heap.size a S ∧ Bk (((w.alloc (.cells a S)).alloc (.cells b T)).alloc (.cells c U)) (w.heap.size + 1) b T ∧
    Bk (((w.alloc (.cells a S)).alloc (.cells b T)).alloc (.cells c U)) (w.heap.size + 1 + 1) c U ∧ Below w.heap.size w (((w.alloc (.cells a S)).alloc (.cells b T)).alloc (.cells c U)) := by
  have e1 : (w.alloc (.cells a S)).heap.size = w.heap.size + 1 := World.size_alloc ..
  have e2 : ((w.alloc (.cells a S)).alloc (.cells b T)).heap.size = w.heap.size + 1 + 1 := by rw [World.size_alloc, e1]
  refine ⟨((Bk.new w a S).more _).more _, ?_, ?_, (((one_alloc w _).alloc (by rw [World.size_alloc]; omega) _).alloc (by rw [e2]; omega) _)⟩
  · have := (Bk.new (w.alloc (.cells a S)) b T).more (.cells c U)
    rwa [e1] at this
  · have := Bk.new ((w.alloc (.cells a S)).alloc (.cells b T)) c U
    rwa [e2] at this

end Go.Proofs.YtbnihoimhfcjiaaDoor.Ao

/-
  Layer 4: the law DiskRefuses.
-/
import Derived.Test.YtbjpchembekbbaaKs
namespace Go.Proofs.Ytbjpchembekbbaa.Dk
open Go.RowKit Fo
set_option linter.unusedVariables false

def contL (S : St) : List (List Int) := if S.down then [] else S.fs.map File.l
theorem nc_len (S : St) : (contL S).length = (namesL S).length := by unfold contL namesL; split <;> simp
/-- What Read answers of the j-th name. -/
theorem nc_read {S : St} (hg : Good S) {j : Nat} (hj : j < (namesL S).length) : there ((namesL S).getD j []) S = 0 ∧ readL ((namesL S).getD j []) S = (contL S).getD j [] ∧ ((namesL S).getD j []).length ≤ 16 := by
  have hu : S.down = false := by
    cases h : S.down
    · rfl
    · simp [namesL, h] at hj
  have hnl : namesL S = S.fs.map File.nm := by simp [namesL, hu]
  have hcl : contL S = S.fs.map File.l := by simp [contL, hu]
  rw [hnl] at hj ⊢
  rw [hcl]
  have hjf : j < S.fs.length := by simpa using hj
  have e1 : (S.fs.map File.nm).getD j [] = S.fs[j].nm := by simp [List.getD, hjf]
  have e2 : (S.fs.map File.l).getD j [] = S.fs[j].l := by simp [List.getD, hjf]
  rw [e1, e2]
  have hmem : S.fs[j] ∈ S.fs := List.getElem_mem hjf
  obtain ⟨t1, t2⟩ := there_mem hg hu hmem
  have hn := hg.name _ hmem
  simp [badName] at hn
  exact ⟨t1, t2, by omega⟩
theorem few_names {S : St} (hg : Good S) : (namesL S).length ≤ 16 := by
  unfold namesL; split
  · simp
  · simpa using hg.few
theorem names_hi {N : Nat} {w : World} {O : Nat → Prop} {d : Nat} {S : St} (h : IsDisk w O d S) (hN : N ≤ w.heap.size) : Calls Try.prog 20 #[.pointer (some ⟨d, 0, none⟩)] w fun e w' => ∃ ad cap, e = .returned (.slice ad (namesL S).length cap) ∧ (namesL S).length ≤ cap ∧ cap ≤ 9223372036854775807 ∧ NmOk N w' ad (namesL S) ∧ Below w.heap.size w w' := by
  refine (names_out h).mono fun e w' ⟨ad, cap, h1, h2, h3, h4, h5⟩ => ⟨ad, cap, h1, h2, h3, fun h0 => ?_, h5⟩
  obtain ⟨g, cur, x1, x2, x3, x4⟩ := h4 h0
  exact ⟨g, cur, x1, Nat.le_trans hN x2, x3, x4⟩
/-- The name at j, as a value. -/
def nmV (L : List (List UInt8)) (j : Nat) : ByteArray := ⟨(L.getD j []).toArray⟩
theorem nmV_list (L : List (List UInt8)) (j : Nat) : (nmV L j).data.toList = L.getD j [] := by simp [nmV]
theorem nm_cell {N : Nat} {w : World} {b : Nat} {L : List (List UInt8)} {off : Nat} {ad : Option Addr} (h : NmOk N w ad L) {j : Nat} (hj : j < L.length) : ∃ g, ad = some ⟨g, 0, none⟩ ∧ w.cell? ⟨g, j, none⟩ = some (.string (nmV L j)) := by
  obtain ⟨g, cur, e, _, _, hc⟩ := h (by omega)
  exact ⟨g, e, hc j hj⟩
theorem read_nm {w : World} {O : Nat → Prop} {d : Nat} {S : St} (h : IsDisk w O d S) {j : Nat} (hj : j < (namesL S).length) :
    Calls Try.prog 22 #[.pointer (some ⟨d, 0, none⟩), .string (nmV (namesL S) j)] w (RowOut w 0 ((contL S).getD j [])) := by
  obtain ⟨t1, t2, t3⟩ := nc_read h.good hj
  refine (read_disk h (nmV (namesL S) j) (by unfold nmV maxLen; show (((namesL S).getD j []).toArray).size ≤ _; simp only [List.size_toArray]; omega)).mono fun e w' ⟨v, x1, x2, x3⟩ => ?_
  rw [nmV_list] at x1 x2
  rw [t1] at x1
  rw [t2] at x2
  obtain ⟨ad, cap, rfl, y1, y2, y3, _⟩ := Ob.own_row x2
  exact ⟨ad, cap, x1, x2, y1, y2, y3, x3⟩

/-- A round of the law, from block N on: the disk below N, the script's call at N, the names, what was read. -/
structure Rnd (W w : World) (N : Nat) (O : Nat → Prop) (d : Nat) (S : St) (x : Opv) (ad : Option Addr) (j : Nat) (v : Value) : Prop where
  lone : Lone W w O d S
  low : ∀ i, O i → i < N
  hi : W.heap.size ≤ N
  size : N + 1 ≤ w.heap.size
  box : w.heap[N]? = some (.cells (opCells x) 31 (0, 0))
  nm : NmOk N w ad (namesL S)
  was : WasOk N w (contL S) j v
theorem Rnd.below {W w w' : World} {N : Nat} {O : Nat → Prop} {d : Nat} {S : St} {x : Opv} {ad : Option Addr} {j : Nat} {v : Value} (h : Rnd W w N O d S x ad j v) (hb : Below w.heap.size w w') : Rnd W w' N O d S x ad j v :=
  ⟨h.lone.below hb, h.low, h.hi, Nat.le_trans h.size hb.size, (hb.block N (lt_of_heap h.box)).trans h.box, h.nm.keep (KeepHi.of_below hb), h.was.keep (KeepHi.of_below hb)⟩
theorem Rnd.grow {W w w' : World} {N : Nat} {O : Nat → Prop} {d : Nat} {S : St} {x : Opv} {ad : Option Addr} {j j' : Nat} {v v' : Value} (h : Rnd W w N O d S x ad j v) (hw : WasOk N w' (contL S) j' v') (hg : w.grownBy w' v.ownBlock) (hk : ∀ g, v.ownBlock = some g → N ≤ g ∧ ∃ cur, w.heap[g]? = some (.cells cur 29 (0, 0))) : Rnd W w' N O d S x ad j' v' := by
  obtain ⟨m, G, V, hd⟩ := h.lone.disk
  have hO : ∀ i, O i → w'.heap[i]? = w.heap[i]? := fun i hi => hg.block i (hd.dom i hi) fun e => by have := (hk i e.symm).1; have := h.low i hi; omega
  refine ⟨⟨⟨m, G, V, hd.same hg.size hO⟩, h.lone.high, h.lone.frame.trans (Turned.below (O := fun b => v.ownBlock = some b) (Turned.of_grown hg fun b e => e) fun k hk' => ⟨Nat.lt_of_lt_of_le hk' h.lone.frame.size, fun e => by have := (hk k e).1; have := h.hi; omega⟩)⟩, h.low, h.hi, Nat.le_trans h.size hg.size, ?_, ?_, hw⟩
  · rw [hg.block N (lt_of_heap h.box) fun e => ?_]
    · exact h.box
    · obtain ⟨_, cur, hc⟩ := hk N e.symm
      rw [h.box] at hc; simp at hc
  · refine h.nm.move fun g cur h1 h2 => hg.block g (lt_of_heap h2) fun e => ?_
    obtain ⟨_, cur', hc⟩ := hk g e.symm
    rw [h2] at hc; simp at hc
theorem Rnd.step {W w w' : World} {N : Nat} {O O' : Nat → Prop} {d : Nat} {S S' : St} {x : Opv} {ad : Option Addr} {j : Nat} {v : Value} (h : Rnd W w N O d S x ad j v) (hs : Step w O w' O') (hd : IsDisk w' O' d S') :
    Lone W w' O' d S' ∧ NmOk N w' ad (namesL S) ∧ WasOk N w' (contL S) j v :=
  ⟨h.lone.step hs hd, h.nm.keep (KeepHi.of_step hs h.low), h.was.keep (KeepHi.of_step hs h.low)⟩
theorem was_at {N : Nat} {w : World} {C : List (List Int)} {j : Nat} {v : Value} (h : WasOk N w C j v) {ad : Option Addr} {cap : Nat} (hv : v = .slice ad j cap) {i : Nat} (hi : i < j) :
    ∃ g ad' cap', ad = some ⟨g, 0, none⟩ ∧ w.cell? ⟨g, i, none⟩ = some (.slice ad' (C.getD i []).length cap') ∧ Fr.HasRow .u8 w ad' (C.getD i []).length (C.getD i []) := by
  obtain ⟨vs, h1, h2⟩ := h
  obtain ⟨u, e, hu⟩ := h2 i hi
  obtain ⟨ad', cap', rfl, hr, _, _, _⟩ := Ob.own_row hu
  rcases h1.2 with ⟨h0, _⟩ | ⟨g, cap2, cur, hv2, _⟩
  · rw [hv] at h0; simp at h0; omega
  · rw [hv] at hv2
    simp only [Value.slice.injEq] at hv2
    refine ⟨g, ad', cap', hv2.1, ?_, hr⟩
    have := World.ownsRow.cellAt (h := by rw [hv, hv2.1] at h1; exact h1) i (by omega)
    rw [this, e]

theorem nil_arm (w : World) (n k : Int) : Calls Try.prog 24 #[.pointer none, .int .i64 n, .int .i64 k] w fun e w' => e = .returned (.tuple #[]) ∧ w = w' := by
  go_enter Try.func24, Try.ntmps24
  go_wp2
  first | go_end0 | refine bodyPost_ret (results_none rfl _ _ _) rfl ?_
  exact ⟨rfl, rfl⟩
theorem nil_off (w : World) (k : Int) : Calls Try.prog 18 #[.pointer none, .int .i64 k] w fun e w' => e = .returned (.tuple #[]) ∧ w = w' := by
  go_enter Try.func18, Try.ntmps18
  go_wp2
  first | go_end0 | refine bodyPost_ret (results_none rfl _ _ _) rfl ?_
  exact ⟨rfl, rfl⟩
theorem nil_on (w : World)  : Calls Try.prog 21 #[.pointer none] w fun e w' => e = .returned (.tuple #[]) ∧ w = w' := by
  go_enter Try.func21, Try.ntmps21
  go_wp2
  first | go_end0 | refine bodyPost_ret (results_none rfl _ _ _) rfl ?_
  exact ⟨rfl, rfl⟩
theorem nil_room (w : World) (n : Int) : Calls Try.prog 25 #[.pointer none, .int .i64 n] w fun e w' => e = .returned (.tuple #[]) ∧ w = w' := by
  go_enter Try.func25, Try.ntmps25
  go_wp2
  first | go_end0 | refine bodyPost_ret (results_none rfl _ _ _) rfl ?_
  exact ⟨rfl, rfl⟩
theorem nil_down (w : World) : Calls Try.prog 19 #[.pointer none] w fun e w' => e = .returned (.bool false) ∧ w = w' := by
  go_enter Try.func19, Try.ntmps19
  go_wp2
  go_ret
  exact ⟨rfl, rfl⟩
theorem nil_writes (w : World) : Calls Try.prog 23 #[.pointer none] w fun e w' => e = .returned (.int .i64 0) ∧ w = w' := by
  go_enter Try.func23, Try.ntmps23
  go_wp2
  go_ret
  exact ⟨rfl, rfl⟩
theorem nil_names (w : World) : Calls Try.prog 20 #[.pointer none] w fun e w' => e = .returned (.slice none 0 0) ∧ w = w' := by
  go_enter Try.func20, Try.ntmps20
  go_wp2
  go_ret
  exact ⟨rfl, rfl⟩

set_option maxRecDepth 100000 in
set_option maxHeartbeats 1600000 in
theorem refuses_walk (room : Int) (a : Option Addr) (len cap : Nat) (X : Nat → Opv) (w : World) (ops : HasOps w a len X) :
    Calls Try.prog 5 #[.int .i64 room, .slice a len cap] w fun e w' => e = .returned (.bool true) ∧ Below w.heap.size w w' := by
  have hm := ops.1
  have OS := Lib.hid ops
  clear ops
  go_enter Try.func5, Try.ntmps5
  go_wp2_with fail
  refine (wakes_any _).mono ?_
  rintro e w1 ⟨rfl, hb1⟩
  have B1 := Lib.hid hb1; clear hb1
  have lg := long_any a len cap X w1 (OS.out.keep B1.out)
  cases hlb : longB X len with
  | true =>
    rw [hlb] at lg
    have LG := Lib.hid lg
    clear lg hlb
    go_wp2_with fail
    refine LG.out.mono ?_
    rintro e w2 ⟨rfl, hb2⟩
    have B2 := Lib.hid (B1.out.trans (hb2.mono B1.out.size)); clear hb2 LG
    go_wp2
    go_ret
    exact ⟨rfl, B2.out⟩
  | false =>
    rw [hlb] at lg
    have LG := Lib.hid lg
    have hcost : costL X len ≤ 4194304 := by unfold longB at hlb; simpa using hlb
    have hlen := costL_len X len
    clear lg hlb
    go_wp2_with fail
    refine LG.out.mono ?_
    rintro e w2 ⟨rfl, hb2⟩
    have B2 := Lib.hid (B1.out.trans (hb2.mono B1.out.size)); clear hb2 LG
    have OS2 := Lib.hid (OS.out.keep B2.out)
    go_wp2_with fail
    refine (new_any w2 room).mono ?_
    rintro e w3 ⟨rfl, hb3, hz3, hd3⟩
    have L3 : Hid (Lone w2 w3 (fun i => i = w2.heap.size ∨ i = w2.heap.size + 1) (w2.heap.size + 1) (start room)) := ⟨hd3, (fun i hi => by rcases hi with rfl | rfl <;> omega), hb3⟩
    obtain ⟨d, hd⟩ : ∃ d, d = w2.heap.size + 1 := ⟨_, rfl⟩
    rw [← hd] at L3 ⊢
    clear hd hb3 hz3 hd3
    go_wp2_with fail
    go_loopg [36] len (fun m i wr => ∃ (k : Nat) (S : St) (O : Nat → Prop), k + m = len ∧ i = .int .i64 (k : Int) ∧ Hid (Lone w2 wr O d S))
    case atStart => exact ⟨0, _, _, by omega, rfl, L3⟩
    case round =>
      obtain ⟨k, S, O, hk, rfl, HL⟩ := hrel
      by_cases hlt : k < len
      · have os := OS2.out.keep HL.out.frame
        obtain ⟨b, off, e1, hc⟩ := os.2.1 (by omega)
        obtain ⟨c0, c1, c2, c3, c4, c5⟩ := op_cells (hc k hlt)
        obtain ⟨x, hx⟩ : ∃ x, X k = x := ⟨_, rfl⟩
        rw [hx] at c0 c1 c2 c3 c4 c5
        have OK : Hid (∀ w', Below w2.heap.size w2 w' → OpOk w' x) := by rw [← hx]; exact fun w' hb => (OS2.out.keep hb).2.2 k hlt
        subst e1
        obtain ⟨N, hN⟩ : ∃ N, N = wr.heap.size := ⟨_, rfl⟩
        have hbx : Below wr.heap.size wr (wr.alloc (.cells (opCells x) 31)) := (Below.refl _ _).alloc (Nat.le_refl _) _
        have lx := HL.out.below hbx
        have LOW : Hid (∀ i, O i → i < N) := by rw [hN]; exact HL.out.disk.dom
        have HI : Hid (w2.heap.size ≤ N) := by rw [hN]; exact HL.out.frame.size
        have bx : (wr.alloc (.cells (opCells x) 31)).heap[N]? = some (.cells (opCells x) 31 (0, 0)) := by rw [hN]; exact (MapKept.heap_alloc wr _).1
        have sz : N + 1 ≤ (wr.alloc (.cells (opCells x) 31)).heap.size := by rw [hN]; simp
        obtain ⟨wa, hwa⟩ : ∃ wa, wa = wr.alloc (.cells #[.int .i64 x.kind, .string x.f, .string x.g, .int .i64 x.n, .int .i64 x.k, .slice x.b.a x.b.len x.b.cap] 31) := ⟨_, rfl⟩
        have LX : Hid (Lone w2 wa O d S) := by rw [hwa]; exact lx
        have BX : Hid (wa.heap[N]? = some (.cells (opCells x) 31 (0, 0))) := by rw [hwa]; exact bx
        have SZ : Hid (N + 1 ≤ wa.heap.size) := by rw [hwa]; exact sz
        have HWA := Lib.hid hwa; have HNN := Lib.hid hN
        clear os hc hx hbx hN hwa lx bx sz
        go_wp2_with fail
        rw [← HWA.out]
        rw [← HNN.out]
        clear c0 c1 c2 c3 c4 c5
        refine (writes_disk LX.out.disk).mono ?_
        rintro e w4 ⟨rfl, rfl⟩
        go_wp2_with fail
        obtain ⟨dn, hdn⟩ : ∃ dn, S.down = dn := ⟨_, rfl⟩
        have HDN := Lib.hid hdn
        have dwn := down_disk LX.out.disk
        rw [hdn] at dwn
        have DWN := Lib.hid dwn
        clear dwn hdn
        refine DWN.out.mono ?_
        rintro e w4 ⟨rfl, rfl⟩
        go_wp2_with fail
        refine (names_hi (N := N) LX.out.disk (by have := SZ.out; omega)).mono ?_
        rintro e wb ⟨adn, capn, rfl, hcn, hcn2, hnm, hbn⟩
        obtain ⟨q, hq⟩ : ∃ q, (namesL S).length = q := ⟨_, rfl⟩
        have hq16 : q ≤ 16 := by rw [← hq]; exact few_names LX.out.disk.good
        have HQ := Lib.hid hq
        rw [hq] at hcn ⊢
        have R0 : Hid (Rnd w2 wb N O d S x adn 0 (.slice none 0 0)) := ⟨LX.out.below hbn, LOW.out, HI.out, Nat.le_trans SZ.out hbn.size, (hbn.block N (lt_of_heap BX.out)).trans BX.out, hnm, [], ⟨rfl, .inl ⟨rfl, rfl⟩⟩, fun i hi => absurd hi (Nat.not_lt_zero _)⟩
        clear hq hnm hbn DWN
        go_wp2_with fail
        go_loopg [11, 48] q (fun m wv i wr => ∃ (j : Nat) (adw : Option Addr) (capw : Nat), j + m = q ∧ i = .int .i64 (j : Int) ∧ wv = .slice adw j capw ∧ j ≤ capw ∧ capw ≤ 9223372036854775807 ∧ Hid (Rnd w2 wr N O d S x adn j (.slice adw j capw)))
        case atStart => exact ⟨0, none, 0, by omega, rfl, rfl, by omega, by omega, R0⟩
        case round =>
          obtain ⟨j, adw, capw, hj, rfl, rfl, hjc, hcw, HR⟩ := hrel
          by_cases hjq : j < q
          · have hjl : j < (namesL S).length := by rw [HQ.out]; exact hjq
            obtain ⟨g, e2, cj⟩ := nm_cell (b := 0) (off := 0) HR.out.nm hjl
            have rd := read_nm HR.out.lone.disk hjl
            obtain ⟨lj, hlj⟩ : ∃ lj, (contL S).getD j [] = lj := ⟨_, rfl⟩
            obtain ⟨nj, hnj⟩ : ∃ nj, nmV (namesL S) j = nj := ⟨_, rfl⟩
            rw [hlj, hnj] at rd
            rw [hnj] at cj
            have RD := Lib.hid rd; have HLJ := Lib.hid hlj
            subst e2
            clear rd hlj hnj hjl
            go_wp2_with fail
            clear cj
            refine RD.out.mono ?_
            rintro e w5 ⟨adr, capr, rfl, ho5, _, _, _, hb5⟩
            have R5 := Lib.hid (HR.out.below hb5)
            have hN5 : N ≤ wr.heap.size := by have := HR.out.size; omega
            have O5 : Hid (Ob.OwnB w5 N (.slice adr lj.length capr) ((contL S).getD j [])) := by rw [HLJ.out]; exact Joins.ownsRow_le ho5 hN5
            obtain ⟨ll, hll⟩ : ∃ ll, lj.length = ll := ⟨_, rfl⟩
            rw [hll] at O5 ⊢
            clear ho5 hb5 hN5 hll
            have hba : Below w5.heap.size w5 (w5.alloc (.cells #[.slice adr ll capr] 29)) := (Below.refl _ _).alloc (Nat.le_refl _) _
            have R6 := Lib.hid (R5.out.below hba)
            have O6 : Hid (Ob.OwnB (w5.alloc (.cells #[.slice adr ll capr] 29)) N (.slice adr ll capr) ((contL S).getD j [])) := ownB_move O5.out fun g cur a b => hba.block g (lt_of_heap b)
            have C6 : Hid ((w5.alloc (.cells #[.slice adr ll capr] 29)).cell? ⟨w5.heap.size, 0, none⟩ = some (.slice adr ll capr)) := Lib.hid (by rw [World.cell?_alloc_mark]; rfl)
            clear hba
            go_wp2_with (first | (at_builtin; refine wp_was rfl (.tmp 58) (.tmp 60) rfl N (contL S) j _ rfl R6.out.was (by omega) w5.heap.size (.slice adr ll capr) rfl rfl C6.out O6.out (by have := R6.out.size; omega) ?_; intro v7 w7 hw7 hv7 hg7 hk7; obtain ⟨ad7, cap7, rfl, hc7, hc7b⟩ := hv7; have R7 := Lib.hid (R6.out.grow hw7 hg7 hk7); clear hw7 hg7 hk7))
            go_roundg (q - (j + 1))
            case measure => omega
            case rel => exact ⟨j + 1, ad7, cap7, by omega, by go_num, by first | rfl | go_num, by omega, by unfold maxLen at hc7b; omega, R7⟩
          · obtain rfl : q = j := by omega
            have c0 : wr.cell? ⟨N, 0, none⟩ = some (.int .i64 x.kind) := Joins.cell_of_block HR.out.box 0
            have c1 : wr.cell? ⟨N, 1, none⟩ = some (.string x.f) := Joins.cell_of_block HR.out.box 1
            have c2 : wr.cell? ⟨N, 2, none⟩ = some (.string x.g) := Joins.cell_of_block HR.out.box 2
            have c3 : wr.cell? ⟨N, 3, none⟩ = some (.int .i64 x.n) := Joins.cell_of_block HR.out.box 3
            have c4 : wr.cell? ⟨N, 4, none⟩ = some (.int .i64 x.k) := Joins.cell_of_block HR.out.box 4
            have c5 : wr.cell? ⟨N, 5, none⟩ = some (.slice x.b.a x.b.len x.b.cap) := Joins.cell_of_block HR.out.box 5
            have ds := does_any HR.out.lone.disk x (OK.out _ HR.out.lone.frame)
            have hrf := does_refused (x := x) (S := S)
            unfold DoesIt at ds
            obtain ⟨r, hr⟩ : ∃ r, doesS x S = r := ⟨_, rfl⟩
            rw [hr] at ds hrf
            obtain ⟨⟨l0, c⟩, S'⟩ := r
            simp only at ds hrf
            obtain ⟨l1, hl1⟩ : ∃ l1, l0.length = l1 := ⟨_, rfl⟩
            rw [hl1] at ds
            have DS := Lib.hid ds; have HRF := Lib.hid hrf
            clear ds hrf hr hl1
            go_wp2_with fail
            clear c0 c1 c2 c3 c4 c5
            refine DS.out.mono ?_
            rintro e w9 ⟨ad9, cap9, O9, rfl, _, _, _, hst9, hd9⟩
            obtain ⟨l9, n9, s9⟩ := HR.out.step hst9 hd9
            have L9 := Lib.hid l9; have N9 := Lib.hid n9; have W9 := Lib.hid s9
            have NS9 : Hid (N ≤ w9.heap.size) := Lib.hid (by have := hst9.size; have := HR.out.size; omega)
            clear hst9 hd9 l9 n9 s9 DS
            by_cases hc0 : c = 0
            · subst hc0
              go_wp2
              go_roundg (len - (k + 1))
              case measure => omega
              case rel => exact ⟨k + 1, S', O9, by omega, by go_num, L9⟩
            · have t1 : (c == 0) = false := by simpa using hc0
              have t1b : (c != 0) = true := by simpa using hc0
              have wr9 := writes_disk L9.out.disk
              by_cases hw : S'.wr = S.wr
              · have hS := HRF.out hc0 hw
                subst hS
                have WR9 := Lib.hid wr9
                clear wr9 hw
                obtain ⟨sw, hsw⟩ : ∃ sw, S'.wr = sw := ⟨_, rfl⟩
                rw [hsw]
                rw [hsw] at WR9
                clear hsw
                go_wp2_with fail
                refine WR9.out.mono ?_
                rintro e w10 ⟨rfl, rfl⟩
                clear WR9
                have nm9 := names_hi (N := N) L9.out.disk NS9.out
                rw [HQ.out] at nm9
                have NM9 := Lib.hid nm9
                clear nm9
                go_wp2_with fail
                refine NM9.out.mono ?_
                rintro e w11 ⟨adm, capm, rfl, hcm, hcm2, hnm11, hb11⟩
                have L11 := Lib.hid (L9.out.below hb11)
                have N11 := Lib.hid (N9.out.keep (KeepHi.of_below hb11)); have W11 := Lib.hid (W9.out.keep (KeepHi.of_below hb11)); have M11 := Lib.hid hnm11
                clear hnm11 hb11 NM9
                have dw := down_disk L11.out.disk
                rw [HDN.out] at dw
                have DW := Lib.hid dw
                clear dw
                go_wp2_with fail
                refine DW.out.mono ?_
                rintro e w12 ⟨rfl, rfl⟩
                clear DW
                go_wp2_with fail
                go_loopg [92] q (fun m i wr => ∃ j : Nat, j + m = q ∧ i = .int .i64 (j : Int) ∧ Hid (Below w11.heap.size w11 wr))
                case atStart => exact ⟨0, by omega, rfl, Lib.hid (Below.refl _ _)⟩
                case round =>
                  obtain ⟨j, hj2, rfl, HB⟩ := hrel
                  by_cases hjq2 : j < q
                  · have hjl : j < (namesL S').length := by rw [HQ.out]; exact hjq2
                    have LJ := Lib.hid (L11.out.below HB.out)
                    obtain ⟨g1, e1, n1⟩ := nm_cell (b := 0) (off := 0) (N11.out.keep (KeepHi.of_below HB.out)) hjl
                    obtain ⟨g2, e2, n2⟩ := nm_cell (b := 0) (off := 0) (M11.out.keep (KeepHi.of_below HB.out)) hjl
                    obtain ⟨gw, adj, capj, e3, nw, rw3⟩ := was_at (W11.out.keep (KeepHi.of_below HB.out)) rfl hjq2
                    have rd := read_nm LJ.out.disk hjl
                    obtain ⟨lj, hlj⟩ : ∃ lj, (contL S').getD j [] = lj := ⟨_, rfl⟩
                    obtain ⟨nj, hnj⟩ : ∃ nj, nmV (namesL S') j = nj := ⟨_, rfl⟩
                    rw [hlj, hnj] at rd
                    rw [hnj] at n1 n2
                    rw [hlj] at nw rw3
                    obtain ⟨ll, hll⟩ : ∃ ll, lj.length = ll := ⟨_, rfl⟩
                    unfold RowOut at rd
                    rw [hll] at rd nw rw3
                    have RD := Lib.hid rd; have RW3 := Lib.hid rw3
                    have N1 := Lib.hid n1; have NW := Lib.hid nw
                    subst e1
                    subst e2
                    subst e3
                    clear rd rw3 hlj hnj hjl hll n1 nw
                    go_wp2_with fail
                    clear n2
                    refine RD.out.mono ?_
                    rintro e w13 ⟨adr, capr, rfl, _, rr, _, _, hb13⟩
                    have n1 := (hb13.cell (p := ⟨g1, j, none⟩) (Fr.lt_of_cell N1.out)).trans N1.out
                    have nw := (hb13.cell (p := ⟨gw, j, none⟩) (Fr.lt_of_cell NW.out)).trans NW.out
                    have sm := same_any adr ll capr lj adj ll capj lj w13 rr (RW3.out.keep hb13)
                    rw [sameB_self] at sm
                    have SM := Lib.hid sm
                    have HB13 := Lib.hid (HB.out.trans (hb13.mono HB.out.size))
                    clear rr sm hb13 RD
                    go_wp2_with fail
                    clear n1 nw
                    refine SM.out.mono ?_
                    rintro e w14 ⟨rfl, hb14⟩
                    have HB14 := Lib.hid (HB13.out.trans (hb14.mono HB13.out.size))
                    clear hb14 SM
                    go_wp2
                    go_roundg (q - (j + 1))
                    case measure => omega
                    case rel => exact ⟨j + 1, by omega, by go_num, HB14⟩
                  · have LJ := Lib.hid (L11.out.below HB.out)
                    have hjq3 : j = q := by omega
                    clear hjq2
                    subst hjq3
                    go_wp2
                    go_roundg (len - (k + 1))
                    case measure => omega
                    case rel => exact ⟨k + 1, S', O9, by omega, by go_num, LJ⟩
              · have WR9 := Lib.hid wr9
                clear wr9
                obtain ⟨sw, hsw⟩ : ∃ sw, S.wr = sw := ⟨_, rfl⟩
                obtain ⟨sw2, hsw2⟩ : ∃ sw2, S'.wr = sw2 := ⟨_, rfl⟩
                rw [hsw]
                rw [hsw, hsw2] at hw
                rw [hsw2] at WR9
                have t2 : (sw2 == sw) = false := by simpa using hw
                have t2b : (sw2 != sw) = true := by simpa using hw
                clear hsw hsw2 hw
                go_wp2_with fail
                refine WR9.out.mono ?_
                rintro e w10 ⟨rfl, rfl⟩
                clear WR9
                go_wp2
                go_roundg (len - (k + 1))
                case measure => omega
                case rel => exact ⟨k + 1, S', O9, by omega, by go_num, L9⟩
      · have F := Lib.hid (B2.out.trans (HL.out.frame.mono B2.out.size))
        go_wp2_with (first
          | (go_at_call 22; (with_reducible refine (nil_read _ _).mono ?_); rintro e w' ⟨rfl, rfl⟩)
          | (go_at_call 16; (with_reducible refine (nil_append _ _ _).mono ?_); rintro e w' ⟨rfl, rfl⟩)
          | (go_at_call 17; (with_reducible refine (nil_sync _ _).mono ?_); rintro e w' ⟨rfl, rfl⟩)
          | (go_at_call 26; (with_reducible refine (nil_trunc _ _ _).mono ?_); rintro e w' ⟨rfl, rfl⟩)
          | (go_at_call 27; (with_reducible refine (nil_rename _ _ _).mono ?_); rintro e w' ⟨rfl, rfl⟩)
          | (go_at_call 28; (with_reducible refine (nil_remove _ _).mono ?_); rintro e w' ⟨rfl, rfl⟩)
          | (go_at_call 24; (with_reducible refine (nil_arm _ _ _).mono ?_); rintro e w' ⟨rfl, rfl⟩)
          | (go_at_call 18; (with_reducible refine (nil_off _ _).mono ?_); rintro e w' ⟨rfl, rfl⟩)
          | (go_at_call 21; (with_reducible refine (nil_on _).mono ?_); rintro e w' ⟨rfl, rfl⟩)
          | (go_at_call 25; (with_reducible refine (nil_room _ _).mono ?_); rintro e w' ⟨rfl, rfl⟩)
          | (go_at_call 19; (with_reducible refine (nil_down _).mono ?_); rintro e w' ⟨rfl, rfl⟩)
          | (go_at_call 23; (with_reducible refine (nil_writes _).mono ?_); rintro e w' ⟨rfl, rfl⟩)
          | (go_at_call 20; (with_reducible refine (nil_names _).mono ?_); rintro e w' ⟨rfl, rfl⟩))
        go_ret
        exact ⟨rfl, F.out⟩
end Go.Proofs.Ytbjpchembekbbaa.Dk

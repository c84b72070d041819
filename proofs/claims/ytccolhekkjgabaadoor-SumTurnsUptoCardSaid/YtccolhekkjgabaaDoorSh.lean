/-
  Layer 3: the law SumTurns, where what comes in is together of at most 2^47 bytes.
-/
import Derived.Test.YtccolhekkjgabaaDoorSc
import Derived.Test.YtccolhekkjgabaaDoorSg
import Derived.OwnWalk
namespace Go.Proofs.YtccolhekkjgabaaDoor.Sx
open Go.RowKit Go.WideShapes Go.ChangeAt Go.ChangeShapes Ob
set_option linter.unusedVariables false

theorem made_zero (n : Nat) : (madeCells (Value.int .u8 0).cells (n * 1)).toList = (List.replicate n (0 : Int)).map (Value.int .u8) := by
  unfold madeCells
  rw [Nat.mul_one]
  apply List.ext_getElem
  · simp
  · intro j h1 h2
    simp [Value.cells, Nat.mod_one]
theorem wp_mk {ops : Array Oper} {rest : List Oper} {o : Oper} {a : Act} {Q : Exit → Act → World → Prop} {w : World} (hgd : o.guard = none) (l c : Operand)
    (hop : o.op = Op.makeSlice 22 l c) (base n : Nat) (hl : a.eval l = .int .i64 (n : Int)) (hc : a.eval c = .int .i64 (n : Int)) (hn : n ≤ 281474976710656) (hbase : base ≤ w.heap.size)
    (h : ∀ w', OwnB w' base (.slice (some ⟨w.heap.size, 0, none⟩) n n) (List.replicate n 0) → Below base w w' → wpList Tryd.prog ops Q rest (a.put o.dst (.slice (some ⟨w.heap.size, 0, none⟩) n n)) w') : wpList Tryd.prog ops Q (o :: rest) a w := by
  obtain ⟨i0, hi, hz0, hz1, hz2⟩ := info_parts info_u8
  refine wpList_make_full w hgd l c 22 hop base 5 i0 (.int .u8 0) 1 Tryd.underlying22 hi hz0 hz1 .i64 .i64 _ _ n hl hc rfl rfl (by rw [hz2]; omega) (by unfold maxLen; omega) hbase ?_
  intro w' h1 h2
  refine h w' ?_ ((Below.refl base w).grown h2 hbase (fun k hk => by cases hk))
  unfold OwnB
  rw [← made_zero, List.length_replicate]
  exact h1

theorem sum_rev : ∀ l : List Int, l.reverse.sum = l.sum
  | [] => rfl
  | x :: l => by rw [List.reverse_cons, List.sum_append, sum_rev l, List.sum_cons]; simp; omega
theorem small_turn (A B : List Int) : smallS (B ++ A) = smallS (A ++ B) := by
  rw [small_sum, small_sum, List.sum_append, List.sum_append, Int.add_comm]
theorem small_both (A B : List Int) : (smallS A + smallS B) % 256 = smallS (A ++ B) := by
  rw [small_sum, small_sum, small_sum, List.sum_append]; omega
theorem small_back {L AB : List Int} (hl : L.length = AB.length) (h : ∀ j, j < AB.length → L.getD (AB.length - 1 - j) 0 = AB.getD j 0) : smallS L = smallS AB := by
  have e : L = AB.reverse := by
    apply List.ext_getElem (by simp [hl])
    intro j h1 h2
    have hj : j < AB.length := by omega
    have := h (AB.length - 1 - j) (by omega)
    rw [show AB.length - 1 - (AB.length - 1 - j) = j by omega] at this
    simp [List.getD, h1, show AB.length - 1 - j < AB.length by omega] at this
    rw [this]; simp
  rw [e, small_sum, small_sum, sum_rev]
theorem back_next {L AB : List Int} {k : Nat} (hl : L.length = AB.length) (hk : k < AB.length) (h : ∀ j, j < k → L.getD (AB.length - 1 - j) 0 = AB.getD j 0) :
    ∀ j, j < k + 1 → (L.set (AB.length - 1 - k) (AB.getD k 0)).getD (AB.length - 1 - j) 0 = AB.getD j 0 := by
  intro j hj
  rw [getD_set _ _ _ _ (by omega)]
  by_cases e : j = k
  · subst e; rw [if_pos rfl]
  · rw [if_neg (by omega)]; exact h j (by omega)
theorem bytes_app {A B : List Int} (hA : Bytes A) (hB : Bytes B) : Bytes (A ++ B) := by
  intro j hj
  rcases Nat.lt_or_ge j A.length with h | h
  · have := hA j h
    simpa [List.getD, List.getElem?_append_left h] using this
  · have := hB (j - A.length) (by simp at hj; omega)
    simpa [List.getD, List.getElem?_append_right h] using this

/-- What the walk is told of a slice of bytes that came in. -/
theorem came {w : World} {a : Option Addr} {len cap : Nat} {zs : List Int} (h : Fr.IsRow .u8 w a len cap zs) : Bytes (zs.take len) ∧ (zs.take len).length = len ∧ (a = none → cap = 0) ∧ len ≤ cap ∧ Fr.HasRow .u8 w a len zs := by
  refine ⟨bytes_part (bytes_of h) fun z hz => List.mem_of_mem_take hz, ?_, ?_, ?_, h.has⟩
  · have := h.has.1; simp; omega
  · intro e
    rcases h with ⟨_, _, h1, _⟩ | ⟨x, h1, _⟩
    · exact h1
    · rw [e] at h1; cases h1
  · rcases h with ⟨_, h1, _, _⟩ | ⟨x, _, h1, _⟩ <;> omega
theorem call_small {w : World} {a : Option Addr} {len cap : Nat} {zs L : List Int} {Y : Int} (hb : Bytes zs) (hr : Fr.HasRow .u8 w a len zs) (hL : zs.take len = L) (hY : smallS L = Y) :
    Calls Tryd.prog 10 #[.slice a len cap] w fun e w' => e = .returned (.int .i64 Y) ∧ w = w' := by
  subst hL hY; exact small_any a len cap zs w hb hr

set_option maxRecDepth 100000 in
set_option maxHeartbeats 4000000 in
theorem turns_walk (a : Option Addr) (la ca : Nat) (za : List Int) (b : Option Addr) (lb cb : Nat) (zb : List Int) (w : World) (ht : Tab w) (ra : Fr.IsRow .u8 w a la ca za) (rb : Fr.IsRow .u8 w b lb cb zb) (hsum : la + lb ≤ 140737488355328) :
    Calls Tryd.prog 5 #[.slice a la ca, .slice b lb cb] w fun e w' => e = .returned (.bool true) ∧ Below w.heap.size w w' := by
  have HBa := Lib.hid (bytes_of ra); have HBb := Lib.hid (bytes_of rb)
  obtain ⟨bA, lA, nA, cA, rA⟩ := came ra
  obtain ⟨bB, lB, nB, cB, rB⟩ := came rb
  obtain ⟨A, hA⟩ : ∃ A, za.take la = A := ⟨_, rfl⟩
  obtain ⟨B, hB⟩ : ∃ B, zb.take lb = B := ⟨_, rfl⟩
  rw [hA] at bA lA; rw [hB] at bB lB
  obtain ⟨n, hn⟩ : ∃ n, n = la + lb := ⟨_, rfl⟩
  have lAB : (A ++ B).length = n := by rw [List.length_append, lA, lB, hn]
  have lBA : (B ++ A).length = n := by rw [List.length_append, lA, lB, hn, Nat.add_comm]
  obtain ⟨AB, hAB⟩ : ∃ AB, A ++ B = AB := ⟨_, rfl⟩
  obtain ⟨BA, hBA⟩ : ∃ BA, B ++ A = BA := ⟨_, rfl⟩
  have bAB : Bytes AB := by rw [← hAB]; exact bytes_app bA bB
  have bBA : Bytes BA := by rw [← hBA]; exact bytes_app bB bA
  obtain ⟨Y, hY⟩ : ∃ Y : Int, smallS AB = Y := ⟨_, rfl⟩
  obtain ⟨Ya, hYa⟩ : ∃ Y : Int, smallS A = Y := ⟨_, rfl⟩
  obtain ⟨Yb, hYb⟩ : ∃ Y : Int, smallS B = Y := ⟨_, rfl⟩
  have hYBA : smallS BA = Y := by rw [← hBA, small_turn, hAB, hY]
  have hYs : (Ya + Yb) % 256 = Y := by rw [← hYa, ← hYb, small_both, hAB, hY]
  have ya := small_bd A; have yb := small_bd B
  rw [hYa] at ya; rw [hYb] at yb
  obtain ⟨ya0, ya1⟩ := ya; obtain ⟨yb0, yb1⟩ := yb
  rw [hAB] at lAB; rw [hBA] at lBA
  have hn2 : n ≤ 140737488355328 := by omega
  have HT := Lib.hid ht; have HA := Lib.hid hA; have HB := Lib.hid hB; have HAB := Lib.hid hAB; have HBA := Lib.hid hBA
  have bAB' := Lib.hid bAB; have bBA' := Lib.hid bBA; have LA := Lib.hid lA; have LB := Lib.hid lB; have NA := Lib.hid nA; have NB := Lib.hid nB; have RA := Lib.hid rA; have RB := Lib.hid rB
  have LAB := Lib.hid lAB; have LBA := Lib.hid lBA; have HY := Lib.hid hY; have HYa := Lib.hid hYa; have HYb := Lib.hid hYb; have HYBA := Lib.hid hYBA; have HN := Lib.hid hn
  clear ht hA hB hAB hBA bAB bBA bA bB lA lB nA nB rA rB ra rb lAB lBA hY hYa hYb hYBA hn
  go_enter Tryd.func5, Tryd.ntmps5
  go_wp2_with (first
    | (go_at_call 7; (with_reducible refine (wakes_any _ HT.out).mono ?_); rintro e w1 ⟨rfl, hb1⟩; have HB1 := Lib.hid hb1; clear hb1)
    | (at_builtin; refine wp_apd rfl (.tmp 11) (.tmp 12) rfl w1.heap.size _ [] rfl (own_made w1 (Nat.le_refl _)) a la ca za rfl ((RA.out.keep HB1.out).keep ((Below.refl _ _).alloc (Nat.le_refl _) _)) NA.out (by simp; omega) (by simp) ?_; intro v1 w2 ho1' hb2'; rw [List.nil_append, HA.out] at ho1'; have ho1 := Lib.hid ho1'; have HB2 := Lib.hid (((Below.refl _ _).alloc (Nat.le_refl _) _).trans hb2'); clear ho1' hb2')
    | (at_builtin; refine wp_apd rfl (.tmp 13) (.tmp 14) rfl w1.heap.size v1 A rfl ho1.out b lb cb zb rfl ((RB.out.keep HB1.out).keep HB2.out) NB.out (by rw [LA.out]; exact hsum) HB2.out.size ?_; intro v2 w3 ho2' hb3'; rw [HB.out, HAB.out] at ho2'; have HB3 := Lib.hid (HB2.out.trans hb3'); obtain ⟨d1, c1, rfl, r1, n1, cc1, cm1⟩ := own_row ho2'; rw [LAB.out] at r1 cc1; rw [LAB.out]; have R1 := Lib.hid r1; clear ho2' hb3' r1)
    | (at_builtin; refine wp_apd rfl (.tmp 16) (.tmp 17) rfl w3.heap.size _ [] rfl (own_made w3 (Nat.le_refl _)) b lb cb zb rfl (((RB.out.keep HB1.out).keep HB3.out).keep ((Below.refl _ _).alloc (Nat.le_refl _) _)) NB.out (by simp; omega) (by simp) ?_; intro v3 w4 ho3' hb4'; rw [List.nil_append, HB.out] at ho3'; have ho3 := Lib.hid ho3'; have HB4 := Lib.hid (((Below.refl _ _).alloc (Nat.le_refl _) _).trans hb4'); clear ho3' hb4')
    | (at_builtin; refine wp_apd rfl (.tmp 18) (.tmp 19) rfl w3.heap.size v3 B rfl ho3.out a la ca za rfl (((RA.out.keep HB1.out).keep HB3.out).keep HB4.out) NA.out (by rw [LB.out]; omega) HB4.out.size ?_; intro v4 w5 ho4' hb5'; rw [HA.out, HBA.out] at ho4'; have HB5 := Lib.hid (HB4.out.trans hb5'); obtain ⟨d2, c2, rfl, r2, n2, cc2, cm2⟩ := own_row ho4'; rw [LBA.out] at r2 cc2; rw [LBA.out]; have R2 := Lib.hid r2; clear ho4' hb5' r2)
    | (at_make; refine wp_mk rfl (.tmp 22) (.tmp 22) rfl w5.heap.size n rfl rfl (by omega) (Nat.le_refl _) ?_; intro w6 ho6' hb6'; have ho6 := Lib.hid ho6'; have HB6 := Lib.hid hb6'; clear ho6' hb6'))
  have B16 : Hid (Below w1.heap.size w1 w5) := below_next HB3.out HB5.out
  have hgb : ∃ gb : Nat, gb = w5.heap.size := ⟨_, rfl⟩
  obtain ⟨gb, hgb⟩ := hgb
  rw [← hgb] at ho6 ⊢
  have HG := Lib.hid hgb
  have ho6 := Lib.hid ho6.out
  clear hgb
  go_loopg [26] n (fun m i wr => ∃ (k : Nat) (L : List Int), k + m = n ∧ i = .int .i64 (k : Int) ∧ Hid (OwnB wr gb (.slice (some ⟨gb, 0, none⟩) n n) L) ∧ Hid (L.length = n) ∧ Hid (∀ j, j < k → L.getD (n - 1 - j) 0 = AB.getD j 0) ∧ Hid (Bytes L) ∧ Hid (Below w5.heap.size w5 wr))
  case atStart => exact ⟨0, List.replicate n 0, by omega, rfl, ho6, Lib.hid (by simp), Lib.hid (fun j hj => absurd hj (Nat.not_lt_zero _)), Lib.hid (by intro j hj; simp [List.getD] at hj ⊢; simp [hj]), HB6⟩
  case round =>
    obtain ⟨k, L, hk, rfl, K1, K2, K3, K4, K5⟩ := hrel
    have R5 : Hid (Fr.HasRow .u8 wr d1 n AB) := (R1.out.keep HB5.out).keep K5.out
    by_cases hlt : k < n
    · obtain ⟨b1, off, e1, hcell⟩ := R5.out.2.2 (by omega)
      have ck := hcell k hlt
      obtain ⟨x0, x1⟩ := bAB'.out k (by rw [LAB.out]; exact hlt)
      have KB := back_next (K2.out.trans LAB.out.symm) (by rw [LAB.out]; exact hlt) (by rw [LAB.out]; exact K3.out)
      rw [LAB.out] at KB
      obtain ⟨x, hx⟩ : ∃ x, AB.getD k 0 = x := ⟨_, rfl⟩
      rw [hx] at ck x0 x1 KB
      have dk := (World.ownsRow.cellAt (h := by have := K1.out; unfold OwnB at this; rw [K2.out] at this; exact this) (n - 1 - k) (by omega))
      have fk := own_frozen K1.out K2.out (n - 1 - k)
      obtain ⟨u, hu⟩ : ∃ u, (L.map (Value.int .u8))[n - 1 - k]? = some u := ⟨_, List.getElem?_eq_getElem (by simp [K2.out]; omega)⟩
      rw [hu] at dk
      subst e1
      have L1 := Lib.hid (own_store K1.out K2.out (n - 1 - k) x)
      have L3 := Lib.hid (K5.out.setCell (p := ⟨gb, n - 1 - k, none⟩) (by rw [HG.out]; exact Nat.le_refl _) (.int .u8 x))
      have L4 := Lib.hid (bytes_set (i := n - 1 - k) K4.out x0 x1)
      have LB2 := Lib.hid KB
      have tn : ((n : Int) - 1 - (k : Int)).toNat = n - 1 - k := by omega
      have tn2 : (n : Int) - 1 - (k : Int) < (n : Int) := by omega
      have tn3 : 0 ≤ (n : Int) - 1 - (k : Int) := by omega
      clear hcell hu KB hx
      go_wp2
      go_roundg (n - (k + 1))
      case measure => omega
      case rel => exact ⟨k + 1, _, by omega, by go_num, L1, Lib.hid (by simp [K2.out]), LB2, L4, L3⟩
    · obtain rfl : k = n := by omega
      have yL : smallS L = Y := (small_back (K2.out.trans LAB.out.symm) (by rw [LAB.out]; exact K3.out)).trans HY.out
      have S1 := Lib.hid (call_small (cap := c1) bAB'.out R5.out (List.take_of_length_le (by rw [LAB.out]; exact Nat.le_refl _)) HY.out)
      have S2 := Lib.hid (call_small (cap := c2) bBA'.out (R2.out.keep K5.out) (List.take_of_length_le (by rw [LBA.out]; exact Nat.le_refl _)) HYBA.out)
      have own3 := own_row K1.out
      obtain ⟨d3, c3, e3, r3, _⟩ := own3
      rw [K2.out] at e3 r3
      obtain ⟨rfl, rfl⟩ : d3 = some ⟨gb, 0, none⟩ ∧ c3 = k := by
        injection e3 with e4 e5 e6
        exact ⟨e4.symm, e6.symm⟩
      have S3 := Lib.hid (call_small (cap := c3) K4.out r3 (List.take_of_length_le (by rw [K2.out]; exact Nat.le_refl _)) yL)
      have B15 : Hid (Below w1.heap.size w1 wr) := below_next B16.out K5.out
      have S4 := Lib.hid (call_small (cap := ca) HBa.out ((RA.out.keep HB1.out).keep B15.out) HA.out HYa.out)
      have S5 := Lib.hid (call_small (cap := cb) HBb.out ((RB.out.keep HB1.out).keep B15.out) HB.out HYb.out)
      have B0 : Hid (Below w.heap.size w wr) := below_next HB1.out B15.out
      clear yL r3 e3
      go_wp2_with (first | (go_at_call 10; (with_reducible refine (S1.out).mono ?_); rintro e w' ⟨rfl, rfl⟩) | (go_at_call 10; (with_reducible refine (S2.out).mono ?_); rintro e w' ⟨rfl, rfl⟩) | (go_at_call 10; (with_reducible refine (S3.out).mono ?_); rintro e w' ⟨rfl, rfl⟩) | (go_at_call 10; (with_reducible refine (S4.out).mono ?_); rintro e w' ⟨rfl, rfl⟩) | (go_at_call 10; (with_reducible refine (S5.out).mono ?_); rintro e w' ⟨rfl, rfl⟩))
      go_ret
      exact ⟨rfl, B0.out⟩
end Go.Proofs.YtccolhekkjgabaaDoor.Sx

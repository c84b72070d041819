/-
  Layer 3: the law SumTells.
-/
import Derived.Test.YtccolhekkjgabaaDoorSc
import Derived.Test.YtccolhekkjgabaaDoorSd
import Derived.Test.YtccolhekkjgabaaDoorSf
namespace Go.Proofs.YtccolhekkjgabaaDoor.Sx
open Go.RowKit Go.WideShapes Go.ChangeAt Go.ChangeShapes Ob
set_option linter.unusedVariables false

theorem own_store {w : World} {base g n cap : Nat} {T : List Int} (h : OwnB w base (.slice (some ⟨g, 0, none⟩) n cap) T) (hn : T.length = n) (j : Nat) (y : Int) :
    OwnB (w.setCell ⟨g, j, none⟩ (.int .u8 y)) base (.slice (some ⟨g, 0, none⟩) n cap) (T.set j y) := by
  subst hn
  have := (World.ownsRow.stored h j (.int .u8 y)).1
  unfold OwnB
  rw [List.length_set, List.map_set]
  exact this
theorem own_frozen {w : World} {base g n cap : Nat} {T : List Int} (h : OwnB w base (.slice (some ⟨g, 0, none⟩) n cap) T) (hn : T.length = n) (j : Nat) : w.frozen? ⟨g, j, none⟩ = false := by
  subst hn
  exact World.ownsRow.frozenAt h j
theorem box_cells (w : World) (v0 v1 v2 v3 : Value) (t : TypeId) {w' : World} (hb : Below (w.alloc (.cells #[v0, v1, v2, v3] t)).heap.size (w.alloc (.cells #[v0, v1, v2, v3] t)) w') :
    w'.cell? ⟨w.heap.size, 0, none⟩ = some v0 ∧ w'.cell? ⟨w.heap.size, 1, none⟩ = some v1 ∧ w'.cell? ⟨w.heap.size, 2, none⟩ = some v2 ∧ w'.cell? ⟨w.heap.size, 3, none⟩ = some v3 := by
  refine ⟨?_, ?_, ?_, ?_⟩ <;> (rw [hb.cell (by simp)]; simp)

theorem index4 (m0 m1 m2 m3 k : Nat) (hk : k < 4) (w : World) :
    (Instr.index 28 (.agg #[.int .u8 (m0 : Int), .int .u8 (m1 : Int), .int .u8 (m2 : Int), .int .u8 (m3 : Int)]) (.int .i64 (k : Int))).run Tryd.prog w = .ok (.int .u8 (([m0, m1, m2, m3].getD k 0 : Nat) : Int)) w := by
  have hc : Tryd.prog.cellsOf 5 = 1 := by kernel_rfl
  match k, hk with
  | 0, _ | 1, _ | 2, _ | 3, _ => simp [Instr.index, asIntOf, part, run_underlying Tryd.underlying28]

set_option maxRecDepth 100000 in
set_option maxHeartbeats 2000000 in
theorem tells_in (p : Nat) (m0 m1 m2 m3 : Nat) (a : Option Addr) (len cap : Nat) (zs : List Int) (w : World) (ht : Tab w) (hrow' : Fr.IsRow .u8 w a len cap zs) (hreach : cap * 1 ≤ 140737488351232)
    (hp : p ≤ 9223372036854775807) (h0 : m0 ≤ 255) (h1 : m1 ≤ 255) (h2 : m2 ≤ 255) (h3 : m3 ≤ 255) :
    Calls Tryd.prog 4 #[.slice a len cap, .int .i64 (p : Int), .agg #[.int .u8 (m0 : Int), .int .u8 (m1 : Int), .int .u8 (m2 : Int), .int .u8 (m3 : Int)]] w fun e w' => e = .returned (.bool true) ∧ Below w.heap.size w w' := by
  have hBz := bytes_of hrow'
  have hnil : a = none → cap = 0 := by
    intro h
    rcases hrow' with ⟨_, _, h1, _⟩ | ⟨x, h1, _⟩
    · exact h1
    · rw [h] at h1; cases h1
  have hlc : len ≤ cap := by
    rcases hrow' with ⟨_, h1, _, _⟩ | ⟨x, _, h1, _⟩ <;> omega
  have HN := Lib.hid hnil
  have HR := Lib.hid hrow'.has; have HT := Lib.hid ht; clear hrow' ht hnil
  have hlen : len ≤ 140737488351232 := by omega
  have hz : len ≤ zs.length := HR.out.1
  obtain ⟨bs, hbs⟩ : ∃ bs : List Int, zs.take len = bs := ⟨_, rfl⟩
  have hbl : bs.length = len := by rw [← hbs]; simp; omega
  have hbb : Bytes bs := by rw [← hbs]; exact bytes_part hBz fun z hz => List.mem_of_mem_take hz
  have HBz := Lib.hid hBz; have HBL := Lib.hid hbl; have HBB := Lib.hid hbb; have HBS := Lib.hid hbs; clear hBz hbl hbb hbs
  obtain ⟨X, hX⟩ : ∃ X : Nat, (crcS bs).toNat = X := ⟨_, rfl⟩
  obtain ⟨Y, hY⟩ : ∃ Y : Int, smallS bs = Y := ⟨_, rfl⟩
  have c1 : ∀ (w : World), Tab w → Fr.HasRow .u8 w a len zs → Calls Tryd.prog 8 #[.slice a len cap] w fun e w' => e = .returned (.int .u32 (X : Int)) ∧ w = w' := by rw [← hX, ← HBS.out]; exact fun w h1 h2 => crc_any a len cap zs w h1 HBz.out h2
  have c3 : ∀ (w : World), Fr.HasRow .u8 w a len zs → Calls Tryd.prog 10 #[.slice a len cap] w fun e w' => e = .returned (.int .i64 Y) ∧ w = w' := by rw [← hY, ← HBS.out]; exact fun w h2 => small_any a len cap zs w HBz.out h2
  have C1 := Lib.hid c1; have C3 := Lib.hid c3; have HX := Lib.hid hX; have HY := Lib.hid hY; clear c1 c3 hX hY
  go_enter Tryd.func4, Tryd.ntmps4
  go_wp2_with (first | (go_at_call 7; (with_reducible refine (wakes_any _ (tab_keep HT.out ((Below.refl _ _).alloc (Nat.le_refl _) _))).mono ?_); rintro e w1 ⟨rfl, hb1⟩; have HB1 := Lib.hid hb1; clear hb1) | (at_builtin; refine wp_apd rfl (.tmp 13) (.tmp 14) rfl w1.heap.size _ [] rfl (own_made w1 (Nat.le_refl _)) a len cap zs rfl (((HR.out.keep ((Below.refl _ _).alloc (Nat.le_refl _) _)).keep HB1.out).keep ((Below.refl _ _).alloc (Nat.le_refl _) _)) HN.out (by simp; omega) (by simp) ?_; intro v1 w2 ho1' hb2'; rw [List.nil_append, HBS.out] at ho1'; have ho1 := Lib.hid ho1'; have HB2 := Lib.hid (below_next HB1.out (((Below.refl _ _).alloc (Nat.le_refl _) _).trans hb2')); obtain ⟨x0, x1, x2, x3⟩ := box_cells w _ _ _ _ _ HB2.out; have HB3 := Lib.hid (((Below.refl _ _).alloc (Nat.le_refl _) _).trans hb2'); clear ho1' hb2'))
  obtain ⟨ad, cap2, rfl, hrowc, hnc, hcc, hcm⟩ := own_row ho1.out
  rw [HBL.out] at ho1 hrowc hcc
  rw [HBL.out]
  have ho1 := Lib.hid ho1.out; have HRC := Lib.hid hrowc
  unfold maxLen at hcm
  clear hrowc x0 x1 x2 x3
  go_loopg [8, 17] 4 (fun m u i wr => ∃ (k U : Nat) (T : List Int), k + m = 4 ∧ i = .int .i64 (k : Int) ∧ u = .int .i64 (U : Int) ∧ U ≤ k ∧ Hid (OwnB wr w1.heap.size (.slice ad len cap2) T) ∧ Hid (Turned bs p k T U) ∧ Hid (Below w1.heap.size w1 wr))
  case atStart => exact ⟨0, 0, bs, by omega, rfl, rfl, by omega, ho1, Lib.hid (turned_start HBB.out p), HB3⟩
  case round =>
    obtain ⟨k, U, T, hk, rfl, rfl, hU, K1, K2, K3⟩ := hrel
    by_cases hlt : k < 4
    · by_cases hpl : p + k < len
      · have ix := index4 m0 m1 m2 m3 k hlt wr
        obtain ⟨M, hM⟩ : ∃ M, [m0, m1, m2, m3].getD k 0 = M := ⟨_, rfl⟩
        have hM2 : M ≤ 255 := by
          rw [← hM]
          match k, hlt with
          | 0, _ => exact h0
          | 1, _ => exact h1
          | 2, _ => exact h2
          | 3, _ => exact h3
        rw [hM] at ix
        clear hM
        have hTl : T.length = len := K2.out.1.trans HBL.out
        obtain ⟨g, cap3, cur, hv, hg, _, _, _, _, hcell⟩ := own_block K1.out (by omega)
        have ck := hcell (p + k) (by omega)
        rw [hTl] at hv
        obtain ⟨rfl, rfl⟩ : ad = some ⟨g, 0, none⟩ ∧ cap2 = cap3 := by
          injection hv with e1 e2 e3
          exact ⟨e1, e3⟩
        clear hcell hv
        have fk := own_frozen K1.out hTl (p + k)
        obtain ⟨z0, z1⟩ := K2.out.2.1 (p + k) (by omega)
        obtain ⟨Xb, hXb, n1, _⟩ := ofInt_of _ z0 z1
        have HXb := Lib.hid hXb
        rw [hXb] at ck
        clear z0 z1 hXb
        have tp : decide ((p : Int) < (len : Int) - (k : Int)) = true := by simp; omega
        by_cases hM0 : M = 0
        · subst hM0
          have xx : bits .xor .u8 (Xb : Int) 0 = (Xb : Int) := by
            have := u8_xor_nat Xb 0 (by omega) (by decide)
            simpa using this
          have L1 := Lib.hid (own_store K1.out hTl (p + k) (Xb : Int)); have L3 := Lib.hid (K3.out.setCell (p := ⟨g, p + k, none⟩) hg (.int .u8 (Xb : Int)))
          have hset : T.set (p + k) (Xb : Int) = T := by
            rw [← HXb.out]
            have hlt2 : p + k < T.length := by omega
            simp [List.getD, hlt2]
          rw [hset] at L1
          clear hset
          have L2 := Lib.hid (turned_skip K2.out)
          go_wp2
          go_roundg (4 - (k + 1))
          case measure => omega
          case rel => exact ⟨k + 1, U, T, by omega, by go_num, rfl, by omega, L1, L2, L3⟩
        · obtain ⟨Yb, hYb⟩ : ∃ Yb : Nat, Xb ^^^ M = Yb := ⟨_, rfl⟩
          have xx : bits .xor .u8 (Xb : Int) (M : Int) = (Yb : Int) := by rw [← hYb]; exact u8_xor_nat Xb M (by omega) (by omega)
          have y1 : Yb ≤ 255 := by rw [← hYb]; exact xor_byte n1 hM2
          have y2 : Yb ≠ Xb := by rw [← hYb]; exact xor_ne hM0
          have tm : ((M : Int) != 0) = true := by simp; omega
          have L1 := Lib.hid (own_store K1.out hTl (p + k) (Yb : Int)); have L3 := Lib.hid (K3.out.setCell (p := ⟨g, p + k, none⟩) hg (.int .u8 (Yb : Int)))
          have L2 := Lib.hid (turned_next (y := (Yb : Int)) K2.out (by rw [HBL.out]; exact hpl) (by omega) (by omega) (by rw [HXb.out]; omega))
          clear hYb y1 y2 hM0
          go_wp2
          go_roundg (4 - (k + 1))
          case measure => omega
          case rel => exact ⟨k + 1, U + 1, _, by omega, by go_num, by go_num, by omega, L1, L2, L3⟩
      · have ix := index4 m0 m1 m2 m3 k hlt wr
        have tp : decide ((p : Int) < (len : Int) - (k : Int)) = false := by simp; omega
        have L2 := Lib.hid (turned_skip K2.out)
        go_wp2
        go_roundg (4 - (k + 1))
        case measure => omega
        case rel => exact ⟨k + 1, U, T, by omega, by go_num, rfl, by omega, K1, L2, K3⟩
    · obtain rfl : k = 4 := by omega
      have hTl : T.length = len := K2.out.1.trans HBL.out
      obtain ⟨ad2, cap3, hv, hrow3, _⟩ := own_row K1.out
      rw [hTl] at hv hrow3
      obtain ⟨rfl, rfl⟩ : ad = ad2 ∧ cap2 = cap3 := by
        injection hv with e1 e2 e3
        exact ⟨e1, e3⟩
      obtain ⟨Z, hZ⟩ : ∃ Z : Nat, (crcS T).toNat = Z := ⟨_, rfl⟩
      obtain ⟨V, hV⟩ : ∃ V : Int, smallS T = V := ⟨_, rfl⟩
      have hT4 : T.take len = T := List.take_of_length_le (by omega)
      have c1 : ∀ (w : World), Tab w → Fr.HasRow .u8 w ad len T → Calls Tryd.prog 8 #[.slice ad len cap2] w fun e w' => e = .returned (.int .u32 (Z : Int)) ∧ w = w' := by rw [← hZ]; intro w h1 h2; have := crc_any ad len cap2 T w h1 K2.out.2.1 h2; rw [hT4] at this; exact this
      have c3 : ∀ (w : World), Fr.HasRow .u8 w ad len T → Calls Tryd.prog 10 #[.slice ad len cap2] w fun e w' => e = .returned (.int .i64 V) ∧ w = w' := by rw [← hV]; intro w h2; have := small_any ad len cap2 T w K2.out.2.1 h2; rw [hT4] at this; exact this
      have D1 := Lib.hid c1; have D3 := Lib.hid c3; have HZ := Lib.hid hZ; have HV := Lib.hid hV; have R3 := Lib.hid hrow3
      clear c1 c3 hZ hV hrow3 hT4 hTl hv
      obtain ⟨e1, e2, e3⟩ := turned_ends HBB.out K2.out
      have hT5 : Hid (Tab wr) := tab_keep (tab_keep (tab_keep HT.out ((Below.refl _ _).alloc (Nat.le_refl _) _)) HB1.out) K3.out
      have R5 : Hid (Fr.HasRow .u8 wr a len zs) := ((HR.out.keep ((Below.refl _ _).alloc (Nat.le_refl _) _)).keep HB1.out).keep K3.out
      have B5 : Hid (Below w.heap.size w wr) := ((Below.refl _ _).alloc (Nat.le_refl _) _).trans ((HB1.out.trans (K3.out.mono HB1.out.size)).mono (by simp))
      have tX : Hid (0 < U → X ≠ Z) := fun hU h => e2 hU (BitVec.eq_of_toNat_eq (by rw [HX.out, HZ.out]; exact h))
      have tX0 : Hid (U = 0 → X = Z) := fun hU => by rw [← HX.out, ← HZ.out, e1 hU]
      have tY : Hid (U = 1 → Y ≠ V) := fun hU h => e3 hU (by rw [HY.out, HV.out]; exact h)
      clear e1 e2 e3
      by_cases hU0 : U = 0
      · subst hU0
        obtain rfl := tX0.out rfl
        go_wp2_with (first | (go_at_call 8; (with_reducible refine (C1.out _ hT5.out R5.out).mono ?_); rintro e w' ⟨rfl, rfl⟩) | (go_at_call 8; (with_reducible refine (D1.out _ hT5.out R3.out).mono ?_); rintro e w' ⟨rfl, rfl⟩))
        go_ret
        exact ⟨rfl, B5.out⟩
      · have hne := tX.out (by omega)
        have tn : ((X : Int) != (Z : Int)) = true := by simp; omega
        by_cases hU1 : U = 1
        · subst hU1
          have tv : (Y != V) = true := bne_iff_ne.2 (tY.out rfl)
          clear hne hU0
          go_wp2_with (first | (go_at_call 8; (with_reducible refine (C1.out _ hT5.out R5.out).mono ?_); rintro e w' ⟨rfl, rfl⟩) | (go_at_call 8; (with_reducible refine (D1.out _ hT5.out R3.out).mono ?_); rintro e w' ⟨rfl, rfl⟩) | (go_at_call 10; (with_reducible refine (C3.out _ R5.out).mono ?_); rintro e w' ⟨rfl, rfl⟩) | (go_at_call 10; (with_reducible refine (D3.out _ R3.out).mono ?_); rintro e w' ⟨rfl, rfl⟩))
          go_ret
          exact ⟨rfl, B5.out⟩
        · have t0 : decide ((0 : Int) < (U : Int)) = true := by simp; omega
          have t00 : decide (0 < U) = true := by simp; omega
          have t1 : ((U : Int) != 1) = true := by simp; omega
          clear hne hU0 hU1
          go_wp2_with (first | (go_at_call 8; (with_reducible refine (C1.out _ hT5.out R5.out).mono ?_); rintro e w' ⟨rfl, rfl⟩) | (go_at_call 8; (with_reducible refine (D1.out _ hT5.out R3.out).mono ?_); rintro e w' ⟨rfl, rfl⟩))
          go_ret
          exact ⟨rfl, B5.out⟩

set_option maxRecDepth 100000 in
set_option maxHeartbeats 2000000 in
theorem tells_neg (p : Int) (m0 m1 m2 m3 : Nat) (a : Option Addr) (len cap : Nat) (zs : List Int) (w : World) (ht : Tab w) (hrow' : Fr.IsRow .u8 w a len cap zs) (hreach : cap * 1 ≤ 140737488351232)
    (hp : p < 0) (h0 : m0 ≤ 255) (h1 : m1 ≤ 255) (h2 : m2 ≤ 255) (h3 : m3 ≤ 255) :
    Calls Tryd.prog 4 #[.slice a len cap, .int .i64 p, .agg #[.int .u8 (m0 : Int), .int .u8 (m1 : Int), .int .u8 (m2 : Int), .int .u8 (m3 : Int)]] w fun e w' => e = .returned (.bool true) ∧ Below w.heap.size w w' := by
  have hBz := bytes_of hrow'
  have hnil : a = none → cap = 0 := by
    intro h
    rcases hrow' with ⟨_, _, h1, _⟩ | ⟨x, h1, _⟩
    · exact h1
    · rw [h] at h1; cases h1
  have hlc : len ≤ cap := by
    rcases hrow' with ⟨_, h1, _, _⟩ | ⟨x, _, h1, _⟩ <;> omega
  have HN := Lib.hid hnil
  have HR := Lib.hid hrow'.has; have HT := Lib.hid ht; clear hrow' ht hnil
  have hlen : len ≤ 140737488351232 := by omega
  have hz : len ≤ zs.length := HR.out.1
  obtain ⟨bs, hbs⟩ : ∃ bs : List Int, zs.take len = bs := ⟨_, rfl⟩
  have hbl : bs.length = len := by rw [← hbs]; simp; omega
  have hbb : Bytes bs := by rw [← hbs]; exact bytes_part hBz fun z hz => List.mem_of_mem_take hz
  have HBz := Lib.hid hBz; have HBL := Lib.hid hbl; have HBB := Lib.hid hbb; have HBS := Lib.hid hbs; clear hBz hbl hbb hbs
  obtain ⟨X, hX⟩ : ∃ X : Nat, (crcS bs).toNat = X := ⟨_, rfl⟩
  obtain ⟨Y, hY⟩ : ∃ Y : Int, smallS bs = Y := ⟨_, rfl⟩
  have c1 : ∀ (w : World), Tab w → Fr.HasRow .u8 w a len zs → Calls Tryd.prog 8 #[.slice a len cap] w fun e w' => e = .returned (.int .u32 (X : Int)) ∧ w = w' := by rw [← hX, ← HBS.out]; exact fun w h1 h2 => crc_any a len cap zs w h1 HBz.out h2
  have c3 : ∀ (w : World), Fr.HasRow .u8 w a len zs → Calls Tryd.prog 10 #[.slice a len cap] w fun e w' => e = .returned (.int .i64 Y) ∧ w = w' := by rw [← hY, ← HBS.out]; exact fun w h2 => small_any a len cap zs w HBz.out h2
  have C1 := Lib.hid c1; have C3 := Lib.hid c3; have HX := Lib.hid hX; have HY := Lib.hid hY; clear c1 c3 hX hY
  go_enter Tryd.func4, Tryd.ntmps4
  go_wp2_with (first | (go_at_call 7; (with_reducible refine (wakes_any _ (tab_keep HT.out ((Below.refl _ _).alloc (Nat.le_refl _) _))).mono ?_); rintro e w1 ⟨rfl, hb1⟩; have HB1 := Lib.hid hb1; clear hb1) | (at_builtin; refine wp_apd rfl (.tmp 13) (.tmp 14) rfl w1.heap.size _ [] rfl (own_made w1 (Nat.le_refl _)) a len cap zs rfl (((HR.out.keep ((Below.refl _ _).alloc (Nat.le_refl _) _)).keep HB1.out).keep ((Below.refl _ _).alloc (Nat.le_refl _) _)) HN.out (by simp; omega) (by simp) ?_; intro v1 w2 ho1' hb2'; rw [List.nil_append, HBS.out] at ho1'; have ho1 := Lib.hid ho1'; have HB2 := Lib.hid (below_next HB1.out (((Below.refl _ _).alloc (Nat.le_refl _) _).trans hb2')); obtain ⟨x0, x1, x2, x3⟩ := box_cells w _ _ _ _ _ HB2.out; have HB3 := Lib.hid (((Below.refl _ _).alloc (Nat.le_refl _) _).trans hb2'); clear ho1' hb2'))
  obtain ⟨ad, cap2, rfl, hrowc, hnc, hcc, hcm⟩ := own_row ho1.out
  rw [HBL.out] at ho1 hrowc hcc
  rw [HBL.out]
  have ho1 := Lib.hid ho1.out; have HRC := Lib.hid hrowc
  unfold maxLen at hcm
  clear hrowc x0 x1 x2 x3
  go_loopg [8, 17] 4 (fun m u i wr => ∃ (k : Nat), k + m = 4 ∧ i = .int .i64 (k : Int) ∧ u = .int .i64 0 ∧ wr = w2)
  case atStart => exact ⟨0, by omega, rfl, rfl, rfl⟩
  case round =>
    obtain ⟨k, hk, rfl, rfl, rfl⟩ := hrel
    by_cases hlt : k < 4
    · have ix := index4 m0 m1 m2 m3 k hlt wr
      go_wp2
      go_roundg (4 - (k + 1))
      case measure => omega
      case rel => exact ⟨k + 1, by omega, by go_num, rfl, rfl⟩
    · obtain rfl : k = 4 := by omega
      have hT4 : bs.take len = bs := List.take_of_length_le (by rw [HBL.out]; exact Nat.le_refl _)
      have c1 : ∀ (w : World), Tab w → Fr.HasRow .u8 w ad len bs → Calls Tryd.prog 8 #[.slice ad len cap2] w fun e w' => e = .returned (.int .u32 (X : Int)) ∧ w = w' := by rw [← HX.out]; intro w h1 h2; have := crc_any ad len cap2 bs w h1 HBB.out h2; rw [hT4] at this; exact this
      have D1 := Lib.hid c1
      clear c1 hT4
      have hT5 : Hid (Tab wr) := tab_keep (tab_keep (tab_keep HT.out ((Below.refl _ _).alloc (Nat.le_refl _) _)) HB1.out) HB3.out
      have R5 : Hid (Fr.HasRow .u8 wr a len zs) := ((HR.out.keep ((Below.refl _ _).alloc (Nat.le_refl _) _)).keep HB1.out).keep HB3.out
      have B5 : Hid (Below w.heap.size w wr) := ((Below.refl _ _).alloc (Nat.le_refl _) _).trans ((HB1.out.trans (HB3.out.mono HB1.out.size)).mono (by simp))
      go_wp2_with (first | (go_at_call 8; (with_reducible refine (C1.out _ hT5.out R5.out).mono ?_); rintro e w' ⟨rfl, rfl⟩) | (go_at_call 8; (with_reducible refine (D1.out _ hT5.out HRC.out).mono ?_); rintro e w' ⟨rfl, rfl⟩))
      go_ret
      exact ⟨rfl, B5.out⟩

theorem tells_walk (p m0 m1 m2 m3 : Int) (a : Option Addr) (len cap : Nat) (zs : List Int) (w : World) (ht : Tab w) (hrow : Fr.IsRow .u8 w a len cap zs) (hreach : cap * 1 ≤ 140737488351232)
    (hp : (Lit.int .i64 p).wf = true) (h0 : (Lit.int .u8 m0).wf = true) (h1 : (Lit.int .u8 m1).wf = true) (h2 : (Lit.int .u8 m2).wf = true) (h3 : (Lit.int .u8 m3).wf = true) :
    Calls Tryd.prog 4 #[.slice a len cap, .int .i64 p, .agg #[.int .u8 m0, .int .u8 m1, .int .u8 m2, .int .u8 m3]] w fun e w' => e = .returned (.bool true) ∧ Below w.heap.size w w' := by
  have b0 := bounds_u8 h0; have b1 := bounds_u8 h1; have b2 := bounds_u8 h2; have b3 := bounds_u8 h3; have bp := bounds_i64 hp
  obtain ⟨m0, rfl⟩ := Int.eq_ofNat_of_zero_le b0.1
  obtain ⟨m1, rfl⟩ := Int.eq_ofNat_of_zero_le b1.1
  obtain ⟨m2, rfl⟩ := Int.eq_ofNat_of_zero_le b2.1
  obtain ⟨m3, rfl⟩ := Int.eq_ofNat_of_zero_le b3.1
  by_cases hn : p < 0
  · exact tells_neg p m0 m1 m2 m3 a len cap zs w ht hrow hreach hn (by omega) (by omega) (by omega) (by omega)
  · obtain ⟨p, rfl⟩ := Int.eq_ofNat_of_zero_le (Int.not_lt.1 hn)
    exact tells_in p m0 m1 m2 m3 a len cap zs w ht hrow hreach (by omega) (by omega) (by omega) (by omega) (by omega)
end Go.Proofs.YtccolhekkjgabaaDoor.Sx

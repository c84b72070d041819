/-
  Layer 5: the law on full disks, walked.
-/
import Derived.Test.YtdonkmkjblofpaaDoorVg
namespace Go.Proofs.YtdonkmkjblofpaaDoor.Wl
open Go.RowKit Go.Sort Dx Sx Dk Fo
set_option linter.unusedVariables false
set_option linter.unusedSimpArgs false
def recOf (R : Nat → Rw) (i : Nat) : List Int := (R i).zs.take (R i).len
theorem rec_len {w : World} {r : Rw} (h : RowOk w r) : (r.zs.take r.len).length = r.len := by rw [List.length_take]; have := h.row.1; omega
theorem size_recs {w : World} {R : Nat → Rw} {B : Nat} : ∀ {T : List Nat}, (∀ i ∈ T, RowOk w (R i) ∧ (R i).len ≤ B) → sizeR (T.map (recOf R)) ≤ T.length * (8 + B)
  | [], _ => by simp [sizeR]
  | i :: T, h => by
    have h1 := size_recs (T := T) fun x hx => h x (by simp [hx])
    have h2 := h i (by simp)
    have h3 := rec_len h2.1
    rw [List.map_cons, sizeR, List.length_cons, Nat.add_mul, Nat.one_mul]
    have : (recOf R i).length = (R i).len := h3
    omega
theorem RowsV.mono {w : World} {a : Option Addr} {m n : Nat} {R R' : List (List Int)} (h : RowsV w a m R) (hn : n ≤ m) (he : ∀ i, i < n → R'.getD i [] = R.getD i []) : RowsV w a n R' := fun i hi => by
  rw [he i hi]; exact h i (by omega)
theorem tk_rows {W w : World} {Q : Nat → Prop} {ad : Option Addr} {n cp : Nat} {T : List Nat} {R : Nat → Rw} (h : Tk W w Q (.slice ad n cp) (T.map fun i => (R i).val)) (hn : T.length = n) (hr : ∀ i ∈ T, RowOk w (R i)) : RowsV w ad n (T.map (recOf R)) := fun i hi => by
  have hi' : i < T.length := by omega
  have hm := hr T[i] (List.getElem_mem hi')
  have hg : (T.map (recOf R)).getD i [] = recOf R T[i] := by simp [List.getD, hi']
  have hl : (recOf R T[i]).length = (R T[i]).len := rec_len hm
  rw [hg, hl]
  have row := h.row
  rw [List.length_map, hn] at row
  rcases h.row.2 with ⟨e, h0⟩ | ⟨g, cap, cur, ev, hb, hh, k1, k2, k3, k4⟩
  · simp at h0; subst h0; simp at hi'
  · injection ev with e1 e2 e3
    subst e1
    refine ⟨g, 0, (R T[i]).a, (R T[i]).cap, rfl, ?_, hm.le, ?_⟩
    · rw [Nat.zero_add, World.ownsRow.cellAt row i (by omega)]
      simp [hi', Rw.val]
    · have := row_take hm.row (Nat.le_refl _)
      exact this
theorem few_of {per : Int} {D : List (List (List Int))} {c : List (List Int)} {S : St} {n k : Nat} {B : Int} (h : Jn per D c S) (hper : 1 ≤ per) (hn : (D.flatten ++ c).length = n) (hk : n < k) (hlim : per < B → (k : Int) ≤ 14 * per) (hB : (k : Int) < B) : (nxD per D c).length < 16 := by
  have hx := (nx_len h).2
  rw [hn] at hx
  rcases Int.lt_or_le per B with h1 | h1
  · have := hlim h1
    rcases Nat.lt_or_ge (nxD per D c).length 16 with h2 | h2
    · exact h2
    · exfalso
      have : (16 : Int) * per ≤ ((nxD per D c).length : Int) * per := Int.mul_le_mul_of_nonneg_right (by omega) (by omega)
      omega
  · rcases Nat.eq_zero_or_pos (nxD per D c).length with h2 | h2
    · omega
    · exfalso
      have : (1 : Int) * per ≤ ((nxD per D c).length : Int) * per := Int.mul_le_mul_of_nonneg_right (by omega) (by omega)
      omega
theorem few_last {per : Int} {D : List (List (List Int))} {c : List (List Int)} {S : St} {n k : Nat} {B : Int} (h : Jn per D c S) (hper : 1 ≤ per) (hn : (D.flatten ++ c).length = n) (hk : n ≤ k) (hlim : per < B → (k : Int) ≤ 14 * per) (hB : (k : Int) < B) : (nxD per D c).length < 16 := by
  have hx := (nx_len h).2
  rw [hn] at hx
  rcases Int.lt_or_le per B with h1 | h1
  · have := hlim h1
    rcases Nat.lt_or_ge (nxD per D c).length 16 with h2 | h2
    · exact h2
    · exfalso
      have : (16 : Int) * per ≤ ((nxD per D c).length : Int) * per := Int.mul_le_mul_of_nonneg_right (by omega) (by omega)
      omega
  · rcases Nat.eq_zero_or_pos (nxD per D c).length with h2 | h2
    · omega
    · exfalso
      have : (1 : Int) * per ≤ ((nxD per D c).length : Int) * per := Int.mul_le_mul_of_nonneg_right (by omega) (by omega)
      omega
theorem last_bytes : Bytes [108, 97, 115, 116] := fun j hj => by
  match j, hj with
  | 0, _ => decide
  | 1, _ => decide
  | 2, _ => decide
  | 3, _ => decide
theorem txt_last : strOfNums ([108, 97, 115, 116].take 4) = (⟨#[108, 97, 115, 116]⟩ : ByteArray) := by decide +kernel
/-- One record more, or none for want of room. -/
theorem full_append {W w : World} {d g : Nat} {per : Int} {D : List (List (List Int))} {c : List (List Int)} {S : St} {O : Nat → Prop} {recs : List (List Int)} {n : Nat} (h : JO W w d g per D c S O) (ht : Tabs W) (hper : 1 ≤ per) (hc : D.flatten ++ c = recs) (hn : recs.length = n) (ha : S.arm = 0) (hs : sizeR recs ≤ 300000) (hn2 : n ≤ 1000) (hfew : (nxD per D c).length < 16)
    (r : Rw) (hok : RowOk w r) (hb : Bytes r.zs) (hl : r.len ≤ 65536) :
    Calls Tryd.prog 13 #[.pointer (some ⟨g, 0, none⟩), .slice r.a r.len r.cap] w fun e w' => (e = .returned (.tuple #[.int .i64 0, .int .i64 22]) ∧ S.room < ((sizeR recs + (8 + r.len) : Nat) : Int) ∧ ∃ O', Step w (Og O g) w' (Og O' g) ∧ JO W w' d g per D c S O') ∨
      (e = .returned (.tuple #[.int .i64 ((n : Int) + 1), .int .i64 0]) ∧ ∃ D' c' S' O', Step w (Og O g) w' (Og O' g) ∧ JO W w' d g per D' c' S' O' ∧ D'.flatten ++ c' = recs ++ [r.zs.take r.len] ∧ S'.arm = 0 ∧ c' ≠ []) := by
  have hl2 := rec_len hok
  have hnext : 1 + tot D + c.length = n + 1 := by
    have := congrArg List.length hc
    rw [List.length_append, ← tot_flat, hn] at this; omega
  refine (jo_append h ht hper r.a r.len r.cap r.zs hb hok.row hok.nil hl (by rw [hc]; omega) (by rw [hc]; omega) hfew).mono ?_
  rintro e w' ⟨h1, h2⟩
  rw [hc, hl2] at h1 h2
  rcases Int.lt_or_le S.room ((sizeR recs + (8 + r.len) : Nat) : Int) with hr | hr
  · obtain ⟨e1, e2⟩ := h1 hr
    exact .inl ⟨e1, hr, e2⟩
  · obtain ⟨x, S', O', e1, st, e2, e3⟩ := h2 hr
    have hx : x = 0 := by
      rcases e1.1 with h | h
      · exact h.1
      · exact absurd ha h.2.2
    obtain ⟨k1, k2⟩ := e2 hx
    refine .inr ⟨by rw [k1, hnext]; rfl, _, _, S', O', st, k2, ?_, e1.2.1 ha, by simp⟩
    rw [← List.append_assoc, nx_flat, hc]
set_option maxRecDepth 100000 in
set_option maxHeartbeats 3200000 in
theorem wfull_walk (a : Option Addr) (len cap : Nat) (R : Nat → Rw) (b : Int) (hb : -9223372036854775808 ≤ b ∧ b ≤ 9223372036854775807) (a2 : Option Addr) (len2 cap2 : Nat) (zs : List Int) (w : World) (ht : Tabs w) (rows : HasRows w a len R) (hby : ∀ j, j < len → Bytes (R j).zs) (rooms : Fr.HasRow .i64 w a2 len2 zs) :
    Calls Tryd.prog 4 #[.slice a len cap, .int .i64 b, .slice a2 len2 cap2] w fun e w' => e = .returned (.bool true) ∧ Below w.heap.size w w' := by
  have hm := rows.1; have hm2 := rooms.2.1
  have HT := Lib.hid ht; have RS := Lib.hid rows; have FSt := Lib.hid rooms; have BY := Lib.hid hby
  clear ht rows rooms hby
  obtain ⟨M, hM⟩ : ∃ M, IntKind.i64.wrap (14 * b) = M := ⟨_, rfl⟩
  have early : ∀ (t : Prop), t → t := fun _ h => h
  by_cases hb1 : b < 1
  · go_enter Tryd.func4, Tryd.ntmps4
    go_wp2_with fail
    refine (wakes_any w HT.out).mono ?_
    rintro e w1 ⟨rfl, hb1⟩
    have B1 := Lib.hid hb1; clear hb1
    go_wp2
    go_ret
    exact ⟨rfl, B1.out⟩
  by_cases hbad : (len : Int) > M ∧ b < 1048576
  · obtain ⟨t1, t2⟩ := hbad
    go_enter Tryd.func4, Tryd.ntmps4
    go_wp2_with fail
    refine (wakes_any w HT.out).mono ?_
    rintro e w1 ⟨rfl, hb1⟩
    have B1 := Lib.hid hb1; clear hb1
    go_wp2
    go_ret
    exact ⟨rfl, B1.out⟩
  have tt : (decide ((len : Int) > M) = false) ∨ (decide ((len : Int) > M) = true ∧ ¬ b < 1048576) := by
    by_cases h1 : (len : Int) > M
    · exact .inr ⟨by simpa using h1, fun h => hbad ⟨h1, h⟩⟩
    · exact .inl (by simpa using h1)
  by_cases h200 : len > 200
  · have t3 : (len : Int) > 200 := by omega
    clear hbad
    rcases tt with t1 | ⟨t1, t2⟩
    all_goals
      go_enter Tryd.func4, Tryd.ntmps4
      go_wp2_with fail
      refine (wakes_any w HT.out).mono ?_
      rintro e w1 ⟨rfl, hb1⟩
      have B1 := Lib.hid hb1; clear hb1
      go_wp2
      go_ret
      exact ⟨rfl, B1.out⟩
  have t3 : ¬ ((len : Int) > 200) := by omega
  have hlim : Hid (b < 1048576 → (len : Int) ≤ 14 * b) := Lib.hid fun h => by
    have : M = 14 * b := by rw [← hM, IntWalk.i64_in _ (by omega)]
    omega
  have HB := Lib.hid hb; have HL := Lib.hid h200
  clear hbad
  rcases tt with t1 | ⟨t1, t2⟩
  all_goals
    go_enter Tryd.func4, Tryd.ntmps4
    go_wp2_with fail
    refine (wakes_any w HT.out).mono ?_
    rintro e w1 ⟨rfl, hb1⟩
    have B1 := Lib.hid hb1; have HT1 := Lib.hid (HT.out.keep hb1)
    have RS1 := Lib.hid (RS.out.keep hb1); have FS1 := Lib.hid (FSt.out.keep hb1)
    clear hb1
    go_wp2_with fail
    refine (ok_new w1 1048576).mono ?_
    rintro e w2 ⟨rfl, ok2⟩
    obtain ⟨d, hd⟩ : ∃ d, w1.heap.size + 1 = d := ⟨_, rfl⟩
    rw [hd] at ok2 ⊢
    have OP := Lib.hid (jw_new ok2 HT1.out rfl rfl b (by omega))
    clear ok2 hd
    go_wp2_with fail
    refine OP.out.mono ?_
    rintro e w3 ⟨g, ad3, cap3, rfl, hj3⟩
    obtain ⟨O3, jo3⟩ := jo_of hj3
    have J3 := Lib.hid jo3
    clear hj3 OP jo3
    go_wp2_with fail
    go_loopg [12, 55] len (fun m t i wr => ∃ (k n : Nat) (T : List Nat) (D : List (List (List Int))) (cc : List (List Int)) (S : St) (O : Nat → Prop) (ad : Option Addr) (cp : Nat), k + m = len ∧ i = .int .i64 (k : Int) ∧ t = .slice ad n cp ∧ n ≤ k ∧ Hid (JO w1 wr d g b D cc S O) ∧ Hid (Tk w1 wr (Og O g) (.slice ad n cp) (T.map fun i => (R i).val)) ∧ Hid (T.length = n) ∧ Hid (D.flatten ++ cc = T.map (recOf R)) ∧ Hid (∀ i ∈ T, i < len ∧ (R i).len ≤ 1024) ∧ Hid (S.arm = 0))
    case atStart => exact ⟨0, 0, [], [], [], _, O3, none, 0, by omega, by first | rfl | go_num, rfl, Nat.le_refl _, J3, Lib.hid ⟨⟨rfl, .inl ⟨rfl, rfl⟩⟩, fun b e => (by cases e)⟩, Lib.hid rfl, Lib.hid rfl, Lib.hid fun i hi => (by cases hi), Lib.hid rfl⟩
    case round =>
      obtain ⟨k, n, T, D, cc, S, O, ad, cp, hk, rfl, rfl, hnk, HJ, HTK, HTL, HF, HTI, HA⟩ := hrel
      have RSr := Lib.hid (RS1.out.keep HJ.out.frame); have FSr := Lib.hid (FS1.out.keep HJ.out.frame)
      have SZ : Hid (sizeR (T.map (recOf R)) ≤ 206400) := Lib.hid (by
        have h1 := size_recs (T := T) (R := R) (B := 1024) fun i hi => ⟨RSr.out.2.2 i (HTI.out i hi).1, (HTI.out i hi).2⟩
        rw [HTL.out] at h1
        have : n * (8 + 1024) ≤ 200 * (8 + 1024) := Nat.mul_le_mul_right _ (by have := HL.out; omega)
        omega)
      by_cases hlt : k < len
      · obtain ⟨rb, off, rfl, hcell⟩ := RSr.out.2.1 (by omega)
        have ck := hcell k hlt
        obtain ⟨ra, rl, rc, rz, hrk⟩ : ∃ ra rl rc rz, R k = ⟨ra, rl, rc, rz⟩ := ⟨_, _, _, _, rfl⟩
        have hrok := RSr.out.2.2 k hlt
        have hrby := BY.out k hlt
        rw [hrk] at ck hrok hrby
        have i0 : (0 : Int) ≤ (k : Int) := by omega
        have i1 : (k : Int) < (len : Int) := by omega
        -- ROUND BEGIN
        by_cases hbig : rl > 1024
        · have tb : (rl : Int) > 1024 := by omega
          have FR := Lib.hid (B1.out.trans (HJ.out.frame.mono B1.out.size))
          go_wp2
          go_ret
          exact ⟨rfl, FR.out⟩
        have tb : ¬ ((rl : Int) > 1024) := by omega
        by_cases hk2 : k < len2
        · obtain ⟨b2, off2, rfl, hc2⟩ := FSr.out.2.2 (by omega)
          have c2 := hc2 k hk2
          obtain ⟨z, hz⟩ : ∃ z, zs.getD k 0 = z := ⟨_, rfl⟩
          rw [hz] at c2
          have j0 : (k : Int) < (len2 : Int) := by omega
          have RM := Lib.hid (jo_room HJ.out z)
          clear hcell hc2 hz
          go_wp2_with fail
          clear ck c2
          refine RM.out.mono ?_
          rintro e w5 ⟨rfl, O5, st5, hj5⟩
          have JX := Lib.hid hj5; have TX := Lib.hid (HTK.out.step st5)
          have SX : Hid (({ S with room := z } : St).arm = 0) := Lib.hid HA.out
          have hrok5 : RowOk w5 ⟨ra, rl, rc, rz⟩ := by have := (RS1.out.keep hj5.frame).2.2 k hlt; rwa [hrk] at this
          clear st5 hj5 RM
          have FA := Lib.hid (full_append (recs := T.map (recOf R)) (n := n) JX.out HT1.out (by omega) HF.out (by rw [List.length_map]; exact HTL.out) SX.out (by have := SZ.out; omega) (by omega) (few_of (n := n) (k := len) (B := 1048576) JX.out.jn (by omega) (by rw [HF.out, List.length_map]; exact HTL.out) (by omega) hlim.out (by omega)) ⟨ra, rl, rc, rz⟩ (hrok5) hrby (by show rl ≤ 65536; omega))
          go_wp2_with fail
          refine FA.out.mono ?_
          rintro e w6 (⟨rfl, hroom, O6, st6, hj6⟩ | ⟨rfl, D6, c6, S6, O6, st6, hj6, hf6, ha6, hc6⟩)
          · have T6 := Lib.hid (TX.out.step st6); have J6 := Lib.hid hj6
            clear st6 hj6 hroom FA
            go_wp2_with fail
            go_roundg (len - (k + 1))
            case measure => omega
            case rel => exact ⟨k + 1, n, T, D, cc, _, O6, ad, cp, by omega, by first | rfl | go_num, by first | rfl | go_num, by omega, J6, T6, HTL, HF, HTI, SX⟩
          · have hal : Below w6.heap.size w6 (w6.alloc (.cells #[.slice ra rl rc] 26)) := (Below.refl _ _).alloc (Nat.le_refl _) _
            have T6 := Lib.hid ((TX.out.step st6).below hal); have J6 := Lib.hid (hj6.below hal)
            have C6 : Hid ((w6.alloc (.cells #[.slice ra rl rc] 26)).cell? ⟨w6.heap.size, 0, none⟩ = some (.slice ra rl rc)) := Lib.hid (by rw [World.cell?_alloc_mark]; rfl)
            have F6 : Hid (D6.flatten ++ c6 = (T ++ [k]).map (recOf R)) := Lib.hid (by rw [hf6, List.map_append]; simp [recOf, hrk])
            have A6 := Lib.hid ha6
            have TI6 : Hid (∀ i ∈ T ++ [k], i < len ∧ (R i).len ≤ 1024) := Lib.hid fun i hi => by
              rcases List.mem_append.1 hi with hi | hi
              · exact HTI.out i hi
              · rw [List.mem_singleton] at hi; subst hi; exact ⟨hlt, by rw [hrk]; show rl ≤ 1024; omega⟩
            have TL6 : Hid ((T ++ [k]).length = n + 1) := Lib.hid (by rw [List.length_append, HTL.out]; rfl)
            have VS : Hid (∀ vv ww, Tk w1 ww (Og O6 g) vv ((T.map fun i => (R i).val) ++ [.slice ra rl rc]) → Tk w1 ww (Og O6 g) vv ((T ++ [k]).map fun i => (R i).val)) := Lib.hid fun vv ww h => by
              rw [List.map_append]; simpa [Rw.val, hrk] using h
            have tn : ((n : Int) + 1 != ((n + 1 : Nat) : Int)) = false := by simp
            have tn2 : ((n : Int) + 1 == ((n + 1 : Nat) : Int)) = true := by simp
            clear st6 hj6 hf6 ha6 hc6 hal FA
            go_wp2_with (at_builtin; go_loud (refine wp_tapp rfl (.tmp 87) (.tmp 89) rfl w1 d g b D6 c6 S6 O6 (.slice ad n cp) n _ J6.out T6.out (by rw [List.length_map]; exact HTL.out) rfl (by omega) w6.heap.size (.slice ra rl rc) rfl rfl C6.out ?_); rintro v' w8 hj8 ht8 ⟨ad', cp', rfl⟩; have J8 := Lib.hid hj8; have T8 := Lib.hid (VS.out _ _ ht8); clear hj8 ht8)
            go_roundg (len - (k + 1))
            case measure => omega
            case rel => exact ⟨k + 1, n + 1, T ++ [k], D6, c6, S6, O6, ad', cp', by omega, by first | rfl | go_num, by first | rfl | go_num, by omega, J8, T8, TL6, F6, TI6, A6⟩
        · have j0 : ¬ ((k : Int) < (len2 : Int)) := by omega
          have JX := HJ; have TX := HTK; have SX := HA
          clear hcell
          have FA := Lib.hid (full_append (recs := T.map (recOf R)) (n := n) JX.out HT1.out (by omega) HF.out (by rw [List.length_map]; exact HTL.out) SX.out (by have := SZ.out; omega) (by omega) (few_of (n := n) (k := len) (B := 1048576) JX.out.jn (by omega) (by rw [HF.out, List.length_map]; exact HTL.out) (by omega) hlim.out (by omega)) ⟨ra, rl, rc, rz⟩ (hrok) hrby (by show rl ≤ 65536; omega))
          go_wp2_with fail
          refine FA.out.mono ?_
          rintro e w6 (⟨rfl, hroom, O6, st6, hj6⟩ | ⟨rfl, D6, c6, S6, O6, st6, hj6, hf6, ha6, hc6⟩)
          · have T6 := Lib.hid (TX.out.step st6); have J6 := Lib.hid hj6
            clear st6 hj6 hroom FA
            go_wp2_with fail
            go_roundg (len - (k + 1))
            case measure => omega
            case rel => exact ⟨k + 1, n, T, D, cc, _, O6, ad, cp, by omega, by first | rfl | go_num, by first | rfl | go_num, by omega, J6, T6, HTL, HF, HTI, SX⟩
          · have hal : Below w6.heap.size w6 (w6.alloc (.cells #[.slice ra rl rc] 26)) := (Below.refl _ _).alloc (Nat.le_refl _) _
            have T6 := Lib.hid ((TX.out.step st6).below hal); have J6 := Lib.hid (hj6.below hal)
            have C6 : Hid ((w6.alloc (.cells #[.slice ra rl rc] 26)).cell? ⟨w6.heap.size, 0, none⟩ = some (.slice ra rl rc)) := Lib.hid (by rw [World.cell?_alloc_mark]; rfl)
            have F6 : Hid (D6.flatten ++ c6 = (T ++ [k]).map (recOf R)) := Lib.hid (by rw [hf6, List.map_append]; simp [recOf, hrk])
            have A6 := Lib.hid ha6
            have TI6 : Hid (∀ i ∈ T ++ [k], i < len ∧ (R i).len ≤ 1024) := Lib.hid fun i hi => by
              rcases List.mem_append.1 hi with hi | hi
              · exact HTI.out i hi
              · rw [List.mem_singleton] at hi; subst hi; exact ⟨hlt, by rw [hrk]; show rl ≤ 1024; omega⟩
            have TL6 : Hid ((T ++ [k]).length = n + 1) := Lib.hid (by rw [List.length_append, HTL.out]; rfl)
            have VS : Hid (∀ vv ww, Tk w1 ww (Og O6 g) vv ((T.map fun i => (R i).val) ++ [.slice ra rl rc]) → Tk w1 ww (Og O6 g) vv ((T ++ [k]).map fun i => (R i).val)) := Lib.hid fun vv ww h => by
              rw [List.map_append]; simpa [Rw.val, hrk] using h
            have tn : ((n : Int) + 1 != ((n + 1 : Nat) : Int)) = false := by simp
            have tn2 : ((n : Int) + 1 == ((n + 1 : Nat) : Int)) = true := by simp
            clear st6 hj6 hf6 ha6 hc6 hal FA
            go_wp2_with (at_builtin; go_loud (refine wp_tapp rfl (.tmp 87) (.tmp 89) rfl w1 d g b D6 c6 S6 O6 (.slice ad n cp) n _ J6.out T6.out (by rw [List.length_map]; exact HTL.out) rfl (by omega) w6.heap.size (.slice ra rl rc) rfl rfl C6.out ?_); rintro v' w8 hj8 ht8 ⟨ad', cp', rfl⟩; have J8 := Lib.hid hj8; have T8 := Lib.hid (VS.out _ _ ht8); clear hj8 ht8)
            go_roundg (len - (k + 1))
            case measure => omega
            case rel => exact ⟨k + 1, n + 1, T ++ [k], D6, c6, S6, O6, ad', cp', by omega, by first | rfl | go_num, by first | rfl | go_num, by omega, J8, T8, TL6, F6, TI6, A6⟩
        -- ROUND END
      · obtain rfl : k = len := by omega
        have RM := Lib.hid (jo_room HJ.out 1048576)
        go_wp2_with fail
        refine RM.out.mono ?_
        rintro e w5 ⟨rfl, O5, st5, hj5⟩
        have T5 := Lib.hid (HTK.out.step st5); have J5 := Lib.hid hj5
        clear st5 hj5 RM
        have kc1 := Joins.run_convert_bytes_const_at (P := Tryd.prog) w5 26 5 #[.int .u8 108, .int .u8 97, .int .u8 115, .int .u8 116] 4 4 w5.heap.size rfl Tryd.underlying26 Tryd.underlying5
        have hal : Below w5.heap.size w5 (w5.alloc (.cells #[.int .u8 108, .int .u8 97, .int .u8 115, .int .u8 116] 5 (4, 5))) := (Below.refl _ _).alloc (Nat.le_refl _) _
        have FA := Lib.hid (full_append (recs := T.map (recOf R)) (n := n) (J5.out.below hal) HT1.out (by omega) HF.out (by rw [List.length_map]; exact HTL.out) HA.out (by have := SZ.out; omega) (by have := HL.out; omega) (few_last (n := n) (k := k) (B := 1048576) HJ.out.jn (by omega) (by rw [HF.out, List.length_map]; exact HTL.out) hnk hlim.out (by have := HL.out; omega)) ⟨some ⟨w5.heap.size, 0, none⟩, 4, 4, [108, 97, 115, 116]⟩ ⟨const_row w5 [108, 97, 115, 116] (4, 5) (by decide), (fun h => by cases h), Nat.le_refl _, (by simp)⟩ last_bytes (by simp))
        have T5a := Lib.hid (T5.out.below hal)
        clear hal
        go_wp2_with fail
        refine FA.out.mono ?_
        rintro e w6 (⟨rfl, hroom, O6, st6, hj6⟩ | ⟨rfl, D6, c6, S6, O6, st6, hj6, hf6, ha6, hc6⟩)
        · exfalso
          have := SZ.out
          simp at hroom
          omega
        obtain ⟨q1, q2, q3⟩ := hj6.jn.cs
        have hflen : (Cs D6 c6).flatten.length = n + 1 := by rw [q2, hf6, List.length_append, List.length_map, HTL.out]; rfl
        have OPN := jo_open (W := w1) (t := []) hj6.wal.disk hj6.frame (fun i hi => hj6.high i (.inl hi)) HT1.out q1 hj6.jn.up q3 bytes_nil one_nil (Nat.le_refl _) (by rw [tot_flat, hflen]; have := HL.out; omega) b (by omega)
        unfold OpO at OPN
        rw [hflen, q2, hf6, ite_self] at OPN
        have OPN := Lib.hid OPN
        have T6 := Lib.hid (T5a.out.step st6)
        have A6 := Lib.hid ha6
        have RW6 : Hid (∀ wx, Below w1.heap.size w1 wx → ∀ i ∈ T, RowOk wx (R i)) := Lib.hid fun wx hbx i hi => (RS1.out.keep hbx).2.2 i (HTI.out i hi).1
        clear st6 hj6 hf6 ha6 hc6 q1 q2 q3 hflen FA
        go_wp2_with fail
        refine OPN.out.mono ?_
        rintro e w7 ⟨x, S7, O7, e1, _, _, st7, hb7, _, e4, _⟩
        have hx : x = 0 := by
          rcases e1.1 with h | h
          · exact h.1
          · exact absurd A6.out h.2.2
        obtain ⟨g7, ad7, cap7, rfl, hcap7, rows7⟩ := e4 hx
        have T7 := T6.out.step (step_og (g := g) st7)
        have tk7 := tk_rows T7 HTL.out (RW6.out w7 hb7)
        have hLT : (T.map (recOf R)).length = n := by rw [List.length_map]; exact HTL.out
        have got7 : RowsV w7 ad7 n (T.map (recOf R)) := rows7.mono (by omega) fun i hi => by
          simp [List.getD, List.getElem?_append_left (show i < (T.map (recOf R)).length by omega)]
        have hlast : (T.map (recOf R) ++ [[108, 97, 115, 116]]).getD n [] = [108, 97, 115, 116] := by simp [List.getD, List.getElem?_append_right, hLT]
        obtain ⟨b7, off7, adl, cl, rfl, cn7, hcl, rl7⟩ := rows7 n (by omega)
        rw [show List.take 4 [(108 : Int), 97, 115, 116] = [108, 97, 115, 116] from rfl, hlast] at cn7 rl7
        have AL := Lib.hid (alikeV_any (ca := cap7) (cb := cp) (by have := HL.out; omega) got7 tk7)
        have FIN : Hid (∀ wx, Below w7.heap.size w7 wx → wx.cell? ⟨b7, off7 + n, none⟩ = some (.slice adl 4 cl) ∧ Fr.HasRow .u8 wx adl 4 [108, 97, 115, 116] ∧ Below w.heap.size w wx) := Lib.hid fun wx hbx => ⟨(hbx.cell (Fr.lt_of_cell cn7)).trans cn7, rl7.keep hbx, B1.out.trans ((hb7.trans (hbx.mono hb7.size)).mono B1.out.size)⟩
        have n1 : IntKind.i64.wrap ((n : Int) + 1) = (n : Int) + 1 := IntWalk.i64_in _ (by have := HL.out; omega)
        have n2 : IntKind.i64.wrap ((n : Int) + 1 - 1) = (n : Int) := by rw [IntWalk.i64_in _ (by have := HL.out; omega)]; omega
        have n3 : (((n + 1 : Nat) : Int) == (n : Int) + 1) = true := by simp
        have n4 : (0 : Int) ≤ (n : Int) := by omega
        have n5 : (n : Int) < ((n + 1 : Nat) : Int) := by omega
        have n6 : (n : Int) ≤ (cap7 : Int) := by omega
        clear e1 e4 hx rows7 T7 tk7 hLT got7 hlast cn7 rl7 OPN
        go_wp2_with (go_at_call 17; (with_reducible refine AL.out.mono ?_); rintro e w8 ⟨rfl, hb8⟩; obtain ⟨c8, r8, hf8⟩ := FIN.out _ hb8; have kc8 := conv_at (cap := cl) r8; rw [txt_last] at kc8; have FR8 := Lib.hid hf8; clear r8 hf8 hb8)
        go_ret
        exact ⟨rfl, FR8.out⟩
end Go.Proofs.YtdonkmkjblofpaaDoor.Wl

/-
  Layer 6: the reference's Decode.
-/
import Derived.Test.YtdonkmkjblofpaaGreatDoorNu
import Derived.Test.YtdonkmkjblofpaaGreatDoorWs
namespace Go.Proofs.YtdonkmkjblofpaaGreatDoor.Sn
open Go.RowKit Go.Sort Dx Sx Dk Wl
set_option linter.unusedVariables false
set_option linter.unusedSimpArgs false
theorem str_ext {a b : ByteArray} (h : (a.toList == b.toList) = true) : a = b := by
  have := eq_of_beq h
  rw [ByteArray.toList_eq, ByteArray.toList_eq] at this
  exact ByteArray.ext (Array.toList_inj.1 this)
theorem le4_inj {a b : Nat} (ha : a < 4294967296) (hb : b < 4294967296) (h : le4 a = le4 b) : a = b := by
  have h1 := num4_le4 ha []
  have h2 := num4_le4 hb []
  rw [h, h2] at h1; exact h1.symm
theorem four_iff {zs : List Int} (hb : Bytes zs) (h : 4 ≤ zs.length) {u : Nat} (hu : u < 4294967296) : le4 u = zs.take 4 ↔ num4 zs = u := by
  rw [← le4_num4 hb h]
  exact ⟨fun e => (le4_inj hu (num4_lt hb) e).symm, fun e => by rw [e]⟩
theorem split4 (zs : List Int) : zs = zs.take 8 ++ ((zs.drop 8).take 4 ++ zs.drop 12) := by
  have h1 : zs.drop 12 = (zs.drop 8).drop 4 := by rw [List.drop_drop]
  rw [h1, List.take_append_drop, List.take_append_drop]
theorem enc_iff {zs : List Int} (hb : Bytes zs) (h12 : 12 ≤ zs.length) {u : Nat} (h1 : num4 zs = u) (h2 : num4 (zs.drop 4) = (zs.drop 12).length) :
    encN u (zs.drop 12) = zs ↔ num4 (zs.drop 8) = crcN (zs.take 8 ++ zs.drop 12) := by
  have a1 := le4_num4 hb (by omega : 4 ≤ zs.length)
  have a2 := le4_num4 (bytes_drop hb 4) (by rw [List.length_drop]; omega)
  have a3 := le4_num4 (bytes_drop hb 8) (by rw [List.length_drop]; omega)
  have hf : frontN u (zs.drop 12).length = zs.take 8 := by
    unfold frontN
    rw [← h1, ← h2, a1, a2, ← List.take_add]
  unfold encN
  rw [hf]
  have hs := split4 zs
  constructor
  · intro h
    have h' := h.trans hs
    have e := (List.append_inj h' rfl).2
    have e2 := (List.append_inj e (by rw [le4_length, List.length_take, List.length_drop]; omega)).1
    rw [← a3] at e2
    exact (le4_inj (crcN_lt _) (num4_lt (bytes_drop hb 8)) e2).symm
  · intro h
    rw [← h, a3]
    exact hs.symm
theorem rdec_short (v : Int) (a : Option Addr) (len cap : Nat) (zs : List Int) (w : World) (hm : len ≤ 9223372036854775807) (hl : zs.length = len) (h : len < 12) :
    Calls Tryz.prog 17 #[.int .i64 v, .slice a len cap] w (DecIt w v zs) := by
  have D : Hid (DecIt w v zs (.returned (.tuple #[.slice none 0 0, .int .i64 10])) w) := Lib.hid (dec_err (by unfold decS; rw [if_pos (by omega)]) (Below.refl _ _))
  have t1 : decide ((len : Int) < 12) = true := by rw [decide_eq_true_eq]; omega
  have t2 : (len : Int) < 12 := by omega
  go_enter Tryz.func17, Tryz.ntmps17
  go_wp2
  go_ret2
  exact D.out
set_option maxRecDepth 100000 in
set_option maxHeartbeats 1600000 in
theorem rdec_main (v : Int) (b off len cap : Nat) (zs : List Int) (w : World) (hb : Bytes zs) (hrow : Fr.HasRow .u8 w (some ⟨b, off, none⟩) len zs) (hl : zs.length = len) (h12 : 12 ≤ len) (hcap : len ≤ cap) (hcm : cap ≤ 9223372036854775807) (hbig : len ≤ 140737488351232) :
    Calls Tryz.prog 17 #[.int .i64 v, .slice (some ⟨b, off, none⟩) len cap] w (DecIt w v zs) := by
  obtain ⟨M, hM⟩ : ∃ M, len = M + 12 := ⟨len - 12, by omega⟩
  have hbl : (zs.drop 12).length = M := by rw [List.length_drop]; omega
  have row4 : Fr.HasRow .u8 w (some ⟨b, off + 4, none⟩) (M + 8) (zs.drop 4) := row_drop (M := M + 8) (k := 4) (by have := hrow; rwa [hM] at this)
  obtain ⟨x0, x1, x2, x3, F⟩ := four_of row4 (by omega) (bytes_drop hb 4)
  have hD : decS v zs = (if M < num4 (zs.drop 4) then ([], 10) else if num4 (zs.drop 4) < M ∨ snm v = [] ∨ num4 zs ≠ u32N v then ([], 11) else if num4 (zs.drop 8) ≠ crcN (zs.take 8 ++ zs.drop 12) then ([], 12) else (zs.drop 12, 0)) := by
    unfold decS
    rw [if_neg (by omega), hbl]
  have h4i := four_iff hb (by omega) (u32N_lt v)
  have hei : num4 zs = u32N v → num4 (zs.drop 4) = M → (encN (u32N v) (zs.drop 12) = zs ↔ num4 (zs.drop 8) = crcN (zs.take 8 ++ zs.drop 12)) := fun h1 h2 => enc_iff hb (by omega) h1 (by rw [h2, hbl])
  have hN32 := num4_lt (bytes_drop hb 4)
  obtain ⟨N, hN⟩ : ∃ N, num4 (zs.drop 4) = N := ⟨_, rfl⟩
  rw [hN] at hD hei hN32 F
  have cu := u32N_wrap v
  obtain ⟨u, hu⟩ : ∃ u, u32N v = u := ⟨_, rfl⟩
  rw [hu] at cu hD h4i hei
  obtain ⟨c0, c1, c2, c3, v0, v1, v2, v3, m1, m2, m3, s1, s2, s3⟩ := F
  have c1' : w.cell? ⟨b, off + 5, none⟩ = some (.int .u8 x1) := c1
  have c2' : w.cell? ⟨b, off + 6, none⟩ = some (.int .u8 x2) := c2
  have c3' : w.cell? ⟨b, off + 7, none⟩ = some (.int .u8 x3) := c3
  clear c1 c2 c3
  have t0 : decide ((len : Int) < 12) = false := by rw [decide_eq_false_iff_not]; omega
  have i4 : (4 : Int) < (len : Int) := by omega
  have i5 : (5 : Int) < (len : Int) := by omega
  have i6 : (6 : Int) < (len : Int) := by omega
  have i7 : (7 : Int) < (len : Int) := by omega
  have wl : IntKind.i64.wrap ((len : Int) - 12) = (M : Int) := by rw [IntWalk.i64_in _ (by omega)]; omega
  have HU := Lib.hid hu
  have HD := Lib.hid hD; have H4 := Lib.hid h4i; have HE := Lib.hid hei; have HM := Lib.hid hM; have HR := Lib.hid hrow; have HB := Lib.hid hb; have HL := Lib.hid hl; have HBL := Lib.hid hbl
  clear hD h4i hei hM hrow hb hl hbl row4 hN hu
  by_cases p1 : M < N
  · have t1 : decide (M < N) = true := decide_eq_true p1
    have t1' : decide ((N : Int) > (M : Int)) = true := by rw [decide_eq_true_eq]; omega
    have D : Hid (∀ w', Below w.heap.size w w' → DecIt w v zs (.returned (.tuple #[.slice none 0 0, .int .i64 10])) w') := Lib.hid fun w' hb => dec_err (by rw [HD.out, if_pos p1]) hb
    clear p1
    go_enter Tryz.func17, Tryz.ntmps17
    go_wp2_with fail
    go_quiet (fail)
    go_wp2_with fail
    go_ret2
    exact D.out _ (bel_dn (Below.refl _ _) _)
  have t1 : decide (M < N) = false := decide_eq_false p1
  have t1' : decide ((N : Int) > (M : Int)) = false := by rw [decide_eq_false_iff_not]; omega
  by_cases p2 : N < M ∨ v < 0 ∨ 999999999 < v
  · have D : Hid (∀ w', Below w.heap.size w w' → DecIt w v zs (.returned (.tuple #[.slice none 0 0, .int .i64 11])) w') := Lib.hid fun w' hb => dec_err (by rw [HD.out, if_neg p1, if_pos (by rcases p2 with h | h; exact .inl h; exact .inr (.inl (snm_none h)))]) hb
    have tt : decide (N < M) = true ∨ (decide (N < M) = false ∧ decide (v < 0) = true) ∨ (decide (N < M) = false ∧ decide (v < 0) = false ∧ decide (v > 999999999) = true) := by
      by_cases q1 : N < M
      · exact .inl (decide_eq_true q1)
      · by_cases q2 : v < 0
        · exact .inr (.inl ⟨decide_eq_false q1, decide_eq_true q2⟩)
        · exact .inr (.inr ⟨decide_eq_false q1, decide_eq_false q2, by rw [decide_eq_true_eq]; omega⟩)
    clear p1 p2
    rcases tt with t2 | ⟨t2, t3⟩ | ⟨t2, t3, t4⟩
    all_goals
      go_enter Tryz.func17, Tryz.ntmps17
      go_wp2_with fail
      go_quiet (fail)
      go_wp2_with fail
      go_quiet (fail)
      go_wp2_with fail
      go_ret2
      exact D.out _ (bel_dn (bel_dn (Below.refl _ _) _) _)
  have t2 : decide (N < M) = false := decide_eq_false (by omega)
  have t3 : decide (v < 0) = false := decide_eq_false (by omega)
  have t4 : decide (v > 999999999) = false := decide_eq_false (by omega)
  have hs : snm v ≠ [] := fun h => by
    obtain ⟨n, rfl⟩ := Int.eq_ofNat_of_zero_le (show 0 ≤ v by omega)
    rw [snm_nat (by omega)] at h
    cases h
  have eNM : N = M := by omega
  have F1 := Lib.hid (four6_any u)
  have row4 : Fr.HasRow .u8 w (some ⟨b, off, none⟩) 4 (zs.take 4) := row_take HR.out (by omega)
  have kcB : ∀ wx, Below w.heap.size w wx → (convert 22 9 (.slice (some ⟨b, off, none⟩) 4 cap)).run Tryz.prog wx = .ok (.string (strOfNums (zs.take 4))) wx := fun wx h => by
    have := conv_at (cap := cap) (row4.keep h)
    rwa [List.take_take, Nat.min_self] at this
  have j4 : (4 : Int) ≤ (cap : Int) := by omega
  obtain ⟨qe, hqe⟩ : ∃ qe, ((strOfNums (le4 u)).toList == (strOfNums (zs.take 4)).toList) = qe := ⟨_, rfl⟩
  have HQ4 := Lib.hid hqe
  clear hqe
  have F1' : Hid (∀ wx, Below w.heap.size w wx → Calls Tryz.prog 53 #[.int .u32 (u : Int)] wx fun e w' => ∃ a1 c1, e = .returned (.slice a1 4 c1) ∧ Fr.HasRow .u8 w' a1 4 (le4 u) ∧ Below w.heap.size w w') := Lib.hid fun wx hx => (F1.out wx).mono fun e w' ⟨v1, h1, h2, h3⟩ => by
    obtain ⟨a1, c1, rfl, hr, _⟩ := Ob.own_row h2
    exact ⟨a1, c1, h1, hr, hx.trans (h3.mono hx.size)⟩
  have A4 : Hid (∀ wx a1 c1, Fr.HasRow .u8 wx a1 4 (le4 u) → (convert 22 9 (.slice a1 4 c1)).run Tryz.prog wx = .ok (.string (strOfNums (le4 u))) wx) := Lib.hid fun wx a1 c1 h => conv_at (cap := c1) h
  have hq := HQ4.out
  clear p1 p2 row4
  subst eNM
  go_enter Tryz.func17, Tryz.ntmps17
  go_wp2_with fail
  go_quiet (fail)
  go_wp2_with fail
  clear c0 c1' c2' c3' v0 v1 v2 v3 m1 m2 m3 s1 s2 s3
  have hbq : Below w.heap.size w (w.drewN nq).drew := (bel_dn (Below.refl _ _) _).drew
  refine wp_region_noPanic ?_
  refine wp_region_held_drew (S := fun wx => Below w.heap.size w wx) (by kernel_rfl) hbq (fun hHeld => ?_)
  generalize (w.drewN nq).drew = wq at hbq hHeld ⊢
  -- the drawn region, by hand (gen_rdec.py)
  refine Wl.takeL (i := 0) (v := .int .i64 (N : Int)) rfl (by kernel_rfl) (by kernel_rfl) (by kernel_rfl) (fun _ _ _ h => h) (Or.inl ⟨by rfl, ?_⟩) hHeld ?_
  · intro w hSw
    (try dsimp only at hSw)
    go_simp
  (try simp only [Act.put, List.setIfInBounds_toArray, List.set_cons_zero, List.set_cons_succ])
  refine Wl.takeL (i := 1) (v := .slice (some ⟨b, off, none⟩) len cap) rfl (by kernel_rfl) (by kernel_rfl) (by kernel_rfl) (fun _ _ _ h => h) (Or.inl ⟨by rfl, ?_⟩) hHeld ?_
  · intro w hSw
    (try dsimp only at hSw)
    go_simp
  (try simp only [Act.put, List.setIfInBounds_toArray, List.set_cons_zero, List.set_cons_succ])
  refine Wl.takeL (i := 2) (v := .int .i64 (len : Int)) rfl (by kernel_rfl) (by kernel_rfl) (by kernel_rfl) (fun _ _ _ h => h) (Or.inl ⟨by rfl, ?_⟩) hHeld ?_
  · intro w hSw
    (try dsimp only at hSw)
    go_simp
  (try simp only [Act.put, List.setIfInBounds_toArray, List.set_cons_zero, List.set_cons_succ])
  refine Wl.takeL (i := 3) (v := .int .i64 (N : Int)) rfl (by kernel_rfl) (by kernel_rfl) (by kernel_rfl) (fun _ _ _ h => h) (Or.inl ⟨by rfl, ?_⟩) hHeld ?_
  · intro w hSw
    (try dsimp only at hSw)
    go_simp
  (try simp only [Act.put, List.setIfInBounds_toArray, List.set_cons_zero, List.set_cons_succ])
  refine Wl.takeL (i := 4) (v := .bool false) rfl (by kernel_rfl) (by kernel_rfl) (by kernel_rfl) (fun _ _ _ h => h) (Or.inl ⟨by rfl, ?_⟩) hHeld ?_
  · intro w hSw
    (try dsimp only at hSw)
    go_simp
  (try simp only [Act.put, List.setIfInBounds_toArray, List.set_cons_zero, List.set_cons_succ])
  refine Wl.takeL (i := 5) (v := .bool false) rfl (by kernel_rfl) (by kernel_rfl) (by kernel_rfl) (fun _ _ _ h => h) (Or.inl ⟨by rfl, ?_⟩) hHeld ?_
  · intro w hSw
    (try dsimp only at hSw)
    go_simp
  (try simp only [Act.put, List.setIfInBounds_toArray, List.set_cons_zero, List.set_cons_succ])
  refine Wl.takeL (i := 6) (v := .int .i64 v) rfl (by kernel_rfl) (by kernel_rfl) (by kernel_rfl) (fun _ _ _ h => h) (Or.inl ⟨by rfl, ?_⟩) hHeld ?_
  · intro w hSw
    (try dsimp only at hSw)
    go_simp
  (try simp only [Act.put, List.setIfInBounds_toArray, List.set_cons_zero, List.set_cons_succ])
  refine Wl.takeL (i := 7) (v := .bool false) rfl (by kernel_rfl) (by kernel_rfl) (by kernel_rfl) (fun _ _ _ h => h) (Or.inl ⟨by rfl, ?_⟩) hHeld ?_
  · intro w hSw
    (try dsimp only at hSw)
    go_simp
  (try simp only [Act.put, List.setIfInBounds_toArray, List.set_cons_zero, List.set_cons_succ])
  refine Wl.takeL (i := 8) (v := .bool false) rfl (by kernel_rfl) (by kernel_rfl) (by kernel_rfl) (fun _ _ _ h => h) (Or.inl ⟨by rfl, ?_⟩) hHeld ?_
  · intro w hSw
    (try dsimp only at hSw)
    go_simp
  (try simp only [Act.put, List.setIfInBounds_toArray, List.set_cons_zero, List.set_cons_succ])
  refine Wl.takeL (i := 9) (v := .bool false) rfl (by kernel_rfl) (by kernel_rfl) (by kernel_rfl) (fun _ _ _ h => h) (Or.inl ⟨by rfl, ?_⟩) hHeld ?_
  · intro w hSw
    (try dsimp only at hSw)
    go_simp
  (try simp only [Act.put, List.setIfInBounds_toArray, List.set_cons_zero, List.set_cons_succ])
  refine Wl.takeL (i := 10) (v := .int .i64 v) rfl (by kernel_rfl) (by kernel_rfl) (by kernel_rfl) (fun _ _ _ h => h) (Or.inl ⟨by rfl, ?_⟩) hHeld ?_
  · intro w hSw
    (try dsimp only at hSw)
    go_simp
  (try simp only [Act.put, List.setIfInBounds_toArray, List.set_cons_zero, List.set_cons_succ])
  refine Wl.takeL (i := 11) (v := .bool false) rfl (by kernel_rfl) (by kernel_rfl) (by kernel_rfl) (fun _ _ _ h => h) (Or.inl ⟨by rfl, ?_⟩) hHeld ?_
  · intro w hSw
    (try dsimp only at hSw)
    go_simp
  (try simp only [Act.put, List.setIfInBounds_toArray, List.set_cons_zero, List.set_cons_succ])
  refine Wl.takeL (i := 12) (v := .bool false) rfl (by kernel_rfl) (by kernel_rfl) (by kernel_rfl) (fun _ _ _ h => h) (Or.inl ⟨by rfl, ?_⟩) hHeld ?_
  · intro w hSw
    (try dsimp only at hSw)
    go_simp
  (try simp only [Act.put, List.setIfInBounds_toArray, List.set_cons_zero, List.set_cons_succ])
  refine Wl.takeL (i := 13) (v := .bool false) rfl (by kernel_rfl) (by kernel_rfl) (by kernel_rfl) (fun _ _ _ h => h) (Or.inl ⟨by rfl, ?_⟩) hHeld ?_
  · intro w hSw
    (try dsimp only at hSw)
    go_simp
  (try simp only [Act.put, List.setIfInBounds_toArray, List.set_cons_zero, List.set_cons_succ])
  refine Wl.takeL (i := 14) (v := .int .i64 v) rfl (by kernel_rfl) (by kernel_rfl) (by kernel_rfl) (fun _ _ _ h => h) (Or.inl ⟨by rfl, ?_⟩) hHeld ?_
  · intro w hSw
    (try dsimp only at hSw)
    go_simp
  (try simp only [Act.put, List.setIfInBounds_toArray, List.set_cons_zero, List.set_cons_succ])
  refine Wl.takeL (i := 15) (v := .int .u32 (u : Int)) rfl (by kernel_rfl) (by kernel_rfl) (by kernel_rfl) (fun _ _ _ h => h) (Or.inl ⟨by rfl, ?_⟩) hHeld ?_
  · intro w hSw
    (try dsimp only at hSw)
    go_simp
  (try simp only [Act.put, List.setIfInBounds_toArray, List.set_cons_zero, List.set_cons_succ])
  refine Wl.takeL (i := 18) (v := .slice (some ⟨b, off, none⟩) len cap) rfl (by kernel_rfl) (by kernel_rfl) (by kernel_rfl) (fun _ _ _ h => h) (Or.inl ⟨by rfl, ?_⟩) hHeld ?_
  · intro w hSw
    (try dsimp only at hSw)
    go_simp
  (try simp only [Act.put, List.setIfInBounds_toArray, List.set_cons_zero, List.set_cons_succ])
  refine Wl.takeL (i := 19) (v := .slice (some ⟨b, off, none⟩) 4 cap) rfl (by kernel_rfl) (by kernel_rfl) (by kernel_rfl) (fun _ _ _ h => h) (Or.inl ⟨by rfl, ?_⟩) hHeld ?_
  · intro w hSw
    (try dsimp only at hSw)
    go_simp
  (try simp only [Act.put, List.setIfInBounds_toArray, List.set_cons_zero, List.set_cons_succ])
  refine Wl.takeL (i := 20) (v := .string (strOfNums (zs.take 4))) rfl (by kernel_rfl) (by kernel_rfl) (by kernel_rfl) (fun _ _ _ h => h) (Or.inl ⟨by rfl, ?_⟩) hHeld ?_
  · intro w hSw
    (try dsimp only at hSw)
    go_simp
  (try simp only [Act.put, List.setIfInBounds_toArray, List.set_cons_zero, List.set_cons_succ])
  refine wpAnyH_ready (rs := [16]) (by kernel_rfl) (by simp) ?_
  refine Wl.consL rfl (fun K hK => ?_) AllReadyH.nil
  go_simp
  go_at_call 53
  refine (F1'.out _ hHeld).mono ?_
  rintro e w' ⟨a1, c1, rfl, hr1, hb1⟩
  have ka := A4.out w' a1 c1 hr1
  refine hK.out _ _ hb1 (fun hHeld => ?_)
  clear hK K
  (try simp only [Act.put, List.setIfInBounds_toArray, List.set_cons_zero, List.set_cons_succ])
  refine wpAnyH_ready (rs := [17]) (by kernel_rfl) (by simp) ?_
  refine Wl.consL rfl (fun K hK => ?_) AllReadyH.nil
  go_simp
  refine hK.out _ _ hb1 (fun hHeld => ?_)
  clear hK K ka
  (try simp only [Act.put, List.setIfInBounds_toArray, List.set_cons_zero, List.set_cons_succ])
  refine Wl.takeL (i := 21) (v := .bool (!qe)) rfl (by kernel_rfl) (by kernel_rfl) (by kernel_rfl) (fun _ _ _ h => h) (Or.inl ⟨by rfl, ?_⟩) hHeld ?_
  · intro w hSw
    (try dsimp only at hSw)
    go_simp
  (try simp only [Act.put, List.setIfInBounds_toArray, List.set_cons_zero, List.set_cons_succ])
  refine Wl.takeL (i := 22) (v := .bool (!qe)) rfl (by kernel_rfl) (by kernel_rfl) (by kernel_rfl) (fun _ _ _ h => h) (Or.inl ⟨by rfl, ?_⟩) hHeld ?_
  · intro w hSw
    (try dsimp only at hSw)
    go_simp
  (try simp only [Act.put, List.setIfInBounds_toArray, List.set_cons_zero, List.set_cons_succ])
  refine wpAnyH_done (by kernel_rfl) ?_ _
  refine NoPanic.normal ?_
  clear hHeld
  -- behind it
  cases qe with
  | false =>
    have D : Hid (∀ w', Below w.heap.size w w' → DecIt w v zs (.returned (.tuple #[.slice none 0 0, .int .i64 11])) w') := Lib.hid fun w' hb => dec_err (by rw [HD.out, if_neg (Nat.lt_irrefl _), if_pos (.inr (.inr fun h => by rw [H4.out.2 h] at hq; simp at hq))]) hb
    have HB1 := Lib.hid hb1
    clear hq hbq hb1
    go_wp2_with fail
    go_ret2
    exact D.out _ HB1.out
  | true =>
    have h1 : num4 zs = u := H4.out.1 (nums_inj (bytes_le4 u) (bytes_take HB.out 4) (str_ext hq))
    have HEN := Lib.hid (HE.out h1 trivial)
    have HB1 := Lib.hid hb1
    have HDD : Hid (decS v zs = if num4 (zs.drop 8) ≠ crcN (zs.take 8 ++ zs.drop 12) then ([], 12) else (zs.drop 12, 0)) := Lib.hid (by rw [HD.out, if_neg (Nat.lt_irrefl _), if_neg (by rintro (h | h | h); exact absurd h (Nat.lt_irrefl _); exact hs h; exact h h1)])
    have hbl := HBL.out
    clear hq hbq hb1 h1 HD HE
    by_cases h8 : cap = 12
    · subst h8
      have R12 : Hid (∀ wx, Below w.heap.size w wx → Fr.HasRow .u8 wx (some ⟨b, off, none⟩) N (zs.drop 12)) := Lib.hid fun wx hx => by rw [show N = 0 by have := HM.out; omega]; exact row_zero _
      have e1 : len - 12 = N := by have := HM.out; omega
      have g1 : Hid (([] : List Int).length + N ≤ 140737488355328) := Lib.hid (by simp; have := HM.out; omega)
      have d1 : Hid ((zs.drop 12).take N = zs.drop 12) := Lib.hid (by rw [← hbl, List.take_length])
      have i12 : (12 : Int) ≤ (len : Int) := by omega
      have i13 : (len : Int) ≤ (12 : Int) := by omega
      go_wp2_with (at_builtin; go_loud (refine Ob.wp_apd rfl (.tmp 61) (.tmp 63) rfl w'.heap.size _ [] rfl (Ob.own_made w' (Nat.le_refl _)) (some ⟨b, off, none⟩) N _ (zs.drop 12) rfl (R12.out _ (HB1.out.trans (((Below.refl _ w').alloc (Nat.le_refl _) _).mono HB1.out.size))) (fun h => by cases h) g1.out (by simp) ?_); intro v8 w8 ho8 hb8; rw [List.nil_append, d1.out] at ho8; have HO8 := Lib.hid ho8; have HB8 := Lib.hid (((Below.refl _ w').alloc (Nat.le_refl _) _).trans hb8); clear ho8 hb8)
      obtain ⟨a8, c8, rfl, hr8, hn8, _, _⟩ := Ob.own_row HO8.out
      rw [hbl] at hr8 HO8 ⊢
      have BW8 := Lib.hid (HB1.out.trans (HB8.out.mono HB1.out.size))
      have EN : Hid (∀ wx, Below w8.heap.size w8 wx → Calls Tryz.prog 22 #[.int .i64 v, .slice a8 N c8] wx fun e w' => ∃ a1 c1, e = .returned (.slice a1 len c1) ∧ Fr.HasRow .u8 w' a1 len (encN u (zs.drop 12)) ∧ Below w8.heap.size w8 w') := Lib.hid fun wx hx => by
        have := rencode_any v a8 N c8 (zs.drop 12) wx (bytes_drop HB.out 12) (hr8.keep hx) hn8 (by omega)
        rw [d1.out, HU.out] at this
        refine this.mono fun e w' ⟨v1, h1, h2, h3⟩ => ?_
        obtain ⟨a1, c1, rfl, hr, _⟩ := Ob.own_row h2
        rw [enc_length, hbl, show 12 + N = len by have := HM.out; omega] at h1 hr
        exact ⟨a1, c1, h1, hr, hx.trans (h3.mono hx.size)⟩
      have A5 : Hid (∀ wx a1 c1, Fr.HasRow .u8 wx a1 len (encN u (zs.drop 12)) → (convert 22 9 (.slice a1 len c1)).run Tryz.prog wx = .ok (.string (strOfNums (encN u (zs.drop 12)))) wx) := Lib.hid fun wx a1 c1 h => by
        have := conv_at (cap := c1) h
        rwa [List.take_of_length_le (by rw [enc_length, hbl]; have := HM.out; omega)] at this
      have kcC : ∀ wx, Below w8.heap.size w8 wx → (convert 22 9 (.slice (some ⟨b, off, none⟩) len 12)).run Tryz.prog wx = .ok (.string (strOfNums zs)) wx := fun wx h => by
        have := conv_at (cap := 12) (HR.out.keep (BW8.out.trans (h.mono BW8.out.size)))
        rwa [← HL.out, List.take_length, HL.out] at this
      obtain ⟨qf, hqf⟩ : ∃ qf, ((strOfNums (encN u (zs.drop 12))).toList == (strOfNums zs).toList) = qf := ⟨_, rfl⟩
      have HO8' := HO8
      clear hr8 R12 d1 kcB
      go_wp2_with fail
      have hbq : Below w8.heap.size w8 w8.drew := (Below.refl _ _).drew
      refine wp_region_noPanic ?_
      refine wp_region_held_drew (S := fun wx => Below w8.heap.size w8 wx) (by kernel_rfl) hbq (fun hHeld => ?_)
      generalize w8.drew = wq at hbq hHeld ⊢
      refine Wl.takeL (i := 0) (v := .int .i64 v) rfl (by kernel_rfl) (by kernel_rfl) (by kernel_rfl) (fun _ _ _ h => h) (Or.inl ⟨by rfl, ?_⟩) hHeld ?_
      · intro w hSw
        (try dsimp only at hSw)
        go_simp
      (try simp only [Act.put, List.setIfInBounds_toArray, List.set_cons_zero, List.set_cons_succ])
      refine Wl.takeL (i := 1) (v := .slice a8 N c8) rfl (by kernel_rfl) (by kernel_rfl) (by kernel_rfl) (fun _ _ _ h => h) (Or.inl ⟨by rfl, ?_⟩) hHeld ?_
      · intro w hSw
        (try dsimp only at hSw)
        go_simp
      (try simp only [Act.put, List.setIfInBounds_toArray, List.set_cons_zero, List.set_cons_succ])
      refine Wl.takeL (i := 4) (v := .slice (some ⟨b, off, none⟩) len 12) rfl (by kernel_rfl) (by kernel_rfl) (by kernel_rfl) (fun _ _ _ h => h) (Or.inl ⟨by rfl, ?_⟩) hHeld ?_
      · intro w hSw
        (try dsimp only at hSw)
        go_simp
      (try simp only [Act.put, List.setIfInBounds_toArray, List.set_cons_zero, List.set_cons_succ])
      refine Wl.takeL (i := 5) (v := .string (strOfNums zs)) rfl (by kernel_rfl) (by kernel_rfl) (by kernel_rfl) (fun _ _ _ h => h) (Or.inl ⟨by rfl, ?_⟩) hHeld ?_
      · intro w hSw
        (try dsimp only at hSw)
        go_simp
      (try simp only [Act.put, List.setIfInBounds_toArray, List.set_cons_zero, List.set_cons_succ])
      refine wpAnyH_ready (rs := [2]) (by kernel_rfl) (by simp) ?_
      refine Wl.consL rfl (fun K hK => ?_) AllReadyH.nil
      go_simp
      go_at_call 22
      refine (EN.out _ hHeld).mono ?_
      rintro e w9 ⟨a1, c1, rfl, hr1, hb1⟩
      have ka := A5.out w9 a1 c1 hr1
      refine hK.out _ _ hb1 (fun hHeld => ?_)
      clear hK K
      (try simp only [Act.put, List.setIfInBounds_toArray, List.set_cons_zero, List.set_cons_succ])
      refine wpAnyH_ready (rs := [3]) (by kernel_rfl) (by simp) ?_
      refine Wl.consL rfl (fun K hK => ?_) AllReadyH.nil
      go_simp
      refine hK.out _ _ hb1 (fun hHeld => ?_)
      clear hK K ka
      (try simp only [Act.put, List.setIfInBounds_toArray, List.set_cons_zero, List.set_cons_succ])
      refine Wl.takeL (i := 6) (v := .bool (!qf)) rfl (by kernel_rfl) (by kernel_rfl) (by kernel_rfl) (fun _ _ _ h => h) (Or.inl ⟨by rfl, ?_⟩) hHeld ?_
      · intro w hSw
        (try dsimp only at hSw)
        go_simp
      (try simp only [Act.put, List.setIfInBounds_toArray, List.set_cons_zero, List.set_cons_succ])
      refine wpAnyH_done (by kernel_rfl) ?_ _
      refine NoPanic.normal ?_
      clear hHeld
      have BW9 := Lib.hid (BW8.out.trans (hb1.mono BW8.out.size))
      cases qf with
      | false =>
        have D : Hid (DecIt w v zs (.returned (.tuple #[.slice none 0 0, .int .i64 12])) w9) := Lib.hid (dec_err (by rw [HDD.out, if_pos (fun h => by rw [HEN.out.2 h] at hqf; simp at hqf)]) BW9.out)
        clear hqf hbq hb1
        go_wp2_with fail
        go_ret2
        exact D.out
      | true =>
        have he : encN u (zs.drop 12) = zs := nums_inj (bytes_enc (bytes_drop HB.out 12)) HB.out (str_ext hqf)
        have D : Hid (DecIt w v zs (.returned (.tuple #[.slice a8 N c8, .int .i64 0])) w9) := Lib.hid ⟨_, by rw [HDD.out, if_neg (fun h => h (HEN.out.1 he))], by rw [HDD.out, if_neg (fun h => h (HEN.out.1 he))]; exact Joins.ownsRow_le (by have := Ob.own_keep HO8'.out hb1; unfold Ob.OwnB at this; rwa [hbl] at this ⊢) HB1.out.size, BW9.out⟩
        clear hqf hbq hb1 he
        go_wp2_with fail
        go_ret2
        exact D.out
    · have R12 : Hid (∀ wx, Below w.heap.size w wx → Fr.HasRow .u8 wx (some ⟨b, off + 12, none⟩) N (zs.drop 12)) := Lib.hid fun wx hx => row_drop (M := N) (k := 12) (by have := HR.out.keep hx; rwa [HM.out] at this)
      have e1 : len - 12 = N := by have := HM.out; omega
      have g1 : Hid (([] : List Int).length + N ≤ 140737488355328) := Lib.hid (by simp; have := HM.out; omega)
      have d1 : Hid ((zs.drop 12).take N = zs.drop 12) := Lib.hid (by rw [← hbl, List.take_length])
      have i12 : (12 : Int) ≤ (len : Int) := by omega
      have i13 : (len : Int) ≤ (cap : Int) := by omega
      go_wp2_with (at_builtin; go_loud (refine Ob.wp_apd rfl (.tmp 61) (.tmp 63) rfl w'.heap.size _ [] rfl (Ob.own_made w' (Nat.le_refl _)) (some ⟨b, off + 12, none⟩) N _ (zs.drop 12) rfl (R12.out _ (HB1.out.trans (((Below.refl _ w').alloc (Nat.le_refl _) _).mono HB1.out.size))) (fun h => by cases h) g1.out (by simp) ?_); intro v8 w8 ho8 hb8; rw [List.nil_append, d1.out] at ho8; have HO8 := Lib.hid ho8; have HB8 := Lib.hid (((Below.refl _ w').alloc (Nat.le_refl _) _).trans hb8); clear ho8 hb8)
      obtain ⟨a8, c8, rfl, hr8, hn8, _, _⟩ := Ob.own_row HO8.out
      rw [hbl] at hr8 HO8 ⊢
      have BW8 := Lib.hid (HB1.out.trans (HB8.out.mono HB1.out.size))
      have EN : Hid (∀ wx, Below w8.heap.size w8 wx → Calls Tryz.prog 22 #[.int .i64 v, .slice a8 N c8] wx fun e w' => ∃ a1 c1, e = .returned (.slice a1 len c1) ∧ Fr.HasRow .u8 w' a1 len (encN u (zs.drop 12)) ∧ Below w8.heap.size w8 w') := Lib.hid fun wx hx => by
        have := rencode_any v a8 N c8 (zs.drop 12) wx (bytes_drop HB.out 12) (hr8.keep hx) hn8 (by omega)
        rw [d1.out, HU.out] at this
        refine this.mono fun e w' ⟨v1, h1, h2, h3⟩ => ?_
        obtain ⟨a1, c1, rfl, hr, _⟩ := Ob.own_row h2
        rw [enc_length, hbl, show 12 + N = len by have := HM.out; omega] at h1 hr
        exact ⟨a1, c1, h1, hr, hx.trans (h3.mono hx.size)⟩
      have A5 : Hid (∀ wx a1 c1, Fr.HasRow .u8 wx a1 len (encN u (zs.drop 12)) → (convert 22 9 (.slice a1 len c1)).run Tryz.prog wx = .ok (.string (strOfNums (encN u (zs.drop 12)))) wx) := Lib.hid fun wx a1 c1 h => by
        have := conv_at (cap := c1) h
        rwa [List.take_of_length_le (by rw [enc_length, hbl]; have := HM.out; omega)] at this
      have kcC : ∀ wx, Below w8.heap.size w8 wx → (convert 22 9 (.slice (some ⟨b, off, none⟩) len cap)).run Tryz.prog wx = .ok (.string (strOfNums zs)) wx := fun wx h => by
        have := conv_at (cap := cap) (HR.out.keep (BW8.out.trans (h.mono BW8.out.size)))
        rwa [← HL.out, List.take_length, HL.out] at this
      obtain ⟨qf, hqf⟩ : ∃ qf, ((strOfNums (encN u (zs.drop 12))).toList == (strOfNums zs).toList) = qf := ⟨_, rfl⟩
      have HO8' := HO8
      clear hr8 R12 d1 kcB
      go_wp2_with fail
      have hbq : Below w8.heap.size w8 w8.drew := (Below.refl _ _).drew
      refine wp_region_noPanic ?_
      refine wp_region_held_drew (S := fun wx => Below w8.heap.size w8 wx) (by kernel_rfl) hbq (fun hHeld => ?_)
      generalize w8.drew = wq at hbq hHeld ⊢
      refine Wl.takeL (i := 0) (v := .int .i64 v) rfl (by kernel_rfl) (by kernel_rfl) (by kernel_rfl) (fun _ _ _ h => h) (Or.inl ⟨by rfl, ?_⟩) hHeld ?_
      · intro w hSw
        (try dsimp only at hSw)
        go_simp
      (try simp only [Act.put, List.setIfInBounds_toArray, List.set_cons_zero, List.set_cons_succ])
      refine Wl.takeL (i := 1) (v := .slice a8 N c8) rfl (by kernel_rfl) (by kernel_rfl) (by kernel_rfl) (fun _ _ _ h => h) (Or.inl ⟨by rfl, ?_⟩) hHeld ?_
      · intro w hSw
        (try dsimp only at hSw)
        go_simp
      (try simp only [Act.put, List.setIfInBounds_toArray, List.set_cons_zero, List.set_cons_succ])
      refine Wl.takeL (i := 4) (v := .slice (some ⟨b, off, none⟩) len cap) rfl (by kernel_rfl) (by kernel_rfl) (by kernel_rfl) (fun _ _ _ h => h) (Or.inl ⟨by rfl, ?_⟩) hHeld ?_
      · intro w hSw
        (try dsimp only at hSw)
        go_simp
      (try simp only [Act.put, List.setIfInBounds_toArray, List.set_cons_zero, List.set_cons_succ])
      refine Wl.takeL (i := 5) (v := .string (strOfNums zs)) rfl (by kernel_rfl) (by kernel_rfl) (by kernel_rfl) (fun _ _ _ h => h) (Or.inl ⟨by rfl, ?_⟩) hHeld ?_
      · intro w hSw
        (try dsimp only at hSw)
        go_simp
      (try simp only [Act.put, List.setIfInBounds_toArray, List.set_cons_zero, List.set_cons_succ])
      refine wpAnyH_ready (rs := [2]) (by kernel_rfl) (by simp) ?_
      refine Wl.consL rfl (fun K hK => ?_) AllReadyH.nil
      go_simp
      go_at_call 22
      refine (EN.out _ hHeld).mono ?_
      rintro e w9 ⟨a1, c1, rfl, hr1, hb1⟩
      have ka := A5.out w9 a1 c1 hr1
      refine hK.out _ _ hb1 (fun hHeld => ?_)
      clear hK K
      (try simp only [Act.put, List.setIfInBounds_toArray, List.set_cons_zero, List.set_cons_succ])
      refine wpAnyH_ready (rs := [3]) (by kernel_rfl) (by simp) ?_
      refine Wl.consL rfl (fun K hK => ?_) AllReadyH.nil
      go_simp
      refine hK.out _ _ hb1 (fun hHeld => ?_)
      clear hK K ka
      (try simp only [Act.put, List.setIfInBounds_toArray, List.set_cons_zero, List.set_cons_succ])
      refine Wl.takeL (i := 6) (v := .bool (!qf)) rfl (by kernel_rfl) (by kernel_rfl) (by kernel_rfl) (fun _ _ _ h => h) (Or.inl ⟨by rfl, ?_⟩) hHeld ?_
      · intro w hSw
        (try dsimp only at hSw)
        go_simp
      (try simp only [Act.put, List.setIfInBounds_toArray, List.set_cons_zero, List.set_cons_succ])
      refine wpAnyH_done (by kernel_rfl) ?_ _
      refine NoPanic.normal ?_
      clear hHeld
      have BW9 := Lib.hid (BW8.out.trans (hb1.mono BW8.out.size))
      cases qf with
      | false =>
        have D : Hid (DecIt w v zs (.returned (.tuple #[.slice none 0 0, .int .i64 12])) w9) := Lib.hid (dec_err (by rw [HDD.out, if_pos (fun h => by rw [HEN.out.2 h] at hqf; simp at hqf)]) BW9.out)
        clear hqf hbq hb1
        go_wp2_with fail
        go_ret2
        exact D.out
      | true =>
        have he : encN u (zs.drop 12) = zs := nums_inj (bytes_enc (bytes_drop HB.out 12)) HB.out (str_ext hqf)
        have D : Hid (DecIt w v zs (.returned (.tuple #[.slice a8 N c8, .int .i64 0])) w9) := Lib.hid ⟨_, by rw [HDD.out, if_neg (fun h => h (HEN.out.1 he))], by rw [HDD.out, if_neg (fun h => h (HEN.out.1 he))]; exact Joins.ownsRow_le (by have := Ob.own_keep HO8'.out hb1; unfold Ob.OwnB at this; rwa [hbl] at this ⊢) HB1.out.size, BW9.out⟩
        clear hqf hbq hb1 he
        go_wp2_with fail
        go_ret2
        exact D.out
end Go.Proofs.YtdonkmkjblofpaaGreatDoor.Sn

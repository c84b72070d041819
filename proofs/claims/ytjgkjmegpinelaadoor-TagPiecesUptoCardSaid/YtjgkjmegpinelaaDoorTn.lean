/-
  Layer 7: the program's findBody.
-/
import Derived.Test.YtjgkjmegpinelaaDoorTm
namespace Go.Proofs.YtjgkjmegpinelaaDoor.Tg
open Go.RowKit Go.Sort Dx Sx
set_option linter.unusedVariables false
set_option linter.unusedSimpArgs false

theorem bytesOf_toI (l : List UInt8) : Lib.bytesOf (toI l) = l := by
  have := congrArg (fun s : ByteArray => s.data.toList) (str_toI l)
  exact this
theorem HasL.bytesIn {w : World} {a : Option Addr} {l : List UInt8} {len : Nat} (h : HasL w a l) (hl : l.length = len) : Lib.BytesIn w a len (toI l) := by
  intro h0
  obtain ⟨b, off, e, hc⟩ := h.at (by omega)
  exact ⟨b, off, e, fun i hi => by rw [hc i (by omega), toI_getD]⟩
theorem prefixB_any (a1 a2 : Option Addr) (n c m d : Nat) (x y : List UInt8) (w : World) (h1 : HasL w a1 x) (h2 : HasL w a2 y) (e1 : x.length = n) (e2 : y.length = m) (hn : n ≤ c) :
    Calls Tryd.prog 53 #[.slice a1 n c, .slice a2 m d] w fun e w' => e = .returned (.bool (y.isPrefixOf x)) ∧ w = w' := by
  refine (Tryd.bytes_HasPrefix_all a1 a2 n c m d (toI x) (toI y) w (by rw [toI_length]; exact e1) (by rw [toI_length]; exact e2) hn (h1.bytesIn e1) (h2.bytesIn e2)).mono ?_
  rintro e w' ⟨rfl, rfl⟩
  rw [bytesOf_toI, bytesOf_toI]
  exact ⟨rfl, rfl⟩
abbrev frontC : Array Value := #[.int .u8 56, .int .u8 61, .int .u8 70, .int .u8 73, .int .u8 88, .int .u8 46, .int .u8 52, .int .u8 46, .int .u8 52, .int .u8 1, .int .u8 57, .int .u8 61]
theorem front_row (w : World) (t : TypeId) (g : Nat) (hg : g = w.heap.size) (fz : Nat × Nat) : HasL (w.alloc (.cells frontC t fz)) (some ⟨g, 0, none⟩) front := by
  subst hg
  refine ⟨by decide, by decide, fun _ => ⟨w.heap.size, 0, rfl, fun j hj => ?_⟩⟩
  rw [Nat.zero_add, Joins.cell_alloc_mark_at w frontC t fz _ j rfl]
  match j, hj with
  | 0, _ => rfl
  | 1, _ => rfl
  | 2, _ => rfl
  | 3, _ => rfl
  | 4, _ => rfl
  | 5, _ => rfl
  | 6, _ => rfl
  | 7, _ => rfl
  | 8, _ => rfl
  | 9, _ => rfl
  | 10, _ => rfl
  | 11, _ => rfl
def FindIt (b : List UInt8) (w : World) (e : Ending) (w' : World) : Prop := e = .returned (.tuple #[.int .i64 (findS b).1, .int .i64 (findS b).2.1, .int .i64 (findS b).2.2]) ∧ Below w.heap.size w w'
theorem numG_next {b : List UInt8} {k n : Nat} {R : Nat × Nat × Int} (h : 12 + k < b.length) (hg : R = numG k n (b.drop (12 + k))) :
    R = if b.getD (12 + k) 0 = 1 ∧ 0 < k then (13 + k, 13 + k + n, 0)
      else if isD (b.getD (12 + k) 0) = false ∨ (b.getD (12 + k) 0 = 48 ∧ k = 0) then (0, 0, 11)
      else if 4096 < n * 10 + dv (b.getD (12 + k) 0) then (0, 0, 11)
      else numG (k + 1) (n * 10 + dv (b.getD (12 + k) 0)) (b.drop (12 + (k + 1))) := by
  have e : b.getD (12 + k) 0 = b[12 + k] := by simp [List.getD, h]
  rw [hg, List.drop_eq_getElem_cons h, numG, e, Nat.add_assoc 12 k 1]
set_option maxRecDepth 100000 in
set_option maxHeartbeats 1000000 in
theorem findBody_pre (a : Option Addr) (len cap : Nat) (b : List UInt8) (w : World) (h : HasL w a b) (hl : b.length = len) (hcap : len ≤ cap) (hp : b <+: front) :
    Calls Tryd.prog 45 #[.slice a len cap] w (FindIt b w) := by
  unfold FindIt
  rw [findS_beginning hp]
  have hb1 : Below w.heap.size w (w.alloc (.cells frontC 5 (12, 13))) := (Below.refl _ _).alloc (Nat.le_refl _) _
  have kc1 := Joins.run_convert_bytes_const_at (P := Tryd.prog) w 25 5 frontC 12 12 w.heap.size rfl Tryd.underlying25 Tryd.underlying5
  have h1 := prefixB_any (some ⟨w.heap.size, 0, none⟩) a 12 12 len cap front b _ (front_row w 5 w.heap.size rfl (12, 13)) (h.keep hb1) rfl hl (Nat.le_refl _)
  rw [List.isPrefixOf_iff_prefix.2 hp] at h1
  clear hb1 h hp hl hcap
  go_enter Tryd.func45, Tryd.ntmps45
  go_wp2_with fail
  refine h1.mono ?_
  rintro e w1 ⟨rfl, rfl⟩
  go_wp2
  go_ret3
  exact ⟨rfl, (Below.refl _ _).alloc (Nat.le_refl _) _⟩
theorem front_next (w : World) : ∃ w2, w2 = (w.alloc (.cells frontC 5 (12, 13))).alloc (.cells frontC 5 (12, 13)) ∧ Below w.heap.size w w2 := ⟨_, rfl, ((Below.refl _ _).alloc (Nat.le_refl _) _).alloc (by simp) _⟩
set_option maxRecDepth 100000 in
set_option maxHeartbeats 1000000 in
theorem findBody_no (a : Option Addr) (len cap : Nat) (b : List UInt8) (w : World) (h : HasL w a b) (hl : b.length = len) (hcap : len ≤ cap) (hp : ¬ b <+: front) (hq : ¬ front <+: b) :
    Calls Tryd.prog 45 #[.slice a len cap] w (FindIt b w) := by
  unfold FindIt
  rw [findS_other hp hq]
  obtain ⟨w1, hw1⟩ : ∃ w1, w1 = w.alloc (.cells frontC 5 (12, 13)) := ⟨_, rfl⟩
  have hb1 : Below w.heap.size w w1 := by rw [hw1]; exact (Below.refl _ _).alloc (Nat.le_refl _) _
  have hb2 : Below w.heap.size w (w1.alloc (.cells frontC 5 (12, 13))) := hb1.alloc hb1.size _
  have kc1 : (convert 25 25 (.slice (some ⟨w.heap.size, 0, none⟩) 12 12)).run Tryd.prog (w.alloc (.cells frontC 5)) = .ok (.slice (some ⟨w.heap.size, 0, none⟩) 12 12) w1 := by
    rw [hw1]
    exact Joins.run_convert_bytes_const_at (P := Tryd.prog) w 25 5 frontC 12 12 w.heap.size rfl Tryd.underlying25 Tryd.underlying5
  have kc2 := Joins.run_convert_bytes_const_at (P := Tryd.prog) w1 25 5 frontC 12 12 w1.heap.size rfl Tryd.underlying25 Tryd.underlying5
  have h1 := prefixB_any (some ⟨w.heap.size, 0, none⟩) a 12 12 len cap front b w1 (by rw [hw1]; exact front_row w 5 w.heap.size rfl (12, 13)) (h.keep hb1) rfl hl (Nat.le_refl _)
  have h2 := prefixB_any a (some ⟨w1.heap.size, 0, none⟩) len cap 12 12 b front _ (h.keep hb2) (front_row w1 5 w1.heap.size rfl (12, 13)) hl rfl hcap
  have f1 : b.isPrefixOf front = false := by
    cases e : b.isPrefixOf front with
    | false => rfl
    | true => exact absurd (List.isPrefixOf_iff_prefix.1 e) hp
  have f2 : front.isPrefixOf b = false := by
    cases e : front.isPrefixOf b with
    | false => rfl
    | true => exact absurd (List.isPrefixOf_iff_prefix.1 e) hq
  rw [f1] at h1
  rw [f2] at h2
  have HB2 := Lib.hid hb2
  have HW1 := Lib.hid hw1
  clear hb1 hb2 h hp hq hl hcap f1 f2 hw1
  go_enter Tryd.func45, Tryd.ntmps45
  go_wp2_with fail
  refine h1.mono ?_
  rintro e wx ⟨rfl, rfl⟩
  clear h1 kc1
  go_wp2_with fail
  refine h2.mono ?_
  rintro e wx ⟨rfl, rfl⟩
  clear h2 kc2
  go_wp2
  go_ret3
  exact ⟨rfl, HB2.out⟩
set_option maxRecDepth 100000 in
set_option maxHeartbeats 4000000 in
theorem findBody_num (a : Option Addr) (len cap : Nat) (b : List UInt8) (w : World) (h : HasL w a b) (hl : b.length = len) (hcap : len ≤ cap) (hp : ¬ b <+: front) (hq : front <+: b) (hm : len ≤ 140737488355328) :
    Calls Tryd.prog 45 #[.slice a len cap] w (FindIt b w) := by
  have hlen : 12 < len := by
    obtain ⟨r, hr⟩ := hq
    rcases Nat.lt_or_ge 12 len with h' | h'
    · exact h'
    · exfalso
      apply hp
      have e := congrArg List.length hr
      rw [List.length_append, front_length] at e
      have : r = [] := List.eq_nil_of_length_eq_zero (by omega)
      rw [← hr, this, List.append_nil]
      exact List.prefix_refl _
  have hg : findS b = numG 0 0 (b.drop (12 + 0)) := by
    obtain ⟨r, rfl⟩ := hq
    rw [findS_front]; rfl
  unfold FindIt
  obtain ⟨w1, hw1⟩ : ∃ w1, w1 = w.alloc (.cells frontC 5 (12, 13)) := ⟨_, rfl⟩
  have hb1 : Below w.heap.size w w1 := by rw [hw1]; exact (Below.refl _ _).alloc (Nat.le_refl _) _
  obtain ⟨w2, hw2⟩ : ∃ w2, w2 = w1.alloc (.cells frontC 5 (12, 13)) := ⟨_, rfl⟩
  have hb2 : Below w.heap.size w w2 := by rw [hw2]; exact hb1.alloc hb1.size _
  have kc1 : (convert 25 25 (.slice (some ⟨w.heap.size, 0, none⟩) 12 12)).run Tryd.prog (w.alloc (.cells frontC 5)) = .ok (.slice (some ⟨w.heap.size, 0, none⟩) 12 12) w1 := by
    rw [hw1]
    exact Joins.run_convert_bytes_const_at (P := Tryd.prog) w 25 5 frontC 12 12 w.heap.size rfl Tryd.underlying25 Tryd.underlying5
  have kc2 : (convert 25 25 (.slice (some ⟨w1.heap.size, 0, none⟩) 12 12)).run Tryd.prog (w1.alloc (.cells frontC 5)) = .ok (.slice (some ⟨w1.heap.size, 0, none⟩) 12 12) w2 := by
    rw [hw2]
    exact Joins.run_convert_bytes_const_at (P := Tryd.prog) w1 25 5 frontC 12 12 w1.heap.size rfl Tryd.underlying25 Tryd.underlying5
  have h1 := prefixB_any (some ⟨w.heap.size, 0, none⟩) a 12 12 len cap front b w1 (by rw [hw1]; exact front_row w 5 w.heap.size rfl (12, 13)) (h.keep hb1) rfl hl (Nat.le_refl _)
  have h2 := prefixB_any a (some ⟨w1.heap.size, 0, none⟩) len cap 12 12 b front w2 (h.keep hb2) (by rw [hw2]; exact front_row w1 5 w1.heap.size rfl (12, 13)) hl rfl hcap
  have f1 : b.isPrefixOf front = false := by
    cases e : b.isPrefixOf front with
    | false => rfl
    | true => exact absurd (List.isPrefixOf_iff_prefix.1 e) hp
  have f2 : front.isPrefixOf b = true := List.isPrefixOf_iff_prefix.2 hq
  rw [f1] at h1
  rw [f2] at h2
  have HB2 := Lib.hid hb2
  have HW1 := Lib.hid hw1; have HW2 := Lib.hid hw2; have HG := Lib.hid hg
  have HR2 := Lib.hid (h.keep hb2); have HL := Lib.hid hl
  obtain ⟨bb, off, rfl, _⟩ := h.at (by omega)
  have hci : (12 : Int) ≤ (len : Int) := by omega
  have hone : ∀ h, (({ data := #[1] } : ByteArray)[0]'h).toNat = 1 := fun _ => rfl
  clear hb1 hb2 h hp hq hl f1 f2 hw1 hw2 hg
  go_enter Tryd.func45, Tryd.ntmps45
  go_wp2_with fail
  refine h1.mono ?_
  rintro e wx ⟨rfl, rfl⟩
  clear h1 kc1
  go_wp2_with fail
  refine h2.mono ?_
  rintro e wx ⟨rfl, rfl⟩
  clear h2 kc2
  go_wp2
  go_loopg [5, 22] (len - 12) (fun m s i wr => ∃ (k n : Nat), k + m = len - 12 ∧ s = .int .i64 (n : Int) ∧ i = .int .i64 (k : Int) ∧ n ≤ 4096 ∧ Hid (findS b = numG k n (b.drop (12 + k))) ∧ wr = w2)
  case atStart => exact ⟨0, 0, by omega, rfl, rfl, by omega, HG, rfl⟩
  case round =>
    obtain ⟨k, n, hk, rfl, rfl, hn, HN, rfl⟩ := hrel
    by_cases hlt : k < len - 12
    · have hlt' : 12 + k < b.length := by rw [HL.out]; omega
      obtain ⟨bb', off', e1, hc⟩ := HR2.out.at (by omega)
      cases e1
      have ck := hc (12 + k) hlt'
      have hnx := numG_next hlt' HN.out
      have hd := fun wx => digit_any (b.getD (12 + k) 0) wx
      have hb256 := (b.getD (12 + k) 0).toNat_lt
      have hid1 := isD_int (b.getD (12 + k) 0)
      rw [← Nat.add_assoc] at ck
      have HNX := Lib.hid hnx
      clear hnx hc hlt' HN
      generalize hcc : b.getD (12 + k) 0 = c at *
      clear hcc
      by_cases h1 : c = 1
      · subst h1
        have t1 : ((((1 : UInt8).toNat : Nat) : Int) == 1) = true := by decide
        rw [show (((1 : UInt8).toNat : Nat) : Int) = 1 from rfl] at ck hd
        rcases Nat.eq_zero_or_pos k with h0 | h0
        · subst h0
          have hR : findS b = (0, 0, 11) := by rw [HNX.out, if_neg (by omega), if_pos (.inl (by decide))]
          have HR := Lib.hid hR
          rw [show isD 1 = false by decide] at hd
          clear HNX hR hid1 t1
          go_wp2_with (go_at_call 54; (with_reducible refine (hd _).mono ?_); rintro e wx ⟨rfl, rfl⟩)
          go_ret3
          exact ⟨by rw [HR.out] <;> rfl, HB2.out⟩
        · have hR : findS b = (13 + k, 13 + k + n, 0) := by rw [HNX.out, if_pos ⟨rfl, h0⟩]
          have HR := Lib.hid hR
          have p0 : decide ((0 : Int) < (k : Int)) = true := by rw [decide_eq_true_eq]; omega
          have e1 : (12 : Int) + (k : Int) + 1 = ((13 + k : Nat) : Int) := by omega
          have e2 : ((13 + k : Nat) : Int) + (n : Int) = ((13 + k + n : Nat) : Int) := by omega
          have E1 := Lib.hid e1; have E2 := Lib.hid e2
          clear HNX hR hid1 t1 hd e1 e2
          go_wp2
          go_ret3
          exact ⟨by rw [HR.out, E1.out] <;> first | rfl | rw [E2.out], HB2.out⟩
      · have t1 : ((c.toNat : Int) == 1) = false := by
          rw [beq_eq_false_iff_ne]; intro e; exact h1 (UInt8.toNat_inj.1 (by show c.toNat = 1; omega))
        have h1' : ¬ (c = 1 ∧ 0 < k) := fun h => h1 h.1
        rw [if_neg h1'] at HNX
        cases hD : isD c with
        | false =>
          have hR : findS b = (0, 0, 11) := by rw [HNX.out, if_pos (.inl hD)]
          have HR := Lib.hid hR
          rw [hD] at hd
          clear HNX hR hid1 hD h1 h1'
          generalize c.toNat = C at *
          go_wp2_with (go_at_call 54; (with_reducible refine (hd _).mono ?_); rintro e wx ⟨rfl, rfl⟩)
          go_ret3
          exact ⟨by rw [HR.out] <;> rfl, HB2.out⟩
        | true =>
          rw [hD] at hd hid1
          have hdig : 48 ≤ c.toNat ∧ c.toNat ≤ 57 := by
            have := hid1.symm
            rw [Bool.and_eq_true, decide_eq_true_eq, decide_eq_true_eq] at this
            exact this
          by_cases h48 : c = 48 ∧ k = 0
          · have hR : findS b = (0, 0, 11) := by rw [HNX.out, if_pos (.inr h48)]
            have HR := Lib.hid hR
            obtain ⟨rfl, rfl⟩ := h48
            rw [show (((48 : UInt8).toNat : Nat) : Int) = 48 from rfl] at ck hd
            clear HNX hR hid1 hD h1 h1' t1 hdig
            go_wp2_with (go_at_call 54; (with_reducible refine (hd _).mono ?_); rintro e wx ⟨rfl, rfl⟩)
            go_ret3
            exact ⟨by rw [HR.out] <;> rfl, HB2.out⟩
          · have h2' : ¬ (isD c = false ∨ (c = 48 ∧ k = 0)) := by
              rintro (h | h)
              · rw [hD] at h; cases h
              · exact h48 h
            rw [if_neg h2'] at HNX
            have hdv : dv c = c.toNat - 48 := rfl
            have h48i : (((c.toNat : Int) == 48) && ((k : Int) == 0)) = false := by
              rw [Bool.and_eq_false_iff, beq_eq_false_iff_ne, beq_eq_false_iff_ne]
              rcases Decidable.em (c = 48) with e | e
              · exact .inr (fun e2 => h48 ⟨e, by omega⟩)
              · exact .inl (fun e2 => e (UInt8.toNat_inj.1 (by show c.toNat = 48; omega)))
            have hor : ((c.toNat : Int) == 48) = false ∨ (((c.toNat : Int) == 48) = true ∧ ((k : Int) == 0) = false) := by
              rw [Bool.and_eq_false_iff] at h48i
              cases e : ((c.toNat : Int) == 48) with
              | false => exact .inl rfl
              | true => rw [e] at h48i; exact .inr ⟨rfl, by simpa using h48i⟩
            by_cases hbig : 4096 < n * 10 + dv c
            · have hR : findS b = (0, 0, 11) := by rw [HNX.out, if_pos hbig]
              have HR := Lib.hid hR
              have d1 : decide ((4096 : Int) < 10 * (n : Int) + ((c.toNat : Int) - 48)) = true := by rw [decide_eq_true_eq]; omega
              clear HNX hR hid1 hD h1 h1' h48 h2' h48i hdv hbig
              obtain ⟨g1, g2⟩ := hdig
              generalize c.toNat = C at *
              rcases hor with g3 | ⟨g3, g4⟩
              all_goals
                go_wp2_with (go_at_call 54; (with_reducible refine (hd _).mono ?_); rintro e wx ⟨rfl, rfl⟩)
                go_ret3
                exact ⟨by rw [HR.out] <;> rfl, HB2.out⟩
            · rw [if_neg hbig] at HNX
              have d1 : decide ((4096 : Int) < 10 * (n : Int) + ((c.toNat : Int) - 48)) = false := by rw [decide_eq_false_iff_not]; omega
              have hle : n * 10 + dv c ≤ 4096 := by omega
              have ev : (10 * (n : Int) + ((c.toNat : Int) - 48)) = ((n * 10 + dv c : Nat) : Int) := by omega
              have EV := Lib.hid ev; have HLE := Lib.hid hle
              clear hid1 hD h1 h1' h48 h2' h48i hdv hbig ev hle
              obtain ⟨g1, g2⟩ := hdig
              generalize c.toNat = C at *
              rcases hor with g3 | ⟨g3, g4⟩
              all_goals
                go_wp2_with (go_at_call 54; (with_reducible refine (hd _).mono ?_); rintro e wx ⟨rfl, rfl⟩)
                go_roundg (len - 12 - (k + 1))
                case measure => omega
                case rel => exact ⟨k + 1, n * 10 + dv c, by omega, by rw [EV.out], by go_num, HLE.out, HNX, rfl⟩
    · have hR : findS b = (0, 0, 10) := by
        rw [HN.out, List.drop_eq_nil_of_le (by rw [HL.out]; omega)]; rfl
      have HR := Lib.hid hR
      clear hR HN
      go_wp2
      go_ret3
      exact ⟨by rw [HR.out] <;> rfl, HB2.out⟩
theorem findBody_any (a : Option Addr) (len cap : Nat) (b : List UInt8) (w : World) (h : HasL w a b) (hl : b.length = len) (hcap : len ≤ cap) (hm : len ≤ 140737488355328) :
    Calls Tryd.prog 45 #[.slice a len cap] w (FindIt b w) := by
  by_cases hp : b <+: front
  · exact findBody_pre a len cap b w h hl hcap hp
  · by_cases hq : front <+: b
    · exact findBody_num a len cap b w h hl hcap hp hq hm
    · exact findBody_no a len cap b w h hl hcap hp hq
end Go.Proofs.YtjgkjmegpinelaaDoor.Tg

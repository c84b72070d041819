/-
  Layer 7: the program's skipped, Decode.
-/
import Derived.Test.YtjgkjmegpinelaaDoorTs
namespace Go.Proofs.YtjgkjmegpinelaaDoor.Tg
open Go.RowKit Go.Sort Dx Sx
set_option linter.unusedVariables false
set_option linter.unusedSimpArgs false

theorem findI_first {p : List UInt8 → Bool} : ∀ {l : List UInt8} {k : Nat}, (∀ j, j < k → p (l.drop j) = false) → k < l.length → p (l.drop k) = true → findI p l = some k
  | [], k, _, h, _ => by simp at h
  | c :: r, 0, _, _, h => by rw [findI, if_pos (by simpa using h)]
  | c :: r, k + 1, h1, h2, h3 => by
    have h0 := h1 0 (by omega)
    rw [findI, if_neg (by simpa using h0), findI_first (k := k) (fun j hj => by have := h1 (j + 1) (by omega); simpa using this) (by simpa using h2) (by simpa using h3)]
    rfl
theorem findI_none {p : List UInt8 → Bool} : ∀ {l : List UInt8}, (∀ j, j < l.length → p (l.drop j) = false) → findI p l = none
  | [], _ => rfl
  | c :: r, h => by
    have h0 := h 0 (by simp)
    rw [findI, if_neg (by simpa using h0), findI_none (fun j hj => by have := h (j + 1) (by simp; omega); simpa using this)]
    rfl
theorem index_findI : ∀ (l : List UInt8), Lib.index l hdr = match findI (hdr.isPrefixOf ·) l with | some i => (i : Int) | none => -1
  | [] => rfl
  | c :: r => by
    rw [Lib.index, findI, index_findI r]
    by_cases h : hdr.isPrefixOf (c :: r) = true
    · rw [if_pos h, if_pos h]; rfl
    · rw [if_neg h, if_neg h]
      cases findI (hdr.isPrefixOf ·) r with
      | none => rfl
      | some i =>
        have : ((i : Int) == -1) = false := by rw [beq_eq_false_iff_ne]; omega
        simp only [Option.map_some, this]
        simp
theorem skip_hit {b : List UInt8} {i : Nat} (h : Lib.index (b.drop 1) hdr = (i : Int)) : skipS b = i + 1 := by
  rw [index_findI] at h
  unfold skipS
  cases hf : findI (hdr.isPrefixOf ·) (b.drop 1) with
  | some j => rw [hf] at h; simp only at h ⊢; omega
  | none => rw [hf] at h; simp only at h; omega
theorem skip_miss {b : List UInt8} (h : Lib.index (b.drop 1) hdr < 0) : skipS b = match findI (·.isPrefixOf hdr) (b.drop 1) with | some i => i + 1 | none => b.length := by
  rw [index_findI] at h
  unfold skipS
  cases hf : findI (hdr.isPrefixOf ·) (b.drop 1) with
  | some j => rw [hf] at h; simp only at h; omega
  | none => rfl
abbrev hdrC : Array Value := #[.int .u8 56, .int .u8 61, .int .u8 70, .int .u8 73, .int .u8 88, .int .u8 46, .int .u8 52, .int .u8 46, .int .u8 52, .int .u8 1]
theorem hdr_row (w : World) (t : TypeId) (g : Nat) (hg : g = w.heap.size) (fz : Nat × Nat) : HasL (w.alloc (.cells hdrC t fz)) (some ⟨g, 0, none⟩) hdr := by
  subst hg
  refine ⟨by decide, by decide, fun _ => ⟨w.heap.size, 0, rfl, fun j hj => ?_⟩⟩
  rw [Nat.zero_add, Joins.cell_alloc_mark_at w hdrC t fz _ j rfl]
  match j, hj with
  | 0, _ => rfl
  | 1, _ => rfl
  | 2, _ => rfl
  | 3, _ => rfl
  | 4, _ => rfl
  | 5, _ => rfl
  | 6, _ => rfl
  | 7, _ => rfl
  | 8, _ => rfl
  | 9, _ => rfl
theorem indexB_any (a1 a2 : Addr) (n c1 m c2 : Nat) (x y : List UInt8) (w : World) (h1 : HasL w (some a1) x) (h2 : HasL w (some a2) y) (e1 : x.length = n) (e2 : y.length = m) (hn : n ≤ c1) (hs : n < 4294967281) (hk : m ≤ 9223372036854775807) (hE : ∃ k : Int, w.cell? ⟨0, 0, none⟩ = some (.int .i64 k)) :
    Calls Tryd.prog 48 #[.slice (some a1) n c1, .slice (some a2) m c2] w fun e w' => e = .returned (.int .i64 (Lib.index x y)) ∧ ∃ q, w' = w.drewN q := by
  obtain ⟨k, hk2⟩ := hE
  have rng : ∀ l : List UInt8, ∀ z ∈ toI l, 0 ≤ z ∧ z < 256 := by
    intro l z hz
    obtain ⟨c, _, rfl⟩ := List.mem_map.1 hz
    have := c.toNat_lt
    omega
  have cel : ∀ (a : Addr) (l : List UInt8) (n : Nat), HasL w (some a) l → l.length = n → ∀ i, i < n → w.cell? (a.add i) = some (.int .u8 ((toI l).getD i 0)) := by
    intro a l n h e i hi
    obtain ⟨b, off, e3, hc⟩ := h.at (by omega)
    cases e3
    rw [show (⟨b, off, none⟩ : Addr).add i = ⟨b, off + i, none⟩ by simp [Addr.add], hc i (by omega), toI_getD]
  refine (Tryd.bytes_Index_at a1 a2 n c1 m c2 (toI x) (toI y) k w (by rw [toI_length]; exact e1) (by rw [toI_length]; exact e2) (rng x) (rng y) (cel a1 x n h1 e1) (cel a2 y m h2 e2) hn hs hk hk2).mono ?_
  rintro e w' ⟨rfl, hq⟩
  rw [bytesOf_toI, bytesOf_toI]
  exact ⟨rfl, hq⟩
theorem hasPrefix_any (s p : List UInt8) (w : World) :
    Calls Tryd.prog 49 #[.string (bs s), .string (bs p)] w fun e w' => e = .returned (.bool (p.isPrefixOf s)) ∧ w = w' := by
  refine (Tryd.strings_HasPrefix (bs s) (bs p) w).mono ?_
  rintro e w' ⟨rfl, rfl⟩
  exact ⟨rfl, rfl⟩
def SkipIt (b : List UInt8) (w : World) (e : Ending) (w' : World) : Prop := e = .returned (.int .i64 (skipS b : Int)) ∧ Below w.heap.size w w'
theorem drop_add' (b : List UInt8) (i j : Nat) : (b.drop i).drop j = b.drop (i + j) := by rw [List.drop_drop]
set_option maxRecDepth 100000 in
set_option maxHeartbeats 4000000 in
/-- Behind the search: the search's answer is J. -/
theorem skipped_at (bb off len cap : Nat) (b : List UInt8) (w : World) (h : HasL w (some ⟨bb, off, none⟩) b) (hl : b.length = len) (h1 : 1 ≤ len) (hcap : len ≤ cap) (hm : len ≤ 1048576) (hE : Env w) (hc1 : 1 < cap) :
    Calls Tryd.prog 29 #[.slice (some ⟨bb, off, none⟩) len cap] w (SkipIt b w) := by
  unfold SkipIt
  obtain ⟨w1, hw1⟩ : ∃ w1, w1 = w.alloc (.cells hdrC 5 (10, 11)) := ⟨_, rfl⟩
  have hb1 : Below w.heap.size w w1 := by rw [hw1]; exact (Below.refl _ _).alloc (Nat.le_refl _) _
  have kc1 : (convert 25 25 (.slice (some ⟨w.heap.size, 0, none⟩) 10 10)).run Tryd.prog (w.alloc (.cells hdrC 5)) = .ok (.slice (some ⟨w.heap.size, 0, none⟩) 10 10) w1 := by
    rw [hw1]
    exact Joins.run_convert_bytes_const_at (P := Tryd.prog) w 25 5 hdrC 10 10 w.heap.size rfl Tryd.underlying25 Tryd.underlying5
  have hix := indexB_any ⟨bb, off + 1, none⟩ ⟨w.heap.size, 0, none⟩ (len - 1) (cap - 1) 10 10 (b.drop 1) hdr w1 ((h.keep hb1).back 1 (by omega)) (by rw [hw1]; exact hdr_row w 5 w.heap.size rfl (10, 11)) (by rw [List.length_drop, hl]) rfl (by omega) (by omega) (by decide) (hE.keep hb1).mxl
  have i1 : (1 : Int) ≤ (len : Int) := by omega
  have i2 : (1 : Int) < (cap : Int) := by omega
  have hskh := fun i => skip_hit (b := b) (i := i)
  have hskm := skip_miss (b := b)
  have hx1 : HasL w1 (some ⟨bb, off, none⟩) b := h.keep hb1
  have hrow : ∀ q, HasL (w1.drewN q) (some ⟨bb, off, none⟩) b := fun q => hx1
  have HB1 := Lib.hid hb1; have HR := Lib.hid hrow; have HL := Lib.hid hl; have HSH := Lib.hid hskh; have HSM := Lib.hid hskm
  clear h hl hb1 hrow hx1 hw1 hE hskh hskm
  rcases (show Lib.index (b.drop 1) hdr < 0 ∨ ∃ i : Nat, Lib.index (b.drop 1) hdr = (i : Int) from by
    rcases Int.lt_or_le (Lib.index (b.drop 1) hdr) 0 with h | h
    · exact .inl h
    · exact .inr ⟨(Lib.index (b.drop 1) hdr).toNat, by omega⟩) with hneg | ⟨i, hi⟩
  · have HS := Lib.hid (HSM.out hneg)
    have g1 : decide ((0 : Int) ≤ Lib.index (b.drop 1) hdr) = false := by rw [decide_eq_false_iff_not]; omega
    generalize Lib.index (b.drop 1) hdr = I at *
    have hmax : max (1 : Int) ((len : Int) - 10) = ((max 1 (len - 10) : Nat) : Int) := by omega
    have hm0 : 1 ≤ max 1 (len - 10) ∧ max 1 (len - 10) ≤ len ∧ len - 10 ≤ max 1 (len - 10) := by omega
    have hmx : max 1 (len - 10) = 1 ∨ max 1 (len - 10) = len - 10 := by omega
    generalize max 1 (len - 10) = M at *
    obtain ⟨m1, m2, m3⟩ := hm0
    have hst : ∀ j, 1 ≤ j → j < M → (b.drop j).isPrefixOf hdr = false := by
      intro j j1 j2
      cases e : (b.drop j).isPrefixOf hdr with
      | false => rfl
      | true =>
        have := (List.isPrefixOf_iff_prefix.1 e).length_le
        rw [List.length_drop, HL.out, show hdr.length = 10 from rfl] at this
        omega
    have HST := Lib.hid hst
    clear hneg HSH HSM hst
    go_enter Tryd.func29, Tryd.ntmps29
    go_wp2_with fail
    refine hix.mono ?_
    rintro e wq ⟨rfl, q, rfl⟩
    clear kc1 hix
    go_wp2
    go_loopg [4] (len - M) (fun m i wr => ∃ (k : Nat), k + m = len ∧ i = .int .i64 (k : Int) ∧ M ≤ k ∧ Hid (∀ j, 1 ≤ j → j < k → (b.drop j).isPrefixOf hdr = false) ∧ wr = w1.drewN q)
    case atStart => exact ⟨M, by omega, by first | rfl | rw [hmax], Nat.le_refl _, HST, rfl⟩
    case round =>
      obtain ⟨k, hk, rfl, hMk, HA, rfl⟩ := hrel
      by_cases hlt : k < len
      · have hrk := (HR.out q).back k (by rw [HL.out]; omega)
        have hlk : (b.drop k).length = len - k := by rw [List.length_drop, HL.out]
        have hcv := conv_at (cap := cap - k) hrk hlk
        have hpf := fun wx => hasPrefix_any hdr (b.drop k) wx
        have hhdr : bs hdr = { data := #[56, 61, 70, 73, 88, 46, 52, 46, 52, 1] } := rfl
        rw [hhdr] at hpf
        have i3 : (k : Int) < (cap : Int) := by omega
        clear hrk hlk hhdr
        cases hp : (b.drop k).isPrefixOf hdr with
        | true =>
          have hS : skipS b = k := by
            rw [HS.out, findI_first (k := k - 1) (fun j hj => by rw [drop_add']; exact HA.out (1 + j) (by omega) (by omega)) (by rw [List.length_drop, HL.out]; omega) (by rw [drop_add', show 1 + (k - 1) = k by omega]; exact hp)]
            simp only
            omega
          have HS2 := Lib.hid hS
          rw [hp] at hpf
          clear hS hp HS
          generalize bs (b.drop k) = T at *
          go_wp2_with (go_at_call 49; (with_reducible refine (hpf _).mono ?_); rintro e wz ⟨rfl, rfl⟩)
          go_ret
          exact ⟨by rw [HS2.out] <;> rfl, HB1.out.trans ⟨rfl, rfl, rfl, Nat.le_refl _, fun _ _ => rfl⟩⟩
        | false =>
          have HA2 : Hid (∀ j, 1 ≤ j → j < k + 1 → (b.drop j).isPrefixOf hdr = false) := Lib.hid fun j j1 j2 => by
            rcases Nat.lt_or_ge j k with h | h
            · exact HA.out j j1 h
            · obtain rfl : j = k := by omega
              exact hp
          rw [hp] at hpf
          clear hp
          generalize bs (b.drop k) = T at *
          go_wp2_with (go_at_call 49; (with_reducible refine (hpf _).mono ?_); rintro e wz ⟨rfl, rfl⟩)
          go_roundg (len - (k + 1))
          case measure => omega
          case rel => exact ⟨k + 1, by omega, by go_num, by omega, HA2, rfl⟩
      · have hkl : k = len := by omega
        have hS : skipS b = len := by
          rw [HS.out, findI_none (fun j hj => by rw [List.length_drop, HL.out] at hj; rw [drop_add']; exact HA.out (1 + j) (by omega) (by omega))]
          exact HL.out
        have HS2 := Lib.hid hS
        clear hS HS
        go_wp2
        go_ret
        exact ⟨by rw [HS2.out] <;> rfl, HB1.out.trans ⟨rfl, rfl, rfl, Nat.le_refl _, fun _ _ => rfl⟩⟩
  · have hS := HSH.out i hi
    have HS := Lib.hid hS
    rw [hi] at hix
    have hi2 : i < 1048577 := by
      have h1 := skipS_bd (b := b) (fun e => by have := HL.out; rw [e] at this; simp at this; omega)
      rw [hS, HL.out] at h1
      omega
    have e1 : (1 : Int) + (i : Int) = ((i + 1 : Nat) : Int) := by omega
    have E1 := Lib.hid e1
    clear hS hi HSM HSH e1
    go_enter Tryd.func29, Tryd.ntmps29
    go_wp2_with fail
    refine hix.mono ?_
    rintro e wq ⟨rfl, q, rfl⟩
    go_wp2
    go_ret
    exact ⟨by rw [HS.out, ← E1.out] <;> rfl, HB1.out.trans ⟨rfl, rfl, rfl, Nat.le_refl _, fun _ _ => rfl⟩⟩
set_option maxRecDepth 100000 in
set_option maxHeartbeats 1000000 in
theorem skipped_one (bb off : Nat) (b : List UInt8) (w : World) (hl : b.length = 1) (hE : Env w) :
    Calls Tryd.prog 29 #[.slice (some ⟨bb, off, none⟩) 1 1] w (SkipIt b w) := by
  unfold SkipIt
  obtain ⟨w1, hw1⟩ : ∃ w1, w1 = w.alloc (.cells hdrC 5 (10, 11)) := ⟨_, rfl⟩
  have hb1 : Below w.heap.size w w1 := by rw [hw1]; exact (Below.refl _ _).alloc (Nat.le_refl _) _
  have kc1 : (convert 25 25 (.slice (some ⟨w.heap.size, 0, none⟩) 10 10)).run Tryd.prog (w.alloc (.cells hdrC 5)) = .ok (.slice (some ⟨w.heap.size, 0, none⟩) 10 10) w1 := by
    rw [hw1]
    exact Joins.run_convert_bytes_const_at (P := Tryd.prog) w 25 5 hdrC 10 10 w.heap.size rfl Tryd.underlying25 Tryd.underlying5
  have hix := indexB_any ⟨bb, off, none⟩ ⟨w.heap.size, 0, none⟩ 0 0 10 10 [] hdr w1 ⟨Nat.le_refl _, by decide, fun h => absurd h (by decide)⟩ (by rw [hw1]; exact hdr_row w 5 w.heap.size rfl (10, 11)) rfl rfl (by omega) (by omega) (by decide) (hE.keep hb1).mxl
  rw [show Lib.index [] hdr = -1 from rfl] at hix
  have hS : skipS b = 1 := by
    have hd : b.drop 1 = [] := List.drop_eq_nil_of_le (by omega)
    unfold skipS
    rw [hd]
    exact hl
  rw [hS]
  have HB1 := Lib.hid hb1
  clear hb1 hS hw1 hE hl
  go_enter Tryd.func29, Tryd.ntmps29
  go_wp2_with fail
  refine hix.mono ?_
  rintro e wq ⟨rfl, q, rfl⟩
  refine (?_ : _)
  go_wp2
  refine wp_loop_rounds 1 ?_
  rw [rounds_succ]
  go_wp2
  go_ret
  exact ⟨rfl, HB1.out.trans ⟨rfl, rfl, rfl, Nat.le_refl _, fun _ _ => rfl⟩⟩
theorem skipped_any (a : Option Addr) (len cap : Nat) (b : List UInt8) (w : World) (h : HasL w a b) (hl : b.length = len) (h1 : 1 ≤ len) (hcap : len ≤ cap) (hm : len ≤ 1048576) (hE : Env w) :
    Calls Tryd.prog 29 #[.slice a len cap] w (SkipIt b w) := by
  obtain ⟨bb, off, rfl, _⟩ := h.at (by omega)
  by_cases hc : cap = 1
  · obtain rfl : len = 1 := by omega
    rw [hc]
    exact skipped_one bb off b w hl hE
  · exact skipped_at bb off len cap b w h hl h1 hcap hm hE (by omega)
set_option maxRecDepth 100000 in
set_option maxHeartbeats 1000000 in
theorem Decode_any (a : Option Addr) (len cap : Nat) (b : List UInt8) (w : World) (h : HasL w a b) (hl : b.length = len) (hcap : len ≤ cap) (hm : len ≤ 1048576) (hE : Env w) :
    Calls Tryd.prog 16 #[.slice a len cap] w (DecIt (decS b) w) := by
  have hd := decode_any a len cap b w h hl hcap hm hE
  unfold DecIt at hd ⊢
  have hS : decS b = ((decE b).1, if (decE b).2.2 = 11 ∨ (decE b).2.2 = 12 then skipS b else (decE b).2.1, (decE b).2.2) := rfl
  by_cases he : (decE b).2.2 = 11 ∨ (decE b).2.2 = 12
  · rw [if_pos he] at hS
    rw [hS]
    have hne : b ≠ [] := fun e => by rw [e, decE_nil] at he; simp at he
    have hpos : 1 ≤ len := by have := List.length_pos_iff.2 hne; omega
    have hsk : ∀ wx, Below w.heap.size w wx → Calls Tryd.prog 29 #[.slice a len cap] wx (SkipIt b wx) := fun wx hx => skipped_any a len cap b wx (h.keep hx) hl hpos hcap hm (hE.keep hx)
    have HSK := Lib.hid hsk
    unfold SkipIt at HSK
    have hor : (decE b).2.2 = 11 ∨ ((((decE b).2.2 == 11) = false) ∧ (decE b).2.2 = 12) := by
      rcases he with e | e
      · exact .inl e
      · exact .inr ⟨by rw [e]; rfl, e⟩
    simp only
    clear hS h hl hsk hE he hne
    generalize (decE b).1 = F at *
    generalize (decE b).2.1 = n at *
    generalize (decE b).2.2 = E at *
    generalize skipS b = k at *
    rcases hor with rfl | ⟨_, rfl⟩
    all_goals
      go_enter Tryd.func16, Tryd.ntmps16
      go_wp2_with fail
      refine hd.mono ?_
      rintro e w1 ⟨v, rfl, ho, hb1⟩
      have HO := Lib.hid ho; have HB1 := Lib.hid hb1
      clear ho hb1
      go_wp2_with fail
      refine (HSK.out _ HB1.out).mono ?_
      rintro e w2 ⟨rfl, hb2⟩
      go_wp2
      refine bodyPost_ret (results_tmp3 rfl _ _ _) rfl ?_
      exact ⟨v, rfl, (own_row_keep2 HO.out hb2), HB1.out.trans (hb2.mono HB1.out.size)⟩
  · rw [if_neg he] at hS
    rw [hS]
    have e1 : ((decE b).2.2 == 11) = false := by rw [beq_eq_false_iff_ne]; exact fun e => he (.inl e)
    have e2 : ((decE b).2.2 == 12) = false := by rw [beq_eq_false_iff_ne]; exact fun e => he (.inr e)
    simp only
    clear hS h hl hE he
    generalize (decE b).1 = F at *
    generalize (decE b).2.1 = n at *
    generalize (decE b).2.2 = E at *
    go_enter Tryd.func16, Tryd.ntmps16
    go_wp2_with fail
    refine hd.mono ?_
    rintro e w1 ⟨v, rfl, ho, hb1⟩
    have HO := Lib.hid ho; have HB1 := Lib.hid hb1
    clear ho hb1
    go_wp2
    refine bodyPost_ret (results_tmp3 rfl _ _ _) rfl ?_
    exact ⟨v, rfl, HO.out, HB1.out⟩
end Go.Proofs.YtjgkjmegpinelaaDoor.Tg

/-
  Layer 3: the law SumKeeps.
-/
import Derived.Test.YtccolhekkjgabaaDoorSc
import Derived.Test.YtccolhekkjgabaaDoorSd
import Derived.Laws.BytesArg
import Derived.Deep.QuietTactic
import Derived.BigQuiet
namespace Go.Proofs.YtccolhekkjgabaaDoor.Sx
open Go.RowKit Ob
set_option linter.unusedVariables false

/-- Bytes that are read, as a text. -/
theorem conv_row {w : World} {ad : Option Addr} {len cap : Nat} {zs : List Int} (h : Fr.HasRow .u8 w ad len zs) (n : Nat) :
    (convert 22 9 (.slice ad len cap)).run Tryd.prog (w.drewN n) = .ok (.string (strOfNums (zs.take len))) (w.drewN n) := by
  obtain ⟨h1, h2, h3⟩ := h
  rcases Nat.eq_zero_or_pos len with h0 | h0
  · subst h0
    cases ad with
    | none => exact run_convert_bytes_nil _ _ _ Tryd.underlying22 Tryd.underlying5 _ _ _ Tryd.underlying9
    | some ad =>
      obtain ⟨b, off, p⟩ := ad
      have := run_convert_bytes_string (P := Tryd.prog) (w.drewN n) 22 9 5 (some ⟨b, off, p⟩) 0 cap Tryd.underlying22 Tryd.underlying5 Tryd.underlying9
      rw [this, run_bytesToString (w.drewN n) ⟨b, off, p⟩ 0 cap [] (run_loadCells_list (P := Tryd.prog) (w.drewN n) ⟨b, off, p⟩ [] (fun j v hj => by simp at hj))]
      rfl
  · obtain ⟨b, off, rfl, hc⟩ := h3 h0
    refine run_convert_bytes_arg (P := Tryd.prog) (w.drewN n) 22 5 Tryd.underlying22 Tryd.underlying5 b off len cap (zs.take len) (by simp; omega) (fun i hi => ?_) _ Tryd.underlying9
    rw [show (w.drewN n).cell? ⟨b, off + i, none⟩ = w.cell? ⟨b, off + i, none⟩ from rfl, hc i hi]
    simp [List.getD, hi]

theorem mine_facts {w : World} {base len : Nat} {v : Value} {zs : List Int} (hl : len ≤ zs.length) (hm : len ≤ 140737488351232) (h : OwnB w base v (zs.take len ++ [71])) :
    ∃ g cap cur, v = .slice (some ⟨g, 0, none⟩) (len + 1) cap ∧ base ≤ g ∧ w.heap[g]? = some (.cells cur 5 (0, 0)) ∧ len + 1 ≤ cap ∧ cap ≤ maxLen ∧ cur.size = cap ∧ Fr.HasRow .u8 w (some ⟨g, 0, none⟩) len zs ∧ w.cell? ⟨g, len, none⟩ = some (.int .u8 71) := by
  have e : (zs.take len ++ [71]).length = len + 1 := by simp; omega
  obtain ⟨g, cap, cur, h1, h2, h3, h4, h5, h6, h7⟩ := own_block h (by omega)
  rw [e] at h1 h4 h7
  have e2 : (zs.take len).length = len := by simp; omega
  refine ⟨g, cap, cur, h1, h2, h3, h4, h5, h6, ⟨hl, by omega, fun _ => ⟨g, 0, rfl, fun j hj => ?_⟩⟩, ?_⟩
  · rw [Nat.zero_add, h7 j (by omega)]
    simp [List.getD, List.getElem?_append_left (show j < (zs.take len).length by omega), hj]
  · rw [h7 len (by omega)]
    simp [List.getD, e2]

set_option maxRecDepth 100000 in
set_option maxHeartbeats 2000000 in
theorem keeps_walk (a : Option Addr) (len cap : Nat) (zs : List Int) (w : World) (ht : Tab w) (hrow' : Fr.IsRow .u8 w a len cap zs) (hreach : cap * 1 ≤ 140737488351232) :
    Calls Tryd.prog 6 #[.slice a len cap] w fun e w' => e = .returned (.bool true) ∧ Below w.heap.size w w' := by
  have HB := Lib.hid (bytes_of hrow')
  have hnil : a = none → cap = 0 := by
    intro h
    rcases hrow' with ⟨_, _, h1, _⟩ | ⟨x, h1, _⟩
    · exact h1
    · rw [h] at h1; cases h1
  have hlc : len ≤ cap := by
    rcases hrow' with ⟨_, h1, _, _⟩ | ⟨x, _, h1, _⟩ <;> omega
  have HN := Lib.hid hnil
  have HR := Lib.hid hrow'.has; have HT := Lib.hid ht; clear hrow' ht hnil
  have hlen : len ≤ 140737488351232 := by omega
  have hz : len ≤ zs.length := HR.out.1
  obtain ⟨X, hX⟩ : ∃ X : Nat, (crcS (zs.take len)).toNat = X := ⟨_, rfl⟩
  obtain ⟨Y, hY⟩ : ∃ Y : Int, smallS (zs.take len) = Y := ⟨_, rfl⟩
  obtain ⟨s, hs⟩ : ∃ s : ByteArray, strOfNums (zs.take len) = s := ⟨_, rfl⟩
  have c1 : ∀ (w : World) (a : Option Addr) (cap : Nat), Tab w → Fr.HasRow .u8 w a len zs → Calls Tryd.prog 8 #[.slice a len cap] w fun e w' => e = .returned (.int .u32 (X : Int)) ∧ w = w' := by rw [← hX]; exact fun w a cap h1 h2 => crc_any a len cap zs w h1 HB.out h2
  have c3 : ∀ (w : World) (a : Option Addr) (cap : Nat), Fr.HasRow .u8 w a len zs → Calls Tryd.prog 10 #[.slice a len cap] w fun e w' => e = .returned (.int .i64 Y) ∧ w = w' := by rw [← hY]; exact fun w a cap h2 => small_any a len cap zs w HB.out h2
  have C1 := Lib.hid c1; have C3 := Lib.hid c3; have HS := Lib.hid hs; clear c1 c3 hX hY hs
  go_enter Tryd.func6, Tryd.ntmps6
  go_wp2_with (first | (go_at_call 7; (with_reducible refine (wakes_any _ HT.out).mono ?_); rintro e w1 ⟨rfl, hb1⟩; have HB1 := Lib.hid hb1; clear hb1) | (at_builtin; refine wp_apd rfl (.tmp 9) (.tmp 10) rfl w1.heap.size _ [] rfl (own_made w1 (Nat.le_refl _)) a len cap zs rfl ((HR.out.keep HB1.out).keep ((Below.refl _ _).alloc (Nat.le_refl _) _)) HN.out (by simp; omega) (by simp) ?_; intro v1 w2 ho1' hb2'; rw [List.nil_append] at ho1'; have ho1 := Lib.hid ho1'; have HB2 := Lib.hid hb2'; clear ho1' hb2') | (at_builtin; refine wp_apd rfl (.tmp 11) (.tmp 12) rfl w1.heap.size v1 (zs.take len) rfl (own_keep ho1.out ((Below.refl _ _).alloc (Nat.le_refl _) _)) _ 1 1 [71] rfl (one_row _ _ _ _ rfl) (fun h => by cases h) (by simp; omega) (by simp; have := HB2.out.size; simp at this; omega) ?_; intro v2 w3 ho2' hb3'; obtain ⟨g, cap2, cur, rfl, hg, hh, hc1, hc2, hc3, hrow2, hlast⟩ := mine_facts hz hlen ho2'; have HB3 := Lib.hid hb3'; have HH := Lib.hid hh; have HS3 := Lib.hid hc3; have HR2 := Lib.hid hrow2; have HL := Lib.hid hlast; clear ho2' hb3' hh hc3 hrow2 hlast))
  have B13 : Hid (Below w1.heap.size w1 w3) := ((((Below.refl _ _).alloc (Nat.le_refl _) _).trans HB2.out).alloc (by have := HB2.out.size; simp at this; omega) _).trans HB3.out
  have T3 : Hid (Tab w3) := tab_keep (tab_keep HT.out HB1.out) B13.out
  have R3 : Hid (Fr.HasRow .u8 w3 a len zs) := (HR.out.keep HB1.out).keep B13.out
  have q1 : ∀ n, Calls Tryd.prog 8 #[.slice (some ⟨g, 0, none⟩) len cap2] (w3.drewN n) fun e w' => e = .returned (.int .u32 (X : Int)) ∧ w' = w3.drewN n := fun n => (C1.out _ _ cap2 (tab_drewN T3.out n) HR2.out).mono fun _ _ ⟨h1, h2⟩ => ⟨h1, h2.symm⟩
  have q2 : ∀ n, Calls Tryd.prog 10 #[.slice (some ⟨g, 0, none⟩) len cap2] (w3.drewN n) fun e w' => e = .returned (.int .i64 Y) ∧ w' = w3.drewN n := fun n => (C3.out (w3.drewN n) _ cap2 HR2.out).mono fun _ _ ⟨h1, h2⟩ => ⟨h1, h2.symm⟩
  have Q1 := Lib.hid q1; have Q2 := Lib.hid q2; clear q1 q2
  unfold maxLen at hc2
  go_quiet ((first | (go_at_call 8; exact Calls.quiet_of_same (Q1.out _)) | (go_at_call 10; exact Calls.quiet_of_same (Q2.out _))))
  have kc1 := fun m => conv_row (cap := cap2) HR2.out m
  have kc2 := fun m => conv_row (cap := cap) R3.out m
  have hlast := HL.out
  rw [HS.out] at kc1 kc2
  go_wp2
  go_quiet (fail)
  clear kc1 kc2 hlast
  go_wp2
  go_loopg [42] (len + 1) (fun m i wr => ∃ (k : Nat) (cs : Array Value), k + m = len + 1 ∧ i = .int .i64 (k : Int) ∧ Hid (wr.heap[g]? = some (.cells cs 5 (0, 0))) ∧ Hid (cs.size = cap2) ∧ Hid (Below w1.heap.size w1 wr))
  case atStart => exact ⟨0, cur, by omega, rfl, HH.out, HS3.out, Lib.hid (below_drewN B13.out _)⟩
  case round =>
    obtain ⟨k, cs, hk, rfl, K1, K2, K3⟩ := hrel
    by_cases hlt : k < len + 1
    · have hkc : k < cs.size := by have := K2.out; omega
      have ck : wr.cell? ⟨g, k, none⟩ = some cs[k] := (Joins.cell_of_block K1.out k).trans (Array.getElem?_eq_getElem hkc)
      have fk : wr.frozen? ⟨g, k, none⟩ = false := Joins.unfrozen_of_block K1.out k
      generalize cs[k] = u at ck
      have L1 := Lib.hid (Joins.block_setCell (i := k) K1.out (.int .u8 9)); have L3 := Lib.hid (K3.out.setCell (p := ⟨g, k, none⟩) hg (.int .u8 9))
      go_wp2
      go_roundg (len + 1 - (k + 1))
      case measure => omega
      case rel => exact ⟨k + 1, _, by omega, by go_num, L1, Lib.hid (by simp [K2.out]), L3⟩
    · obtain rfl : k = len + 1 := by omega
      have T4 : Hid (Tab wr) := tab_keep (tab_keep HT.out HB1.out) K3.out
      have R4 : Hid (Fr.HasRow .u8 wr a len zs) := (HR.out.keep HB1.out).keep K3.out
      go_wp2_with (first | (go_at_call 8; (with_reducible refine (C1.out _ _ _ T4.out R4.out).mono ?_); rintro e w' ⟨rfl, rfl⟩) | (go_at_call 10; (with_reducible refine (C3.out _ _ _ R4.out).mono ?_); rintro e w' ⟨rfl, rfl⟩))
      go_ret
      exact ⟨rfl, below_next HB1.out K3.out⟩
end Go.Proofs.YtccolhekkjgabaaDoor.Sx

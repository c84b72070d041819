/-
  Layer 4: the law DiskKeeps.
-/
import Derived.Test.YtbjpchembekbbaaKk
namespace Go.Proofs.Ytbjpchembekbbaa.Dk
open Go.RowKit
set_option linter.unusedVariables false

def NamesOut (w : World) (L : List (List UInt8)) (e : Ending) (w' : World) : Prop := ∃ ad cap, e = .returned (.slice ad L.length cap) ∧ L.length ≤ cap ∧ cap ≤ 9223372036854775807 ∧
  (0 < L.length → ∃ g cur, ad = some ⟨g, 0, none⟩ ∧ w.heap.size ≤ g ∧ w'.heap[g]? = some (.cells cur 9 (0, 0)) ∧ ∀ j, j < L.length → w'.cell? ⟨g, j, none⟩ = some (encStr (L.getD j []))) ∧ Below w.heap.size w w'
theorem names_out {w : World} {O : Nat → Prop} {d : Nat} {S : St} (h : IsDisk w O d S) : Calls Try.prog 20 #[.pointer (some ⟨d, 0, none⟩)] w (NamesOut w (namesL S)) := by
  refine (names_disk h).mono fun e w' ⟨v, h1, h2, h3⟩ => ?_
  subst h1
  rcases h2.2 with ⟨rfl, h0⟩ | ⟨g, cap, cur, rfl, hb, hh, x1, x2, x3, x4⟩
  · exact ⟨none, 0, by rw [h0], by omega, by decide, (fun h => by omega), h3⟩
  · refine ⟨some ⟨g, 0, none⟩, cap, rfl, x1, by unfold maxLen at x2; exact x2, fun _ => ⟨g, cur, rfl, hb, hh, fun j hj => ?_⟩, h3⟩
    rw [World.ownsRow.cellAt h2 j (by omega), List.getElem?_map, List.getElem?_eq_getElem hj]
    simp [List.getD, hj]

theorem Two.append {B N : Nat} {w : World} {d : Nat} {S : St} {o : Nat} {T : St} (h : Two B N w d S o T) (s : ByteArray) (hs : s.size ≤ maxLen) (a : Option Addr) (len cap : Nat) (zs b : List Int) (hrow : Fr.HasRow .u8 w a len zs) (hn : a = none → cap = 0) (hlb : len ≤ 140737488355328)
    (hb : zs.take len = b) {r : Int} {S' : St} (he : appendS s.data.toList b S = (r, S')) :
    Calls Try.prog 16 #[.pointer (some ⟨d, 0, none⟩), .string s, .slice a len cap] w fun e w' => e = .returned (.int .i64 r) ∧ Two B w'.heap.size w' d S' o T ∧ Below B w w' ∧ w.heap.size ≤ w'.heap.size :=
  h.call fun O hd => by
    have c := append_disk hd s hs a len cap zs hrow hn hlb
    rw [hb, he] at c
    exact c
theorem Two.sync {B N : Nat} {w : World} {d : Nat} {S : St} {o : Nat} {T : St} (h : Two B N w d S o T) (s : ByteArray) (hs : s.size ≤ maxLen) {r : Int} {S' : St} (he : syncS s.data.toList S = (r, S')) :
    Calls Try.prog 17 #[.pointer (some ⟨d, 0, none⟩), .string s] w fun e w' => e = .returned (.int .i64 r) ∧ Two B w'.heap.size w' d S' o T ∧ Below B w w' ∧ w.heap.size ≤ w'.heap.size :=
  h.call fun O hd => by
    have c := sync_disk hd s hs
    rw [he] at c
    exact c
theorem Two.read {B N : Nat} {w : World} {d : Nat} {S : St} {o : Nat} {T : St} (h : Two B N w d S o T) (s : ByteArray) (hs : s.size ≤ maxLen) {r : Int} {l : List Int} (he : there s.data.toList S = r) (hl : readL s.data.toList S = l) :
    Calls Try.prog 22 #[.pointer (some ⟨d, 0, none⟩), .string s] w (RowOut w r l) := by
  obtain ⟨_, _, O1, O2, h1, _⟩ := h
  subst he hl
  exact (read_disk h1 s hs).mono fun e w' ⟨v, x1, x2, x3⟩ => by
    obtain ⟨ad, cap, rfl, y1, y2, y3, _⟩ := Ob.own_row x2
    exact ⟨ad, cap, x1, x2, y1, y2, y3, x3⟩
theorem Two.names1 {B N : Nat} {w : World} {d : Nat} {S : St} {o : Nat} {T : St} (h : Two B N w d S o T) {L : List (List UInt8)} (hl : namesL S = L) : Calls Try.prog 20 #[.pointer (some ⟨d, 0, none⟩)] w (NamesOut w L) := by
  obtain ⟨_, _, O1, O2, h1, _⟩ := h
  subst hl; exact names_out h1
theorem Two.names2 {B N : Nat} {w : World} {d : Nat} {S : St} {o : Nat} {T : St} (h : Two B N w d S o T) {L : List (List UInt8)} (hl : namesL T = L) : Calls Try.prog 20 #[.pointer (some ⟨o, 0, none⟩)] w (NamesOut w L) := by
  obtain ⟨_, _, O1, O2, _, h1, _⟩ := h
  subst hl; exact names_out h1

/-- A cell of owned bytes is stored. -/
theorem ownB_store {w : World} {base g n cap : Nat} {l : List Int} (h : Ob.OwnB w base (.slice (some ⟨g, 0, none⟩) n cap) l) {i : Nat} (hi : i < l.length) (z : Int) : Ob.OwnB (w.setCell ⟨g, i, none⟩ (.int .u8 z)) base (.slice (some ⟨g, 0, none⟩) n cap) (l.set i z) := by
  rcases h.2 with ⟨h0, _⟩ | ⟨g', cap', cur, hv, hb, hh, h1, h2, h3, h4⟩
  · cases h0
  · simp at hv
    obtain ⟨rfl, hn, rfl⟩ := hv
    refine ⟨by simp, .inr ⟨g, cap, cur.setIfInBounds i (.int .u8 z), by rw [List.length_set, ← hn], hb, Joins.block_setCell hh _, by rw [List.length_set]; exact h1, h2, by simpa using h3, ?_⟩⟩
    rw [List.length_set, Nat.mul_one] at *
    rw [Array.toList_setIfInBounds, List.take_set, h4, List.map_set]

theorem came_row {w : World} {a : Option Addr} {len cap : Nat} {zs : List Int} (h : Fr.IsRow .u8 w a len cap zs) : (a = none → cap = 0) ∧ len ≤ cap ∧ Fr.HasRow .u8 w a len zs := by
  refine ⟨?_, ?_, h.has⟩
  · intro e
    rcases h with ⟨_, _, h1, _⟩ | ⟨x, h1, _⟩
    · exact h1
    · rw [e] at h1; cases h1
  · rcases h with ⟨_, h1, _, _⟩ | ⟨x, _, h1, _⟩ <;> omega

set_option maxRecDepth 100000 in
set_option maxHeartbeats 4000000 in
theorem keeps_big (a : Option Addr) (la ca : Nat) (b : Option Addr) (lb cb : Nat) (w : World) (ha : la ≤ 140737488355328) (hb : lb ≤ 140737488355328) (hbig : 65536 < la + lb) :
    Calls Try.prog 7 #[.slice a la ca, .slice b lb cb] w fun e w' => e = .returned (.bool true) ∧ Below w.heap.size w w' := by
  have t1 : decide ((65536 : Int) < (la : Int) + (lb : Int)) = true := by simp; omega
  go_enter Try.func7, Try.ntmps7
  go_wp2_with (go_at_call 8; (with_reducible refine (wakes_any _).mono ?_); rintro e w1 ⟨rfl, hb1⟩; have HB1 := Lib.hid hb1; clear hb1)
  go_ret
  exact ⟨rfl, HB1.out⟩

set_option maxRecDepth 100000 in
set_option maxHeartbeats 8000000 in
theorem keeps_walk (a : Option Addr) (la ca : Nat) (za : List Int) (b : Option Addr) (lb cb : Nat) (zb : List Int) (w : World) (ra : Fr.IsRow .u8 w a la ca za) (rb : Fr.IsRow .u8 w b lb cb zb) (ha : ca * 1 ≤ 140737488351232) (hb : cb * 1 ≤ 140737488351232) :
    Calls Try.prog 7 #[.slice a la ca, .slice b lb cb] w fun e w' => e = .returned (.bool true) ∧ Below w.heap.size w w' := by
  obtain ⟨nA, cA, rA⟩ := came_row ra
  obtain ⟨nB, cB, rB⟩ := came_row rb
  by_cases hbig : 65536 < la + lb
  · exact keeps_big a la ca b lb cb w (by omega) (by omega) hbig
  have lA := take_len rA; have lB := take_len rB
  obtain ⟨A, hA⟩ : ∃ A, za.take la = A := ⟨_, rfl⟩
  obtain ⟨B, hB⟩ : ∃ B, zb.take lb = B := ⟨_, rfl⟩
  rw [hA] at lA; rw [hB] at lB
  have hsm : la + lb ≤ 65536 := by omega
  have t0 : decide ((65536 : Int) < (la : Int) + (lb : Int)) = false := by simp; omega
  have NA := Lib.hid nA; have NB := Lib.hid nB; have RA := Lib.hid rA; have RB := Lib.hid rB; have LA := Lib.hid lA; have LB := Lib.hid lB; have HA := Lib.hid hA; have HB := Lib.hid hB
  clear ra rb nA nB rA rB lA lB hA hB hbig
  go_enter Try.func7, Try.ntmps7
  go_wp2_with fail
  refine (wakes_any _).mono ?_
  rintro e w1 ⟨rfl, hb1⟩
  have B1 := Lib.hid hb1; clear hb1
  have tk1 : True := trivial
  go_wp2_with (first
    | (at_builtin; have _t := tk1; refine Ob.wp_apd rfl (.tmp 25) (.tmp 26) rfl w1.heap.size _ [] rfl (Ob.own_made w1 (Nat.le_refl _)) a la ca za rfl ((RA.out.keep B1.out).keep ((Below.refl _ _).alloc (Nat.le_refl _) _)) NA.out (by simp; omega) (by simp) ?_; intro v1 w2 ho1' hb2'; rw [List.nil_append, HA.out] at ho1'; have ho1 := Lib.hid ho1'; have B2 := Lib.hid (((Below.refl _ _).alloc (Nat.le_refl _) _).trans hb2'); clear ho1' hb2' tk1)
    | (at_builtin; refine Ob.wp_apd rfl (.tmp 27) (.tmp 28) rfl w1.heap.size v1 A rfl (Ob.own_keep ho1.out ((Below.refl _ _).alloc (Nat.le_refl _) _)) _ 2 2 [71, 72] rfl (const_row w2 [71, 72] (0, 0) (by decide)) (fun h => by cases h) (by rw [LA.out]; omega) (by have := B2.out.size; simp; omega) ?_; intro v2 w3 ho2' hb3'; rw [show List.take 2 ([71, 72] : List Int) = [71, 72] from rfl] at ho2'; have B3 := Lib.hid (B2.out.trans (((Below.refl _ _).alloc B2.out.size _).trans hb3')); have ho2 := Lib.hid ho2'; clear ho2' hb3'))
  have e2 : (A ++ [71, 72]).length = la + 2 := by rw [List.length_append, LA.out]; rfl
  obtain ⟨g, cap, cur, hv2, hg, hh, hc1, hc2, hc3, hcell⟩ := Ob.own_block ho2.out (by rw [e2]; omega)
  rw [e2] at hv2 hc1 hcell
  subst hv2
  have hc4 : cap ≤ 9223372036854775807 := by unfold maxLen at hc2; exact hc2
  have HH := Lib.hid hh; have HC3 := Lib.hid hc3; have HG := Lib.hid hg
  have HML : Hid (g < w3.heap.size) := Lib.hid (Array.getElem?_eq_some_iff.1 hh).1
  have HCELL := Lib.hid hcell
  have E2 := Lib.hid e2
  clear hh hc2 hc3 hcell ho2 e2 hg
  refine (new_any w3 1048576).mono ?_
  rintro e w4 ⟨rfl, hb4, hz4, hd4⟩
  have B4 := Lib.hid hb4; have Z4 := Lib.hid hz4; have D4 := Lib.hid hd4
  clear hb4 hz4 hd4
  go_wp2_with fail
  refine (new_any w4 1048576).mono ?_
  rintro e w5 ⟨rfl, hb5, hz5, hd5⟩
  have B5 : Hid (Below w3.heap.size w3 w5) := B4.out.trans (hb5.mono (by have := B4.out.size; omega))
  have T5 : Hid (Two w3.heap.size w5.heap.size w5 (w3.heap.size + 1) (start 1048576) (w4.heap.size + 1) (start 1048576)) := by
    have z4 := Z4.out
    exact ⟨by omega, Nat.le_refl _, _, _, D4.out.below hb5, hd5, fun i h1 h2 => by rcases h1 with rfl | rfl <;> rcases h2 with h2 | h2 <;> omega, fun i h1 => by rcases h1 with rfl | rfl <;> omega, fun i h1 => by rcases h1 with rfl | rfl <;> omega⟩
  clear hb5 hz5 hd5
  obtain ⟨dd, hdd⟩ : ∃ dd, dd = w3.heap.size + 1 := ⟨_, rfl⟩
  obtain ⟨oo, hoo⟩ : ∃ oo, oo = w4.heap.size + 1 := ⟨_, rfl⟩
  rw [← hdd, ← hoo] at T5
  rw [← hdd, ← hoo]
  clear hdd hoo
  have hla : la ≤ cap := by omega
  go_wp2_with fail
  have bn : badName [102] = false := by decide
  have f1 : appendS [102] A (start 1048576) = (0, One [102] A 0 1048576 (inc 0) 0) := one_first bn (by rw [LA.out]; omega) (by rw [LA.out]; omega)
  have hr5 : Fr.HasRow .u8 w5 (some ⟨g, 0, none⟩) la (A ++ [71, 72]) := by
    refine ⟨by rw [E2.out]; omega, by omega, fun _ => ⟨g, 0, rfl, fun j hj => ?_⟩⟩
    rw [Nat.zero_add, B5.out.cell (p := ⟨g, j, none⟩) HML.out]
    exact HCELL.out j (by omega)
  have ht5 : (A ++ [71, 72]).take la = A := by rw [← LA.out, List.take_left]
  have c6 := T5.out.append ⟨#[102]⟩ (by decide) (some ⟨g, 0, none⟩) la cap (A ++ [71, 72]) A hr5 (fun h => by cases h) (by omega) ht5 f1
  have C6 := Lib.hid c6; have HT5 := Lib.hid ht5; have HR5 := Lib.hid hr5
  clear c6 f1 hr5 ht5
  refine C6.out.mono ?_
  rintro e w6 ⟨rfl, ht6, hb6, hs6⟩
  have T6 := Lib.hid ht6; have B6 := Lib.hid (B5.out.trans hb6)
  clear ht6 hb6 hs6 C6
  go_wp2_with fail
  have c7 := T6.out.sync ⟨#[102]⟩ (by decide) (one_sync bn)
  have C7 := Lib.hid c7; clear c7
  refine C7.out.mono ?_
  rintro e w7 ⟨rfl, ht7, hb7, hs7⟩
  have T7 := Lib.hid ht7; have B7 := Lib.hid (B6.out.trans hb7)
  clear ht7 hb7 hs7 C7
  go_wp2_with fail
  have f8 : appendS [102] B (One [102] A A.length 1048576 (inc (inc 0)) 0) = (0, One [102] (A ++ B) A.length 1048576 (inc (inc (inc 0))) 0) := one_append bn (by rw [LA.out, LB.out]; omega) (by rw [LA.out, LB.out]; omega)
  have rb7 : Fr.HasRow .u8 w7 b lb zb := ((RB.out.keep B1.out).keep B3.out).keep B7.out
  have c8 := T7.out.append ⟨#[102]⟩ (by decide) b lb cb zb B rb7 NB.out (by omega) HB.out f8
  have C8 := Lib.hid c8; clear c8 f8 rb7
  refine C8.out.mono ?_
  rintro e w8 ⟨rfl, ht8, hb8, hs8⟩
  have T8 := Lib.hid ht8; have B8 := Lib.hid (B7.out.trans hb8)
  clear ht8 hb8 hs8 C8 B4 B5 B6 B7 T5 T6 T7 Z4 D4
  go_wp2_with fail
  have hm8 : w8.heap[g]? = some (.cells cur 5 (0, 0)) := (B8.out.block g HML.out).trans HH.out
  have hcell8 : ∀ j, j < la + 2 → w8.cell? ⟨g, j, none⟩ = some (.int .u8 ((A ++ [71, 72]).getD j 0)) := fun j hj => (B8.out.cell (p := ⟨g, j, none⟩) HML.out).trans (HCELL.out j hj)
  have hr8 : Fr.HasRow .u8 w8 (some ⟨g, 0, none⟩) la (A ++ [71, 72]) := ⟨by rw [E2.out]; omega, by omega, fun _ => ⟨g, 0, rfl, fun j hj => by rw [Nat.zero_add]; exact hcell8 j (by omega)⟩⟩
  have ra8 : Fr.HasRow .u8 w8 a la za := ((RA.out.keep B1.out).keep B3.out).keep (B8.out.mono (Nat.le_refl _))
  have c9 := same_any (some ⟨g, 0, none⟩) la cap (A ++ [71, 72]) a la ca za w8 hr8 ra8
  rw [HT5.out, HA.out, sameB_self] at c9
  have C9 := Lib.hid c9; have HM8 := Lib.hid hm8; have HC8 := Lib.hid hcell8
  clear c9 hr8 ra8 hm8 hcell8
  refine C9.out.mono ?_
  rintro e w9 ⟨rfl, hb9⟩
  have B9 := Lib.hid hb9
  have T9 := Lib.hid (T8.out.below hb9)
  have HM9 : Hid (w9.heap[g]? = some (.cells cur 5 (0, 0))) := (hb9.block g (Array.getElem?_eq_some_iff.1 HM8.out).1).trans HM8.out
  have hlt8 : g < w8.heap.size := (Array.getElem?_eq_some_iff.1 HM8.out).1
  have x71 : w9.cell? ⟨g, la, none⟩ = some (.int .u8 71) := by
    rw [hb9.cell (p := ⟨g, la, none⟩) hlt8, HC8.out la (by omega)]
    simp [List.getD, LA.out]
  have x72 : w9.cell? ⟨g, la + 1, none⟩ = some (.int .u8 72) := by
    rw [hb9.cell (p := ⟨g, la + 1, none⟩) hlt8, HC8.out (la + 1) (by omega)]
    simp [List.getD, LA.out]
  clear hb9 C9 hlt8
  have tn : ((la : Int) + 1).toNat = la + 1 := by omega
  have tn2 : (la : Int) < ((la + 2 : Nat) : Int) := by omega
  have tn3 : (la : Int) + 1 < ((la + 2 : Nat) : Int) := by omega
  have tn4 : (0 : Int) ≤ (la : Int) + 1 := by omega
  go_wp2
  clear x71 x72 tn tn2 tn3 tn4
  go_loopg [84] (la + 2) (fun m i wr => ∃ (k : Nat) (cs : Array Value), k + m = la + 2 ∧ i = .int .i64 (k : Int) ∧ Hid (wr.heap[g]? = some (.cells cs 5 (0, 0))) ∧ Hid (cs.size = cap) ∧ Hid (Turned (fun i => i = g) w9 wr))
  case atStart => exact ⟨0, cur, by omega, rfl, HM9, Lib.hid (by have := HC3.out; omega), Lib.hid (Turned.refl _ _)⟩
  case round =>
    obtain ⟨k, cs, hk, rfl, K1, K2, K3⟩ := hrel
    by_cases hlt : k < la + 2
    · have hkc : k < cs.size := by have := K2.out; omega
      have ck : wr.cell? ⟨g, k, none⟩ = some cs[k] := (Joins.cell_of_block K1.out k).trans (Array.getElem?_eq_getElem hkc)
      have fk : wr.frozen? ⟨g, k, none⟩ = false := Joins.unfrozen_of_block K1.out k
      generalize cs[k] = u at ck
      have L1 := Lib.hid (Joins.block_setCell (i := k) K1.out (.int .u8 1)); have L3 := Lib.hid (K3.out.trans (Turned.setCell (O := fun i => i = g) wr (g := g) k rfl (.int .u8 1)))
      go_wp2
      go_roundg (la + 2 - (k + 1))
      case measure => omega
      case rel => exact ⟨k + 1, _, by omega, by go_num, L1, Lib.hid (by simp [K2.out]), L3⟩
    · obtain rfl : k = la + 2 := by omega
      have hB3 := B3.out.size
      have hg1 := HG.out
      have T10 : Hid (Two w3.heap.size w8.heap.size wr dd (One [102] (A ++ B) A.length 1048576 (inc (inc (inc 0))) 0) oo (start 1048576)) := T9.out.keep K3.out.size fun i hi hi2 => K3.out.block i (Nat.lt_of_lt_of_le hi2 B9.out.size) fun e => by have := HML.out; omega
      have B10 : Hid (Below w1.heap.size w1 wr) := (B3.out.trans ((B8.out.trans (B9.out.mono B8.out.size)).mono B3.out.size)).trans (K3.out.below fun k hk => ⟨by have := B8.out.size; have := B9.out.size; omega, fun e => by omega⟩)
      have ra10 : Hid (Fr.HasRow .u8 wr a la za) := (RA.out.keep B1.out).keep B10.out
      have rb10 : Hid (Fr.HasRow .u8 wr b lb zb) := (RB.out.keep B1.out).keep B10.out
      have hB1 := B1.out.size; have hB10 := B10.out.size
      clear K1 K2 K3 hg1
      obtain ⟨AB, hAB⟩ : ∃ AB, A ++ B = AB := ⟨_, rfl⟩
      have lAB : AB.length = la + lb := by rw [← hAB, List.length_append, LA.out, LB.out]
      rw [hAB] at T10
      obtain ⟨n, hn⟩ : ∃ n, AB.length = n := ⟨_, rfl⟩
      have LAB := Lib.hid hn; have HAB := Lib.hid hAB
      have hn2 : n ≤ 65536 := by omega
      clear hAB lAB hn
      have tk2 : True := trivial
      go_wp2_with (first
        | (at_builtin; have _t := tk2; refine Ob.wp_apd rfl (.tmp 91) (.tmp 92) rfl wr.heap.size _ [] rfl (Ob.own_made wr (Nat.le_refl _)) a la ca za rfl (ra10.out.keep ((Below.refl _ _).alloc (Nat.le_refl _) _)) NA.out (by simp; omega) (by simp) ?_; intro v11 w11 ho11' hb11'; rw [List.nil_append, HA.out] at ho11'; have ho11 := Lib.hid ho11'; have B11 := Lib.hid (((Below.refl _ _).alloc (Nat.le_refl _) _).trans hb11'); clear ho11' hb11' tk2)
        | (at_builtin; refine Ob.wp_apd rfl (.tmp 93) (.tmp 94) rfl wr.heap.size v11 A rfl ho11.out b lb cb zb rfl (rb10.out.keep B11.out) NB.out (by rw [LA.out]; omega) B11.out.size ?_; intro v12 w12 ho12' hb12'; rw [HB.out, HAB.out] at ho12'; have B12 := Lib.hid (B11.out.trans hb12'); obtain ⟨adw, capw, hvw, rw12, _, _, _⟩ := Ob.own_row ho12'; rw [LAB.out] at hvw rw12; subst hvw; have RW12 := Lib.hid rw12; clear ho12' hb12' rw12))
      have T12 := Lib.hid (T10.out.below B12.out)
      have bn := Lib.hid bn
      refine (T12.out.read ⟨#[102]⟩ (by decide) (one_there bn.out) (one_read bn.out)).mono ?_
      rintro e w13 ⟨adx, capx, rfl, ox, rx, _, cx, hb13⟩
      rw [LAB.out] at ox rx cx ⊢
      have OX := Lib.hid ox; have RX := Lib.hid rx; have B13 := Lib.hid hb13; have T13 := Lib.hid (T12.out.below hb13)
      have RW13 : Hid (Fr.HasRow .u8 w13 adw n AB) := RW12.out.keep hb13
      clear ox rx hb13
      go_wp2_with fail
      have c14 := same_any adx n capx AB adw n capw AB w13 RX.out RW13.out
      rw [sameB_self] at c14
      have C14 := Lib.hid c14; clear c14
      refine C14.out.mono ?_
      rintro e w14 ⟨rfl, hb14⟩
      have OX14 : Hid (Ob.OwnB w14 w12.heap.size (.slice adx n capx) AB) := Ob.own_keep OX.out hb14
      have B14 : Hid (Below w12.heap.size w12 w14) := B13.out.trans (hb14.mono B13.out.size)
      have T14 := Lib.hid (T13.out.below hb14)
      clear hb14 C14 OX RX
      go_wp2
      go_loopg [111] n (fun m i wx => ∃ (k : Nat) (L : List Int), k + m = n ∧ i = .int .i64 (k : Int) ∧ Hid (Ob.OwnB wx w12.heap.size (.slice adx n capx) L) ∧ Hid (L.length = n) ∧ Hid (Below w12.heap.size w12 wx))
      case atStart => exact ⟨0, AB, by omega, rfl, OX14, LAB, B14⟩
      case round =>
        obtain ⟨k, L, hk, rfl, K1, K2, K3⟩ := hrel
        by_cases hlt : k < n
        · obtain ⟨gx, capx2, curx, hvx, hgx, hhx, _, _, _, hcx⟩ := Ob.own_block K1.out (by rw [K2.out]; omega)
          simp only [Value.slice.injEq] at hvx
          obtain ⟨rfl, _, rfl⟩ := hvx
          have ck := hcx k (by rw [K2.out]; exact hlt)
          have fk : wr.frozen? ⟨gx, k, none⟩ = false := Joins.unfrozen_of_block hhx k
          generalize L.getD k 0 = u at ck
          have L1 := Lib.hid (ownB_store K1.out (i := k) (by rw [K2.out]; exact hlt) 2); have L3 := Lib.hid (K3.out.setCell (p := ⟨gx, k, none⟩) hgx (.int .u8 2))
          clear hhx hcx
          go_wp2
          go_roundg (n - (k + 1))
          case measure => omega
          case rel => exact ⟨k + 1, _, by omega, by go_num, L1, Lib.hid (by simp [K2.out]), L3⟩
        · obtain rfl : n = k := by omega
          have hB3 := K3.out.size; have hB12 := B12.out.size
          go_wp2_with (first
            | (at_builtin; refine Ob.wp_apd rfl (.tmp 118) (.tmp 119) rfl w12.heap.size _ L rfl (Ob.own_keep K1.out ((Below.refl _ _).alloc (Nat.le_refl _) _)) _ 3 3 [3, 4, 5] rfl (const_row wr [3, 4, 5] (0, 0) (by decide)) (fun h => by cases h) (by rw [K2.out]; omega) (by simp; omega) ?_; intro v15 w15 ho15 hb15; rw [show List.take 3 ([3, 4, 5] : List Int) = [3, 4, 5] from rfl] at ho15; obtain ⟨ad15, cap15, hv15, _, _, _, _⟩ := Ob.own_row ho15; have e15 : (L ++ [3, 4, 5]).length = n + 3 := (by simp [K2.out]); rw [e15] at hv15; clear e15; subst hv15; have B15 := Lib.hid (K3.out.trans (((Below.refl _ _).alloc K3.out.size _).trans hb15)); clear ho15 hb15))
          have T15 : Hid (Two w3.heap.size w8.heap.size w15 dd (One [102] AB A.length 1048576 (inc (inc (inc 0))) 0) oo (start 1048576)) := T12.out.below B15.out
          have RW15 : Hid (Fr.HasRow .u8 w15 adw n AB) := RW12.out.keep B15.out
          have h12 : Hid (w12.heap.size ≤ w15.heap.size) := B15.out.size
          clear K1 K2 K3
          refine (T15.out.read ⟨#[102]⟩ (by decide) (one_there bn.out) (one_read bn.out)).mono ?_
          rintro e w16 ⟨ady, capy, rfl, _, ry, _, _, hb16⟩
          rw [LAB.out] at ry ⊢
          have RY := Lib.hid ry; have B16 := Lib.hid hb16; have T16 := Lib.hid (T15.out.below hb16)
          clear ry hb16
          go_wp2_with fail
          refine (T16.out.names1 (one_names _ _ _ _ _ _)).mono ?_
          rintro e w17 ⟨adn, capn, rfl, hcn, hcn2, hn17, hb17⟩
          obtain ⟨gn, curn, rfl, hgn, hhn, hcelln⟩ := hn17 (by decide)
          have cn0 := hcelln 0 (by decide)
          have fn0 : w17.frozen? ⟨gn, 0, none⟩ = false := Joins.unfrozen_of_block hhn 0
          have B17 := Lib.hid hb17; have T17 := Lib.hid (T16.out.below hb17)
          have HGN := Lib.hid hgn
          rw [show [([102] : List UInt8)].length = 1 from rfl] at hcn ⊢
          clear hb17 hhn hcelln hn17 hgn
          go_wp2_with fail
          have B18 : Hid (Below w16.heap.size w16 (w17.setCell ⟨gn, 0, none⟩ (.string ⟨#[122]⟩))) := B17.out.setCell HGN.out _
          have T18 : Hid (Two w3.heap.size w8.heap.size (w17.setCell ⟨gn, 0, none⟩ (.string ⟨#[122]⟩)) dd (One [102] AB A.length 1048576 (inc (inc (inc 0))) 0) oo (start 1048576)) := T16.out.below B18.out
          clear cn0 fn0
          refine (T18.out.names1 (one_names _ _ _ _ _ _)).mono ?_
          rintro e w19 ⟨adm, capm, rfl, hcm, hcm2, hm19, hb19⟩
          obtain ⟨gm, curm, rfl, hgm, hhm, hcellm⟩ := hm19 (by decide)
          have cm0 : w19.cell? ⟨gm, 0, none⟩ = some (.string ⟨#[102]⟩) := hcellm 0 (by decide)
          have B19 : Hid (Below w16.heap.size w16 w19) := B18.out.trans (hb19.mono B18.out.size)
          have T19 := Lib.hid (T18.out.below hb19)
          have hlm : gm < w19.heap.size := (Array.getElem?_eq_some_iff.1 hhm).1
          have RY19 : Hid (Fr.HasRow .u8 w19 ady n AB) := RY.out.keep B19.out
          have RW19 : Hid (Fr.HasRow .u8 w19 adw n AB) := (RW15.out.keep B16.out).keep B19.out
          have CM0 := Lib.hid cm0; have HLM := Lib.hid hlm
          rw [show [([102] : List UInt8)].length = 1 from rfl] at hcm ⊢
          clear hb19 hhm hcellm hm19 hgm cm0 hlm
          have c20 := same_any ady n capy AB adw n capw AB w19 RY19.out RW19.out
          rw [sameB_self] at c20
          have C20 := Lib.hid c20; clear c20
          go_wp2_with fail
          refine C20.out.mono ?_
          rintro e w20 ⟨rfl, hb20⟩
          have cm1 : w20.cell? ⟨gm, 0, none⟩ = some (.string ⟨#[102]⟩) := (hb20.cell (p := ⟨gm, 0, none⟩) HLM.out).trans CM0.out
          have T20 := Lib.hid (T19.out.below hb20)
          have B20 := Lib.hid (B19.out.trans (hb20.mono B19.out.size))
          clear hb20 C20
          go_wp2_with fail
          refine (T20.out.names2 rfl).mono ?_
          rintro e w21 ⟨ado, capo, rfl, hco, hco2, _, hb21⟩
          have B21 := Lib.hid (B20.out.trans (hb21.mono B20.out.size))
          rw [show (namesL (start 1048576)).length = 0 from rfl] at hco ⊢
          clear hb21 cm1
          go_wp2
          go_ret
          have x1 := B1.out.size; have x10 := hB10; have x15 := B15.out.size; have x16 := B16.out.size
          refine ⟨rfl, ?_⟩
          have y1 := (B1.out.trans ((B10.out.trans (B12.out.mono (by omega))).mono (by omega)))
          exact y1.trans ((B15.out.trans ((B16.out.mono (by omega)).trans (B21.out.mono (by omega)))).mono (by omega))
end Go.Proofs.Ytbjpchembekbbaa.Dk

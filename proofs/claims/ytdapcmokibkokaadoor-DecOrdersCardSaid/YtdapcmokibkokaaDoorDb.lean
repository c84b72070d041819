/-
  Layer 2: dec's small functions; Format.
-/
import Derived.Test.YtdapcmokibkokaaDoorDa
import Derived.Test.YtdapcmokibkokaaDoorFx5
import Derived.Test.YtdapcmokibkokaaDoorFx7
import Derived.Test.YtdapcmokibkokaaDoorShelf
import Derived.Shelf.Strings.SlTrimAscii
import Derived.Shelf.Unicode.PredsPay
import Derived.Lib.SmallJoins
import Derived.WalkKit
import Derived.ProofKit
import Derived.Lib.Hide
import Derived.Deep.QuietTactic
import Derived.BigQuiet
import Derived.Outline
import Derived.Deep.CutBlock
import Derived.Deep.DeepCutAuto
import Derived.Deep.LoopGhost
import Derived.Handy
import Derived.Below
namespace Go.Proofs.YtdapcmokibkokaaDoor.Dx
open Go.RowKit Go.Sort
set_option linter.unusedVariables false
set_option linter.unusedSimpArgs false

theorem below_more (w : World) (k : Nat) (os : Array Obj) : Below w.heap.size w (grow (w.drewN k) os) :=
  ⟨rfl, rfl, rfl, by simp [grow], fun i hi => by
    show ((w.drewN k).heap ++ os)[i]? = _
    rw [Array.getElem?_append_left (by show i < w.heap.size; omega)]
    rfl⟩

theorem below_next {w0 w1 w2 : World} (hb : Below w0.heap.size w0 w1) (hc : Below w1.heap.size w1 w2) : Below w0.heap.size w0 w2 :=
  hb.trans (hc.mono hb.size)

theorem below_drewN {B : Nat} {a w : World} (h : Below B a w) (n : Nat) : Below B a (w.drewN n) := ⟨h.os, h.tape, h.output, h.size, h.block⟩

theorem rep_one (c : UInt8) : ∀ n, Lib.repeatL [c] n = List.replicate n c
  | 0 => rfl
  | n + 1 => by rw [Lib.repeatL, rep_one c n, List.replicate_succ]; rfl

theorem repeat_any (n : Nat) (w : World) (hn : n ≤ 64) :
    Calls Tryd.prog 25 #[.string { data := #[48] }, .int .i64 n] w fun e w' => e = .returned (.string (bs (List.replicate n 48))) ∧ Below w.heap.size w w' := by
  have h := Tryd.strings_Repeat { data := #[48] } n w (by omega) (by rw [show (ByteArray.mk #[48]).size = 1 from rfl]; omega)
  refine h.mono ?_
  rintro e w' ⟨rfl, hb⟩
  refine ⟨?_, hb⟩
  rw [show (ByteArray.mk #[48]).data.toList = [48] from rfl, rep_one]; rfl

set_option maxHeartbeats 400000 in
theorem zeros_any (z : Int) (w : World) (hz : z ≤ 64) :
    Calls Tryd.prog 16 #[.int .i64 z] w fun e w' => e = .returned (.string (bs (List.replicate z.toNat 48))) ∧ Below w.heap.size w w' := by
  have hcon := fun w => repeat_any z.toNat w (by omega)
  have hm : max z 0 = ↑z.toNat := by omega
  generalize z.toNat = n at hcon hm ⊢
  generalize (bs (List.replicate n 48)) = r at hcon ⊢
  go_enter Tryd.func16, Tryd.ntmps16
  go_wp2_with (go_at_call 25; go_loud (refine (hcon _).mono ?_; rintro e w2 ⟨rfl, hb⟩))
  go_ret
  exact ⟨rfl, ‹_›⟩

theorem itoa_any (x : Int) (w : World) (h0 : -9223372036854775808 ≤ x) (h1 : x ≤ 9223372036854775807)
    (htab : Lib.TabIs Tryd.prog w "internal/strconv.uint64pow10" .u64 Lib.pow10Tab) :
    Calls Tryd.prog 15 #[.int .i64 x] w fun e w' => e = .returned (.string (bs (if x < 0 then 45 :: dec x.natAbs else dec x.natAbs))) ∧ Below w.heap.size w w' := by
  refine (Tryd.strconv_Itoa x h0 h1 w htab).mono ?_
  rintro e w' ⟨rfl, k, os, rfl⟩
  refine ⟨?_, ?_⟩
  · have : Lib.itoa x = (if x < 0 then 45 :: dec x.natAbs else dec x.natAbs) := by
      unfold Lib.itoa dec
      split
      · rfl
      · rw [show x.toNat = x.natAbs by omega]
    rw [this]; rfl
  · exact below_more _ _ _

theorem dgt_dec (m : Nat) : ∃ c r, dec m = c :: r ∧ c ≠ 45 := by
  have hd : ∀ k, k < 10 → dgt k ≠ 45 := by
    intro k hk
    have : ∀ i : Fin 10, dgt i.val ≠ 45 := by decide
    exact this ⟨k, hk⟩
  rw [dec_low]
  obtain ⟨n, hn⟩ : ∃ n, nd m = n + 1 := ⟨nd m - 1, by have := nd_pos m; omega⟩
  rw [hn, low_cons]
  exact ⟨_, _, rfl, hd _ (Nat.mod_lt _ (by omega))⟩

theorem cut_neg (x : Int) (w : World) (h : x < 0) :
    Calls Tryd.prog 14 #[.string (bs (if x < 0 then 45 :: dec x.natAbs else dec x.natAbs)), .string { data := #[45] }] w fun e w' => e = .returned (.tuple #[.string (bs (dec x.natAbs)), .bool true]) ∧ w' = w := by
  rw [if_pos h]
  exact Tryd.strings_CutPrefix (bs (45 :: dec x.natAbs)) { data := #[45] } w
theorem cut_pos (x : Int) (w : World) (h : 0 ≤ x) :
    Calls Tryd.prog 14 #[.string (bs (if x < 0 then 45 :: dec x.natAbs else dec x.natAbs)), .string { data := #[45] }] w fun e w' => e = .returned (.tuple #[.string (bs (dec x.natAbs)), .bool false]) ∧ w' = w := by
  rw [if_neg (by omega)]
  have h := Tryd.strings_CutPrefix (bs (dec x.natAbs)) { data := #[45] } w
  obtain ⟨c, r, hc, hne⟩ := dgt_dec x.natAbs
  have e1 : Lib.hasPrefix (dec x.natAbs) [45] = false := by
    rw [hc]; unfold Lib.hasPrefix; simp [List.isPrefixOf, hne.symm]
  have e2 : Lib.trimPrefix (dec x.natAbs) [45] = dec x.natAbs := by
    unfold Lib.trimPrefix; rw [show Lib.hasPrefix (dec x.natAbs) [45] = false from e1]; rfl
  refine h.mono ?_
  rintro e w' ⟨rfl, rfl⟩
  refine ⟨?_, rfl⟩
  rw [show (ByteArray.mk #[45]).data.toList = [45] from rfl, bs_data, e1, e2]; rfl

theorem places_yes (p : Nat) (w : World) (h : p ≤ 9) :
    Calls Tryd.prog 12 #[.int .i64 p] w fun e w' => e = .returned (.bool true) ∧ w = w' := by
  have h2 : decide ((p : Int) ≤ 9) = true := by simp; omega
  go_enter Tryd.func12, Tryd.ntmps12
  go_wp2
  go_ret
  exact ⟨rfl, rfl⟩
theorem places_no (p : Int) (w : World) (h : ¬ (0 ≤ p ∧ p ≤ 9)) :
    Calls Tryd.prog 12 #[.int .i64 p] w fun e w' => e = .returned (.bool false) ∧ w = w' := by
  rcases Int.lt_or_le p 0 with h1 | h1
  · have h2 : ¬ 0 ≤ p := by omega
    go_enter Tryd.func12, Tryd.ntmps12
    go_wp2
    go_ret
    exact ⟨rfl, rfl⟩
  · have h2 : ¬ p ≤ 9 := by omega
    go_enter Tryd.func12, Tryd.ntmps12
    go_wp2
    go_ret
    exact ⟨rfl, rfl⟩

theorem format_arg (x p : Int) (w : World) (h : ¬ (0 ≤ p ∧ p ≤ 9)) :
    Calls Tryd.prog 8 #[.int .i64 x, .int .i64 p] w fun e w' => e = .returned (.tuple #[.string (bs []), .int .i64 1]) ∧ Below w.heap.size w w' := by
  go_enter Tryd.func8, Tryd.ntmps8
  go_wp2_with (go_at_call 12; refine (places_no _ _ h).mono ?_; rintro e w' ⟨rfl, rfl⟩)
  go_ret2
  exact ⟨rfl, Below.refl _ _⟩

theorem format_over (x : Int) (p : Nat) (w : World) (h : p ≤ 9) (hx : Fx.fitB x = false) :
    Calls Tryd.prog 8 #[.int .i64 x, .int .i64 p] w fun e w' => e = .returned (.tuple #[.string (bs []), .int .i64 4]) ∧ Below w.heap.size w w' := by
  have hf : ∀ w, Calls Tryd.prog 13 #[.int .i64 x] w fun e w' => e = .returned (.bool false) ∧ w = w' := fun w => by have := Fx.fits_any x w; rwa [hx] at this
  go_enter Tryd.func8, Tryd.ntmps8
  go_wp2_with (first | (go_at_call 12; refine (places_yes _ _ h).mono ?_; rintro e w' ⟨rfl, rfl⟩) | (go_at_call 13; refine (hf _).mono ?_; rintro e w' ⟨rfl, rfl⟩))
  go_ret2
  exact ⟨rfl, Below.refl _ _⟩

theorem split_at (m p : Nat) : (dec (m / 10 ^ p) ++ low p m).take (nd (m / 10 ^ p)) = dec (m / 10 ^ p) ∧ (dec (m / 10 ^ p) ++ low p m).drop (nd (m / 10 ^ p)) = low p m := by
  have h := dec_length (m / 10 ^ p)
  rw [← h]
  exact ⟨List.take_left, List.drop_left⟩

set_option maxHeartbeats 1000000 in
theorem format_ok (x : Int) (p : Nat) (w : World) (h : p ≤ 9) (hx : Fx.fitB x = true)
    (htab : Lib.TabIs Tryd.prog w "internal/strconv.uint64pow10" .u64 Lib.pow10Tab) :
    Calls Tryd.prog 8 #[.int .i64 x, .int .i64 p] w fun e w' => e = .returned (.tuple #[.string (bs (fmtT x p)), .int .i64 0]) ∧ Below w.heap.size w w' := by
  have hfit := Fx.fitB_true hx
  have hf : ∀ w, Calls Tryd.prog 13 #[.int .i64 x] w fun e w' => e = .returned (.bool true) ∧ w = w' := fun w => by have := Fx.fits_any x w; rwa [hx] at this
  have hI := itoa_any x w (by omega) (by omega) htab
  have hC : ∀ w, Calls Tryd.prog 14 #[.string (bs (if x < 0 then 45 :: dec x.natAbs else dec x.natAbs)), .string { data := #[45] }] w fun e w' => e = .returned (.tuple #[.string (bs (dec x.natAbs)), .bool (decide (x < 0))]) ∧ w' = w := by
    intro w
    by_cases hn : x < 0
    · rw [decide_eq_true hn]; exact cut_neg x w hn
    · rw [decide_eq_false hn]; exact cut_pos x w (by omega)
  generalize bs (if x < 0 then 45 :: dec x.natAbs else dec x.natAbs) = T at hI hC
  have hm : x.natAbs ≤ 4611686018427387904 := by omega
  unfold fmtT
  generalize x.natAbs = m at hI hC hm ⊢
  have n1 := nd_pos m
  have n2 := nd_lt20 (m := m) (by omega)
  have hZ := fun w => zeros_any (↑p + 1 - ↑(nd m)) w (by omega)
  have q1 := nd_pos (m / 10 ^ p)
  have q2 := nd_lt20 (m := m / 10 ^ p) (Nat.lt_of_le_of_lt (Nat.div_le_self _ _) (by omega))
  have ecat : bs (List.replicate (↑p + 1 - (↑(nd m) : Int)).toNat 48) ++ bs (dec m) = bs (dec (m / 10 ^ p) ++ low p m) := by
    rw [bs_app, ← pad_eq, show (↑p + 1 - (↑(nd m) : Int)).toNat = p + 1 - nd m by omega]
  have sD : (bs (dec m)).size = nd m := dec_length m
  have sZ : (bs (List.replicate (↑p + 1 - (↑(nd m) : Int)).toNat 48)).size ≤ 10 := by rw [bs_size, List.length_replicate]; omega
  have sE : (bs (dec (m / 10 ^ p) ++ low p m)).size = nd (m / 10 ^ p) + p := by rw [bs_size, List.length_append, dec_length, low_length]
  have sA : (bs (dec (m / 10 ^ p))).size = nd (m / 10 ^ p) := dec_length _
  have sB : (bs (low p m)).size = p := low_length _ _
  have xA : (bs (dec (m / 10 ^ p) ++ low p m)).extract 0 (nd (m / 10 ^ p)) = bs (dec (m / 10 ^ p)) := by
    rw [bs_extract, List.drop_zero, Nat.sub_zero, (split_at m p).1]
  have xB : (bs (dec (m / 10 ^ p) ++ low p m)).extract (nd (m / 10 ^ p)) (nd (m / 10 ^ p) + p) = bs (low p m) := by
    rw [bs_extract, (split_at m p).2, List.take_of_length_le (by rw [low_length]; omega)]
  have aA : bs (dec (m / 10 ^ p)) ++ { data := #[46] } = bs (dec (m / 10 ^ p) ++ [46]) := bs_app _ [46]
  have aB : bs (dec (m / 10 ^ p) ++ [46]) ++ bs (low p m) = bs (dec (m / 10 ^ p) ++ 46 :: low p m) := by rw [bs_app, List.append_assoc]; rfl
  have sA' : (bs (dec (m / 10 ^ p) ++ [46])).size = nd (m / 10 ^ p) + 1 := by rw [bs_size, List.length_append, dec_length]; rfl
  have sT : (bs (dec (m / 10 ^ p) ++ 46 :: low p m)).size = nd (m / 10 ^ p) + 1 + p := by rw [bs_size, List.length_append, List.length_cons, dec_length, low_length]; omega
  have mT : ({ data := #[45] } : ByteArray) ++ bs (dec (m / 10 ^ p) ++ 46 :: low p m) = bs (45 :: (dec (m / 10 ^ p) ++ 46 :: low p m)) := bs_app [45] _
  have mE : ({ data := #[45] } : ByteArray) ++ bs (dec (m / 10 ^ p) ++ low p m) = bs (45 :: (dec (m / 10 ^ p) ++ low p m)) := bs_app [45] _
  have goalT : bs (if x < 0 then 45 :: txtN m p else txtN m p) = if x < 0 then (if p = 0 then bs (45 :: (dec (m / 10 ^ p) ++ low p m)) else bs (45 :: (dec (m / 10 ^ p) ++ 46 :: low p m))) else (if p = 0 then bs (dec (m / 10 ^ p) ++ low p m) else bs (dec (m / 10 ^ p) ++ 46 :: low p m)) := by
    unfold txtN
    by_cases h0 : p = 0
    · subst h0; simp [low]; split <;> rfl
    · simp [h0]; split <;> rfl
  rw [goalT]
  clear goalT
  generalize bs (45 :: (dec (m / 10 ^ p) ++ low p m)) = NE at mE ⊢
  generalize bs (45 :: (dec (m / 10 ^ p) ++ 46 :: low p m)) = NT at mT ⊢
  generalize bs (dec (m / 10 ^ p) ++ 46 :: low p m) = TT at aB sT mT ⊢
  generalize bs (dec (m / 10 ^ p) ++ [46]) = A1 at aA aB sA'
  generalize bs (dec (m / 10 ^ p) ++ low p m) = E at ecat sE xA xB mE ⊢
  generalize bs (dec (m / 10 ^ p)) = A at sA xA aA
  generalize bs (low p m) = B at sB xB aB
  generalize bs (List.replicate (↑p + 1 - (↑(nd m) : Int)).toNat 48) = Z at hZ ecat sZ
  generalize bs (dec m) = D at hC ecat sD
  generalize nd (m / 10 ^ p) = q at q1 q2 sE sA xA xB sA' sT
  generalize nd m = n at n1 n2 hZ sD
  by_cases hn : x < 0
  · rw [decide_eq_true hn] at hC
    rw [if_pos hn]
    by_cases h0 : p = 0
    · subst h0
      rw [if_pos rfl]
      go_enter Tryd.func8, Tryd.ntmps8
      go_wp2_with (first | (go_at_call 12; refine (places_yes _ _ h).mono ?_; rintro e w' ⟨rfl, rfl⟩) | (go_at_call 13; refine (hf _).mono ?_; rintro e w' ⟨rfl, rfl⟩) | (go_at_call 15; refine hI.mono ?_; rintro e w1 ⟨rfl, hb1⟩) | (go_at_call 14; refine (hC _).mono ?_; rintro e w' ⟨rfl, rfl⟩) | (go_at_call 16; refine (hZ _).mono ?_; rintro e w2 ⟨rfl, hb2⟩))
      go_ret2
      exact ⟨rfl, below_next (by assumption) (by assumption)⟩
    · rw [if_neg h0]
      have h0' : 0 < p := by omega
      go_enter Tryd.func8, Tryd.ntmps8
      go_wp2_with (first | (go_at_call 12; refine (places_yes _ _ h).mono ?_; rintro e w' ⟨rfl, rfl⟩) | (go_at_call 13; refine (hf _).mono ?_; rintro e w' ⟨rfl, rfl⟩) | (go_at_call 15; refine hI.mono ?_; rintro e w1 ⟨rfl, hb1⟩) | (go_at_call 14; refine (hC _).mono ?_; rintro e w' ⟨rfl, rfl⟩) | (go_at_call 16; refine (hZ _).mono ?_; rintro e w2 ⟨rfl, hb2⟩))
      go_quiet (fail)
      go_wp2
      go_ret2
      exact ⟨rfl, below_next (by assumption) (below_drewN (by assumption) _)⟩
  · rw [decide_eq_false hn] at hC
    rw [if_neg hn]
    by_cases h0 : p = 0
    · subst h0
      rw [if_pos rfl]
      go_enter Tryd.func8, Tryd.ntmps8
      go_wp2_with (first | (go_at_call 12; refine (places_yes _ _ h).mono ?_; rintro e w' ⟨rfl, rfl⟩) | (go_at_call 13; refine (hf _).mono ?_; rintro e w' ⟨rfl, rfl⟩) | (go_at_call 15; refine hI.mono ?_; rintro e w1 ⟨rfl, hb1⟩) | (go_at_call 14; refine (hC _).mono ?_; rintro e w' ⟨rfl, rfl⟩) | (go_at_call 16; refine (hZ _).mono ?_; rintro e w2 ⟨rfl, hb2⟩))
      go_ret2
      exact ⟨rfl, below_next (by assumption) (by assumption)⟩
    · rw [if_neg h0]
      have h0' : 0 < p := by omega
      go_enter Tryd.func8, Tryd.ntmps8
      go_wp2_with (first | (go_at_call 12; refine (places_yes _ _ h).mono ?_; rintro e w' ⟨rfl, rfl⟩) | (go_at_call 13; refine (hf _).mono ?_; rintro e w' ⟨rfl, rfl⟩) | (go_at_call 15; refine hI.mono ?_; rintro e w1 ⟨rfl, hb1⟩) | (go_at_call 14; refine (hC _).mono ?_; rintro e w' ⟨rfl, rfl⟩) | (go_at_call 16; refine (hZ _).mono ?_; rintro e w2 ⟨rfl, hb2⟩))
      go_quiet (fail)
      go_wp2
      go_ret2
      exact ⟨rfl, below_next (by assumption) (below_drewN (by assumption) _)⟩
end Go.Proofs.YtdapcmokibkokaaDoor.Dx

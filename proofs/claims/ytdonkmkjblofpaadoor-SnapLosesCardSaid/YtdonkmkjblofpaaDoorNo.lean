/-
  Layer 6: the law on losses, walked. (Written by gen_nlos.py.)
-/
import Derived.Test.YtdonkmkjblofpaaDoorNn
import Derived.Deep.CutBlock
import Derived.Deep.CutRange
import Derived.Deep.DeepCutAuto
namespace Go.Proofs.YtdonkmkjblofpaaDoor.Sn
open Go.RowKit Go.Sort Dx Sx Dk Wl Fo
set_option linter.unusedVariables false
set_option linter.unusedSimpArgs false
theorem ok_arm {W w : World} {d : Nat} {S : St} (h : Ok W w d S) (n keep : Int) (hn : n ≤ 9223372036854775807) : Calls Tryd.prog 11 #[.pointer (some ⟨d, 0, none⟩), .int .i64 n, .int .i64 keep] w fun e w' => e = .returned (.tuple #[]) ∧ Ok W w' d (armS n keep S) := by
  obtain ⟨O, h1, h2, h3⟩ := h
  refine (arm_disk h1 n keep hn).mono ?_
  rintro e w' ⟨rfl, hs⟩
  exact ⟨rfl, Ok.step h1 h2 h3 hs⟩
theorem ok_down {W w : World} {d : Nat} {S : St} (h : Ok W w d S) : Calls Tryd.prog 14 #[.pointer (some ⟨d, 0, none⟩)] w fun e w' => e = .returned (.bool S.down) ∧ w = w' := by
  obtain ⟨O, h1, h2, h3⟩ := h
  exact down_disk h1
/-- The law's argument, in a box. -/
structure Bx6 (w : World) (B : Nat) (a : Option Addr) (len cap : Nat) (a2 : Option Addr) (len2 cap2 : Nat) (x1 x2 : Int) : Prop where
  c0 : w.cell? ⟨B, 0, none⟩ = some (.slice a len cap)
  c1 : w.cell? ⟨B, 1, none⟩ = some (.slice a2 len2 cap2)
  c2 : w.cell? ⟨B, 2, none⟩ = some (.int .i64 x1)
  c3 : w.cell? ⟨B, 3, none⟩ = some (.int .i64 x2)
theorem Bx6.keep {w w' : World} {B : Nat} {a : Option Addr} {len cap : Nat} {a2 : Option Addr} {len2 cap2 : Nat} {x1 x2 : Int} (h : Bx6 w B a len cap a2 len2 cap2 x1 x2) (hb : Below w.heap.size w w') : Bx6 w' B a len cap a2 len2 cap2 x1 x2 :=
  ⟨(hb.cell (Fr.lt_of_cell h.c0)).trans h.c0, (hb.cell (Fr.lt_of_cell h.c1)).trans h.c1, (hb.cell (Fr.lt_of_cell h.c2)).trans h.c2, (hb.cell (Fr.lt_of_cell h.c3)).trans h.c3⟩
theorem and255 (a : Int) : ∃ K : Nat, bits .and .i64 a 255 = (K : Int) ∧ K ≤ 255 := by
  refine ⟨((BitVec.ofInt IntKind.i64.bits a) &&& (BitVec.ofInt IntKind.i64.bits 255)).toNat, ?_, ?_⟩
  · have h : ((BitVec.ofInt IntKind.i64.bits a) &&& (BitVec.ofInt IntKind.i64.bits 255)).toNat ≤ 255 := by
      rw [BitVec.toNat_and]; exact Nat.le_trans Nat.and_le_right (by decide)
    show IntKind.i64.wrap ((((BitVec.ofInt IntKind.i64.bits a) &&& (BitVec.ofInt IntKind.i64.bits 255)).toNat : Nat) : Int) = _
    rw [IntWalk.i64_in _ (by omega)]
  · rw [BitVec.toNat_and]; exact Nat.le_trans Nat.and_le_right (by decide)
theorem l6_sum {l tt : Nat} (hl : l ≤ 140737488351232) (ht : tt ≤ 262144) : RowKit.wrap64 ((tt : Int) + (l : Int)) = ((tt + l : Nat) : Int) ∧ IntKind.i64.wrap ((tt : Int) + (l : Int)) = ((tt + l : Nat) : Int) :=
  ⟨by rw [IntWalk.wrap64_in _ (by omega)]; omega, by rw [IntWalk.i64_in _ (by omega)]; omega⟩
theorem l6_step {n s k : Nat} (hn : n ≤ 256 * k) (hk : k ≤ 256) (hs : s ≤ 255) : IntKind.i64.wrap (1 + (s : Int)) = 1 + (s : Int) ∧ RowKit.wrap64 (1 + (s : Int)) = 1 + (s : Int) ∧ IntKind.i64.wrap ((n : Int) + (1 + (s : Int))) = ((n + (1 + s) : Nat) : Int) ∧ RowKit.wrap64 ((n : Int) + (1 + (s : Int))) = ((n + (1 + s) : Nat) : Int) :=
  ⟨IntWalk.i64_in _ (by omega), IntWalk.wrap64_in _ (by omega), by rw [IntWalk.i64_in _ (by omega)]; omega, by rw [IntWalk.wrap64_in _ (by omega)]; omega⟩
theorem l6_one {n : Nat} (hn : n ≤ 65536) : IntKind.i64.wrap ((n : Int) + 1) = ((n + 1 : Nat) : Int) ∧ RowKit.wrap64 ((n : Int) + 1) = ((n + 1 : Nat) : Int) :=
  ⟨by rw [IntWalk.i64_in _ (by omega)]; omega, by rw [IntWalk.wrap64_in _ (by omega)]; omega⟩
theorem l6_bound {n0 n1 j s : Nat} (h : n0 ≤ 256 * j) (e : n0 + (1 + s) = n1) (hs : s ≤ 255) : n0 < n1 ∧ n1 ≤ 256 * (j + 1) := by omega
theorem l6_bound1 {n0 n1 j : Nat} (h : n0 ≤ 256 * j) (e : n0 + 1 = n1) : n0 < n1 ∧ n1 ≤ 256 * (j + 1) := by omega
theorem l6_top {n1 j k : Nat} (h : n1 ≤ 256 * (j + 1)) (hj : j < k) (hk : k ≤ 256) : n1 ≤ 65536 := by omega
theorem l6_low {n0 j k : Nat} (h : n0 ≤ 256 * j) (hj : j < k) (hk : k ≤ 256) : n0 ≤ 65536 := by omega
theorem rest_last {R : Nat → Rw} {len n : Nat} {N : List (Nat × List Int)} {S : St} {lv nv : Int} {lb nb : Option Addr × Nat × Nat} (h : LastR R len n N lv lb) (hfs : S.fs = sfs N) (hn : n ≤ 65536) (hsz : ∀ i, i < len → (recOf R i).length ≤ 262144) : Rest6 R len n S [] N ∧ FoundR R len N lv lb nv nb := by
  rcases h with ⟨rfl, rfl, rfl, h1, h2⟩ | ⟨i, rfl, rfl, h1, h2⟩
  · exact ⟨⟨by rw [hfs]; rfl, .inl rfl, up_one (by decide), by decide, by decide, fun p hp => by cases hp⟩, .inl ⟨rfl, h1, h2⟩⟩
  · refine ⟨⟨by rw [hfs]; rfl, .inl rfl, ⟨by simp, fun p hp => ?_⟩, by simp, by rw [used_one]; have := hsz i (by omega); simp only; omega, fun p hp => ?_⟩, .inr (.inl ⟨n, i, rfl, by omega, h1, h2⟩)⟩
    · simp at hp; rcases hp with rfl | rfl <;> (simp only; omega)
    · rw [List.mem_singleton] at hp; subst hp; exact ⟨i, by omega, rfl⟩
def rowAt (W : World) (p : Option Addr × Nat × Nat) (l : List Int) : Prop := p.2.1 = l.length ∧ Fr.HasRow .u8 W p.1 l.length l
theorem rowAt.keep {W W' : World} {p : Option Addr × Nat × Nat} {l : List Int} (h : rowAt W p l) (hb : Below W.heap.size W W') : rowAt W' p l := ⟨h.1, h.2.keep hb⟩
/-- What Load answers, in the law's words. -/
theorem found_load {W : World} {a : Option Addr} {R : Nat → Rw} {len n : Nat} {S : St} {Dr : List File} {M : List (Nat × List Int)} {lv nv : Int} {lb nb : Option Addr × Nat × Nat} (h : Rest6 R len n S Dr M) (hf : FoundR R len M lv lb nv nb) (rows : HasRows W a len R) (hup : S.down = false) (hsz : ∀ i, i < len → (recOf R i).length ≤ 262144) :
    ∃ mm l, loadS S = (mm, l, 0) ∧ ((mm = lv ∧ rowAt W lb l) ∨ (mm ≠ lv ∧ mm = nv ∧ rowAt W nb l)) := by
  have hUM : Up M := ⟨(List.pairwise_append.1 h.up.up).1, fun p hp => h.up.ok p (by simp [hp])⟩
  have hl := load_run h.fs h.dr hUM hup (fun p hp => by obtain ⟨i, hi, e⟩ := h.mem p hp; rw [e]; have := hsz i hi; omega)
  have row : ∀ i, i < len → rowAt W ((R i).a, (R i).len, (R i).cap) (recOf R i) := fun i hi => by
    have hok := rows.2.2 i hi
    have e : (recOf R i).length = (R i).len := rec_len hok
    refine ⟨e.symm, ?_⟩
    rw [e]; exact row_take hok.row (Nat.le_refl _)
  rcases hf with ⟨rfl, rfl, rfl⟩ | ⟨m, i, e, hi, rfl, rfl⟩ | ⟨m, i, e, hi, h1, rfl, rfl⟩
  · exact ⟨-1, [], hl, .inl ⟨rfl, rfl, row_zero _⟩⟩
  · rw [e] at hl
    exact ⟨_, _, hl, .inl ⟨rfl, row i hi⟩⟩
  · rw [e] at hl
    exact ⟨_, _, hl, .inr ⟨fun h => h1 h.symm, rfl, row i hi⟩⟩
theorem txt_z : strOfNums ([122].take 1) = (⟨#[122]⟩ : ByteArray) := by decide +kernel
theorem bytes_z : Bytes [122] := fun j hj => by
  match j, hj with
  | 0, _ => exact ⟨by decide, by decide⟩
/-- The last Save and what is found behind it. -/
theorem last_save {R : Nat → Rw} {len n : Nat} {S : St} {Dr : List File} {M : List (Nat × List Int)} (h : Rest6 R len n S Dr M) (hup : S.down = false) (ha : S.arm = 0) (hr : S.room = 2097152) : ∃ S', saveS ((n + 1 : Nat) : Int) [122] S = (0, S') ∧ loadS S' = (((n + 1 : Nat) : Int), [122], 0) ∧ BytesS S' ∧ namesL S' = [lettN 115 (n + 1)] := by
  obtain ⟨x, S', h1, h2, h3, h4⟩ := save_run h.fs h.dr h.up hup (by decide) (by rw [hr]; have := h.size; simp; omega) (by have := h.few; omega)
  have hx : x = 0 ∧ S'.down = false := by
    rcases h2.1 with h | h
    · exact h
    · exact absurd ha h.2.2
  obtain ⟨rfl, hd⟩ := hx
  have hn : n + 1 ≤ 999999999 := h.up.ok (n + 1, [122]) (by simp)
  have e2 : S'.fs = [] ++ sfs [(n + 1, [122])] := by rw [List.nil_append]; exact h3 rfl
  have hb : ∀ p ∈ [((n + 1 : Nat), ([122] : List Int))], Bytes p.2 := fun p hp => by
    rw [List.mem_singleton] at hp; rw [hp]; exact bytes_z
  exact ⟨S', h1, (load_run (Dr := []) (N := [(n + 1, [122])]) e2 (.inl rfl) (up_one hn) hd (fun p hp => by rw [List.mem_singleton] at hp; rw [hp]; simp)).trans (by simp), bytesS_run e2 (.inl rfl) hb, names_one (p := (n + 1, [122])) (h3 rfl) hd⟩
set_option maxRecDepth 100000 in
set_option maxHeartbeats 1600000 in
theorem loses6_walk (a : Option Addr) (len cap : Nat) (R : Nat → Rw) (a2 : Option Addr) (len2 cap2 : Nat) (zs : List Int) (cut keep : Int) (hcut : cut ≤ 9223372036854775807) (w : World) (ht : Tabs w) (rows : HasRows w a len R) (hby : ∀ j, j < len → Bytes (R j).zs) (hst : Fr.HasRow .i64 w a2 len2 zs) :
    Calls Tryd.prog 6 #[.agg #[.slice a len cap, .slice a2 len2 cap2, .int .i64 cut, .int .i64 keep]] w fun e w' => e = .returned (.bool true) ∧ Below w.heap.size w w' := by
  have hm := rows.1
  have hm2 := hst.2.1
  obtain ⟨w0, hw0⟩ : ∃ w0, w.alloc (.cells #[.slice a len cap, .slice a2 len2 cap2, .int .i64 cut, .int .i64 keep] 44) = w0 := ⟨_, rfl⟩
  have hb0 : Below w.heap.size w w0 := by rw [← hw0]; exact (Below.refl _ _).alloc (Nat.le_refl _) _
  obtain ⟨B, hB⟩ : ∃ B, w.heap.size = B := ⟨_, rfl⟩
  have bx0 : Bx6 w0 B a len cap a2 len2 cap2 cut keep := by
    rw [← hw0, ← hB]
    constructor <;> (rw [World.cell?_alloc_mark]; rfl)
  have B0 := Lib.hid hb0; have HT := Lib.hid (ht.keep hb0); have RS := Lib.hid (rows.keep hb0); have BY := Lib.hid hby; have BX0 := Lib.hid bx0; have HW0 := Lib.hid hw0
  have ST0 := Lib.hid (hst.keep hb0)
  have HB := Lib.hid hB; have HCUT := Lib.hid hcut
  clear ht rows hby hb0 bx0 hcut hst
  go_enter Tryd.func6, Tryd.ntmps6
  go_wp2_with fail
  clear hw0 hB
  refine (wakes6_any w0 HT.out).mono ?_
  rintro e w1 ⟨rfl, hb1⟩
  have B1 := Lib.hid (B0.out.trans (hb1.mono B0.out.size)); have HT1 := Lib.hid (HT.out.keep hb1)
  have RS1 := Lib.hid (RS.out.keep hb1); have BX1 := Lib.hid (BX0.out.keep hb1); have ST1 := Lib.hid (ST0.out.keep hb1)
  clear hb1
  obtain ⟨x0, x1, x2, x3⟩ := BX1.out
  go_wp2_with fail
  go_loopg [3, 23] len (fun m t i wr => ∃ (k tt : Nat), k + m = len ∧ i = .int .i64 (k : Int) ∧ t = .int .i64 (tt : Int) ∧ Hid (tt ≤ 262144) ∧ Hid (∀ i, i < k → (R i).len ≤ tt) ∧ w1 = wr)
  case atStart => exact ⟨0, 0, by omega, by first | rfl | go_num, by first | rfl | go_num, Lib.hid (Nat.zero_le _), Lib.hid fun i hi => absurd hi (Nat.not_lt_zero _), rfl⟩
  case round =>
    obtain ⟨k, tt, hk, rfl, rfl, htt, HLE, rfl⟩ := hrel
    by_cases hlt : k < len
    · obtain ⟨rb, off, rfl, hcell⟩ := RS1.out.2.1 (by omega)
      have ck := hcell k hlt
      have hrok := RS1.out.2.2 k hlt
      have hcap := hrok.cap; have hle := hrok.le
      obtain ⟨l, hl⟩ : ∃ l, (R k).len = l := ⟨_, rfl⟩
      obtain ⟨ra, hra⟩ : ∃ ra, (R k).a = ra := ⟨_, rfl⟩
      obtain ⟨rc, hrc⟩ : ∃ rc, (R k).cap = rc := ⟨_, rfl⟩
      rw [hra, hl, hrc] at ck
      rw [hl, hrc] at hle
      have i0 : (0 : Int) ≤ (k : Int) := Int.natCast_nonneg k
      have i1 : (k : Int) < (len : Int) := Int.ofNat_lt.2 hlt
      obtain ⟨e2, e3⟩ := l6_sum (Nat.le_trans hle (by rw [hrc] at hcap; exact hcap)) htt.out
      have HR1 : Hid (∀ i, i < k + 1 → (R i).len ≤ tt + l) := Lib.hid fun i hi => by
        rcases Nat.lt_succ_iff_lt_or_eq.1 hi with hi | rfl
        · exact Nat.le_trans (HLE.out i hi) (Nat.le_add_right _ _)
        · rw [hl]; exact Nat.le_add_left _ _
      obtain ⟨t2, ht2⟩ : ∃ t2, tt + l = t2 := ⟨_, rfl⟩
      rw [ht2] at e2 e3 HR1
      have FR := Lib.hid B1.out
      clear hcell hrok hcap hl hra hrc ht2 hle
      by_cases h1 : t2 > 262144
      · have c1 : (t2 : Int) > 262144 := Int.ofNat_lt.2 h1
        clear h1 HR1
        go_wp2
        go_ret
        exact ⟨rfl, FR.out⟩
      have c1 : ¬ (t2 : Int) > 262144 := fun h => h1 (Int.ofNat_lt.1 h)
      have HT2 : Hid (t2 ≤ 262144) := Lib.hid (Nat.not_lt.1 h1)
      clear h1
      go_wp2_with fail
      go_roundg (len - (k + 1))
      case measure => omega
      case rel => exact ⟨k + 1, t2, by omega, by first | rfl | go_num, by first | rfl | go_num, HT2, HR1, rfl⟩
    · obtain rfl : k = len := by omega
      have FR := Lib.hid B1.out
      clear hlt hk
      by_cases p1 : 256 < k
      · have c1 : (k : Int) > 256 := Int.ofNat_lt.2 p1
        clear p1
        go_wp2
        go_ret
        exact ⟨rfl, FR.out⟩
      have c1 : ¬ (k : Int) > 256 := fun h => p1 (Int.ofNat_lt.1 h)
      have HLEN : Hid (k ≤ 256) := Lib.hid (Nat.not_lt.1 p1)
      have HSZ : Hid (∀ i, i < k → (R i).len ≤ 262144) := Lib.hid fun i hi => Nat.le_trans (HLE.out i hi) htt.out
      have HSR : Hid (∀ i, i < k → (recOf R i).length ≤ 262144) := Lib.hid fun i hi => by
        have e : (recOf R i).length = (R i).len := rec_len (RS1.out.2.2 i hi)
        rw [e]; exact HSZ.out i hi
      clear p1 HLE htt
      go_wp2_with fail
      refine (ok_new w1 2097152).mono ?_
      rintro e w2 ⟨rfl, ok2⟩
      obtain ⟨d, hd⟩ : ∃ d, w1.heap.size + 1 = d := ⟨_, rfl⟩
      rw [hd] at ok2 ⊢
      have AR := Lib.hid (ok_arm ok2 cut keep HCUT.out)
      clear x0 x1 x2 x3
      obtain ⟨x0, x1, x2, x3⟩ := BX1.out.keep ok2.frame
      clear ok2 hd
      go_wp2_with fail
      refine AR.out.mono ?_
      rintro e w3 ⟨rfl, ok3⟩
      have J3 := Lib.hid ok3
      clear x0 x1 x2 x3
      obtain ⟨x0, x1, x2, x3⟩ := BX1.out.keep ok3.frame
      clear ok3 AR
      obtain ⟨len, hlen⟩ : ∃ len, k = len := ⟨_, rfl⟩
      subst hlen
      go_upto_block 2 with fail
      go_cut [7, 8, 9, 10, 11] (fun sn sl sb tn tb wr => ∃ (n0 : Nat) (lv : Int) (lb : Option Addr × Nat × Nat) (nv : Int) (nb : Option Addr × Nat × Nat) (S : St) (Dr : List File) (M : List (Nat × List Int)), sn = .int .i64 (n0 : Int) ∧ sl = .int .i64 lv ∧ sb = .slice lb.1 lb.2.1 lb.2.2 ∧ tn = .int .i64 nv ∧ tb = .slice nb.1 nb.2.1 nb.2.2 ∧ n0 ≤ 65536 ∧ Hid (Ok w1 wr d S) ∧ Hid (S.room = 2097152) ∧ Hid (Rest6 R k n0 S Dr M) ∧ Hid (FoundR R k M lv lb nv nb))
      case first =>
        go_wp2_with fail
        go_loopg [7, 8, 9, 10, 11, 48] k (fun m sn sl sb tn tb i wr => ∃ (j n0 : Nat) (lv : Int) (lb : Option Addr × Nat × Nat) (nv : Int) (nb : Option Addr × Nat × Nat) (N : List (Nat × List Int)) (S : St), j + m = k ∧ i = .int .i64 (j : Int) ∧ sn = .int .i64 (n0 : Int) ∧ sl = .int .i64 lv ∧ sb = .slice lb.1 lb.2.1 lb.2.2 ∧ tn = .int .i64 nv ∧ tb = .slice nb.1 nb.2.1 nb.2.2 ∧ n0 ≤ 256 * j ∧ Hid (LastR R j n0 N lv lb) ∧ Hid (Ok w1 wr d S) ∧ Hid (S.fs = sfs N ∧ S.down = false ∧ S.room = 2097152))
        case atStart => exact ⟨0, 0, -1, (none, 0, 0), -1, (none, 0, 0), [], _, by omega, by first | rfl | go_num, by first | rfl | go_num, by first | rfl | go_num, rfl, by first | rfl | go_num, rfl, Nat.le_refl _, Lib.hid (.inl ⟨rfl, rfl, rfl, rfl, rfl⟩), J3, Lib.hid ⟨rfl, rfl, rfl⟩⟩
        case round =>
          obtain ⟨j, n0, lv, lb, nv, nb, N, S, hj, rfl, rfl, rfl, rfl, rfl, rfl, hn0, HL, HOK, HS⟩ := hrel
          clear x0 x1 x2 x3
          by_cases hlt : j < k
          · obtain ⟨rb, off, rfl, hcell⟩ := (RS1.out.keep HOK.out.frame).2.1 (Nat.lt_of_le_of_lt (Nat.zero_le j) hlt)
            have ck := hcell j hlt
            obtain ⟨ra, hra⟩ : ∃ ra, (R j).a = ra := ⟨_, rfl⟩
            obtain ⟨rl, hrl⟩ : ∃ rl, (R j).len = rl := ⟨_, rfl⟩
            obtain ⟨rc, hrc⟩ : ∃ rc, (R j).cap = rc := ⟨_, rfl⟩
            rw [hra, hrl, hrc] at ck
            have i0 : (0 : Int) ≤ (j : Int) := Int.natCast_nonneg j
            have i1 : (j : Int) < (k : Int) := Int.ofNat_lt.2 hlt
            have hk256 := HLEN.out
            obtain ⟨x0, x1, x2, x3⟩ := BX1.out.keep HOK.out.frame
            have STr := ST1.out.keep HOK.out.frame
            clear hcell
            by_cases hj2 : j < len2
            · obtain ⟨sb, soff, rfl, hsc⟩ := STr.2.2 (Nat.lt_of_le_of_lt (Nat.zero_le j) hj2)
              have cs := hsc j hj2
              obtain ⟨z, hz⟩ : ∃ z, zs.getD j 0 = z := ⟨_, rfl⟩
              rw [hz] at cs
              have j1 : (j : Int) < (len2 : Int) := Int.ofNat_lt.2 hj2
              obtain ⟨s, hs1, hs2⟩ := and255 z
              obtain ⟨e1, e2, e3, e4⟩ := l6_step hn0 (Nat.le_trans (Nat.le_of_lt hlt) hk256) hs2
              obtain ⟨n1, hn1'⟩ : ∃ n1, n0 + (1 + s) = n1 := ⟨_, rfl⟩
              rw [hn1'] at e3 e4
              clear hsc hz STr hj2
              have hn1 : n0 < n1 ∧ n1 ≤ 256 * (j + 1) := l6_bound hn0 hn1' hs2
              have SV := Lib.hid (loss6_save HOK.out HT1.out RS1.out BY.out hlt HL.out hn1.1 (l6_top hn1.2 hlt hk256) HS.out.1 HS.out.2.1 HS.out.2.2 HSZ.out)
              rw [hra, hrl, hrc] at SV
              have HN1 := Lib.hid hn1.2
              clear hn1 hn1'
              go_wp2_with fail
              refine SV.out.mono ?_
              rintro e w5 (⟨rfl, S5, ok5, q1, q2, q3⟩ | ⟨rfl, S5, Dr, M, ok5, hd5, q3, rst, fnd⟩)
              · have K5 := Lib.hid ok5; have Q5 := Lib.hid (show S5.fs = sfs [(n1, recOf R j)] ∧ S5.down = false ∧ S5.room = 2097152 from ⟨q1, q2, q3⟩)
                have L5 : Hid (LastR R (j + 1) n1 [(n1, recOf R j)] (n1 : Int) (ra, rl, rc)) := Lib.hid (.inr ⟨j, rfl, rfl, rfl, by rw [hra, hrl, hrc]⟩)
                clear ok5 q1 q2 q3 SV ck x0 x1 x2 x3
                go_wp2_with fail
                go_roundg (k - (j + 1))
                case measure => omega
                case rel => exact ⟨j + 1, n1, (n1 : Int), (ra, rl, rc), (n1 : Int), (ra, rl, rc), _, S5, by omega, by first | rfl | go_num, by first | rfl | go_num, by first | rfl | go_num, rfl, by first | rfl | go_num, rfl, HN1.out, L5, K5, Q5⟩
              · have DN := Lib.hid (ok_down ok5)
                rw [hd5] at DN
                have K5 := Lib.hid ok5; have Q5 := Lib.hid q3; have F5 : Hid (FoundR R k M lv lb (n1 : Int) (ra, rl, rc)) := Lib.hid (by rw [← hra, ← hrl, ← hrc]; exact fnd); have R5 := Lib.hid rst
                clear ok5 hd5 q3 rst fnd SV ck x0 x1 x2 x3
                go_wp2_with (go_at_call 14; (with_reducible refine DN.out.mono ?_); rintro e w6 ⟨rfl, rfl⟩)
                go_meet
                case rel => exact ⟨n1, lv, lb, (n1 : Int), (ra, rl, rc), S5, Dr, M, by first | rfl | go_num, by first | rfl | go_num, rfl, by first | rfl | go_num, rfl, l6_top HN1.out hlt HLEN.out, K5, Q5, R5, F5⟩
            · have j1 : ¬ (j : Int) < (len2 : Int) := fun h => hj2 (Int.ofNat_lt.1 h)
              obtain ⟨e3, e4⟩ := l6_one (n := n0) (l6_low hn0 hlt hk256)
              obtain ⟨n1, hn1'⟩ : ∃ n1, n0 + 1 = n1 := ⟨_, rfl⟩
              rw [hn1'] at e3 e4
              clear STr hj2
              have hn1 : n0 < n1 ∧ n1 ≤ 256 * (j + 1) := l6_bound1 hn0 hn1'
              have SV := Lib.hid (loss6_save HOK.out HT1.out RS1.out BY.out hlt HL.out hn1.1 (l6_top hn1.2 hlt hk256) HS.out.1 HS.out.2.1 HS.out.2.2 HSZ.out)
              rw [hra, hrl, hrc] at SV
              have HN1 := Lib.hid hn1.2
              clear hn1 hn1'
              go_wp2_with fail
              refine SV.out.mono ?_
              rintro e w5 (⟨rfl, S5, ok5, q1, q2, q3⟩ | ⟨rfl, S5, Dr, M, ok5, hd5, q3, rst, fnd⟩)
              · have K5 := Lib.hid ok5; have Q5 := Lib.hid (show S5.fs = sfs [(n1, recOf R j)] ∧ S5.down = false ∧ S5.room = 2097152 from ⟨q1, q2, q3⟩)
                have L5 : Hid (LastR R (j + 1) n1 [(n1, recOf R j)] (n1 : Int) (ra, rl, rc)) := Lib.hid (.inr ⟨j, rfl, rfl, rfl, by rw [hra, hrl, hrc]⟩)
                clear ok5 q1 q2 q3 SV ck x0 x1 x2 x3
                go_wp2_with fail
                go_roundg (k - (j + 1))
                case measure => omega
                case rel => exact ⟨j + 1, n1, (n1 : Int), (ra, rl, rc), (n1 : Int), (ra, rl, rc), _, S5, by omega, by first | rfl | go_num, by first | rfl | go_num, by first | rfl | go_num, rfl, by first | rfl | go_num, rfl, HN1.out, L5, K5, Q5⟩
              · have DN := Lib.hid (ok_down ok5)
                rw [hd5] at DN
                have K5 := Lib.hid ok5; have Q5 := Lib.hid q3; have F5 : Hid (FoundR R k M lv lb (n1 : Int) (ra, rl, rc)) := Lib.hid (by rw [← hra, ← hrl, ← hrc]; exact fnd); have R5 := Lib.hid rst
                clear ok5 hd5 q3 rst fnd SV ck x0 x1 x2 x3
                go_wp2_with (go_at_call 14; (with_reducible refine DN.out.mono ?_); rintro e w6 ⟨rfl, rfl⟩)
                go_meet
                case rel => exact ⟨n1, lv, lb, (n1 : Int), (ra, rl, rc), S5, Dr, M, by first | rfl | go_num, by first | rfl | go_num, rfl, by first | rfl | go_num, rfl, l6_top HN1.out hlt HLEN.out, K5, Q5, R5, F5⟩
          · obtain rfl : j = k := by omega
            obtain ⟨r1, r2⟩ := rest_last (nv := nv) (nb := nb) HL.out HS.out.1 (by have := HLEN.out; omega) HSR.out
            have R1 := Lib.hid r1; have R2 := Lib.hid r2; have RM := Lib.hid HS.out.2.2
            clear r1 r2
            have i1 : ¬ ((j : Int) < (j : Int)) := Int.lt_irrefl _
            go_wp2_with fail
            go_meet
            case rel => exact ⟨n0, lv, lb, nv, nb, S, [], N, by first | rfl | go_num, by first | rfl | go_num, rfl, by first | rfl | go_num, rfl, (by have := HLEN.out; omega), HOK, RM, R1, R2⟩
      obtain ⟨n0, lv, ⟨la, ll, lc⟩, nv, ⟨na, nl, nc⟩, S, Dr, M, rfl, rfl, rfl, rfl, rfl, hn0, HOK, HRM, HRE, HFO⟩ := hcut
      dsimp only
      clear x0 x1 x2 x3
      obtain ⟨x0, x1, x2, x3⟩ := BX1.out.keep HOK.out.frame
      have DN := Lib.hid (ok_down HOK.out)
      have HN0 := Lib.hid hn0
      cases hdn : S.down with
      | true =>
        rw [hdn] at DN
        obtain ⟨S5, hS5⟩ : ∃ S5, S = S5 := ⟨_, rfl⟩
        have fs5 : S5.fs = Dr ++ sfs M := by rw [← hS5]; exact HRE.out.fs
        have rm5 : S5.room = 2097152 := by rw [← hS5]; exact HRM.out
        have OK5 : Hid (Ok w1 wc d S5) := Lib.hid (by rw [← hS5]; exact HOK.out)
        clear hdn hn0
        go_wp2_with (go_at_call 14; (with_reducible refine DN.out.mono ?_); rintro e w5 ⟨rfl, rfl⟩)
        have ok5 := OK5.out
        clear x0 x1 x2 x3 OK5 hS5
        have ON := Lib.hid (ok_on ok5 rfl)
        clear ok5
        refine ON.out.mono ?_
        rintro e w6 ⟨rfl, ok6⟩
        have AR6 := Lib.hid (ok_arm ok6 0 0 (by decide))
        clear ok6 ON
        go_wp2_with fail
        refine AR6.out.mono ?_
        rintro e w7 ⟨rfl, ok7⟩
        obtain ⟨S7, hS7⟩ : ∃ S7, armS 0 0 { S5 with down := false } = S7 := ⟨_, rfl⟩
        rw [hS7] at ok7
        have f7 : S7.fs = Dr ++ sfs M ∧ S7.down = false ∧ S7.arm = 0 ∧ S7.room = 2097152 := by rw [← hS7]; exact ⟨fs5, rfl, rfl, rm5⟩
        have re7 : Rest6 R k n0 S7 Dr M := ⟨f7.1, HRE.out.dr, HRE.out.up, HRE.out.few, HRE.out.size, HRE.out.mem⟩
        obtain ⟨mm, l, hload, hcase⟩ := found_load (W := w1) re7 HFO.out RS1.out f7.2.1 HSR.out
        obtain ⟨S9, s1, s2, s3, s4⟩ := last_save re7 f7.2.1 f7.2.2.1 f7.2.2.2
        have hbM : ∀ p ∈ M, Bytes p.2 := fun p hp => by
          obtain ⟨i, hi, e⟩ := HRE.out.mem p hp
          rw [e]; exact bytes_take (BY.out i hi) _
        have LD := Lib.hid (ok_load ok7 HT1.out (bytesS_run f7.1 HRE.out.dr hbM) hload)
        have SS1 := Lib.hid s1; have SS2 := Lib.hid s2; have SS3 := Lib.hid s3; have SS4 := Lib.hid s4
        have OK7 := Lib.hid ok7
        have HC := Lib.hid hcase
        clear ok7 hS7 f7 re7 hload s1 s2 s3 s4 hbM hcase AR6 fs5 rm5
        go_wp2_with fail
        refine LD.out.mono ?_
        rintro e w8 ⟨x8, rfl, ho8, hb8⟩
        obtain ⟨a8, c8, rfl, hr8, _, _, _⟩ := Ob.own_row ho8
        have OK8 := Lib.hid (OK7.out.below hb8)
        have HR8 := Lib.hid hr8
        clear ho8 hb8 hr8 LD OK7
        go_upto_region 38 with fail
        go_cut [135] (fun s wx => s = .bool false ∧ Hid (Below w8.heap.size w8 wx))
        case first =>
          rcases HC.out with ⟨rfl, hrow⟩ | ⟨hne, rfl, hrow⟩
          · have hrk := hrow.keep OK8.out.frame
            obtain ⟨hh, hrk⟩ := hrk
            have hh : ll = l.length := hh
            subst hh
            have SM := Lib.hid (ssame_self (c := c8) (c' := lc) HR8.out hrk)
            have t1 : (mm != mm) = false := by simp
            have t2 : (mm == mm) = true := by simp
            clear hrow hrk HC
            go_wp2_with (go_at_call 23; (with_reducible refine SM.out.mono ?_); rintro e w9 ⟨rfl, hb9⟩; have HB9 := Lib.hid hb9; clear hb9)
            go_meet
            case rel => exact ⟨rfl, HB9⟩
          · have hrk := hrow.keep OK8.out.frame
            obtain ⟨hh, hrk⟩ := hrk
            have hh : nl = l.length := hh
            subst hh
            have SM := Lib.hid (ssame_self (c := c8) (c' := nc) HR8.out hrk)
            have t1 : (mm != lv) = true := by simpa using hne
            have t2 : (mm == lv) = false := by simpa using hne
            have t3 : (mm != mm) = false := by simp
            have t4 : (mm == mm) = true := by simp
            clear hrow hrk HC hne
            go_wp2_with (go_at_call 23; (with_reducible refine SM.out.mono ?_); rintro e w9 ⟨rfl, hb9⟩; have HB9 := Lib.hid hb9; clear hb9)
            go_meet
            case rel => exact ⟨rfl, HB9⟩
        obtain ⟨rfl, HB9⟩ := hcut
        have OK9 := Lib.hid (OK8.out.below HB9.out)
        obtain ⟨w9, hw9⟩ : ∃ w9, wc = w9 := ⟨_, rfl⟩
        rw [hw9] at OK9 ⊢
        have kc1 := Joins.run_convert_bytes_const_at (P := Tryd.prog) w9 26 5 #[.int .u8 122] 1 1 w9.heap.size rfl Tryd.underlying26 Tryd.underlying5
        have hal : Below w9.heap.size w9 (w9.alloc (.cells #[.int .u8 122] 5 (1, 2))) := (Below.refl _ _).alloc (Nat.le_refl _) _
        have SV := Lib.hid (ok_save (OK9.out.below hal) HT1.out ((n0 + 1 : Nat) : Int) (some ⟨w9.heap.size, 0, none⟩) 1 1 [122] bytes_z (const_row w9 [122] (1, 2) (by decide)) (fun h => by cases h) (by decide) rfl SS1.out)
        obtain ⟨e3, e4⟩ := l6_one HN0.out
        obtain ⟨n1, hn1⟩ : ∃ n1, n0 + 1 = n1 := ⟨_, rfl⟩
        rw [hn1] at SV e3 e4 SS2 SS4
        have E3 := Lib.hid e3; have E4 := Lib.hid e4
        clear hal hn1 hw9 HC SS1
        go_wp2_with fail
        refine SV.out.mono ?_
        rintro e w10 ⟨rfl, ok10⟩
        have LD2 := Lib.hid (ok_load ok10 HT1.out SS3.out SS2.out)
        have OK10 := Lib.hid ok10
        clear ok10 kc1 SV
        go_wp2_with fail
        refine LD2.out.mono ?_
        rintro e w11 ⟨x11, rfl, ho11, hb11⟩
        obtain ⟨a11, c11, rfl, hr11, _, _, _⟩ := Ob.own_row ho11
        have OK11 := Lib.hid (OK10.out.below hb11)
        have NA := Lib.hid (ok_names OK11.out SS4.out)
        have kc3 := conv_at (cap := c11) hr11
        rw [show ([122] : List Int).length = 1 from rfl, txt_z] at kc3
        have t5 : ((n1 : Int) == (n1 : Int)) = true := by simp
        clear ho11 hb11 hr11 LD2
        go_wp2_with (go_at_call 24; (with_reducible refine NA.out.mono ?_); rintro e w12 ⟨a12, c12, rfl, _, hb12⟩; have OK12 := Lib.hid (OK11.out.below hb12); clear hb12)
        go_ret
        exact ⟨rfl, B1.out.trans (OK12.out.frame.mono B1.out.size)⟩
      | false =>
        rw [hdn] at DN
        have OFF := Lib.hid (ok_off HOK.out keep rfl)
        obtain ⟨S5, hS5⟩ : ∃ S5, off keep S = S5 := ⟨_, rfl⟩
        have fs5 : S5.fs = Dr ++ sfs M := by
          rw [← hS5, off_fs keep (by rw [HRE.out.fs]; exact dr_safe HRE.out.dr M)]; exact HRE.out.fs
        have rm5 : S5.room = 2097152 := by rw [← hS5, off_room]; exact HRM.out
        rw [hS5] at OFF
        clear hdn hn0
        go_wp2_with (go_at_call 14; (with_reducible refine DN.out.mono ?_); rintro e w4 ⟨rfl, rfl⟩)
        refine OFF.out.mono ?_
        rintro e w5 ⟨rfl, ok5⟩
        clear x0 x1 x2 x3 OFF hS5
        go_wp2_with fail
        have ON := Lib.hid (ok_on ok5 rfl)
        clear ok5
        refine ON.out.mono ?_
        rintro e w6 ⟨rfl, ok6⟩
        have AR6 := Lib.hid (ok_arm ok6 0 0 (by decide))
        clear ok6 ON
        go_wp2_with fail
        refine AR6.out.mono ?_
        rintro e w7 ⟨rfl, ok7⟩
        obtain ⟨S7, hS7⟩ : ∃ S7, armS 0 0 { S5 with down := false } = S7 := ⟨_, rfl⟩
        rw [hS7] at ok7
        have f7 : S7.fs = Dr ++ sfs M ∧ S7.down = false ∧ S7.arm = 0 ∧ S7.room = 2097152 := by rw [← hS7]; exact ⟨fs5, rfl, rfl, rm5⟩
        have re7 : Rest6 R k n0 S7 Dr M := ⟨f7.1, HRE.out.dr, HRE.out.up, HRE.out.few, HRE.out.size, HRE.out.mem⟩
        obtain ⟨mm, l, hload, hcase⟩ := found_load (W := w1) re7 HFO.out RS1.out f7.2.1 HSR.out
        obtain ⟨S9, s1, s2, s3, s4⟩ := last_save re7 f7.2.1 f7.2.2.1 f7.2.2.2
        have hbM : ∀ p ∈ M, Bytes p.2 := fun p hp => by
          obtain ⟨i, hi, e⟩ := HRE.out.mem p hp
          rw [e]; exact bytes_take (BY.out i hi) _
        have LD := Lib.hid (ok_load ok7 HT1.out (bytesS_run f7.1 HRE.out.dr hbM) hload)
        have SS1 := Lib.hid s1; have SS2 := Lib.hid s2; have SS3 := Lib.hid s3; have SS4 := Lib.hid s4
        have OK7 := Lib.hid ok7
        have HC := Lib.hid hcase
        clear ok7 hS7 f7 re7 hload s1 s2 s3 s4 hbM hcase AR6 fs5 rm5
        go_wp2_with fail
        refine LD.out.mono ?_
        rintro e w8 ⟨x8, rfl, ho8, hb8⟩
        obtain ⟨a8, c8, rfl, hr8, _, _, _⟩ := Ob.own_row ho8
        have OK8 := Lib.hid (OK7.out.below hb8)
        have HR8 := Lib.hid hr8
        clear ho8 hb8 hr8 LD OK7
        go_upto_region 38 with fail
        go_cut [135] (fun s wx => s = .bool false ∧ Hid (Below w8.heap.size w8 wx))
        case first =>
          rcases HC.out with ⟨rfl, hrow⟩ | ⟨hne, rfl, hrow⟩
          · have hrk := hrow.keep OK8.out.frame
            obtain ⟨hh, hrk⟩ := hrk
            have hh : ll = l.length := hh
            subst hh
            have SM := Lib.hid (ssame_self (c := c8) (c' := lc) HR8.out hrk)
            have t1 : (mm != mm) = false := by simp
            have t2 : (mm == mm) = true := by simp
            clear hrow hrk HC
            go_wp2_with (go_at_call 23; (with_reducible refine SM.out.mono ?_); rintro e w9 ⟨rfl, hb9⟩; have HB9 := Lib.hid hb9; clear hb9)
            go_meet
            case rel => exact ⟨rfl, HB9⟩
          · have hrk := hrow.keep OK8.out.frame
            obtain ⟨hh, hrk⟩ := hrk
            have hh : nl = l.length := hh
            subst hh
            have SM := Lib.hid (ssame_self (c := c8) (c' := nc) HR8.out hrk)
            have t1 : (mm != lv) = true := by simpa using hne
            have t2 : (mm == lv) = false := by simpa using hne
            have t3 : (mm != mm) = false := by simp
            have t4 : (mm == mm) = true := by simp
            clear hrow hrk HC hne
            go_wp2_with (go_at_call 23; (with_reducible refine SM.out.mono ?_); rintro e w9 ⟨rfl, hb9⟩; have HB9 := Lib.hid hb9; clear hb9)
            go_meet
            case rel => exact ⟨rfl, HB9⟩
        obtain ⟨rfl, HB9⟩ := hcut
        have OK9 := Lib.hid (OK8.out.below HB9.out)
        obtain ⟨w9, hw9⟩ : ∃ w9, wc = w9 := ⟨_, rfl⟩
        rw [hw9] at OK9 ⊢
        have kc1 := Joins.run_convert_bytes_const_at (P := Tryd.prog) w9 26 5 #[.int .u8 122] 1 1 w9.heap.size rfl Tryd.underlying26 Tryd.underlying5
        have hal : Below w9.heap.size w9 (w9.alloc (.cells #[.int .u8 122] 5 (1, 2))) := (Below.refl _ _).alloc (Nat.le_refl _) _
        have SV := Lib.hid (ok_save (OK9.out.below hal) HT1.out ((n0 + 1 : Nat) : Int) (some ⟨w9.heap.size, 0, none⟩) 1 1 [122] bytes_z (const_row w9 [122] (1, 2) (by decide)) (fun h => by cases h) (by decide) rfl SS1.out)
        obtain ⟨e3, e4⟩ := l6_one HN0.out
        obtain ⟨n1, hn1⟩ : ∃ n1, n0 + 1 = n1 := ⟨_, rfl⟩
        rw [hn1] at SV e3 e4 SS2 SS4
        have E3 := Lib.hid e3; have E4 := Lib.hid e4
        clear hal hn1 hw9 HC SS1
        go_wp2_with fail
        refine SV.out.mono ?_
        rintro e w10 ⟨rfl, ok10⟩
        have LD2 := Lib.hid (ok_load ok10 HT1.out SS3.out SS2.out)
        have OK10 := Lib.hid ok10
        clear ok10 kc1 SV
        go_wp2_with fail
        refine LD2.out.mono ?_
        rintro e w11 ⟨x11, rfl, ho11, hb11⟩
        obtain ⟨a11, c11, rfl, hr11, _, _, _⟩ := Ob.own_row ho11
        have OK11 := Lib.hid (OK10.out.below hb11)
        have NA := Lib.hid (ok_names OK11.out SS4.out)
        have kc3 := conv_at (cap := c11) hr11
        rw [show ([122] : List Int).length = 1 from rfl, txt_z] at kc3
        have t5 : ((n1 : Int) == (n1 : Int)) = true := by simp
        clear ho11 hb11 hr11 LD2
        go_wp2_with (go_at_call 24; (with_reducible refine NA.out.mono ?_); rintro e w12 ⟨a12, c12, rfl, _, hb12⟩; have OK12 := Lib.hid (OK11.out.below hb12); clear hb12)
        go_ret
        exact ⟨rfl, B1.out.trans (OK12.out.frame.mono B1.out.size)⟩
end Go.Proofs.YtdonkmkjblofpaaDoor.Sn

/-
  Layer 6: the program's functions. (Packed by gen_np.py out of Na, Nb, Nc, Nd, Ne, Nf, Ng, Nh.)
-/
import Derived.Test.YtdonkmkjblofpaaGreatDoorWr
import Derived.Lib.AppendZeros
import Derived.Deep.RegionHeld3
import Derived.Test.YtdonkmkjblofpaaGreatDoorWi
import Derived.RangeFuncNested
import Derived.RangeFuncBound
import Derived.RangeFuncCalls
import Derived.RangeFuncLeaves
import Derived.Shelf.Abstract
import Derived.Shelf.RegionOpen
import Derived.WalkKit
import Derived.OwnWalkIn
import Derived.TacticsInMore
import Derived.LoopNIn
import Derived.LoopIn
/-! ## Na -/
namespace Go.Proofs.YtdonkmkjblofpaaGreatDoor.Sn
open Go.RowKit Go.Sort Dx Sx Dk Wl
set_option linter.unusedVariables false
set_option linter.unusedSimpArgs false
/-- The name of snapshot v; none: no bytes. -/
def snm (v : Int) : List UInt8 := nameL 115 0 v
theorem snm_nat {n : Nat} (h : n ≤ 999999999) : snm (n : Int) = lettN 115 n := by
  unfold snm nameL
  rw [if_pos ⟨by omega, by omega, by omega⟩]; simp
theorem snm_none {v : Int} (h : v < 0 ∨ 999999999 < v) : snm v = [] := by
  unfold snm nameL
  rw [if_neg (by omega)]
theorem name_any (v : Int) (w : World) (ht : Tabs w) : Calls Tryz.prog 18 #[.int .i64 v] w fun e w' => e = .returned (.string (bs (snm v))) ∧ Below w.heap.size w w' := by
  have SN : Hid (Calls Tryz.prog 49 #[.string ⟨#[115]⟩, .int .i64 v] w fun e w' => e = .returned (.string (bs (snm v))) ∧ Below w.heap.size w w') := Lib.hid (by
    by_cases h : 0 ≤ v ∧ v ≤ 999999999
    · obtain ⟨n, rfl⟩ := Int.eq_ofNat_of_zero_le h.1
      rw [snm_nat (by omega)]
      exact sname_any 115 n (by omega) w ht
    · rw [snm_none (by omega)]
      exact (sname_no ⟨#[115]⟩ v w (by omega)).mono fun e w' ⟨h1, h2⟩ => ⟨h1, h2 ▸ Below.refl _ _⟩)
  obtain ⟨R, hR⟩ : ∃ R, bs (snm v) = R := ⟨_, rfl⟩
  rw [hR] at SN ⊢
  clear hR ht
  go_enter Tryz.func18, Tryz.ntmps18
  go_wp2_with (go_at_call 49; (with_reducible refine SN.out.mono ?_); rintro e w' ⟨rfl, hb⟩; have HB := Lib.hid hb; clear hb)
  go_ret
  exact ⟨rfl, HB.out⟩

/-! ### slices.Grow of nothing -/
def GrowIt (w : World) (e : Ending) (w' : World) : Prop := ∃ v, e = .returned v ∧ Ob.OwnB w' w.heap.size v [] ∧ Below w.heap.size w w'
set_option maxRecDepth 100000 in
theorem grow_nil (n : Nat) (w : World) (h : n ≤ 140737488355328) : Calls Tryz.prog 99 #[.slice none 0 0, .int .i64 (n : Int)] w (GrowIt w) := by
  have t1 : ¬ ((n : Int) < 0) := by omega
  have w1 : IntKind.i64.wrap ((n : Int) - 0) = (n : Int) := by rw [IntWalk.i64_in _ (by omega)]; omega
  have w2 : RowKit.wrap64 ((n : Int) - 0) = (n : Int) := by rw [IntWalk.wrap64_in _ (by omega)]; omega
  rcases Nat.eq_zero_or_pos n with h0 | h0
  · subst h0
    go_enter Tryz.func99, Tryz.ntmps99
    go_wp2
    go_ret
    exact ⟨_, rfl, ⟨rfl, .inl ⟨rfl, rfl⟩⟩, Below.refl _ _⟩
  · obtain ⟨i0, hi, hz0, hz1, hz2⟩ := info_parts Ob.info_u8
    have hrun := fun ty => Go.Lib.run_append_nil_zeros (P := Tryz.prog) w 22 3 ty 5 i0 (.int .u8 0) .i64 .i64 Tryz.underlying22 Tryz.underlying3 hi hz0 n h0 (by rw [hz1]; decide) (by omega) (by rw [hz2]; omega)
    obtain ⟨c, hc⟩ : ∃ c, grownCap w n 0 5 = c := ⟨_, rfl⟩
    have hc1 : n ≤ c := hc ▸ grownCap_ge w n 0 5
    have hc2 : c ≤ maxLen := hc ▸ grownCap_le_maxLen w n 0 5 (by unfold maxLen; omega)
    rw [hc] at hrun
    obtain ⟨Z, hZ⟩ : ∃ Z, Builtin.zeroCells (Value.int IntKind.u8 0).cells n ++ Builtin.zeroCells (Value.int IntKind.u8 0).cells (c - n) = Z := ⟨_, rfl⟩
    have hZs : Z.size = c := by rw [← hZ, Array.size_append, size_zeroCells, size_zeroCells]; simp [Value.cells]; omega
    rw [hZ] at hrun
    have t2 : (n : Int) > 0 := by omega
    have HR := Lib.hid hrun; have HZ := Lib.hid hZs; have HM := Lib.hid hc2
    have c63 : c ≤ 9223372036854775807 := by unfold maxLen at hc2; exact hc2
    clear hrun hZ hc hZs hi hz0 hz1 hz2 hc2
    go_enter Tryz.func99, Tryz.ntmps99
    go_wp2_with (at_builtin; refine Go.Lib.wpList_append_run _ rfl (.tmp 20) (.tmp 21) 22 3 rfl _ _ rfl rfl _ _ (HR.out _) ?_)
    go_ret
    refine ⟨_, rfl, ⟨rfl, .inr ⟨w.heap.size, c, Z, rfl, Nat.le_refl _, ?_, Nat.zero_le _, HM.out, by rw [HZ.out]; simp, by simp⟩⟩, ((Below.refl _ _).drew).alloc (by simp) _⟩
    exact (MapKept.heap_alloc w.drew _).1

/-! ### two lists, one behind the other -/
def CatIt (w : World) (l : List Int) (e : Ending) (w' : World) : Prop := ∃ v, e = .returned v ∧ Ob.OwnB w' w.heap.size v l ∧ Below w.heap.size w w'
set_option maxRecDepth 100000 in
set_option maxHeartbeats 800000 in
theorem concat_two (w : World) (g : Nat) (a b : Option Addr) (la lb ca cb : Nat) (za zb : List Int) (c0 : w.cell? ⟨g, 0, none⟩ = some (.slice a la ca)) (c1 : w.cell? ⟨g, 1, none⟩ = some (.slice b lb cb)) (ra : Fr.HasRow .u8 w a la za) (rb : Fr.HasRow .u8 w b lb zb) (na : a = none → ca = 0) (nb : b = none → cb = 0) (h : la + lb ≤ 140737488355328) :
    Calls Tryz.prog 84 #[.slice (some ⟨g, 0, none⟩) 2 2] w (CatIt w (za.take la ++ zb.take lb)) := by
  have hg := Fr.lt_of_cell c0
  have GR := Lib.hid (grow_nil (la + lb) w h)
  have RA := Lib.hid ra; have RB := Lib.hid rb; have NA := Lib.hid na; have NB := Lib.hid nb; have H := Lib.hid h
  have C0 : Hid (∀ wx, Below w.heap.size w wx → wx.cell? ⟨g, 0, none⟩ = some (.slice a la ca)) := Lib.hid fun wx hb => (hb.cell hg).trans c0
  have C1 : Hid (∀ wx, Below w.heap.size w wx → wx.cell? ⟨g, 1, none⟩ = some (.slice b lb cb)) := Lib.hid fun wx hb => (hb.cell (Fr.lt_of_cell c1)).trans c1
  have w1 : IntKind.i64.wrap (0 + (la : Int)) = (la : Int) := by rw [IntWalk.i64_in _ (by omega)]; omega
  have w2 : IntKind.i64.wrap ((la : Int) + (lb : Int)) = ((la + lb : Nat) : Int) := by rw [IntWalk.i64_in _ (by omega)]; omega
  have w3 : RowKit.wrap64 ((la : Int) + (lb : Int)) = ((la + lb : Nat) : Int) := by rw [IntWalk.wrap64_in _ (by omega)]; omega
  have w5 : RowKit.wrap64 (la : Int) = (la : Int) := IntWalk.wrap64_in _ (by omega)
  have w6 : IntKind.i64.wrap (la : Int) = (la : Int) := IntWalk.i64_in _ (by omega)
  have w4 : RowKit.wrap64 (0 + (la : Int)) = (la : Int) := by rw [IntWalk.wrap64_in _ (by omega)]; omega
  obtain ⟨T, hT⟩ : ∃ T, la + lb = T := ⟨_, rfl⟩
  rw [hT] at w2 w3 GR H
  have HT := Lib.hid hT
  have t0 : ¬ ((la : Int) < 0) := by omega
  have t1 : ¬ ((T : Int) < 0) := by omega
  clear ra rb na nb h c0 c1 hg hT
  have c0 := C0.out w (Below.refl _ _); have c1 := C1.out w (Below.refl _ _)
  go_enter Tryz.func84, Tryz.ntmps84
  go_wp2_with fail
  go_loopg [3, 11] 2 (fun m s i wr => ((m = 2 ∧ i = .int .i64 0 ∧ s = .int .i64 0) ∨ (m = 1 ∧ i = .int .i64 1 ∧ s = .int .i64 (la : Int)) ∨ (m = 0 ∧ i = .int .i64 2 ∧ s = .int .i64 (T : Int))) ∧ w = wr)
  case atStart => exact ⟨.inl ⟨rfl, rfl, rfl⟩, rfl⟩
  case round =>
    obtain ⟨⟨rfl, rfl, rfl⟩ | ⟨rfl, rfl, rfl⟩ | ⟨rfl, rfl, rfl⟩, rfl⟩ := hrel
    · go_wp2_with fail
      go_roundg 1
      case measure => omega
      case rel => exact ⟨.inr (.inl ⟨rfl, by first | rfl | go_num, by first | rfl | go_num⟩), rfl⟩
    · go_wp2_with fail
      go_roundg 0
      case measure => omega
      case rel => exact ⟨.inr (.inr ⟨rfl, by first | rfl | go_num, by first | rfl | go_num⟩), rfl⟩
    · go_wp2_with fail
      refine GR.out.mono ?_
      rintro e w2 ⟨v2, rfl, ho2, hb2⟩
      have HO2 := Lib.hid ho2; have HB2 := Lib.hid hb2
      clear ho2 hb2 c0 c1 GR
      go_wp2_with fail
      go_loopg [6, 27] 2 (fun m v i wr => ((m = 2 ∧ i = .int .i64 0 ∧ Hid (Ob.OwnB wr w.heap.size v [])) ∨ (m = 1 ∧ i = .int .i64 1 ∧ Hid (Ob.OwnB wr w.heap.size v (za.take la))) ∨ (m = 0 ∧ i = .int .i64 2 ∧ Hid (Ob.OwnB wr w.heap.size v (za.take la ++ zb.take lb)))) ∧ Hid (Below w.heap.size w wr))
      case atStart => exact ⟨.inl ⟨rfl, rfl, HO2⟩, HB2⟩
      case round =>
        obtain ⟨⟨rfl, rfl, HO⟩ | ⟨rfl, rfl, HO⟩ | ⟨rfl, rfl, HO⟩, HB⟩ := hrel
        · have d0 := C0.out _ HB.out
          have HLA : Hid (([] : List Int).length + la ≤ 140737488355328) := Lib.hid (by have := H.out; have := HT.out; simp; omega)
          go_wp2_with (at_builtin; go_loud (refine Ob.wp_apd rfl (.tmp 31) (.tmp 32) rfl w.heap.size _ [] rfl HO.out a la ca za rfl (RA.out.keep HB.out) NA.out HLA.out HB.out.size ?_); intro v' w' ho hb; rw [List.nil_append] at ho; have HO5 := Lib.hid ho; have HB5 := Lib.hid (HB.out.trans hb); clear ho hb)
          go_roundg 1
          case measure => omega
          case rel => exact ⟨.inr (.inl ⟨rfl, by first | rfl | go_num, HO5⟩), HB5⟩
        · have d1 := C1.out _ HB.out
          have HLA : Hid ((za.take la).length + lb ≤ 140737488355328) := Lib.hid (by have := H.out; have := HT.out; rw [List.length_take]; omega)
          go_wp2_with (at_builtin; go_loud (refine Ob.wp_apd rfl (.tmp 31) (.tmp 32) rfl w.heap.size _ _ rfl HO.out b lb cb zb rfl (RB.out.keep HB.out) NB.out HLA.out HB.out.size ?_); intro v' w' ho hb; have HO5 := Lib.hid ho; have HB5 := Lib.hid (HB.out.trans hb); clear ho hb)
          go_roundg 0
          case measure => omega
          case rel => exact ⟨.inr (.inr ⟨rfl, by first | rfl | go_num, HO5⟩), HB5⟩
        · go_wp2_with fail
          go_ret
          exact ⟨_, rfl, HO.out, HB.out⟩
/-! ### the CRC of an encoding -/
set_option maxRecDepth 100000 in
theorem crc_two (a b : Option Addr) (la lb ca cb : Nat) (za zb : List Int) (w : World) (ht : Sx.Tab w) (ba : Bytes za) (bb : Bytes zb) (ra : Fr.HasRow .u8 w a la za) (rb : Fr.HasRow .u8 w b lb zb) (na : a = none → ca = 0) (nb : b = none → cb = 0) (h : la + lb ≤ 140737488355328) :
    Calls Tryz.prog 52 #[.slice a la ca, .slice b lb cb] w fun e w' => e = .returned (.int .u32 (crcN (za.take la ++ zb.take lb) : Int)) ∧ Below w.heap.size w w' := by
  have hal : Below w.heap.size w (w.alloc (.cells #[.slice a la ca, .slice b lb cb] 22)) := (Below.refl _ _).alloc (Nat.le_refl _) _
  have CC := Lib.hid (concat_two (w.alloc (.cells #[.slice a la ca, .slice b lb cb] 22)) w.heap.size a b la lb ca cb za zb (by rw [World.cell?_alloc_mark]; rfl) (by rw [World.cell?_alloc_mark]; rfl) (ra.keep hal) (rb.keep hal) na nb h)
  have HAL := Lib.hid hal; have HT := Lib.hid ht
  have BB := Lib.hid (bytes_append (bytes_take ba la) (bytes_take bb lb))
  obtain ⟨L, hL⟩ : ∃ L, za.take la ++ zb.take lb = L := ⟨_, rfl⟩
  rw [hL] at CC BB ⊢
  clear ht hal hL ra rb na nb h ba bb
  go_enter Tryz.func52, Tryz.ntmps52
  go_wp2_with fail
  refine CC.out.mono ?_
  rintro e w2 ⟨v2, rfl, ho2, hb2⟩
  obtain ⟨ad, cap, rfl, hr2, hn2, hc2, _⟩ := Ob.own_row ho2
  have hbw := HAL.out.trans (hb2.mono HAL.out.size)
  have HB2 := Lib.hid hbw
  have CR := Lib.hid (crc_any ad L.length cap L w2 (tab_keep HT.out hbw) BB.out hr2)
  rw [List.take_length] at CR
  clear ho2 hb2 hr2 hn2 hc2 hbw CC
  go_wp2_with fail
  refine CR.out.mono ?_
  rintro e w3 ⟨rfl, rfl⟩
  go_wp2
  go_ret
  exact ⟨rfl, HB2.out⟩

end Go.Proofs.YtdonkmkjblofpaaGreatDoor.Sn
/-! ## Nb -/
namespace Go.Proofs.YtdonkmkjblofpaaGreatDoor.Sn
open Go.RowKit Go.Sort Dx Sx Dk Wl
set_option linter.unusedVariables false
set_option linter.unusedSimpArgs false

/-! ### Encode -/
theorem bytes_nil' : Bytes [] := fun j hj => by simp at hj
def u32N (v : Int) : Nat := (v % 4294967296).toNat
theorem u32N_lt (v : Int) : u32N v < 4294967296 := by unfold u32N; omega
theorem u32N_wrap (v : Int) : IntKind.u32.wrap v = (u32N v : Int) := by rw [IntKind.wrap_u32]; unfold u32N; omega
theorem le4_mod (n : Nat) : le4 (n % 4294967296) = le4 n := by
  simp only [le4, List.cons.injEq, and_true]
  refine ⟨?_, ?_, ?_, ?_⟩ <;> omega
/-- An encoding's first eight bytes. -/
def frontN (u k : Nat) : List Int := le4 u ++ le4 k
def encN (u : Nat) (l : List Int) : List Int := frontN u l.length ++ (le4 (crcN (frontN u l.length ++ l)) ++ l)
theorem front_length (u k : Nat) : (frontN u k).length = 8 := rfl
theorem enc_length (u : Nat) (l : List Int) : (encN u l).length = 12 + l.length := by simp [encN, frontN, le4]; omega
theorem bytes_front (u k : Nat) : Bytes (frontN u k) := bytes_append (bytes_le4 _) (bytes_le4 _)
theorem bytes_enc {u : Nat} {l : List Int} (h : Bytes l) : Bytes (encN u l) := bytes_append (bytes_front _ _) (bytes_append (bytes_le4 _) h)
theorem enc_wrap (len : Nat) : IntKind.u32.wrap (len : Int) = ((len % 4294967296 : Nat) : Int) ∧ len % 4294967296 < 4294967296 := ⟨by rw [IntKind.wrap_u32]; omega, Nat.mod_lt _ (by decide)⟩
theorem enc_add {len : Nat} (h : len ≤ 140737488351232) : RowKit.wrap64 (12 + (len : Int)) = 12 + (len : Int) ∧ IntKind.i64.wrap (12 + (len : Int)) = 12 + (len : Int) := ⟨IntWalk.wrap64_in _ (by omega), IntWalk.i64_in _ (by omega)⟩
theorem enc_len {u q c len : Nat} (h : len ≤ 140737488351232) : ([] ++ le4 u ++ le4 q ++ le4 c).length + len ≤ 140737488355328 := by simp [le4]; omega
theorem enc_cap {len : Nat} (h : len ≤ 140737488351232) : 1 * (12 + len) ≤ 281474976710656 ∧ 12 + len ≤ maxLen := ⟨by omega, by unfold maxLen; omega⟩
set_option maxRecDepth 100000 in
set_option maxHeartbeats 800000 in
theorem encode_any (v : Int) (a : Option Addr) (len cap : Nat) (zs : List Int) (w : World) (ht : Sx.Tab w) (hb : Bytes zs) (hrow : Fr.HasRow .u8 w a len zs) (hn : a = none → cap = 0) (h : len ≤ 140737488351232) :
    Calls Tryz.prog 21 #[.int .i64 v, .slice a len cap] w (CatIt w (encN (u32N v) (zs.take len))) := by
  have hzl : (zs.take len).length = len := by rw [List.length_take]; have := hrow.1; omega
  have HL := Lib.hid h
  have D : Hid (∀ v' w', Ob.OwnB w' w.heap.size v' ([] ++ le4 (u32N v) ++ le4 (len % 4294967296) ++ le4 (crcN (frontN (u32N v) len ++ zs.take len)) ++ zs.take len) → Below w.heap.size w w' → CatIt w (encN (u32N v) (zs.take len)) (.returned v') w') := Lib.hid fun v' w' h1 h2 => ⟨v', rfl, by
    unfold encN; rw [hzl]; unfold frontN
    rw [le4_mod] at h1
    simpa [List.append_assoc, frontN] using h1, h2⟩
  have HR := Lib.hid hrow; have HT := Lib.hid ht; have HN := Lib.hid hn
  have CR : Hid (∀ wx v2, Below w.heap.size w wx → Ob.OwnB wx w.heap.size v2 ([] ++ le4 (u32N v) ++ le4 (len % 4294967296)) → Calls Tryz.prog 52 #[v2, .slice a len cap] wx fun e w' => e = .returned (.int .u32 (crcN (frontN (u32N v) len ++ zs.take len) : Int)) ∧ Below wx.heap.size wx w') := Lib.hid fun wx v2 hbx ho => by
    obtain ⟨ad, cp, rfl, hr, hnn, _, _⟩ := Ob.own_row ho
    have := crc_two ad a _ len cp cap _ zs wx (tab_keep ht hbx) (bytes_append (bytes_append bytes_nil' (bytes_le4 _)) (bytes_le4 _)) hb hr (hrow.keep hbx) hnn hn (by simp [le4]; omega)
    rw [List.take_length, le4_mod, List.nil_append] at this
    rw [le4_mod, List.nil_append]
    exact this
  have hcl := crcN_lt (frontN (u32N v) len ++ zs.take len)
  obtain ⟨c, hc⟩ : ∃ c, crcN (frontN (u32N v) len ++ zs.take len) = c := ⟨_, rfl⟩
  rw [hc] at CR D hcl
  have HC := Lib.hid hcl
  have hu := u32N_lt v
  have cv := u32N_wrap v
  obtain ⟨u, hu'⟩ : ∃ u, u32N v = u := ⟨_, rfl⟩
  rw [hu'] at cv CR D hu ⊢
  have HU := Lib.hid hu
  obtain ⟨cl, hq2⟩ := enc_wrap len
  obtain ⟨q, hq⟩ : ∃ q, len % 4294967296 = q := ⟨_, rfl⟩
  rw [hq] at CR D cl hq2
  have HQ := Lib.hid hq2
  obtain ⟨e12, e13⟩ := enc_add h
  have HLS : Hid (([] ++ le4 u ++ le4 q ++ le4 c).length + len ≤ 140737488355328) := Lib.hid (enc_len h)
  have HCP := Lib.hid (enc_cap h)
  obtain ⟨i0, hi, hz0, hz1, hz2⟩ := info_parts Ob.info_u8
  clear hrow ht hb hc hcl hzl hu hu' hq hq2 hn h
  go_enter Tryz.func21, Tryz.ntmps21
  go_wp2_with (at_make; go_loud (refine wpList_make_own _ rfl (.const (.int .i64 0)) (.tmp 8) 22 rfl w.heap.size 5 i0 (.int .u8 0) 1 Tryz.underlying22 hi hz0 hz1 .i64 .i64 _ (12 + len) rfl rfl (by push_cast; rfl) (by rw [hz2]; exact HCP.out.1) HCP.out.2 (Nat.le_refl _) ?_); intro w1 ho1 hg1; have HO1 : Hid (Ob.OwnB w1 w.heap.size (.slice (some ⟨w.heap.size, 0, none⟩) 0 (12 + len)) []) := Lib.hid ho1; have HB1 : Hid (Below w.heap.size w w1) := Lib.hid ((Below.refl _ _).grown hg1 (Nat.le_refl _) (fun k hk => by cases hk)); clear ho1 hg1)
  refine (put_any w.heap.size _ [] u w1 HO1.out HB1.out.size HU.out (by simp)).mono ?_
  rintro e w2 ⟨v2, rfl, ho2, hb2⟩
  have HO2 := Lib.hid ho2; have HB2 := Lib.hid (HB1.out.trans hb2)
  clear ho2 hb2
  go_wp2_with fail
  refine (put_any w.heap.size _ _ q w2 HO2.out HB2.out.size HQ.out (by simp [le4])).mono ?_
  rintro e w3 ⟨v3, rfl, ho3, hb3⟩
  have HO3 := Lib.hid ho3; have HB3 := Lib.hid (HB2.out.trans hb3)
  clear ho3 hb3
  go_wp2_with fail
  refine (CR.out _ _ HB3.out HO3.out).mono ?_
  rintro e w4 ⟨rfl, hb4⟩
  have HO4 := Lib.hid (Ob.own_keep HO3.out hb4); have HB4 := Lib.hid (HB3.out.trans (hb4.mono HB3.out.size))
  clear hb4
  go_wp2_with fail
  refine (put_any w.heap.size _ _ c w4 HO4.out HB4.out.size HC.out (by simp [le4])).mono ?_
  rintro e w5 ⟨v5, rfl, ho5, hb5⟩
  have HO5 := Lib.hid ho5; have HB5 := Lib.hid (HB4.out.trans hb5)
  clear ho5 hb5
  go_wp2_with (at_builtin; go_loud (refine Ob.wp_apd rfl (.tmp 24) (.tmp 25) rfl w.heap.size v5 _ rfl HO5.out a len cap zs rfl (HR.out.keep HB5.out) HN.out HLS.out HB5.out.size ?_); intro v6 w6 ho6 hb6; have HO6 := Lib.hid ho6; have HB6 := Lib.hid (HB5.out.trans hb6); clear ho6 hb6)
  go_ret
  exact D.out _ _ HO6.out HB6.out
end Go.Proofs.YtdonkmkjblofpaaGreatDoor.Sn
/-! ## Nc -/
namespace Go.Proofs.YtdonkmkjblofpaaGreatDoor.Sn
open Go.RowKit Go.Sort Dx Sx Dk Wl
set_option linter.unusedVariables false
set_option linter.unusedSimpArgs false
/-- The contents of snapshot v, and the error. -/
def decS (v : Int) (b : List Int) : List Int × Int :=
  if b.length < 12 then ([], 10) else
  if (b.drop 12).length < num4 (b.drop 4) then ([], 10) else
  if num4 (b.drop 4) < (b.drop 12).length ∨ snm v = [] ∨ num4 b ≠ u32N v then ([], 11) else
  if num4 (b.drop 8) ≠ crcN (b.take 8 ++ b.drop 12) then ([], 12) else (b.drop 12, 0)
def DecIt (w : World) (v : Int) (b : List Int) (e : Ending) (w' : World) : Prop := ∃ x, e = .returned (.tuple #[x, .int .i64 (decS v b).2]) ∧ Ob.OwnB w' w.heap.size x (decS v b).1 ∧ Below w.heap.size w w'
theorem own_none (w : World) (base : Nat) : Ob.OwnB w base (.slice none 0 0) [] := ⟨rfl, .inl ⟨rfl, rfl⟩⟩
theorem dec_err {w w' : World} {v r : Int} {b : List Int} (h : decS v b = ([], r)) (hb : Below w.heap.size w w') : DecIt w v b (.returned (.tuple #[.slice none 0 0, .int .i64 r])) w' := ⟨_, by rw [h], by rw [h]; exact own_none _ _, hb⟩
theorem u64_nat {n : Nat} (h : n ≤ 9223372036854775807) : IntKind.u64.wrap (n : Int) = (n : Int) := by rw [IntKind.wrap_u64]; omega
theorem bs_none {l : List UInt8} (h : l = []) : ((bs l).toList == []) = true := by rw [h, bs_toList]; rfl
theorem bs_some {l : List UInt8} (h : l ≠ []) : ((bs l).toList == []) = false := by
  rw [bs_toList]; simpa using h
theorem snm_pos {v : Int} (h : snm v ≠ []) : 0 ≤ v ∧ v ≤ 999999999 := by
  by_cases hh : v < 0 ∨ 999999999 < v
  · exact absurd (snm_none hh) h
  · omega
theorem dec_short (v : Int) (a : Option Addr) (len cap : Nat) (zs : List Int) (w : World) (hm : len ≤ 9223372036854775807) (hl : zs.length = len) (h : len < 12) :
    Calls Tryz.prog 16 #[.int .i64 v, .slice a len cap] w (DecIt w v zs) := by
  have D : Hid (DecIt w v zs (.returned (.tuple #[.slice none 0 0, .int .i64 10])) w) := Lib.hid (dec_err (by unfold decS; rw [if_pos (by omega)]) (Below.refl _ _))
  have t1 : decide ((len : Int) < 12) = true := by rw [decide_eq_true_eq]; omega
  have t2 : (len : Int) < 12 := by omega
  go_enter Tryz.func16, Tryz.ntmps16
  go_wp2
  go_ret2
  exact D.out
set_option maxRecDepth 100000 in
set_option maxHeartbeats 1600000 in
theorem dec_main (v : Int) (a : Option Addr) (M C : Nat) (zs : List Int) (w : World) (ht : Tabs w) (hb : Bytes zs) (hrow : Fr.HasRow .u8 w a (M + 12) zs) (hl : zs.length = (M + 12)) (hcap : M + 12 ≤ C + 12) (hC : C ≠ 0) (hcm : C + 12 ≤ 9223372036854775807) (hbig : M ≤ 140737488351232) :
    Calls Tryz.prog 16 #[.int .i64 v, .slice a (M + 12) (C + 12)] w (DecIt w v zs) := by
  have hm := hrow.2.1
  obtain ⟨b, off, rfl, _⟩ := hrow.2.2 (by omega)
  have hbody : Fr.HasRow .u8 w (some ⟨b, off + 12, none⟩) M (zs.drop 12) := row_drop (M := M) (k := 12) hrow
  have hbl : (zs.drop 12).length = M := by rw [List.length_drop]; omega
  have ebody : (zs.drop 12).take M = zs.drop 12 := List.take_of_length_le (by omega)
  have N1 : Hid (∀ wx, Below w.heap.size w wx → Calls Tryz.prog 51 #[.slice (some ⟨b, off, none⟩) (M + 12) (C + 12)] wx fun e w' => e = .returned (.int .u32 (num4 zs : Int)) ∧ Below wx.heap.size wx w') := Lib.hid fun wx hx => (number_row _ _ _ zs wx hb (hrow.keep hx) (by omega)).mono fun e w' ⟨h1, n, h2⟩ => ⟨h1, h2 ▸ bel_dn (Below.refl _ _) n⟩
  have N2 : Hid (∀ wx, Below w.heap.size w wx → Calls Tryz.prog 51 #[.slice (some ⟨b, off + 4, none⟩) (M + 8) (C + 8)] wx fun e w' => e = .returned (.int .u32 (num4 (zs.drop 4) : Int)) ∧ Below wx.heap.size wx w') := Lib.hid fun wx hx => (number_row _ _ _ (zs.drop 4) wx (bytes_drop hb 4) ((row_drop (M := (M + 8)) (k := 4) hrow).keep hx) (by omega)).mono fun e w' ⟨h1, n, h2⟩ => ⟨h1, h2 ▸ bel_dn (Below.refl _ _) n⟩
  have N3 : Hid (∀ wx, Below w.heap.size w wx → Calls Tryz.prog 51 #[.slice (some ⟨b, off + 8, none⟩) (M + 4) (C + 4)] wx fun e w' => e = .returned (.int .u32 (num4 (zs.drop 8) : Int)) ∧ Below wx.heap.size wx w') := Lib.hid fun wx hx => (number_row _ _ _ (zs.drop 8) wx (bytes_drop hb 8) ((row_drop (M := (M + 4)) (k := 8) hrow).keep hx) (by omega)).mono fun e w' ⟨h1, n, h2⟩ => ⟨h1, h2 ▸ bel_dn (Below.refl _ _) n⟩
  have NM : Hid (∀ wx, Below w.heap.size w wx → Calls Tryz.prog 18 #[.int .i64 v] wx fun e w' => e = .returned (.string (bs (snm v))) ∧ Below wx.heap.size wx w') := Lib.hid fun wx hx => name_any v wx (ht.keep hx)
  have CR : Hid (∀ wx, Below w.heap.size w wx → Calls Tryz.prog 52 #[.slice (some ⟨b, off, none⟩) 8 (C + 12), .slice (some ⟨b, off + 12, none⟩) M C] wx fun e w' => e = .returned (.int .u32 (crcN (zs.take 8 ++ zs.drop 12) : Int)) ∧ Below wx.heap.size wx w') := Lib.hid fun wx hx => by
    have := crc_two (some ⟨b, off, none⟩) (some ⟨b, off + 12, none⟩) 8 M (C + 12) C (zs.take 8) (zs.drop 12) wx (ht.keep hx).crc (bytes_take hb 8) (bytes_drop hb 12) ((row_take hrow (by omega)).keep hx) (hbody.keep hx) (fun h => by cases h) (fun h => by cases h) (by omega)
    rw [List.take_take, Nat.min_self, ebody] at this
    exact this
  have CL : Hid (∀ wx, Below w.heap.size w wx → Calls Tryz.prog 48 #[.slice (some ⟨b, off + 12, none⟩) M C] wx (CloneIt wx (zs.drop 12))) := Lib.hid fun wx hx => by
    have := bclone_some wx _ M C (zs.drop 12) (hbody.keep hx) (by omega)
    rw [ebody] at this
    exact this
  have hD : decS v zs = (if M < num4 (zs.drop 4) then ([], 10) else if num4 (zs.drop 4) < M ∨ snm v = [] ∨ num4 zs ≠ u32N v then ([], 11) else if num4 (zs.drop 8) ≠ crcN (zs.take 8 ++ zs.drop 12) then ([], 12) else (zs.drop 12, 0)) := by
    unfold decS
    rw [if_neg (by omega), hbl]
  have l1 := num4_lt hb
  have l2 := num4_lt (bytes_drop hb 4)
  have l3 := num4_lt (bytes_drop hb 8)
  have l4 := crcN_lt (zs.take 8 ++ zs.drop 12)
  obtain ⟨n1, hn1⟩ : ∃ n1, num4 zs = n1 := ⟨_, rfl⟩
  obtain ⟨n2, hn2⟩ : ∃ n2, num4 (zs.drop 4) = n2 := ⟨_, rfl⟩
  obtain ⟨n3, hn3⟩ : ∃ n3, num4 (zs.drop 8) = n3 := ⟨_, rfl⟩
  obtain ⟨n4, hn4⟩ : ∃ n4, crcN (zs.take 8 ++ zs.drop 12) = n4 := ⟨_, rfl⟩
  rw [hn1] at N1 hD; rw [hn2] at N2 hD; rw [hn3] at N3 hD; rw [hn4] at CR hD
  have HD := Lib.hid hD
  obtain ⟨R, hR⟩ : ∃ R, bs (snm v) = R := ⟨_, rfl⟩
  have cu := u32N_wrap v
  obtain ⟨u, hu⟩ : ∃ u, u32N v = u := ⟨_, rfl⟩
  rw [hu] at cu HD
  have c2 : IntKind.u64.wrap (n2 : Int) = (n2 : Int) := u64_nat (by omega)
  have cM : IntKind.u64.wrap ((M : Int)) = ((M : Int)) := u64_nat (by omega)
  have t0 : decide (((M : Int) + 12 : Int) < 12) = false := by rw [decide_eq_false_iff_not]; omega
  have hnone := fun h : snm v = [] => bs_none h
  have hsome := fun h : snm v ≠ [] => bs_some h
  rw [hR] at NM hnone hsome
  have B0 := Lib.hid (Below.refl w.heap.size w)
  have HN := Lib.hid hnone; have HS := Lib.hid hsome
  have E1 : Hid (∀ w', M < n2 → Below w.heap.size w w' → DecIt w v zs (.returned (.tuple #[.slice none 0 0, .int .i64 10])) w') := Lib.hid fun w' h hb => dec_err (by rw [HD.out, if_pos h]) hb
  have E2 : Hid (∀ w', ¬ M < n2 → (n2 < M ∨ snm v = [] ∨ n1 ≠ u) → Below w.heap.size w w' → DecIt w v zs (.returned (.tuple #[.slice none 0 0, .int .i64 11])) w') := Lib.hid fun w' h0 h hb => dec_err (by rw [HD.out, if_neg h0, if_pos h]) hb
  have E3 : Hid (∀ w', ¬ M < n2 → ¬ (n2 < M ∨ snm v = [] ∨ n1 ≠ u) → n3 ≠ n4 → Below w.heap.size w w' → DecIt w v zs (.returned (.tuple #[.slice none 0 0, .int .i64 12])) w') := Lib.hid fun w' h0 h1 h hb => dec_err (by rw [HD.out, if_neg h0, if_neg h1, if_pos h]) hb
  have E4 : Hid (∀ x wx w', ¬ M < n2 → ¬ (n2 < M ∨ snm v = [] ∨ n1 ≠ u) → ¬ n3 ≠ n4 → Below w.heap.size w wx → Ob.OwnB w' wx.heap.size x (zs.drop 12) → Below wx.heap.size wx w' → DecIt w v zs (.returned (.tuple #[x, .int .i64 0])) w') := Lib.hid fun x wx w' h0 h1 h hx ho hb => ⟨x, by rw [HD.out, if_neg h0, if_neg h1, if_neg h], by rw [HD.out, if_neg h0, if_neg h1, if_neg h]; exact ⟨ho.1, ho.2.imp id fun ⟨g, cap, cur, y1, y2, y3⟩ => ⟨g, cap, cur, y1, Nat.le_trans hx.size y2, y3⟩⟩, hx.trans (hb.mono hx.size)⟩
  clear hrow hl hn1 hn2 hn3 hn4 hD hR hu hb ht hbody hbl ebody hnone hsome l1 l2 l3 l4 HD hbig
  by_cases p1 : M < n2
  · have t1 : decide (M < n2) = true := decide_eq_true p1
    have t1' : decide (((M : Int) : Int) < (n2 : Int)) = true := by rw [decide_eq_true_eq]; omega
    have E := Lib.hid fun w' => E1.out w' p1
    go_enter Tryz.func16, Tryz.ntmps16
    go_wp2_with (go_at_call 51; (with_reducible refine (N2.out _ B0.out).mono ?_); rintro e w1 ⟨rfl, hb1⟩; have B1 := Lib.hid hb1; clear hb1)
    go_ret2
    exact E.out _ B1.out
  have t1 : decide (M < n2) = false := decide_eq_false p1
  have t1' : decide (((M : Int) : Int) < (n2 : Int)) = false := by rw [decide_eq_false_iff_not]; omega
  by_cases p2 : n2 < M
  · have t2 : decide (n2 < M) = true := decide_eq_true p2
    have t2' : decide (((M : Int) : Int) > (n2 : Int)) = true := by rw [decide_eq_true_eq]; omega
    have E := Lib.hid fun w' => E2.out w' p1 (.inl p2)
    go_enter Tryz.func16, Tryz.ntmps16
    go_wp2_with (go_at_call 51; (with_reducible refine (N2.out _ B0.out).mono ?_); rintro e w1 ⟨rfl, hb1⟩; have B1 := Lib.hid hb1; clear hb1)
    go_ret2
    exact E.out _ B1.out
  have t2 : decide (n2 < M) = false := decide_eq_false p2
  have t2' : decide (((M : Int) : Int) > (n2 : Int)) = false := by rw [decide_eq_false_iff_not]; omega
  by_cases p3 : snm v = []
  · have t3 := HN.out p3
    have E := Lib.hid fun w' => E2.out w' p1 (.inr (.inl p3))
    go_enter Tryz.func16, Tryz.ntmps16
    go_wp2_with (first | (go_at_call 51; (with_reducible refine (N2.out _ B0.out).mono ?_); rintro e w1 ⟨rfl, hb1⟩; have B1 := Lib.hid hb1; clear hb1) | (go_at_call 18; (with_reducible refine (NM.out _ B1.out).mono ?_); rintro e w2 ⟨rfl, hb2⟩; have B2 := Lib.hid (B1.out.trans (hb2.mono B1.out.size)); clear hb2))
    go_ret2
    exact E.out _ B2.out
  have t3 := HS.out p3
  by_cases p4 : n1 ≠ u
  · have t4 : ((n1 : Int) != (u : Int)) = true := by simp; omega
    have t4' : ((n1 : Int) == (u : Int)) = false := by simp; omega
    have E := Lib.hid fun w' => E2.out w' p1 (.inr (.inr p4))
    go_enter Tryz.func16, Tryz.ntmps16
    go_wp2_with (first | (go_at_call 51; (with_reducible refine (N2.out _ B0.out).mono ?_); rintro e w1 ⟨rfl, hb1⟩; have B1 := Lib.hid hb1; clear hb1) | (go_at_call 18; (with_reducible refine (NM.out _ B1.out).mono ?_); rintro e w2 ⟨rfl, hb2⟩; have B2 := Lib.hid (B1.out.trans (hb2.mono B1.out.size)); clear hb2) | (go_at_call 51; (with_reducible refine (N1.out _ B2.out).mono ?_); rintro e w3 ⟨rfl, hb3⟩; have B3 := Lib.hid (B2.out.trans (hb3.mono B2.out.size)); clear hb3))
    go_ret2
    exact E.out _ B3.out
  have t4 : ((n1 : Int) != (u : Int)) = false := by simp; omega
  have t4' : ((n1 : Int) == (u : Int)) = true := by simp; omega
  have hform : ¬ (n2 < M ∨ snm v = [] ∨ n1 ≠ u) := fun h => h.elim p2 fun h => h.elim p3 p4
  have HF := Lib.hid hform
  go_enter Tryz.func16, Tryz.ntmps16
  go_upto_region 11 with (first | (go_at_call 51; (with_reducible refine (N2.out _ B0.out).mono ?_); rintro e w1 ⟨rfl, hb1⟩; have B1 := Lib.hid hb1; clear hb1) | (go_at_call 18; (with_reducible refine (NM.out _ B1.out).mono ?_); rintro e w2 ⟨rfl, hb2⟩; have B2 := Lib.hid (B1.out.trans (hb2.mono B1.out.size)); clear hb2) | (go_at_call 51; (with_reducible refine (N1.out _ B2.out).mono ?_); rintro e w3 ⟨rfl, hb3⟩; have B3 := Lib.hid (B2.out.trans (hb3.mono B2.out.size)); clear hb3))
  obtain ⟨q3, q4⟩ : (n3 ≠ n4 ∧ ((n3 : Int) != (n4 : Int)) = true ∨ ¬ n3 ≠ n4 ∧ ((n3 : Int) != (n4 : Int)) = false) ∧ True := ⟨by
    by_cases h : n3 = n4
    · exact .inr ⟨fun hh => hh h, by simp [h]⟩
    · exact .inl ⟨h, by simp; omega⟩, trivial⟩
  have N3' : Hid (∀ wx, Below w3.heap.size w3 wx → Calls Tryz.prog 51 #[.slice (some ⟨b, off + 8, none⟩) (M + 4) (C + 4)] wx fun e w' => e = .returned (.int .u32 (n3 : Int)) ∧ Below w3.heap.size w3 w') := Lib.hid fun wx hx => (N3.out wx (B3.out.trans (hx.mono B3.out.size))).mono fun e w' ⟨h1, h2⟩ => ⟨h1, hx.trans (h2.mono hx.size)⟩
  have CR' : Hid (∀ wx, Below w3.heap.size w3 wx → Calls Tryz.prog 52 #[.slice (some ⟨b, off, none⟩) 8 (C + 12), .slice (some ⟨b, off + 12, none⟩) M C] wx fun e w' => e = .returned (.int .u32 (n4 : Int)) ∧ Below w3.heap.size w3 w') := Lib.hid fun wx hx => (CR.out wx (B3.out.trans (hx.mono B3.out.size))).mono fun e w' ⟨h1, h2⟩ => ⟨h1, hx.trans (h2.mono hx.size)⟩
  have s1 : (8 : Int) ≤ (M : Int) + 12 := by omega
  have s2 : (8 : Int) ≤ (C : Int) + 12 := by omega
  have s3 : (M : Int) + 12 ≤ (C : Int) + 12 := by omega
  have s4 : (M : Int) ≤ (C : Int) := by omega
  go_region_held3 (fun wx => Below w3.heap.size w3 wx) (first | assumption | exact Below.refl _ _ | exact (Below.refl _ _).drew | exact Below.drew (by assumption)) (first | (go_at_call 51; (with_reducible refine (N3'.out _ (by first | assumption | exact Below.refl _ _ | exact (Below.refl _ _).drew | exact Below.drew (by assumption))).mono ?_); rintro e w4 ⟨rfl, hb4⟩) | (go_at_call 52; (with_reducible refine (CR'.out _ (by first | assumption | exact Below.refl _ _ | exact (Below.refl _ _).drew | exact Below.drew (by assumption))).mono ?_); rintro e w4 ⟨rfl, hb4⟩))
  have B9 := Lib.hid (B3.out.trans (hb4.mono B3.out.size))
  rcases q3 with ⟨q5, q6⟩ | ⟨q5, q6⟩
  · have E := Lib.hid fun w' => E3.out w' p1 HF.out q5
    go_wp2_with fail
    go_ret2
    exact E.out _ B9.out
  · have E := Lib.hid fun x w' => E4.out x w4 w' p1 HF.out q5 B9.out
    go_wp2_with (go_at_call 48; (with_reducible refine (CL.out _ B9.out).mono ?_); rintro e w5 ⟨x, rfl, ho, hb⟩; have HO := Lib.hid ho; have HB := Lib.hid hb; clear ho hb)
    go_ret2
    exact E.out _ _ HO.out HB.out
set_option maxRecDepth 100000 in
set_option maxHeartbeats 1600000 in
theorem dec_edge (v : Int) (a : Option Addr) (zs : List Int) (w : World) (ht : Tabs w) (hb : Bytes zs) (hrow : Fr.HasRow .u8 w a 12 zs) (hl : zs.length = 12) :
    Calls Tryz.prog 16 #[.int .i64 v, .slice a 12 12] w (DecIt w v zs) := by
  have hm := hrow.2.1
  obtain ⟨b, off, rfl, _⟩ := hrow.2.2 (by omega)
  have hbody : Fr.HasRow .u8 w (some ⟨b, off, none⟩) 0 (zs.drop 12) := row_zero _
  have hbl : (zs.drop 12).length = 0 := by rw [List.length_drop]; omega
  have ebody : (zs.drop 12).take 0 = zs.drop 12 := List.take_of_length_le (by omega)
  have N1 : Hid (∀ wx, Below w.heap.size w wx → Calls Tryz.prog 51 #[.slice (some ⟨b, off, none⟩) 12 12] wx fun e w' => e = .returned (.int .u32 (num4 zs : Int)) ∧ Below wx.heap.size wx w') := Lib.hid fun wx hx => (number_row _ _ _ zs wx hb (hrow.keep hx) (by omega)).mono fun e w' ⟨h1, n, h2⟩ => ⟨h1, h2 ▸ bel_dn (Below.refl _ _) n⟩
  have N2 : Hid (∀ wx, Below w.heap.size w wx → Calls Tryz.prog 51 #[.slice (some ⟨b, off + 4, none⟩) 8 8] wx fun e w' => e = .returned (.int .u32 (num4 (zs.drop 4) : Int)) ∧ Below wx.heap.size wx w') := Lib.hid fun wx hx => (number_row _ _ _ (zs.drop 4) wx (bytes_drop hb 4) ((row_drop (M := 8) (k := 4) hrow).keep hx) (by omega)).mono fun e w' ⟨h1, n, h2⟩ => ⟨h1, h2 ▸ bel_dn (Below.refl _ _) n⟩
  have N3 : Hid (∀ wx, Below w.heap.size w wx → Calls Tryz.prog 51 #[.slice (some ⟨b, off + 8, none⟩) 4 4] wx fun e w' => e = .returned (.int .u32 (num4 (zs.drop 8) : Int)) ∧ Below wx.heap.size wx w') := Lib.hid fun wx hx => (number_row _ _ _ (zs.drop 8) wx (bytes_drop hb 8) ((row_drop (M := 4) (k := 8) hrow).keep hx) (by omega)).mono fun e w' ⟨h1, n, h2⟩ => ⟨h1, h2 ▸ bel_dn (Below.refl _ _) n⟩
  have NM : Hid (∀ wx, Below w.heap.size w wx → Calls Tryz.prog 18 #[.int .i64 v] wx fun e w' => e = .returned (.string (bs (snm v))) ∧ Below wx.heap.size wx w') := Lib.hid fun wx hx => name_any v wx (ht.keep hx)
  have CR : Hid (∀ wx, Below w.heap.size w wx → Calls Tryz.prog 52 #[.slice (some ⟨b, off, none⟩) 8 12, .slice (some ⟨b, off, none⟩) 0 0] wx fun e w' => e = .returned (.int .u32 (crcN (zs.take 8 ++ zs.drop 12) : Int)) ∧ Below wx.heap.size wx w') := Lib.hid fun wx hx => by
    have := crc_two (some ⟨b, off, none⟩) (some ⟨b, off, none⟩) 8 0 12 0 (zs.take 8) (zs.drop 12) wx (ht.keep hx).crc (bytes_take hb 8) (bytes_drop hb 12) ((row_take hrow (by omega)).keep hx) (hbody.keep hx) (fun h => by cases h) (fun h => by cases h) (by decide)
    rw [List.take_take, Nat.min_self, ebody] at this
    exact this
  have CL : Hid (∀ wx, Below w.heap.size w wx → Calls Tryz.prog 48 #[.slice (some ⟨b, off, none⟩) 0 0] wx (CloneIt wx (zs.drop 12))) := Lib.hid fun wx hx => by
    have := bclone_some wx _ 0 0 (zs.drop 12) (hbody.keep hx) (by decide)
    rw [ebody] at this
    exact this
  have hD : decS v zs = (if 0 < num4 (zs.drop 4) then ([], 10) else if num4 (zs.drop 4) < 0 ∨ snm v = [] ∨ num4 zs ≠ u32N v then ([], 11) else if num4 (zs.drop 8) ≠ crcN (zs.take 8 ++ zs.drop 12) then ([], 12) else (zs.drop 12, 0)) := by
    unfold decS
    rw [if_neg (by omega), hbl]
  have l1 := num4_lt hb
  have l2 := num4_lt (bytes_drop hb 4)
  have l3 := num4_lt (bytes_drop hb 8)
  have l4 := crcN_lt (zs.take 8 ++ zs.drop 12)
  obtain ⟨n1, hn1⟩ : ∃ n1, num4 zs = n1 := ⟨_, rfl⟩
  obtain ⟨n2, hn2⟩ : ∃ n2, num4 (zs.drop 4) = n2 := ⟨_, rfl⟩
  obtain ⟨n3, hn3⟩ : ∃ n3, num4 (zs.drop 8) = n3 := ⟨_, rfl⟩
  obtain ⟨n4, hn4⟩ : ∃ n4, crcN (zs.take 8 ++ zs.drop 12) = n4 := ⟨_, rfl⟩
  rw [hn1] at N1 hD; rw [hn2] at N2 hD; rw [hn3] at N3 hD; rw [hn4] at CR hD
  have HD := Lib.hid hD
  obtain ⟨R, hR⟩ : ∃ R, bs (snm v) = R := ⟨_, rfl⟩
  have cu := u32N_wrap v
  obtain ⟨u, hu⟩ : ∃ u, u32N v = u := ⟨_, rfl⟩
  rw [hu] at cu HD
  have c2 : IntKind.u64.wrap (n2 : Int) = (n2 : Int) := u64_nat (by omega)
  have cM : IntKind.u64.wrap ((0 : Int)) = ((0 : Int)) := by decide
  have t0 : decide (((12 : Int) : Int) < 12) = false := by rw [decide_eq_false_iff_not]; omega
  have hnone := fun h : snm v = [] => bs_none h
  have hsome := fun h : snm v ≠ [] => bs_some h
  rw [hR] at NM hnone hsome
  have B0 := Lib.hid (Below.refl w.heap.size w)
  have HN := Lib.hid hnone; have HS := Lib.hid hsome
  have E1 : Hid (∀ w', 0 < n2 → Below w.heap.size w w' → DecIt w v zs (.returned (.tuple #[.slice none 0 0, .int .i64 10])) w') := Lib.hid fun w' h hb => dec_err (by rw [HD.out, if_pos h]) hb
  have E2 : Hid (∀ w', ¬ 0 < n2 → (n2 < 0 ∨ snm v = [] ∨ n1 ≠ u) → Below w.heap.size w w' → DecIt w v zs (.returned (.tuple #[.slice none 0 0, .int .i64 11])) w') := Lib.hid fun w' h0 h hb => dec_err (by rw [HD.out, if_neg h0, if_pos h]) hb
  have E3 : Hid (∀ w', ¬ 0 < n2 → ¬ (n2 < 0 ∨ snm v = [] ∨ n1 ≠ u) → n3 ≠ n4 → Below w.heap.size w w' → DecIt w v zs (.returned (.tuple #[.slice none 0 0, .int .i64 12])) w') := Lib.hid fun w' h0 h1 h hb => dec_err (by rw [HD.out, if_neg h0, if_neg h1, if_pos h]) hb
  have E4 : Hid (∀ x wx w', ¬ 0 < n2 → ¬ (n2 < 0 ∨ snm v = [] ∨ n1 ≠ u) → ¬ n3 ≠ n4 → Below w.heap.size w wx → Ob.OwnB w' wx.heap.size x (zs.drop 12) → Below wx.heap.size wx w' → DecIt w v zs (.returned (.tuple #[x, .int .i64 0])) w') := Lib.hid fun x wx w' h0 h1 h hx ho hb => ⟨x, by rw [HD.out, if_neg h0, if_neg h1, if_neg h], by rw [HD.out, if_neg h0, if_neg h1, if_neg h]; exact ⟨ho.1, ho.2.imp id fun ⟨g, cap, cur, y1, y2, y3⟩ => ⟨g, cap, cur, y1, Nat.le_trans hx.size y2, y3⟩⟩, hx.trans (hb.mono hx.size)⟩
  clear hrow hl hn1 hn2 hn3 hn4 hD hR hu hb ht hbody hbl ebody hnone hsome l1 l2 l3 l4 HD 
  by_cases p1 : 0 < n2
  · have t1 : decide (0 < n2) = true := decide_eq_true p1
    have t1' : decide (((0 : Int) : Int) < (n2 : Int)) = true := by rw [decide_eq_true_eq]; omega
    have E := Lib.hid fun w' => E1.out w' p1
    go_enter Tryz.func16, Tryz.ntmps16
    go_wp2_with (go_at_call 51; (with_reducible refine (N2.out _ B0.out).mono ?_); rintro e w1 ⟨rfl, hb1⟩; have B1 := Lib.hid hb1; clear hb1)
    go_ret2
    exact E.out _ B1.out
  have t1 : decide (0 < n2) = false := decide_eq_false p1
  have t1' : decide (((0 : Int) : Int) < (n2 : Int)) = false := by rw [decide_eq_false_iff_not]; omega
  by_cases p2 : n2 < 0
  · have t2 : decide (n2 < 0) = true := decide_eq_true p2
    have t2' : decide (((0 : Int) : Int) > (n2 : Int)) = true := by rw [decide_eq_true_eq]; omega
    have E := Lib.hid fun w' => E2.out w' p1 (.inl p2)
    go_enter Tryz.func16, Tryz.ntmps16
    go_wp2_with (go_at_call 51; (with_reducible refine (N2.out _ B0.out).mono ?_); rintro e w1 ⟨rfl, hb1⟩; have B1 := Lib.hid hb1; clear hb1)
    go_ret2
    exact E.out _ B1.out
  have t2 : decide (n2 < 0) = false := decide_eq_false p2
  have t2' : decide (((0 : Int) : Int) > (n2 : Int)) = false := by rw [decide_eq_false_iff_not]; omega
  by_cases p3 : snm v = []
  · have t3 := HN.out p3
    have E := Lib.hid fun w' => E2.out w' p1 (.inr (.inl p3))
    go_enter Tryz.func16, Tryz.ntmps16
    go_wp2_with (first | (go_at_call 51; (with_reducible refine (N2.out _ B0.out).mono ?_); rintro e w1 ⟨rfl, hb1⟩; have B1 := Lib.hid hb1; clear hb1) | (go_at_call 18; (with_reducible refine (NM.out _ B1.out).mono ?_); rintro e w2 ⟨rfl, hb2⟩; have B2 := Lib.hid (B1.out.trans (hb2.mono B1.out.size)); clear hb2))
    go_ret2
    exact E.out _ B2.out
  have t3 := HS.out p3
  by_cases p4 : n1 ≠ u
  · have t4 : ((n1 : Int) != (u : Int)) = true := by simp; omega
    have t4' : ((n1 : Int) == (u : Int)) = false := by simp; omega
    have E := Lib.hid fun w' => E2.out w' p1 (.inr (.inr p4))
    go_enter Tryz.func16, Tryz.ntmps16
    go_wp2_with (first | (go_at_call 51; (with_reducible refine (N2.out _ B0.out).mono ?_); rintro e w1 ⟨rfl, hb1⟩; have B1 := Lib.hid hb1; clear hb1) | (go_at_call 18; (with_reducible refine (NM.out _ B1.out).mono ?_); rintro e w2 ⟨rfl, hb2⟩; have B2 := Lib.hid (B1.out.trans (hb2.mono B1.out.size)); clear hb2) | (go_at_call 51; (with_reducible refine (N1.out _ B2.out).mono ?_); rintro e w3 ⟨rfl, hb3⟩; have B3 := Lib.hid (B2.out.trans (hb3.mono B2.out.size)); clear hb3))
    go_ret2
    exact E.out _ B3.out
  have t4 : ((n1 : Int) != (u : Int)) = false := by simp; omega
  have t4' : ((n1 : Int) == (u : Int)) = true := by simp; omega
  have hform : ¬ (n2 < 0 ∨ snm v = [] ∨ n1 ≠ u) := fun h => h.elim p2 fun h => h.elim p3 p4
  have HF := Lib.hid hform
  go_enter Tryz.func16, Tryz.ntmps16
  go_upto_region 11 with (first | (go_at_call 51; (with_reducible refine (N2.out _ B0.out).mono ?_); rintro e w1 ⟨rfl, hb1⟩; have B1 := Lib.hid hb1; clear hb1) | (go_at_call 18; (with_reducible refine (NM.out _ B1.out).mono ?_); rintro e w2 ⟨rfl, hb2⟩; have B2 := Lib.hid (B1.out.trans (hb2.mono B1.out.size)); clear hb2) | (go_at_call 51; (with_reducible refine (N1.out _ B2.out).mono ?_); rintro e w3 ⟨rfl, hb3⟩; have B3 := Lib.hid (B2.out.trans (hb3.mono B2.out.size)); clear hb3))
  obtain ⟨q3, q4⟩ : (n3 ≠ n4 ∧ ((n3 : Int) != (n4 : Int)) = true ∨ ¬ n3 ≠ n4 ∧ ((n3 : Int) != (n4 : Int)) = false) ∧ True := ⟨by
    by_cases h : n3 = n4
    · exact .inr ⟨fun hh => hh h, by simp [h]⟩
    · exact .inl ⟨h, by simp; omega⟩, trivial⟩
  have N3' : Hid (∀ wx, Below w3.heap.size w3 wx → Calls Tryz.prog 51 #[.slice (some ⟨b, off + 8, none⟩) 4 4] wx fun e w' => e = .returned (.int .u32 (n3 : Int)) ∧ Below w3.heap.size w3 w') := Lib.hid fun wx hx => (N3.out wx (B3.out.trans (hx.mono B3.out.size))).mono fun e w' ⟨h1, h2⟩ => ⟨h1, hx.trans (h2.mono hx.size)⟩
  have CR' : Hid (∀ wx, Below w3.heap.size w3 wx → Calls Tryz.prog 52 #[.slice (some ⟨b, off, none⟩) 8 12, .slice (some ⟨b, off, none⟩) 0 0] wx fun e w' => e = .returned (.int .u32 (n4 : Int)) ∧ Below w3.heap.size w3 w') := Lib.hid fun wx hx => (CR.out wx (B3.out.trans (hx.mono B3.out.size))).mono fun e w' ⟨h1, h2⟩ => ⟨h1, hx.trans (h2.mono hx.size)⟩
  go_region_held3 (fun wx => Below w3.heap.size w3 wx) (first | assumption | exact Below.refl _ _ | exact (Below.refl _ _).drew | exact Below.drew (by assumption)) (first | (go_at_call 51; (with_reducible refine (N3'.out _ (by first | assumption | exact Below.refl _ _ | exact (Below.refl _ _).drew | exact Below.drew (by assumption))).mono ?_); rintro e w4 ⟨rfl, hb4⟩) | (go_at_call 52; (with_reducible refine (CR'.out _ (by first | assumption | exact Below.refl _ _ | exact (Below.refl _ _).drew | exact Below.drew (by assumption))).mono ?_); rintro e w4 ⟨rfl, hb4⟩))
  have B9 := Lib.hid (B3.out.trans (hb4.mono B3.out.size))
  rcases q3 with ⟨q5, q6⟩ | ⟨q5, q6⟩
  · have E := Lib.hid fun w' => E3.out w' p1 HF.out q5
    go_wp2_with fail
    go_ret2
    exact E.out _ B9.out
  · have E := Lib.hid fun x w' => E4.out x w4 w' p1 HF.out q5 B9.out
    go_wp2_with (go_at_call 48; (with_reducible refine (CL.out _ B9.out).mono ?_); rintro e w5 ⟨x, rfl, ho, hb⟩; have HO := Lib.hid ho; have HB := Lib.hid hb; clear ho hb)
    go_ret2
    exact E.out _ _ HO.out HB.out
theorem decode_any (v : Int) (a : Option Addr) (len cap : Nat) (zs : List Int) (w : World) (ht : Tabs w) (hb : Bytes zs) (hrow : Fr.HasRow .u8 w a len zs) (hcap : len ≤ cap) (hcm : cap ≤ 9223372036854775807) (hbig : len ≤ 140737488351232) :
    Calls Tryz.prog 16 #[.int .i64 v, .slice a len cap] w (DecIt w v (zs.take len)) := by
  have hl : (zs.take len).length = len := by rw [List.length_take]; have := hrow.1; omega
  have hr := row_take hrow (Nat.le_refl len)
  have hb' := bytes_take hb len
  by_cases h1 : len < 12
  · exact dec_short v a len cap _ w hrow.2.1 hl h1
  · by_cases h2 : cap = 12
    · obtain rfl : len = 12 := by omega
      subst h2
      exact dec_edge v a _ w ht hb' hr hl
    · obtain ⟨M, rfl⟩ : ∃ M, len = M + 12 := ⟨len - 12, by omega⟩
      obtain ⟨C, rfl⟩ : ∃ C, cap = C + 12 := ⟨cap - 12, by omega⟩
      exact dec_main v a M C _ w ht hb' hr hl hcap (by omega) hcm (by omega)
end Go.Proofs.YtdonkmkjblofpaaGreatDoor.Sn
/-! ## Nd -/
namespace Go.Proofs.YtdonkmkjblofpaaGreatDoor.Sn
open Go.RowKit Go.Sort Dx Sx Dk Wl
set_option linter.unusedVariables false
set_option linter.unusedSimpArgs false
def drf : List UInt8 := [100, 114, 97, 102, 116]
def rmS (v : Int) : List Int → St → Int × St
  | [], S => (0, S)
  | x :: r, S => if x = v then rmS v r S else if (removeS (snm x) S).1 ≠ 0 then removeS (snm x) S else rmS v r (removeS (snm x) S).2
def clS (S : St) : Int × St := if drf ∈ namesL S then removeS drf S else (0, S)
def wdS (b : List Int) (S : St) : Int × St :=
  if (clS S).1 ≠ 0 then clS S else
  if (appendS drf b (clS S).2).1 ≠ 0 then appendS drf b (clS S).2 else syncS drf (appendS drf b (clS S).2).2
def saveS (v : Int) (l : List Int) (S : St) : Int × St :=
  if snm v = [] then (1, S) else if 1048564 < l.length then (3, S) else if S.down then (20, S) else
  if (wdS (encN (u32N v) l) S).1 ≠ 0 then wdS (encN (u32N v) l) S else
  if (renameS drf (snm v) (wdS (encN (u32N v) l) S).2).1 ≠ 0 then renameS drf (snm v) (wdS (encN (u32N v) l) S).2 else
  rmS v (numsL snm (namesL (renameS drf (snm v) (wdS (encN (u32N v) l) S).2).2)) (renameS drf (snm v) (wdS (encN (u32N v) l) S).2).2
/-! ### slices.Index, slices.Contains -/
def IndIt (w : World) (P : Prop) (e : Ending) (w' : World) : Prop := ∃ r : Int, e = .returned (.int .i64 r) ∧ (0 ≤ r ↔ P) ∧ w = w'
theorem index_any {N : Nat} {w : World} {ad : Option Addr} {cap : Nat} {L : List (List UInt8)} (x : ByteArray) (h : NmOk N w ad L) (hq : L.length ≤ 1048576) :
    Calls Tryz.prog 100 #[.slice ad L.length cap, .string x] w (IndIt w (x.toList ∈ L)) := by
  obtain ⟨q, hq'⟩ : ∃ q, L.length = q := ⟨_, rfl⟩
  rw [hq'] at hq ⊢
  have H := Lib.hid h; have HQ := Lib.hid hq'
  obtain ⟨X, hX⟩ : ∃ X, x.toList = X := ⟨_, rfl⟩
  rw [hX]
  clear h hq'
  go_enter Tryz.func100, Tryz.ntmps100
  go_wp2_with fail
  go_loopg [8] q (fun m i wr => ∃ j : Nat, j + m = q ∧ i = .int .i64 (j : Int) ∧ Hid (∀ k, k < j → L.getD k [] ≠ X) ∧ w = wr)
  case atStart => exact ⟨0, by omega, rfl, Lib.hid fun k hk => absurd hk (Nat.not_lt_zero _), rfl⟩
  case round =>
    obtain ⟨j, hj, rfl, HI, rfl⟩ := hrel
    by_cases hlt : j < q
    · have hjl : j < L.length := by rw [HQ.out]; exact hlt
      obtain ⟨g, rfl, c⟩ := nm_cell (b := 0) (off := 0) H.out hjl
      have i0 : (0 : Int) ≤ (j : Int) := by omega
      have i1 : (j : Int) < (q : Int) := by omega
      have hv : (nmV L j).toList = L.getD j [] := by rw [ByteArray.toList_eq, nmV_list]
      obtain ⟨V, hV⟩ : ∃ V, nmV L j = V := ⟨_, rfl⟩
      rw [hV] at c hv
      by_cases he : L.getD j [] = X
      · have t1 : (X == V.toList) = true := by rw [hv, he]; simp
        have D : Hid (IndIt w (X ∈ L) (.returned (.int .i64 (j : Int))) w) := Lib.hid ⟨(j : Int), rfl, ⟨fun _ => by
          rw [← he]; simp only [List.getD, List.getElem?_eq_getElem hjl, Option.getD_some]; exact List.getElem_mem hjl, fun _ => by omega⟩, rfl⟩
        clear hjl hv hV he
        go_wp2
        go_ret
        exact D.out
      · have t1 : (X == V.toList) = false := by rw [hv]; simpa using fun e => he e.symm
        have HI2 : Hid (∀ k, k < j + 1 → L.getD k [] ≠ X) := Lib.hid fun k hk => by
          rcases Nat.lt_succ_iff_lt_or_eq.1 hk with hk | rfl
          · exact HI.out k hk
          · exact he
        clear hjl hv hV he
        go_wp2
        go_roundg (q - (j + 1))
        case measure => omega
        case rel => exact ⟨j + 1, by omega, by first | rfl | go_num, HI2, rfl⟩
    · obtain rfl : j = q := by omega
      have D : Hid (IndIt w (X ∈ L) (.returned (.int .i64 (-1))) w) := Lib.hid ⟨-1, rfl, ⟨fun h => absurd h (by decide), fun h => by
        obtain ⟨k, hk, e⟩ := List.mem_iff_getElem.1 h
        have := HI.out k (by rw [← HQ.out]; exact hk)
        simp only [List.getD, List.getElem?_eq_getElem hk, Option.getD_some] at this
        exact absurd e this⟩, rfl⟩
      go_wp2
      go_ret
      exact D.out
theorem contains_any {N : Nat} {w : World} {ad : Option Addr} {cap : Nat} {L : List (List UInt8)} (x : ByteArray) (h : NmOk N w ad L) (hq : L.length ≤ 1048576) :
    Calls Tryz.prog 86 #[.slice ad L.length cap, .string x] w fun e w' => e = .returned (.bool (decide (x.toList ∈ L))) ∧ w = w' := by
  have IN := Lib.hid (index_any (cap := cap) x h hq)
  obtain ⟨p, hp⟩ : ∃ p, decide (x.toList ∈ L) = p := ⟨_, rfl⟩
  have HP : Hid (∀ r : Int, (0 ≤ r ↔ x.toList ∈ L) → decide (0 ≤ r) = p) := Lib.hid fun r hr => by rw [← hp]; exact decide_eq_decide.2 hr
  rw [hp]
  obtain ⟨q, hq'⟩ : ∃ q, L.length = q := ⟨_, rfl⟩
  rw [hq'] at IN ⊢
  clear h hq hp hq'
  go_enter Tryz.func86, Tryz.ntmps86
  go_wp2_with fail
  refine IN.out.mono ?_
  rintro e w1 ⟨r, rfl, hr, rfl⟩
  have t1 := HP.out r hr
  have t2 : decide (r ≥ 0) = p := t1
  have HT := Lib.hid t2
  clear hr t1 t2 HP IN
  go_wp2
  go_ret
  exact ⟨by rw [← HT.out] <;> rfl, rfl⟩
end Go.Proofs.YtdonkmkjblofpaaGreatDoor.Sn
/-! ## Ne -/
namespace Go.Proofs.YtdonkmkjblofpaaGreatDoor.Sn
open Go.RowKit Go.Sort Dx Sx Dk Wl
set_option linter.unusedVariables false
set_option linter.unusedSimpArgs false
theorem did_of {w w1 w' : World} {O O1 : Nat → Prop} {d : Nat} {x y : Int × St} {e : Ending} (st : Step w O w1 O1) (h : Did w1 O1 d y e w') (he : y = x) : Did w O d x e w' := by
  subst he
  obtain ⟨h1, O2, h2, h3⟩ := h
  exact ⟨h1, O2, st.trans h2, h3⟩
theorem step_bel {w w' : World} {O : Nat → Prop} (h : Below w.heap.size w w') : Step w O w' O := Step.of (Turned.of_below h)
theorem did_end {w w' : World} {O O' : Nat → Prop} {d : Nat} {x : Int × St} {r : Int} {S : St} (st : Step w O w' O') (h : IsDisk w' O' d S) (he : (r, S) = x) : Did w O d x (.returned (.int .i64 r)) w' := by
  subst he; exact ⟨rfl, O', st, h⟩
def drB : ByteArray := ⟨#[100, 114, 97, 102, 116]⟩
theorem drB_data : drB.data.toList = drf := rfl
theorem drB_list : drB.toList = drf := by rw [ByteArray.toList_eq]; rfl
theorem drB_size : drB.size ≤ maxLen := by decide
set_option maxRecDepth 100000 in
set_option maxHeartbeats 800000 in
theorem draft_any {w : World} {O : Nat → Prop} {d : Nat} {S : St} (hd : IsDisk w O d S) (a : Option Addr) (len cap : Nat) (zs : List Int) (hrow : Fr.HasRow .u8 w a len zs) (hn : a = none → cap = 0) (hlb : len ≤ 140737488355328) (hgo : ∀ x, a = some x → x.block < w.heap.size ∧ ¬ O x.block) :
    Calls Tryz.prog 64 #[.pointer (some ⟨d, 0, none⟩), .slice a len cap] w (Did w O d (wdS (zs.take len) S)) := by
  have few := few_names hd.good
  have NH := Lib.hid (names_hi (N := w.heap.size) hd (Nat.le_refl _))
  obtain ⟨L, hL⟩ : ∃ L, namesL S = L := ⟨_, rfl⟩
  rw [hL] at NH few
  have HR := Lib.hid hrow; have HN := Lib.hid hn; have HG := Lib.hid hgo; have HL := Lib.hid hL; have HD := Lib.hid hd
  have RW : Hid (∀ wx Ox, Step w O wx Ox → Fr.HasRow .u8 wx a len zs) := Lib.hid fun wx Ox st => ⟨HR.out.1, HR.out.2.1, fun h0 => by
    obtain ⟨b, off, e, hc⟩ := HR.out.2.2 h0
    refine ⟨b, off, e, fun j hj => ?_⟩
    obtain ⟨g1, g2⟩ := HG.out _ e
    have := st.block b g1 g2
    have hc' := hc j hj
    unfold World.cell? at hc' ⊢
    rw [this]; exact hc'⟩
  have AP : Hid (∀ wx Ox Sx, Step w O wx Ox → IsDisk wx Ox d Sx → Calls Tryz.prog 26 #[.pointer (some ⟨d, 0, none⟩), .string drB, .slice a len cap] wx (Did wx Ox d (appendS drf (zs.take len) Sx))) := Lib.hid fun wx Ox Sx st hx => append_disk hx drB drB_size a len cap zs (RW.out wx Ox st) HN.out hlb
  have SY : Hid (∀ wx Ox Sx, IsDisk wx Ox d Sx → Calls Tryz.prog 28 #[.pointer (some ⟨d, 0, none⟩), .string drB] wx (Did wx Ox d (syncS drf Sx))) := Lib.hid fun wx Ox Sx hx => sync_disk hx drB drB_size
  have RM : Hid (∀ wx Ox Sx, IsDisk wx Ox d Sx → Calls Tryz.prog 87 #[.pointer (some ⟨d, 0, none⟩), .string drB] wx (Did wx Ox d (removeS drf Sx))) := Lib.hid fun wx Ox Sx hx => remove_disk hx drB drB_size
  have CN : Hid (∀ wx ad cp, NmOk w.heap.size wx ad L → Calls Tryz.prog 86 #[.slice ad L.length cp, .string drB] wx fun e w' => e = .returned (.bool (decide (drf ∈ L))) ∧ wx = w') := Lib.hid fun wx ad cp h => by
    have := contains_any (cap := cp) drB h (by omega)
    rw [drB_list] at this; exact this
  obtain ⟨q, hq⟩ : ∃ q, L.length = q := ⟨_, rfl⟩
  obtain ⟨bsl, hbl⟩ : ∃ bsl, zs.take len = bsl := ⟨_, rfl⟩
  rw [hq] at NH CN
  rw [hbl] at AP ⊢
  obtain ⟨Z, hW⟩ : ∃ Z, wdS bsl S = Z := ⟨_, rfl⟩
  rw [hW]
  unfold wdS clS at hW
  rw [hL] at hW
  have HW := Lib.hid hW
  clear hrow hn hgo hL hd few hq hbl hlb hW
  -- what follows the draft's removal
  have REST : Hid (∀ w2 O2 S2, Step w O w2 O2 → IsDisk w2 O2 d S2 → True) := Lib.hid fun _ _ _ _ _ => trivial
  by_cases hin : drf ∈ L
  · have t1 : decide (drf ∈ L) = true := decide_eq_true hin
    obtain ⟨r1, S1, hr1⟩ : ∃ r1 S1, removeS drf S = (r1, S1) := ⟨_, _, rfl⟩
    have hw1 := HW.out
    rw [if_pos hin, hr1] at hw1
    dsimp only at hw1
    have HW1 := Lib.hid hw1
    rw [t1] at CN
    clear hw1 HW hin t1
    go_enter Tryz.func64, Tryz.ntmps64
    go_wp2_with fail
    refine NH.out.mono ?_
    rintro e w1 ⟨ad1, cp1, rfl, _, _, nm1, hb1⟩
    have CN1 := Lib.hid (CN.out w1 ad1 cp1 nm1)
    have B1 := Lib.hid hb1
    clear nm1 hb1 CN NH
    go_wp2_with fail
    refine CN1.out.mono ?_
    rintro e w2 ⟨rfl, rfl⟩
    have RM1 := Lib.hid (RM.out w1 O S (HD.out.below B1.out))
    rw [hr1] at RM1
    clear CN1 hr1 RM
    go_wp2_with fail
    refine RM1.out.mono ?_
    rintro e w2 ⟨rfl, O2, st2, hd2⟩
    have ST2 := Lib.hid ((step_bel B1.out).trans st2); have HD2 := Lib.hid hd2
    clear st2 hd2 RM1
    by_cases hz : r1 = 0
    · subst hz
      have hw1 := HW1.out
      rw [if_neg (by decide)] at hw1
      obtain ⟨r2, S2, hr2⟩ : ∃ r2 S2, appendS drf bsl S1 = (r2, S2) := ⟨_, _, rfl⟩
      rw [hr2] at hw1
      dsimp only at hw1
      have AP2 := Lib.hid (AP.out w2 O2 S1 ST2.out HD2.out)
      rw [hr2] at AP2
      have HW2 := Lib.hid hw1
      clear hw1 HW1 hr2 AP
      go_wp2_with fail
      refine AP2.out.mono ?_
      rintro e w3 ⟨rfl, O3, st3, hd3⟩
      have ST3 := Lib.hid (ST2.out.trans st3); have HD3 := Lib.hid hd3
      clear st3 hd3 AP2 ST2 HD2
      by_cases hz : r2 = 0
      · subst hz
        have hw1 := HW2.out
        rw [if_neg (by decide)] at hw1
        have SY3 := Lib.hid (SY.out w3 O3 S2 HD3.out)
        have HW3 := Lib.hid hw1
        clear hw1 HW2 SY
        go_wp2_with fail
        refine SY3.out.mono ?_
        rintro e w4 hdid
        have D := Lib.hid (did_of ST3.out hdid HW3.out)
        obtain ⟨rfl, _⟩ := hdid
        go_wp2
        go_ret
        exact D.out
      · have hw1 := HW2.out
        rw [if_pos hz] at hw1
        have D := Lib.hid (did_end ST3.out HD3.out hw1)
        have t2 : (r2 != 0) = true := by simpa using hz
        have t3 : (r2 == 0) = false := by simpa using hz
        clear hw1 hz
        go_wp2
        go_ret
        exact D.out
    · have hw1 := HW1.out
      rw [if_pos hz] at hw1
      have D := Lib.hid (did_end ST2.out HD2.out hw1)
      have t2 : (r1 != 0) = true := by simpa using hz
      have t3 : (r1 == 0) = false := by simpa using hz
      clear hw1 hz
      go_wp2
      go_ret
      exact D.out
  · have t1 : decide (drf ∈ L) = false := decide_eq_false hin
    have hw1 := HW.out
    rw [if_neg hin] at hw1
    dsimp only at hw1
    rw [if_neg (by decide)] at hw1
    obtain ⟨r2, S2, hr2⟩ : ∃ r2 S2, appendS drf bsl S = (r2, S2) := ⟨_, _, rfl⟩
    rw [hr2] at hw1
    dsimp only at hw1
    have HW2 := Lib.hid hw1
    rw [t1] at CN
    clear hw1 HW hin t1
    go_enter Tryz.func64, Tryz.ntmps64
    go_wp2_with fail
    refine NH.out.mono ?_
    rintro e w1 ⟨ad1, cp1, rfl, _, _, nm1, hb1⟩
    have CN1 := Lib.hid (CN.out w1 ad1 cp1 nm1)
    have B1 := Lib.hid hb1
    clear nm1 hb1 CN NH
    go_wp2_with fail
    refine CN1.out.mono ?_
    rintro e w2 ⟨rfl, rfl⟩
    have AP2 := Lib.hid (AP.out w1 O S (step_bel B1.out) (HD.out.below B1.out))
    rw [hr2] at AP2
    clear CN1 hr2 AP
    go_wp2_with fail
    refine AP2.out.mono ?_
    rintro e w3 ⟨rfl, O3, st3, hd3⟩
    have ST3 := Lib.hid ((step_bel B1.out).trans st3); have HD3 := Lib.hid hd3
    clear st3 hd3 AP2
    by_cases hz : r2 = 0
    · subst hz
      have hw1 := HW2.out
      rw [if_neg (by decide)] at hw1
      have SY3 := Lib.hid (SY.out w3 O3 S2 HD3.out)
      have HW3 := Lib.hid hw1
      clear hw1 HW2 SY
      go_wp2_with fail
      refine SY3.out.mono ?_
      rintro e w4 hdid
      have D := Lib.hid (did_of ST3.out hdid HW3.out)
      obtain ⟨rfl, _⟩ := hdid
      go_wp2
      go_ret
      exact D.out
    · have hw1 := HW2.out
      rw [if_pos hz] at hw1
      have D := Lib.hid (did_end ST3.out HD3.out hw1)
      have t2 : (r2 != 0) = true := by simpa using hz
      have t3 : (r2 == 0) = false := by simpa using hz
      clear hw1 hz
      go_wp2
      go_ret
      exact D.out
/-! ### removeOthers -/
theorem snm_size (v : Int) : (bs (snm v)).size ≤ maxLen := by
  have : (snm v).length ≤ 10 := by
    unfold snm nameL; split
    · rw [lettN_length]; omega
    · simp
  rw [bs_size]; unfold maxLen; omega
theorem numbers_snm {w : World} {O : Nat → Prop} {d : Nat} {S : St} (hd : IsDisk w O d S) (ht : Tabs w) : Calls Tryz.prog 73 #[.pointer (some ⟨d, 0, none⟩), .func (.func 18) #[] #[]] w (NumsIt w (numsL snm (namesL S))) :=
  numbers_any hd ht 18 snm (enters_of Tryz.func18 (by kernel_rfl) rfl) fun v wx hb _ _ => name_any v wx (ht.keep hb)
theorem tabs_step {w w' : World} {O O' : Nat → Prop} (h : Tabs w) (st : Step w O w' O') (hgl : ∀ i, glob i → ¬ O i) : Tabs w' := tabs_turned h st.toTurned hgl
set_option maxRecDepth 100000 in
set_option maxHeartbeats 800000 in
theorem others_any {w : World} {O : Nat → Prop} {d : Nat} {S : St} (v : Int) (hd : IsDisk w O d S) (ht : Tabs w) (hgl : ∀ i, glob i → ¬ O i) :
    Calls Tryz.prog 66 #[.pointer (some ⟨d, 0, none⟩), .int .i64 v] w (Did w O d (rmS v (numsL snm (namesL S)) S)) := by
  have few := few_names hd.good
  have NU := Lib.hid (numbers_snm hd ht)
  have hlen := nums_len snm (namesL S)
  obtain ⟨L, hL⟩ : ∃ L, numsL snm (namesL S) = L := ⟨_, rfl⟩
  rw [hL] at NU hlen ⊢
  have HD := Lib.hid hd; have HT := Lib.hid ht; have GL := Lib.hid hgl
  have hLO : Hid (∀ i, O i → i < w.heap.size) := Lib.hid (disk_low hd)
  obtain ⟨q, hq⟩ : ∃ q, L.length = q := ⟨_, rfl⟩
  have hq16 : q ≤ 16 := by omega
  have HQ := Lib.hid hq
  obtain ⟨Z, hZ⟩ : ∃ Z, rmS v L S = Z := ⟨_, rfl⟩
  rw [hZ]
  have HZ := Lib.hid hZ
  unfold NumsIt at NU
  rw [hq] at NU
  clear hd ht hgl few hlen hL hq hZ
  go_enter Tryz.func66, Tryz.ntmps66
  go_wp2_with fail
  refine NU.out.mono ?_
  rintro e w1 ⟨ad, cap, rfl, hc1, hc2, hrow, had, hb1⟩
  have B1 := Lib.hid hb1; have ROW := Lib.hid hrow; have AD := Lib.hid had
  have HD1 := Lib.hid (HD.out.below hb1)
  clear hrow had hb1 NU
  go_wp2_with fail
  go_loopg [11] q (fun m i wr => ∃ (j : Nat) (Sj : St) (Oj : Nat → Prop), j + m = q ∧ i = .int .i64 (j : Int) ∧ Hid (Step w1 O wr Oj) ∧ Hid (IsDisk wr Oj d Sj) ∧ Hid (rmS v (L.drop j) Sj = Z))
  case atStart => exact ⟨0, S, O, by omega, rfl, Lib.hid (Step.refl _ _), HD1, Lib.hid (by rw [List.drop_zero]; exact HZ.out)⟩
  case round =>
    obtain ⟨j, Sj, Oj, hj, rfl, HS, HJ, HR⟩ := hrel
    by_cases hlt : j < q
    · have hjl : j < L.length := by rw [HQ.out]; exact hlt
      obtain ⟨b, off, rfl, hc⟩ := ROW.out.2.2 (by omega)
      obtain ⟨x, hx⟩ : ∃ x, L.getD j 0 = x := ⟨_, rfl⟩
      have hdrop : L.drop j = x :: L.drop (j + 1) := by
        rw [List.drop_eq_getElem_cons hjl, ← hx]; simp [List.getD, hjl]
      have hnb : ¬ O b := fun ho => by have := hLO.out _ ho; have := (AD.out _ rfl).1; simp at this; omega
      have hbl : b < w1.heap.size := (AD.out _ rfl).2
      have cj : wr.cell? ⟨b, off + j, none⟩ = some (.int .i64 x) := by
        have e1 := HS.out.block b hbl hnb
        have e2 := hc j hlt
        rw [hx] at e2
        unfold World.cell? at e2 ⊢
        rw [e1]; exact e2
      have i0 : (0 : Int) ≤ (j : Int) := by omega
      have i1 : (j : Int) < (q : Int) := by omega
      have i2 : (j : Int) < (cap : Int) := by omega
      have hz := HR.out
      rw [hdrop, rmS] at hz
      by_cases hv : x = v
      · have t1 : (x == v) = true := by simpa using hv
        rw [if_pos hv] at hz
        have HZ1 := Lib.hid hz
        clear hz hjl hc hx hdrop hnb hbl hv
        go_wp2_with fail
        go_roundg (q - (j + 1))
        case measure => omega
        case rel => exact ⟨j + 1, Sj, Oj, by omega, by first | rfl | go_num, HS, HJ, HZ1⟩
      · have t1 : (x == v) = false := by simpa using hv
        rw [if_neg hv] at hz
        have TBr := Lib.hid (tabs_step (HT.out.keep B1.out) HS.out GL.out)
        have RM : Hid (∀ wx, Below wr.heap.size wr wx → Calls Tryz.prog 87 #[.pointer (some ⟨d, 0, none⟩), .string (bs (snm x))] wx (Did wx Oj d (removeS (snm x) Sj))) := Lib.hid fun wx hb => remove_disk (HJ.out.below hb) (bs (snm x)) (snm_size x)
        obtain ⟨r1, S1, hr1⟩ : ∃ r1 S1, removeS (snm x) Sj = (r1, S1) := ⟨_, _, rfl⟩
        rw [hr1] at RM hz
        dsimp only at hz
        have HZ1 := Lib.hid hz
        have NM := Lib.hid (name_any x wr TBr.out)
        obtain ⟨R, hR⟩ : ∃ R, bs (snm x) = R := ⟨_, rfl⟩
        rw [hR] at NM RM
        clear hz hjl hc hx hdrop hnb hbl hr1 hv hR
        go_wp2_with fail
        refine NM.out.mono ?_
        rintro e w2 ⟨rfl, hb2⟩
        have RM2 := Lib.hid (RM.out w2 hb2)
        have B2 := Lib.hid hb2
        clear hb2 RM NM cj
        go_wp2_with fail
        refine RM2.out.mono ?_
        rintro e w3 ⟨rfl, O3, st3, hd3⟩
        have ST3 := Lib.hid ((HS.out.trans (step_bel B2.out)).trans st3); have HD3 := Lib.hid hd3
        clear st3 hd3 RM2
        by_cases hz : r1 = 0
        · subst hz
          have hw := HZ1.out
          rw [if_neg (by decide)] at hw
          have HW := Lib.hid hw
          clear hw
          go_wp2_with fail
          go_roundg (q - (j + 1))
          case measure => omega
          case rel => exact ⟨j + 1, S1, O3, by omega, by first | rfl | go_num, ST3, HD3, HW⟩
        · have hw := HZ1.out
          rw [if_pos hz] at hw
          have D := Lib.hid (did_end ((step_bel B1.out).trans ST3.out) HD3.out hw)
          have t2 : (r1 != 0) = true := by simpa using hz
          have t3 : (r1 == 0) = false := by simpa using hz
          clear hw hz
          go_wp2
          go_ret
          exact D.out
    · obtain rfl : j = q := by omega
      have hz := HR.out
      rw [List.drop_eq_nil_of_le (by rw [HQ.out]; exact Nat.le_refl _), rmS] at hz
      have D := Lib.hid (did_end ((step_bel B1.out).trans HS.out) HJ.out hz)
      clear hz
      go_wp2
      go_ret
      exact D.out
end Go.Proofs.YtdonkmkjblofpaaGreatDoor.Sn
/-! ## Nf -/
namespace Go.Proofs.YtdonkmkjblofpaaGreatDoor.Sn
open Go.RowKit Go.Sort Dx Sx Dk Wl
set_option linter.unusedVariables false
set_option linter.unusedSimpArgs false
theorem save_lens {len : Nat} (h : ¬ 1048564 < len) : ¬ ((len : Int) > 1048564) := by omega
theorem save_lens1 {len : Nat} (h : 1048564 < len) : ((len : Int) > 1048564) := by omega
set_option maxRecDepth 100000 in
set_option maxHeartbeats 800000 in
theorem save_any {w : World} {O : Nat → Prop} {d : Nat} {S : St} (v : Int) (hd : IsDisk w O d S) (ht : Tabs w) (hgl : ∀ i, glob i → ¬ O i) (a : Option Addr) (len cap : Nat) (zs : List Int) (hb : Bytes zs) (hrow : Fr.HasRow .u8 w a len zs) (hn : a = none → cap = 0) (hlen : len ≤ 140737488351232) :
    Calls Tryz.prog 30 #[.pointer (some ⟨d, 0, none⟩), .int .i64 v, .slice a len cap] w (Did w O d (saveS v (zs.take len) S)) := by
  have hzl : (zs.take len).length = len := by rw [List.length_take]; have := hrow.1; omega
  obtain ⟨Z, hZ⟩ : ∃ Z, saveS v (zs.take len) S = Z := ⟨_, rfl⟩
  rw [hZ]
  unfold saveS at hZ
  rw [hzl] at hZ
  have NM : Hid (∀ wx, Tabs wx → Calls Tryz.prog 18 #[.int .i64 v] wx fun e w' => e = .returned (.string (bs (snm v))) ∧ Below wx.heap.size wx w') := Lib.hid fun wx hx => name_any v wx hx
  have EN : Hid (∀ wx, Below w.heap.size w wx → Calls Tryz.prog 21 #[.int .i64 v, .slice a len cap] wx (CatIt wx (encN (u32N v) (zs.take len)))) := Lib.hid fun wx hx => encode_any v a len cap zs wx (ht.keep hx).crc hb (hrow.keep hx) hn hlen
  have DN : Hid (∀ wx, Below w.heap.size w wx → Calls Tryz.prog 63 #[.pointer (some ⟨d, 0, none⟩)] wx fun e w' => e = .returned (.bool S.down) ∧ wx = w') := Lib.hid fun wx hx => down_disk (hd.below hx)
  have RN : Hid (∀ wx Ox Sx, IsDisk wx Ox d Sx → Calls Tryz.prog 65 #[.pointer (some ⟨d, 0, none⟩), .string drB, .string (bs (snm v))] wx (Did wx Ox d (renameS drf (snm v) Sx))) := Lib.hid fun wx Ox Sx hx => rename_disk hx drB (bs (snm v)) drB_size (snm_size v)
  have HD := Lib.hid hd; have HT := Lib.hid ht; have GL := Lib.hid hgl
  have hnone := fun h : snm v = [] => bs_none h
  have hsome := fun h : snm v ≠ [] => bs_some h
  obtain ⟨R, hR⟩ : ∃ R, bs (snm v) = R := ⟨_, rfl⟩
  rw [hR] at NM RN hnone hsome
  have HZ := Lib.hid hZ
  have HLO : Hid (∀ i, O i → i < w.heap.size) := Lib.hid (disk_low hd)
  have hel : 0 < (encN (u32N v) (zs.take len)).length := by rw [enc_length]; omega
  have hel2 : ¬ 1048564 < len → (encN (u32N v) (zs.take len)).length ≤ 140737488355328 := fun h => by rw [enc_length, hzl]; omega
  obtain ⟨E, hE⟩ : ∃ E, encN (u32N v) (zs.take len) = E := ⟨_, rfl⟩
  rw [hE] at EN HZ hel hel2
  have HEL := Lib.hid hel
  have HZL := Lib.hid hel2
  clear hd ht hgl hrow hb hn hR hZ hzl hE hel hel2 hlen
  by_cases p1 : snm v = []
  · have t1 := hnone p1
    have hz := HZ.out
    rw [if_pos p1] at hz
    have HZ1 := Lib.hid hz
    clear hz hnone hsome p1
    go_enter Tryz.func30, Tryz.ntmps30
    go_wp2_with (go_at_call 18; (with_reducible refine (NM.out _ HT.out).mono ?_); rintro e w1 ⟨rfl, hb1⟩; have B1 := Lib.hid hb1; clear hb1)
    go_ret
    exact did_end (step_bel B1.out) (HD.out.below B1.out) HZ1.out
  have t1 := hsome p1
  have hz := HZ.out
  rw [if_neg p1] at hz
  by_cases p2 : 1048564 < len
  · have t2 := save_lens1 p2
    rw [if_pos p2] at hz
    have HZ1 := Lib.hid hz
    clear hz hnone hsome p1 p2
    go_enter Tryz.func30, Tryz.ntmps30
    go_wp2_with (go_at_call 18; (with_reducible refine (NM.out _ HT.out).mono ?_); rintro e w1 ⟨rfl, hb1⟩; have B1 := Lib.hid hb1; clear hb1)
    go_ret
    exact did_end (step_bel B1.out) (HD.out.below B1.out) HZ1.out
  have t2 := save_lens p2
  rw [if_neg p2] at hz
  have HP2 := Lib.hid (HZL.out p2)
  cases hdn : S.down with
  | true =>
    rw [if_pos hdn] at hz
    rw [hdn] at DN
    have HZ1 := Lib.hid hz
    clear hz hnone hsome p1 p2 hdn
    go_enter Tryz.func30, Tryz.ntmps30
    go_wp2_with (first | (go_at_call 18; (with_reducible refine (NM.out _ HT.out).mono ?_); rintro e w1 ⟨rfl, hb1⟩; have B1 := Lib.hid hb1; clear hb1) | (go_at_call 63; (with_reducible refine (DN.out _ B1.out).mono ?_); rintro e w2 ⟨rfl, rfl⟩))
    go_ret
    exact did_end (step_bel B1.out) (HD.out.below B1.out) HZ1.out
  | false =>
    rw [if_neg (by rw [hdn]; decide)] at hz
    rw [hdn] at DN
    have HZ1 := Lib.hid hz
    clear hz hnone hsome p1 p2 hdn HZ HZL
    go_enter Tryz.func30, Tryz.ntmps30
    go_wp2_with (first | (go_at_call 18; (with_reducible refine (NM.out _ HT.out).mono ?_); rintro e w1 ⟨rfl, hb1⟩; have B1 := Lib.hid hb1; clear hb1) | (go_at_call 63; (with_reducible refine (DN.out _ B1.out).mono ?_); rintro e w2 ⟨rfl, rfl⟩))
    refine (EN.out _ B1.out).mono ?_
    rintro e w2 ⟨ve, rfl, ho2, hb2⟩
    obtain ⟨g, cp, cur, rfl, hg1, hg2, _, _, _, _⟩ := Ob.own_block ho2 HEL.out
    obtain ⟨ad, cp', hv, hr2, hn2, _, _⟩ := Ob.own_row ho2
    simp only [Value.slice.injEq, true_and] at hv
    obtain ⟨rfl, rfl⟩ := hv
    have hbw : Below w.heap.size w w2 := B1.out.trans (hb2.mono B1.out.size)
    have hgo : ∀ x, some (⟨g, 0, none⟩ : Addr) = some x → x.block < w2.heap.size ∧ ¬ O x.block := fun x hx => by
      obtain rfl := Option.some.inj hx
      exact ⟨lt_of_heap hg2, fun ho => by have h1 : g < w.heap.size := HLO.out _ ho; have h2 := B1.out.size; omega⟩
    have WD := Lib.hid (draft_any (HD.out.below hbw) _ _ cp E hr2 hn2 HP2.out hgo)
    rw [List.take_length] at WD
    have B2 := Lib.hid hbw
    obtain ⟨r1, S1, hr1⟩ : ∃ r1 S1, wdS E S = (r1, S1) := ⟨_, _, rfl⟩
    rw [hr1] at WD
    have hz := HZ1.out
    rw [hr1] at hz
    dsimp only at hz
    have HZ2 := Lib.hid hz
    clear hz HZ1 hr1 ho2 hb2 hg1 hg2 hr2 hn2 hbw hgo EN DN
    go_wp2_with fail
    refine WD.out.mono ?_
    rintro e w3 ⟨rfl, O3, st3, hd3⟩
    have ST3 := Lib.hid ((step_bel B2.out).trans st3); have HD3 := Lib.hid hd3
    have TB3 := Lib.hid (tabs_step HT.out ((step_bel B2.out).trans st3) GL.out)
    clear st3 hd3 WD
    by_cases hz0 : r1 = 0
    · subst hz0
      have hz := HZ2.out
      rw [if_neg (by decide)] at hz
      obtain ⟨r2, S2, hr2⟩ : ∃ r2 S2, renameS drf (snm v) S1 = (r2, S2) := ⟨_, _, rfl⟩
      rw [hr2] at hz
      dsimp only at hz
      have HZ3 := Lib.hid hz
      have RN3 : Hid (∀ wx, Below w3.heap.size w3 wx → Calls Tryz.prog 65 #[.pointer (some ⟨d, 0, none⟩), .string drB, .string R] wx (Did wx O3 d (r2, S2))) := Lib.hid fun wx hx => by rw [← hr2]; exact RN.out wx O3 S1 (HD3.out.below hx)
      have NM3 := Lib.hid (NM.out w3 TB3.out)
      clear hz HZ2 hr2 RN NM
      go_wp2_with fail
      refine NM3.out.mono ?_
      rintro e w4 ⟨rfl, hb4⟩
      have RN4 := Lib.hid (RN3.out w4 hb4)
      have ST4 := Lib.hid (ST3.out.trans (step_bel hb4))
      clear hb4 RN3 NM3
      go_wp2_with fail
      refine RN4.out.mono ?_
      rintro e w5 ⟨rfl, O5, st5, hd5⟩
      have ST5 := Lib.hid (ST4.out.trans st5); have HD5 := Lib.hid hd5
      have TB5 := Lib.hid (tabs_step HT.out (ST4.out.trans st5) GL.out)
      have GL5 : Hid (∀ i, glob i → ¬ O5 i) := Lib.hid fun i hi ho => by
        rcases ST5.out.own i ho with h | h
        · exact GL.out i hi h
        · have := glob_lt HT.out i hi; omega
      clear st5 hd5 RN4
      by_cases hz0 : r2 = 0
      · subst hz0
        have hz := HZ3.out
        rw [if_neg (by decide)] at hz
        have OT := Lib.hid (others_any v HD5.out TB5.out GL5.out)
        have HZ4 := Lib.hid hz
        clear hz HZ3
        go_wp2_with fail
        refine OT.out.mono ?_
        rintro e w6 hdid
        have D := Lib.hid (did_of ST5.out hdid HZ4.out)
        obtain ⟨rfl, _⟩ := hdid
        go_wp2
        go_ret
        exact D.out
      · have hz := HZ3.out
        rw [if_pos hz0] at hz
        have D := Lib.hid (did_end ST5.out HD5.out hz)
        have t3 : (r2 != 0) = true := by simpa using hz0
        have t4 : (r2 == 0) = false := by simpa using hz0
        clear hz hz0
        go_wp2
        go_ret
        exact D.out
    · have hz := HZ2.out
      rw [if_pos hz0] at hz
      have D := Lib.hid (did_end ST3.out HD3.out hz)
      have t3 : (r1 != 0) = true := by simpa using hz0
      have t4 : (r1 == 0) = false := by simpa using hz0
      clear hz hz0
      go_wp2
      go_ret
      exact D.out
end Go.Proofs.YtdonkmkjblofpaaGreatDoor.Sn
/-! ## Ng -/
namespace Go.Proofs.YtdonkmkjblofpaaGreatDoor.Sn
open Go.RowKit Go.Sort Go.Shelf Dx Sx Dk Wl
attribute [local go_sem] Oper.semAt_some
set_option linter.unusedVariables false
set_option linter.unusedSimpArgs false
def upto {α : Type} (f : Nat → α) (k : Nat) : List α := (List.range k).map f
theorem upto_succ {α : Type} (f : Nat → α) (k : Nat) : upto f (k + 1) = upto f k ++ [f k] := by simp [upto, List.range_succ]
theorem upto_length {α : Type} (f : Nat → α) (k : Nat) : (upto f k).length = k := by simp [upto]
/-- What comes in round k: the index, the number there. -/
def bk (zs : List Int) (k : Nat) : Int × Int := ((zs.length : Int) - 1 - (k : Int), zs.getD (zs.length - 1 - k) 0)
set_option maxRecDepth 100000 in
set_option maxHeartbeats 2000000 in
theorem back1_in (F : Fence) (n : Nat) (h7 : F.fn 89) (hro : F.round = none) (hn : 1 ≤ n) (l Bs n₀ : Nat) (ad : Option Addr) (cap : Nat) (zs : List Int) (hq : zs.length ≤ 1048576) (hBn : Bs < n₀) (hb : ∀ x, ad = some x → x.block < n₀) (J Jx : List (Int × Int) → World → Prop)
    (hY : ∀ pre x W, J pre W → pre.length < zs.length → YieldAt F (n - 1) Tryz.prog l #[.int .i64 x.1, .int .i64 x.2] W fun e W' =>
      (e = .returned (.bool true) ∧ J (pre ++ [x]) W' ∧ Below n₀ W W') ∨ (e = .returned (.bool false) ∧ Jx (pre ++ [x]) W'))
    (W : World) (hBs : W.cell? ⟨Bs, 0, none⟩ = some (.slice ad zs.length cap)) (hrow : Fr.HasRow .i64 W ad zs.length zs) (h0 : J [] W) :
    CallsIn F n Tryz.prog 89 #[.func (.yield l) #[] #[], .pointer (some ⟨Bs, 0, none⟩)] W fun e W' => (∃ v, e = .returned v) ∧
      ((∃ ys, ys = upto (bk zs) zs.length ∧ J ys W') ∨ (∃ pre, (∃ k, k ≤ zs.length ∧ pre = upto (bk zs) k) ∧ Jx pre W')) := by
  obtain ⟨q, hq'⟩ : ∃ q, zs.length = q := ⟨_, rfl⟩
  have hbk : ∀ k, bk zs k = ((q : Int) - 1 - (k : Int), zs.getD (q - 1 - k) 0) := fun k => by unfold bk; rw [hq']
  rw [hq'] at hq hBs hrow hY ⊢
  have w1 : IntKind.i64.wrap ((q : Int) - 1) = (q : Int) - 1 := IntWalk.i64_in _ (by omega)
  have w2 : RowKit.wrap64 ((q : Int) - 1) = (q : Int) - 1 := IntWalk.wrap64_in _ (by omega)
  refine callsIn_of_wp Tryz.func89 rfl h7 ?_ hro
  simp only [Tryz.ntmps89, List.size_toArray, List.length_cons, List.length_nil, Nat.reduceAdd, Nat.reduceSub, Array.replicate_succ, Array.replicate_zero, List.push_toArray, List.append_toArray, List.nil_append, List.cons_append]
  gi_wp2
  gi_loopw [3] (fun i wr => ∃ k : Nat, k ≤ q ∧ i = .int .i64 ((q : Int) - 1 - (k : Int)) ∧ J (upto (bk zs) k) wr ∧ Below n₀ W wr)
    (fun i _ => (intOf i + 1).toNat)
  case atStart => exact ⟨0, Nat.zero_le _, by simp, h0, Below.refl _ _⟩
  case round =>
    obtain ⟨k, hk, rfl, hJs, hnx⟩ := hrel
    have hBr : wr.cell? ⟨Bs, 0, none⟩ = some (.slice ad q cap) := (hnx.cell (p := ⟨Bs, 0, none⟩) hBn).trans hBs
    by_cases hlt : k < q
    · obtain ⟨b, off, rfl, hc⟩ := hrow.2.2 (by omega)
      have hcx : wr.cell? ⟨b, off + (q - 1 - k), none⟩ = some (.int .i64 (zs.getD (q - 1 - k) 0)) := (hnx.cell (p := ⟨b, off + (q - 1 - k), none⟩) (show b < n₀ from hb ⟨b, off, none⟩ rfl)).trans (hc _ (by omega))
      obtain ⟨m, hm⟩ : ∃ m : Nat, q - 1 - k = m := ⟨_, rfl⟩
      have hmi : (q : Int) - 1 - (k : Int) = (m : Int) := by omega
      have hbk' := hbk k
      rw [hm, hmi] at hbk'
      rw [hm] at hcx
      rw [hmi]
      obtain ⟨z, hz⟩ : ∃ z, zs.getD m 0 = z := ⟨_, rfl⟩
      rw [hz] at hcx hbk'
      obtain ⟨fn, tmps, assign, body, hy, hR⟩ := hY _ ((m : Int), z) wr hJs (by rw [upto_length]; exact hlt)
      dsimp only at hy
      have i0 : (0 : Int) ≤ (m : Int) := by omega
      have i1 : (m : Int) < (q : Int) := by omega
      have w3 : IntKind.i64.wrap ((m : Int) - 1) = (m : Int) - 1 := IntWalk.i64_in _ (by omega)
      have w4 : RowKit.wrap64 ((m : Int) - 1) = (m : Int) - 1 := IntWalk.wrap64_in _ (by omega)
      have hm1 : m + k + 1 = q := by omega
      clear hmi hm hz
      gi_wp2
      refine hR.mono ?_
      rintro e W3 (⟨rfl, hJ3, hk3⟩ | ⟨rfl, hJx3⟩)
      · gi_wp2
        go_roundw
        case rel => exact ⟨k + 1, by omega, by congr 1 <;> omega, by rw [upto_succ, hbk']; exact hJ3, hnx.trans hk3⟩
        case measure => simp [intOf] <;> omega
      · gi_wp2
        refine bodyPost_ret (results_none rfl _ _ _) rfl ?_
        exact ⟨⟨_, rfl⟩, .inr ⟨_, ⟨k + 1, by omega, by rw [upto_succ, hbk']⟩, hJx3⟩⟩
    · obtain rfl : k = q := by omega
      have i0 : ¬ (0 : Int) ≤ (k : Int) - 1 - (k : Int) := by omega
      have i1 : ((k : Int) - 1 - (k : Int)) = -1 := by omega
      rw [i1]
      gi_wp2
      go_end0
      exact ⟨⟨_, rfl⟩, .inl hJs⟩
theorem back_in (F : Fence) (n : Nat) (h5 : F.fn 72) (hro : F.round = none) (a : Option Addr) (len cap : Nat) (w : World) :
    CallsIn F n Tryz.prog 72 #[.slice a len cap] w fun e w' => e = .returned (.func (.func 89) #[] #[.pointer (some ⟨w.heap.size, 0, none⟩)]) ∧ w' = w.alloc (.cells #[.slice a len cap] 98) := by
  refine callsIn_of_wp Tryz.func72 rfl h5 ?_ hro
  simp only [Tryz.ntmps72, List.size_toArray, List.length_cons, List.length_nil, Nat.reduceAdd, Nat.reduceSub, Array.replicate_succ, Array.replicate_zero, List.push_toArray, List.append_toArray, List.nil_append, List.cons_append]
  gi_wp2
  go_ret
  exact ⟨rfl, rfl⟩
theorem back_stops (F : Fence) (n : Nat) (h7 : F.fn 89) (hro : F.round = none) (hn : 1 ≤ n) (Bs n₀ : Nat) (ad : Option Addr) (cap : Nat) (zs : List Int) (hq : zs.length ≤ 1048576) (w : World) (hBs : Bs < n₀) (hn₀ : n₀ ≤ w.heap.size) (hb : ∀ x, ad = some x → x.block < n₀)
    (hc : w.cell? ⟨Bs, 0, none⟩ = some (.slice ad zs.length cap)) (hI : Fr.HasRow .i64 w ad zs.length zs) :
    SeqStopsK F n Tryz.prog 89 #[.pointer (some ⟨Bs, 0, none⟩)] (fun x : Int × Int => #[Value.int .i64 x.1, Value.int .i64 x.2]) (Below n₀) (fun ys => ys = upto (bk zs) zs.length)
      (fun pre => ∃ k, k ≤ zs.length ∧ pre = upto (bk zs) k) zs.length w := fun l J Jx W hW _ _ hY h0 =>
  back1_in F n h7 hro hn l Bs n₀ ad cap zs hq hBs hb J Jx hY W ((hW.cell (p := ⟨Bs, 0, none⟩) (Nat.lt_of_lt_of_le hBs hn₀)).trans hc) (hI.keep hW) h0
end Go.Proofs.YtdonkmkjblofpaaGreatDoor.Sn
/-! ## Nh -/
namespace Go.Proofs.YtdonkmkjblofpaaGreatDoor.Sn
open Go.RowKit Go.Sort Go.Shelf Dx Sx Dk Wl
attribute [local go_sem] Oper.semAt_some
set_option linter.unusedVariables false
set_option linter.unusedSimpArgs false
/-- What Load makes of snapshot n; none: it goes on. -/
def step1 (S : St) (n : Int) : Option (Int × List Int × Int) :=
  if there (snm n) S ≠ 0 then some (0, [], there (snm n) S) else
  if (decS n (readL (snm n) S)).2 = 0 then some (n, (decS n (readL (snm n) S)).1, 0) else none
def findL (S : St) : List Int → Int × List Int × Int
  | [] => (-1, [], 0)
  | n :: r => match step1 S n with
    | some x => x
    | none => findL S r
def loadS (S : St) : Int × List Int × Int := if S.down then (0, [], 20) else findL S (numsL snm (namesL S)).reverse
def LoadIt (w : World) (R : Int × List Int × Int) (e : Ending) (w' : World) : Prop := ∃ x, e = .returned (.tuple #[.int .i64 R.1, x, .int .i64 R.2.2]) ∧ Ob.OwnB w' w.heap.size x R.2.1 ∧ Below w.heap.size w w'
theorem find_skip {S : St} : ∀ (a b : List Int), (∀ n ∈ a, step1 S n = none) → findL S (a ++ b) = findL S b
  | [], _, _ => rfl
  | n :: a, b, h => by
    rw [List.cons_append, findL, h n (by simp)]
    exact find_skip a b fun m hm => h m (by simp [hm])
theorem find_none {S : St} (a : List Int) (h : ∀ n ∈ a, step1 S n = none) : findL S a = (-1, [], 0) := by
  have := find_skip a [] h
  rw [List.append_nil] at this; exact this
theorem back_rev (zs : List Int) : zs.reverse = (upto (bk zs) zs.length).map Prod.snd := by
  apply List.ext_getElem
  · simp [upto]
  · intro i h1 h2
    have hi : i < zs.length := by simpa using h1
    simp [upto, bk, List.getD, List.getElem_reverse, show zs.length - 1 - i < zs.length by omega]
theorem back_split (zs : List Int) {k : Nat} (hk : k < zs.length) : ∃ r, zs.reverse = (upto (bk zs) k).map Prod.snd ++ (bk zs k).2 :: r := by
  rw [back_rev]
  refine ⟨((upto (bk zs) zs.length).map Prod.snd).drop (k + 1), ?_⟩
  have h1 : (upto (bk zs) k).map Prod.snd ++ [(bk zs k).2] = ((upto (bk zs) zs.length).map Prod.snd).take (k + 1) := by
    have : upto (bk zs) (k + 1) = (upto (bk zs) zs.length).take (k + 1) := by
      unfold upto; rw [← List.map_take, List.take_range, Nat.min_eq_left hk]
    rw [← List.map_take, ← this, upto_succ, List.map_append]; rfl
  have h2 := List.take_append_drop (k + 1) ((upto (bk zs) zs.length).map Prod.snd)
  rw [← h1, List.append_assoc] at h2
  exact h2.symm
/-- The results, where they lie. -/
structure Fin3 (B : Nat) (base : Nat) (R : Int × List Int × Int) (W : World) : Prop where
  c1 : W.cell? ⟨B + 1, 0, none⟩ = some (.int .i64 R.1)
  c2 : ∃ x, W.cell? ⟨B + 1 + 1, 0, none⟩ = some x ∧ Ob.OwnB W base x R.2.1
  c3 : W.cell? ⟨B + 1 + 1 + 1, 0, none⟩ = some (.int .i64 R.2.2)
theorem ownB_turn {W W' : World} {base : Nat} {x : Value} {l : List Int} {row : Option Nat} (h : Ob.OwnB W base x l) (hg : W.grownBy W' row) (hr : ∀ r, row = some r → ∃ o : Obj, W.heap[r]? = some o ∧ o.isCells = false) : Ob.OwnB W' base x l :=
  irow_move h fun g e => by
    obtain ⟨_, cur, hh⟩ := irow_kind h g e
    exact hg.block g (lt_of_heap hh) fun e' => by
      obtain ⟨o, ho, hc⟩ := hr g e'.symm
      rw [hh] at ho; cases ho; cases hc
theorem Fin3.turn {B base : Nat} {R : Int × List Int × Int} {W W' : World} {row : Option Nat} (h : Fin3 B base R W) (hg : W.grownBy W' row) (hr : ∀ r, row = some r → ∃ o : Obj, W.heap[r]? = some o ∧ o.isCells = false) : Fin3 B base R W' := by
  obtain ⟨h1, ⟨x, h2, h3⟩, h4⟩ := h
  exact ⟨cell_kept h1 hg hr, ⟨x, cell_kept h2 hg hr, ownB_turn h3 hg hr⟩, cell_kept h4 hg hr⟩
theorem bel_from {B : Nat} {W W' : World} (h : Below W.heap.size W W') : KeepsFrom B W W' := ⟨h.size, fun k o _ hk _ => (h.block k (Array.getElem?_eq_some_iff.1 hk).1).trans hk⟩
def BytesS (S : St) : Prop := ∀ f ∈ S.fs, f.nm ≠ drf → Bytes f.l
theorem snm_drf (v : Int) : snm v ≠ drf := by
  unfold snm nameL
  split
  · unfold lettN drf; simp
  · unfold drf; simp
theorem readL_bytes {S : St} (h : BytesS S) (v : Int) : Bytes (readL (snm v) S) := by
  unfold readL fileOf
  split
  · split
    · rename_i f hf; exact h f (look_some hf).1 (by rw [(look_some hf).2]; exact snm_drf v)
    · exact bytes_nil'
  · exact bytes_nil'
theorem readL_len {S : St} (h : Dk.Good S) (k : List UInt8) : (readL k S).length ≤ 1048576 := by
  unfold readL fileOf
  split
  · split
    · rename_i f hf; exact h.size f (look_some hf).1
    · simp
  · simp
theorem load_down {w : World} {O : Nat → Prop} {d : Nat} {S : St} (hd : IsDisk w O d S) (hdn : S.down = true) : Calls Tryz.prog 32 #[.pointer (some ⟨d, 0, none⟩)] w (LoadIt w (loadS S)) := by
  have hL : loadS S = (0, [], 20) := by unfold loadS; rw [if_pos hdn]
  rw [hL]
  have DN : Hid (∀ wx, Below w.heap.size w wx → Calls Tryz.prog 63 #[.pointer (some ⟨d, 0, none⟩)] wx fun e w' => e = .returned (.bool true) ∧ wx = w') := Lib.hid fun wx hx => by rw [← hdn]; exact down_disk (hd.below hx)
  clear hd hdn hL
  have HB : Hid (∀ a b c e, Below w.heap.size w ((((w.alloc a).alloc b).alloc c).alloc e)) := Lib.hid fun a b c e => ((((Below.refl _ _).alloc (Nat.le_refl _) _).alloc (by simp) _).alloc (by simp; omega) _).alloc (by simp; omega) _
  go_enter Tryz.func32, Tryz.ntmps32
  go_wp2_with (go_at_call 63; (with_reducible refine (DN.out _ (HB.out _ _ _ _)).mono ?_); rintro e w2 ⟨rfl, rfl⟩)
  exact bodyPost_ret (v := .tuple #[.int .i64 0, .slice none 0 0, .int .i64 20]) (by simp [results, Tryz.results32, go_sem]) rfl ⟨_, rfl, own_none _ _, HB.out _ _ _ _⟩
/-! ### Load, the power on -/
def W4 (w : World) (d : Nat) : World := (((w.alloc (.cells #[.pointer (some ⟨d, 0, none⟩)] 39)).alloc (.cells #[.int .i64 0] 3)).alloc (.cells #[.slice none 0 0] 22)).alloc (.cells #[.int .i64 0] 24)
/-- The four boxes. -/
structure Boxes (B d : Nat) (W : World) : Prop where
  b0 : W.heap[B]? = some (.cells #[.pointer (some ⟨d, 0, none⟩)] 39 (0, 0))
  b1 : W.heap[B + 1]? = some (.cells #[.int .i64 0] 3 (0, 0))
  b2 : W.heap[B + 1 + 1]? = some (.cells #[.slice none 0 0] 22 (0, 0))
  b3 : W.heap[B + 1 + 1 + 1]? = some (.cells #[.int .i64 0] 24 (0, 0))
theorem Boxes.lt {B d : Nat} {W : World} (h : Boxes B d W) : B + 4 ≤ W.heap.size := lt_of_heap h.b3
theorem Boxes.keep {B d : Nat} {W W' : World} (h : Boxes B d W) (hb : Below W.heap.size W W') : Boxes B d W' := by
  have := h.lt
  exact ⟨(hb.block _ (by omega)).trans h.b0, (hb.block _ (by omega)).trans h.b1, (hb.block _ (by omega)).trans h.b2, (hb.block _ (by omega)).trans h.b3⟩
theorem w4_size (w : World) (d : Nat) : (W4 w d).heap.size = w.heap.size + 4 := by simp [W4]
theorem w4_boxes (w : World) (d : Nat) : Boxes w.heap.size d (W4 w d) := by
  unfold W4
  constructor
  · exact (Below.heap_alloc _ _ _ (by simp <;> omega)).trans ((Below.heap_alloc _ _ _ (by simp <;> omega)).trans ((Below.heap_alloc _ _ _ (by simp)).trans (World.alloc_heap_new w _)))
  · refine (Below.heap_alloc _ _ _ (by simp <;> omega)).trans ((Below.heap_alloc _ _ _ (by simp)).trans ?_)
    have := World.alloc_heap_new (w.alloc (.cells #[.pointer (some ⟨d, 0, none⟩)] 39)) (.cells #[.int .i64 0] 3)
    simpa using this
  · refine (Below.heap_alloc _ _ _ (by simp)).trans ?_
    have := World.alloc_heap_new ((w.alloc (.cells #[.pointer (some ⟨d, 0, none⟩)] 39)).alloc (.cells #[.int .i64 0] 3)) (.cells #[.slice none 0 0] 22)
    simpa using this
  · have := World.alloc_heap_new (((w.alloc (.cells #[.pointer (some ⟨d, 0, none⟩)] 39)).alloc (.cells #[.int .i64 0] 3)).alloc (.cells #[.slice none 0 0] 22)) (.cells #[.int .i64 0] 24)
    simpa using this
theorem w4_below (w : World) (d : Nat) : Below w.heap.size w (W4 w d) := ((((Below.refl _ _).alloc (Nat.le_refl _) _).alloc (by simp) _).alloc (by simp; omega) _).alloc (by simp; omega) _
theorem fin3_store {w W : World} {d : Nat} {x : Value} {l : List Int} {base : Nat} (hbx : Boxes w.heap.size d W) (ho : Ob.OwnB W base x l) (hbase : w.heap.size + 4 ≤ base) (hw : Below w.heap.size w W) (n r : Int) (K : Nat) :
    Fin3 w.heap.size w.heap.size (n, l, r) (((W.setCell ⟨w.heap.size + 1, 0, none⟩ (.int .i64 n)).setCell ⟨w.heap.size + 1 + 1, 0, none⟩ x).setCell ⟨w.heap.size + 1 + 1 + 1, 0, none⟩ (.int .i64 r)) ∧
    Below w.heap.size w (((W.setCell ⟨w.heap.size + 1, 0, none⟩ (.int .i64 n)).setCell ⟨w.heap.size + 1 + 1, 0, none⟩ x).setCell ⟨w.heap.size + 1 + 1 + 1, 0, none⟩ (.int .i64 r)) ∧
    KeepsFrom K W (((W.setCell ⟨w.heap.size + 1, 0, none⟩ (.int .i64 n)).setCell ⟨w.heap.size + 1 + 1, 0, none⟩ x).setCell ⟨w.heap.size + 1 + 1 + 1, 0, none⟩ (.int .i64 r)) := by
  have hot := fun g (e : x.ownBlock = some g) => (irow_kind ho g e).1
  refine ⟨⟨?_, ⟨x, ?_, ?_⟩, ?_⟩, ((hw.setCell (p := ⟨w.heap.size + 1, 0, none⟩) (by show w.heap.size ≤ w.heap.size + 1; omega) _).setCell (p := ⟨w.heap.size + 1 + 1, 0, none⟩) (by show w.heap.size ≤ w.heap.size + 1 + 1; omega) _).setCell (p := ⟨w.heap.size + 1 + 1 + 1, 0, none⟩) (by show w.heap.size ≤ w.heap.size + 1 + 1 + 1; omega) _, (((KeepsOthers.setCell _ _ _).trans (KeepsOthers.setCell _ _ _)).trans (KeepsOthers.setCell _ _ _)).from _⟩
  · rw [World.cell?_setCell_far _ _ _ _ (by show w.heap.size + 1 + 1 + 1 ≠ w.heap.size + 1; omega), World.cell?_setCell_far _ _ _ _ (by show w.heap.size + 1 + 1 ≠ w.heap.size + 1; omega)]
    exact World.cell?_setCell_same _ _ _ (Joins.cell_of_block hbx.b1 0)
  · rw [World.cell?_setCell_far _ _ _ _ (by show w.heap.size + 1 + 1 + 1 ≠ w.heap.size + 1 + 1; omega)]
    exact World.cell?_setCell_same _ _ _ (by rw [World.cell?_setCell_far _ _ _ _ (by show w.heap.size + 1 ≠ w.heap.size + 1 + 1; omega)]; exact Joins.cell_of_block hbx.b2 0)
  · refine ⟨ho.1, ?_⟩
    have hm := irow_move ho (w' := ((W.setCell ⟨w.heap.size + 1, 0, none⟩ (.int .i64 n)).setCell ⟨w.heap.size + 1 + 1, 0, none⟩ x).setCell ⟨w.heap.size + 1 + 1 + 1, 0, none⟩ (.int .i64 r)) fun g e => by
      have := hot g e
      rw [Below.heap_setCell _ _ _ _ (by show g ≠ w.heap.size + 1 + 1 + 1; omega), Below.heap_setCell _ _ _ _ (by show g ≠ w.heap.size + 1 + 1; omega), Below.heap_setCell _ _ _ _ (by show g ≠ w.heap.size + 1; omega)]
    exact hm.2.imp id fun ⟨g, cap, cur, y1, y2, y3⟩ => ⟨g, cap, cur, y1, by omega, y3⟩
  · exact World.cell?_setCell_same _ _ _ (by rw [World.cell?_setCell_far _ _ _ _ (by show w.heap.size + 1 + 1 ≠ w.heap.size + 1 + 1 + 1; omega), World.cell?_setCell_far _ _ _ _ (by show w.heap.size + 1 ≠ w.heap.size + 1 + 1 + 1; omega)]; exact Joins.cell_of_block hbx.b3 0)
theorem own_step1 {S : St} : True := trivial
set_option maxRecDepth 100000 in
set_option maxHeartbeats 2000000 in
theorem load_up {w : World} {O : Nat → Prop} {d : Nat} {S : St} (hd : IsDisk w O d S) (ht : Tabs w) (hup : S.down = false) (hby : BytesS S) : Calls Tryz.prog 32 #[.pointer (some ⟨d, 0, none⟩)] w (LoadIt w (loadS S)) := by
  have few := few_names hd.good
  have hlen := nums_len snm (namesL S)
  have NU : Hid (∀ wx, Below w.heap.size w wx → Calls Tryz.prog 73 #[.pointer (some ⟨d, 0, none⟩), .func (.func 18) #[] #[]] wx (NumsIt wx (numsL snm (namesL S)))) := Lib.hid fun wx hx => numbers_snm (hd.below hx) (ht.keep hx)
  have hL : loadS S = findL S (numsL snm (namesL S)).reverse := by unfold loadS; rw [if_neg (by rw [hup]; decide)]
  rw [hL]
  obtain ⟨L, hLL⟩ : ∃ L, numsL snm (namesL S) = L := ⟨_, rfl⟩
  rw [hLL] at NU hlen ⊢
  have hq : L.length ≤ 16 := by omega
  have DN : Hid (∀ wx, Below w.heap.size w wx → Calls Tryz.prog 63 #[.pointer (some ⟨d, 0, none⟩)] wx fun e w' => e = .returned (.bool false) ∧ wx = w') := Lib.hid fun wx hx => by rw [← hup]; exact down_disk (hd.below hx)
  have NM : Hid (∀ (v : Int) wx, Below w.heap.size w wx → Calls Tryz.prog 18 #[.int .i64 v] wx fun e w' => e = .returned (.string (bs (snm v))) ∧ Below wx.heap.size wx w') := Lib.hid fun v wx hx => name_any v wx (ht.keep hx)
  have RD : Hid (∀ (v : Int) wx, Below w.heap.size w wx → Calls Tryz.prog 74 #[.pointer (some ⟨d, 0, none⟩), .string (bs (snm v))] wx (ReadIt wx (snm v) S)) := Lib.hid fun v wx hx => read_disk (hd.below hx) (bs (snm v)) (snm_size v)
  have DE : Hid (∀ (v : Int) wx ad cap, Below w.heap.size w wx → (readL (snm v) S).length ≤ cap → cap ≤ maxLen → Fr.HasRow .u8 wx ad (readL (snm v) S).length (readL (snm v) S) → Calls Tryz.prog 16 #[.int .i64 v, .slice ad (readL (snm v) S).length cap] wx (DecIt wx v (readL (snm v) S))) := Lib.hid fun v wx ad cap hx h1 h2 hr => by
    have := decode_any v ad _ cap _ wx (ht.keep hx) (readL_bytes hby _) hr h1 (by unfold maxLen at h2; exact h2) (by have := readL_len hd.good (snm v); omega)
    rw [List.take_length] at this; exact this
  have HW4 := Lib.hid (w4_below w d); have HB4 := Lib.hid (w4_boxes w d)
  have k0 : (W4 w d).cell? ⟨w.heap.size, 0, none⟩ = some (.pointer (some ⟨d, 0, none⟩)) := Joins.cell_of_block (w4_boxes w d).b0 0
  clear few hlen hd ht hup hby hL hLL
  refine (callsIn_wide (n := 4)).1 ?_
  refine callsIn_of_wp_marks Tryz.func32 rfl trivial ?_ rfl
  simp only [Tryz.ntmps32, List.size_toArray, List.length_cons, List.length_nil, Nat.reduceAdd, Nat.reduceSub, Array.replicate_succ, Array.replicate_zero, List.push_toArray, List.append_toArray, List.nil_append, List.cons_append]
  gi_wp2_with (first | (refine ⟨trivial, ?_⟩; gi_at_call 63; refine (callsIn_wide.2 (DN.out _ HW4.out)).mono ?_; rintro e w2 ⟨rfl, rfl⟩) | (refine ⟨trivial, ?_⟩; gi_at_call 73; refine (callsIn_wide.2 (NU.out _ HW4.out)).mono ?_; rintro e w5 ⟨ad, cap, rfl, hc1, hc2, hrow, had, hb5⟩) | (refine ⟨trivial, ?_⟩; gi_at_call 72; refine (back_in _ _ trivial rfl _ _ _ _).mono ?_; rintro e w6 ⟨rfl, rfl⟩))
  obtain ⟨w6, hw6⟩ : ∃ w6, w5.alloc (.cells #[.slice ad L.length cap] 98) = w6 := ⟨_, rfl⟩
  have hb6 : Below w5.heap.size w5 w6 := by rw [← hw6]; exact (Below.refl _ _).alloc (Nat.le_refl _) _
  have hbx6 : Boxes w.heap.size d w6 := (HB4.out.keep hb5).keep hb6
  have hbw6 : Below w.heap.size w w6 := HW4.out.trans ((hb5.trans (hb6.mono hb5.size)).mono HW4.out.size)
  have hc6 : w6.cell? ⟨w5.heap.size, 0, none⟩ = some (.slice ad L.length cap) := by rw [← hw6, World.cell?_alloc_mark]; rfl
  have hs6 : w5.heap.size < w6.heap.size := by rw [← hw6]; simp
  have had6 : ∀ x, ad = some x → x.block < w6.heap.size := fun x hx => Nat.lt_of_lt_of_le (had x hx).2 hb6.size
  have hrow6 := hrow.keep hb6
  rw [hw6]
  have HBX := Lib.hid hbx6; have HBW := Lib.hid hbw6
  refine wpIn_rangeFunc_ownG rfl (by decide : 1 ≤ 4) (gf := 89) (lb := #[.pointer (some ⟨w5.heap.size, 0, none⟩)]) rfl trivial (enters_of Tryz.func89 (by kernel_rfl) rfl)
    (back_stops Fence.wide (4 - 1) trivial rfl (by decide) w5.heap.size w6.heap.size ad cap L (by omega) w6 hs6 (Nat.le_refl _) had6 hc6 hrow6) belowK_t (belowK_b (Nat.le_refl _)) (Below.refl _ _) (fun _ => rfl)
    (fun pre W => (∀ p ∈ pre, step1 S p.2 = none) ∧ Below w6.heap.size w6 W)
    (fun c pre W => (c = .ret ∧ ∃ ini last R, pre = ini ++ [last] ∧ (∀ p ∈ ini, step1 S p.2 = none) ∧ step1 S last.2 = some R ∧ Fin3 w.heap.size w.heap.size R W) ∧ Below w.heap.size w W)
    (OwnFrom.and (ownFrom_pure _ _) (ownFrom_below (Nat.le_refl _) (Nat.le_refl _)))
    (fun c => OwnFrom.and (Own.from (fun s A B row hs hg hr => by obtain ⟨h1, ini, last, R, h2, h3, h4, h5⟩ := hs; exact ⟨h1, ini, last, R, h2, h3, h4, h5.turn hg hr⟩) _) (ownFrom_below (Nat.le_refl _) hbw6.size))
    ⟨by simp, Below.refl _ _⟩
    ?a1 ?assign ?body ?done ?stop
  case assign =>
    intro l x W K hK
    gi_wp2
    exact hK
  case body =>
    rintro l pre x W ⟨hpre, hbW⟩ _
    have hbxW := HBX.out.keep hbW
    have hwW : Below w.heap.size w W := HBW.out.trans (hbW.mono HBW.out.size)
    have k1 : W.cell? ⟨w.heap.size, 0, none⟩ = some (.pointer (some ⟨d, 0, none⟩)) := Joins.cell_of_block hbxW.b0 0
    have hlt : w.heap.size < W.heap.size := by have := hbxW.lt; omega
    obtain ⟨Rn, hRn⟩ : ∃ Rn, bs (snm x.2) = Rn := ⟨_, rfl⟩
    obtain ⟨T, hT⟩ : ∃ T, there (snm x.2) S = T := ⟨_, rfl⟩
    obtain ⟨N, hN⟩ : ∃ N, (readL (snm x.2) S).length = N := ⟨_, rfl⟩
    obtain ⟨Dl, De, hDD⟩ : ∃ Dl De, decS x.2 (readL (snm x.2) S) = (Dl, De) := ⟨_, _, rfl⟩
    have hst : step1 S x.2 = if T ≠ 0 then some (0, [], T) else if De = 0 then some (x.2, Dl, 0) else none := by unfold step1; rw [hT, hDD]
    have NMx : Hid (∀ wx, Below W.heap.size W wx → Calls Tryz.prog 18 #[.int .i64 x.2] wx fun e w' => e = .returned (.string Rn) ∧ Below W.heap.size W w' ∧ w'.cell? ⟨w.heap.size, 0, none⟩ = some (.pointer (some ⟨d, 0, none⟩))) := Lib.hid fun wx hx => (NM.out x.2 wx (hwW.trans (hx.mono hwW.size))).mono fun e w' ⟨h1, h2⟩ => by
      have hb := hx.trans (h2.mono hx.size)
      exact ⟨by rw [h1, hRn], hb, (hb.cell hlt).trans k1⟩
    have RDx : Hid (∀ wx, Below W.heap.size W wx → Calls Tryz.prog 74 #[.pointer (some ⟨d, 0, none⟩), .string Rn] wx fun e w' => ∃ a c, e = .returned (.tuple #[.slice a N c, .int .i64 T]) ∧ Below W.heap.size W w' ∧ w'.cell? ⟨w.heap.size, 0, none⟩ = some (.pointer (some ⟨d, 0, none⟩)) ∧ Hid (∀ wy, Below w'.heap.size w' wy → Calls Tryz.prog 16 #[.int .i64 x.2, .slice a N c] wy fun e w'' => ∃ (y : Option Addr × Nat × Nat), e = .returned (.tuple #[.slice y.1 y.2.1 y.2.2, .int .i64 De]) ∧ Ob.OwnB w'' wy.heap.size (.slice y.1 y.2.1 y.2.2) Dl ∧ Below w'.heap.size w' w'')) := Lib.hid fun wx hx => by
      have h0 := RD.out x.2 wx (hwW.trans (hx.mono hwW.size))
      rw [hRn] at h0
      refine h0.mono fun e w' ⟨v, h1, h2, h3⟩ => ?_
      rw [hT] at h1
      obtain ⟨a, c, rfl, r1, _, r3, r4⟩ := Ob.own_row h2
      have hb := hx.trans (h3.mono hx.size)
      rw [hN] at h1 h2
      refine ⟨a, c, h1, hb, (hb.cell hlt).trans k1, Lib.hid fun wy hy => ?_⟩
      have hwy : Below w.heap.size w wy := hwW.trans ((hb.trans (hy.mono hb.size)).mono hwW.size)
      have := DE.out x.2 wy a c hwy r3 r4 (r1.keep hy)
      rw [hN] at this
      refine this.mono ?_
      rintro e w'' ⟨y, q1, q2, q3⟩
      rw [hDD] at q1 q2
      obtain ⟨ya, yc, rfl, _⟩ := Ob.own_row q2
      exact ⟨(ya, Dl.length, yc), q1, q2, hy.trans (q3.mono hy.size)⟩
    have hmx : Tryz.prog.follows .mixedOrders = true := by kernel_rfl
    clear NM RD DE DN NU hT hN hDD hRn
    by_cases hz : T = 0
    · subst hz
      rw [if_neg (by decide)] at hst
      by_cases he : De = 0
      · subst he
        rw [if_pos rfl] at hst
        gi_wp2
        gi_region_with_o (first | (refine ⟨trivial, ?_⟩; gi_at_call 18; refine (CallsIn.inRound l (callsIn_wide.2 (NMx.out _ (by first | assumption | exact Below.refl _ _ | exact (Below.refl _ _).drew | exact Below.drew (by assumption))))).mono ?_; rintro e w7 ⟨rfl, hb7, k7⟩) | (refine ⟨trivial, ?_⟩; gi_at_call 74; refine (CallsIn.inRound l (callsIn_wide.2 (RDx.out _ (by first | assumption | exact Below.refl _ _ | exact (Below.refl _ _).drew | exact Below.drew (by assumption))))).mono ?_; rintro e w8 ⟨a8, c8, rfl, hb8, k8, DC8⟩; have bx8 := hbxW.keep hb8; have c1 : w8.cell? ⟨w.heap.size + 1, 0, none⟩ = some (.int .i64 0) := Joins.cell_of_block bx8.b1 0; have c2 : w8.cell? ⟨w.heap.size + 1 + 1, 0, none⟩ = some (.slice none 0 0) := Joins.cell_of_block bx8.b2 0; have c3 : w8.cell? ⟨w.heap.size + 1 + 1 + 1, 0, none⟩ = some (.int .i64 0) := Joins.cell_of_block bx8.b3 0; have f1 : w8.frozen? ⟨w.heap.size + 1, 0, none⟩ = false := Joins.unfrozen_of_block bx8.b1 0; have f2 : w8.frozen? ⟨w.heap.size + 1 + 1, 0, none⟩ = false := Joins.unfrozen_of_block bx8.b2 0; have f3 : w8.frozen? ⟨w.heap.size + 1 + 1 + 1, 0, none⟩ = false := Joins.unfrozen_of_block bx8.b3 0))
        all_goals gi_wp2_with (refine ⟨trivial, ?_⟩; gi_at_call 16; refine (CallsIn.inRound l (callsIn_wide.2 (DC8.out _ (by first | assumption | exact Below.refl _ _ | exact (Below.refl _ _).drew | exact Below.drew (by assumption))))).mono ?_; rintro e w9 ⟨⟨a9, n9, c9⟩, rfl, ho9, hb9⟩; have bx9 := bx8.keep hb9; have c1 : w9.cell? ⟨w.heap.size + 1, 0, none⟩ = some (.int .i64 0) := Joins.cell_of_block bx9.b1 0; have c2 : w9.cell? ⟨w.heap.size + 1 + 1, 0, none⟩ = some (.slice none 0 0) := Joins.cell_of_block bx9.b2 0; have c3 : w9.cell? ⟨w.heap.size + 1 + 1 + 1, 0, none⟩ = some (.int .i64 0) := Joins.cell_of_block bx9.b3 0; have f1 : w9.frozen? ⟨w.heap.size + 1, 0, none⟩ = false := Joins.unfrozen_of_block bx9.b1 0; have f2 : w9.frozen? ⟨w.heap.size + 1 + 1, 0, none⟩ = false := Joins.unfrozen_of_block bx9.b2 0; have f3 : w9.frozen? ⟨w.heap.size + 1 + 1 + 1, 0, none⟩ = false := Joins.unfrozen_of_block bx9.b3 0)
        all_goals
          have hb89 := hb8.trans (hb9.mono hb8.size)
          obtain ⟨s1, s2, s3⟩ := fin3_store bx9 ho9 bx8.lt (hwW.trans (hb89.mono hwW.size)) x.2 0 w6.heap.size
          exact ⟨(bel_from hb89).trans s3, ⟨rfl, pre, x, _, rfl, hpre, hst, s1⟩, s2⟩
      · rw [if_neg he] at hst
        have t1 : (De == 0) = false := by simpa using he
        gi_wp2
        gi_region_with_o (first | (refine ⟨trivial, ?_⟩; gi_at_call 18; refine (CallsIn.inRound l (callsIn_wide.2 (NMx.out _ (by first | assumption | exact Below.refl _ _ | exact (Below.refl _ _).drew | exact Below.drew (by assumption))))).mono ?_; rintro e w7 ⟨rfl, hb7, k7⟩) | (refine ⟨trivial, ?_⟩; gi_at_call 74; refine (CallsIn.inRound l (callsIn_wide.2 (RDx.out _ (by first | assumption | exact Below.refl _ _ | exact (Below.refl _ _).drew | exact Below.drew (by assumption))))).mono ?_; rintro e w8 ⟨a8, c8, rfl, hb8, k8, DC8⟩; have bx8 := hbxW.keep hb8; have c1 : w8.cell? ⟨w.heap.size + 1, 0, none⟩ = some (.int .i64 0) := Joins.cell_of_block bx8.b1 0; have c2 : w8.cell? ⟨w.heap.size + 1 + 1, 0, none⟩ = some (.slice none 0 0) := Joins.cell_of_block bx8.b2 0; have c3 : w8.cell? ⟨w.heap.size + 1 + 1 + 1, 0, none⟩ = some (.int .i64 0) := Joins.cell_of_block bx8.b3 0; have f1 : w8.frozen? ⟨w.heap.size + 1, 0, none⟩ = false := Joins.unfrozen_of_block bx8.b1 0; have f2 : w8.frozen? ⟨w.heap.size + 1 + 1, 0, none⟩ = false := Joins.unfrozen_of_block bx8.b2 0; have f3 : w8.frozen? ⟨w.heap.size + 1 + 1 + 1, 0, none⟩ = false := Joins.unfrozen_of_block bx8.b3 0))
        all_goals gi_wp2_with (refine ⟨trivial, ?_⟩; gi_at_call 16; refine (CallsIn.inRound l (callsIn_wide.2 (DC8.out _ (by first | assumption | exact Below.refl _ _ | exact (Below.refl _ _).drew | exact Below.drew (by assumption))))).mono ?_; rintro e w9 ⟨⟨a9, n9, c9⟩, rfl, ho9, hb9⟩; have bx9 := bx8.keep hb9; have c1 : w9.cell? ⟨w.heap.size + 1, 0, none⟩ = some (.int .i64 0) := Joins.cell_of_block bx9.b1 0; have c2 : w9.cell? ⟨w.heap.size + 1 + 1, 0, none⟩ = some (.slice none 0 0) := Joins.cell_of_block bx9.b2 0; have c3 : w9.cell? ⟨w.heap.size + 1 + 1 + 1, 0, none⟩ = some (.int .i64 0) := Joins.cell_of_block bx9.b3 0; have f1 : w9.frozen? ⟨w.heap.size + 1, 0, none⟩ = false := Joins.unfrozen_of_block bx9.b1 0; have f2 : w9.frozen? ⟨w.heap.size + 1 + 1, 0, none⟩ = false := Joins.unfrozen_of_block bx9.b2 0; have f3 : w9.frozen? ⟨w.heap.size + 1 + 1 + 1, 0, none⟩ = false := Joins.unfrozen_of_block bx9.b3 0)
        all_goals
          have hb89 := hb8.trans (hb9.mono hb8.size)
          exact ⟨bel_from hb89, hb89.mono hbW.size, fun p hp => (List.mem_append.1 hp).elim (hpre p) (fun e => by rw [List.mem_singleton] at e; subst e; exact hst), hbW.trans (hb89.mono hbW.size)⟩
    · rw [if_pos hz] at hst
      have t1 : (T != 0) = true := by simpa using hz
      gi_wp2
      gi_region_with_o (first | (refine ⟨trivial, ?_⟩; gi_at_call 18; refine (CallsIn.inRound l (callsIn_wide.2 (NMx.out _ (by first | assumption | exact Below.refl _ _ | exact (Below.refl _ _).drew | exact Below.drew (by assumption))))).mono ?_; rintro e w7 ⟨rfl, hb7, k7⟩) | (refine ⟨trivial, ?_⟩; gi_at_call 74; refine (CallsIn.inRound l (callsIn_wide.2 (RDx.out _ (by first | assumption | exact Below.refl _ _ | exact (Below.refl _ _).drew | exact Below.drew (by assumption))))).mono ?_; rintro e w8 ⟨a8, c8, rfl, hb8, k8, DC8⟩; have bx8 := hbxW.keep hb8; have c1 : w8.cell? ⟨w.heap.size + 1, 0, none⟩ = some (.int .i64 0) := Joins.cell_of_block bx8.b1 0; have c2 : w8.cell? ⟨w.heap.size + 1 + 1, 0, none⟩ = some (.slice none 0 0) := Joins.cell_of_block bx8.b2 0; have c3 : w8.cell? ⟨w.heap.size + 1 + 1 + 1, 0, none⟩ = some (.int .i64 0) := Joins.cell_of_block bx8.b3 0; have f1 : w8.frozen? ⟨w.heap.size + 1, 0, none⟩ = false := Joins.unfrozen_of_block bx8.b1 0; have f2 : w8.frozen? ⟨w.heap.size + 1 + 1, 0, none⟩ = false := Joins.unfrozen_of_block bx8.b2 0; have f3 : w8.frozen? ⟨w.heap.size + 1 + 1 + 1, 0, none⟩ = false := Joins.unfrozen_of_block bx8.b3 0))
      all_goals gi_wp2_with (refine ⟨trivial, ?_⟩; gi_at_call 16; refine (CallsIn.inRound l (callsIn_wide.2 (DC8.out _ (by first | assumption | exact Below.refl _ _ | exact (Below.refl _ _).drew | exact Below.drew (by assumption))))).mono ?_; rintro e w9 ⟨⟨a9, n9, c9⟩, rfl, ho9, hb9⟩; have bx9 := bx8.keep hb9; have c1 : w9.cell? ⟨w.heap.size + 1, 0, none⟩ = some (.int .i64 0) := Joins.cell_of_block bx9.b1 0; have c2 : w9.cell? ⟨w.heap.size + 1 + 1, 0, none⟩ = some (.slice none 0 0) := Joins.cell_of_block bx9.b2 0; have c3 : w9.cell? ⟨w.heap.size + 1 + 1 + 1, 0, none⟩ = some (.int .i64 0) := Joins.cell_of_block bx9.b3 0; have f1 : w9.frozen? ⟨w.heap.size + 1, 0, none⟩ = false := Joins.unfrozen_of_block bx9.b1 0; have f2 : w9.frozen? ⟨w.heap.size + 1 + 1, 0, none⟩ = false := Joins.unfrozen_of_block bx9.b2 0; have f3 : w9.frozen? ⟨w.heap.size + 1 + 1 + 1, 0, none⟩ = false := Joins.unfrozen_of_block bx9.b3 0)
      all_goals
        obtain ⟨s1, s2, s3⟩ := fin3_store bx8 (own_none w8 w8.heap.size) bx8.lt (hwW.trans (hb8.mono hwW.size)) 0 T w6.heap.size
        exact ⟨(bel_from hb8).trans s3, ⟨rfl, pre, x, _, rfl, hpre, hst, s1⟩, s2⟩
  case done =>
    rintro D ys W hD rfl ⟨hpre, hB⟩ hK
    have bx8 := HBX.out.keep hB
    have hwW : Below w.heap.size w W := HBW.out.trans (hB.mono HBW.out.size)
    have c1 : W.cell? ⟨w.heap.size + 1, 0, none⟩ = some (.int .i64 0) := Joins.cell_of_block bx8.b1 0
    have c2 : W.cell? ⟨w.heap.size + 1 + 1, 0, none⟩ = some (.slice none 0 0) := Joins.cell_of_block bx8.b2 0
    have c3 : W.cell? ⟨w.heap.size + 1 + 1 + 1, 0, none⟩ = some (.int .i64 0) := Joins.cell_of_block bx8.b3 0
    have f1 : W.frozen? ⟨w.heap.size + 1, 0, none⟩ = false := Joins.unfrozen_of_block bx8.b1 0
    have f2 : W.frozen? ⟨w.heap.size + 1 + 1, 0, none⟩ = false := Joins.unfrozen_of_block bx8.b2 0
    have f3 : W.frozen? ⟨w.heap.size + 1 + 1 + 1, 0, none⟩ = false := Joins.unfrozen_of_block bx8.b3 0
    have hR : findL S L.reverse = (-1, [], 0) := by
      rw [back_rev]
      exact find_none _ fun n hn => by obtain ⟨p, hp, rfl⟩ := List.mem_map.1 hn; exact hpre p hp
    gi_wp2
    obtain ⟨s1, s2, s3⟩ := fin3_store bx8 (own_none W W.heap.size) bx8.lt hwW (-1) 0 w6.heap.size
    have hK' := s3.same D _ hD hK rfl
    refine ⟨by simp, .inl ⟨_, _, rfl, run_takeDeferred hK', ?_⟩⟩
    obtain ⟨z1, ⟨xx, z2, z3⟩, z4⟩ := s1.turn (grownBy_putObj' _ D (.deferred none)) (fun r e => by cases e; exact ⟨_, hK', rfl⟩)
    obtain ⟨xa, xc, rfl, _⟩ := Ob.own_row z3
    refine ⟨.tuple #[.int .i64 (-1), .slice xa 0 xc, .int .i64 0], by simp [results, Tryz.results32, go_sem, z1, z2, z4], ?_⟩
    rw [hR]
    exact ⟨_, rfl, z3, s2.trans (belowK_b (w := w) (Nat.le_refl _) _ D _ _ (Nat.le_trans HBW.out.size hD) hK' rfl rfl)⟩
  case stop =>
    rintro D c pre W hD ⟨k, hk, rfl⟩ ⟨⟨rfl, ini, last, R, e1, e2, e3, hF⟩, hB⟩ hK
    have hR : findL S L.reverse = R := by
      obtain ⟨k', rfl⟩ : ∃ k', k = k' + 1 := by
        cases k with
        | zero => simp [upto] at e1
        | succ k' => exact ⟨k', rfl⟩
      rw [upto_succ] at e1
      obtain ⟨rfl, e5⟩ := List.append_inj' e1 rfl
      obtain rfl : bk L k' = last := by simpa using e5
      obtain ⟨r, hr⟩ := back_split L (k := k') (by omega)
      rw [hr, find_skip _ _ fun n hn => by obtain ⟨p, hp, rfl⟩ := List.mem_map.1 hn; exact e2 p hp, findL, e3]
    gi_wp2
    refine ⟨by simp, .inl ⟨_, _, rfl, run_takeDeferred hK, ?_⟩⟩
    obtain ⟨z1, ⟨xx, z2, z3⟩, z4⟩ := hF.turn (grownBy_putObj' _ D (.deferred none)) (fun r e => by cases e; exact ⟨_, hK, rfl⟩)
    obtain ⟨xa, xc, rfl, _⟩ := Ob.own_row z3
    refine ⟨.tuple #[.int .i64 R.1, .slice xa R.2.1.length xc, .int .i64 R.2.2], by simp [results, Tryz.results32, go_sem, z1, z2, z4], ?_⟩
    rw [hR]
    exact ⟨_, rfl, z3, hB.trans (belowK_b (w := w) (Nat.le_refl _) _ D _ _ (Nat.le_trans HBW.out.size hD) hK rfl rfl)⟩
end Go.Proofs.YtdonkmkjblofpaaGreatDoor.Sn

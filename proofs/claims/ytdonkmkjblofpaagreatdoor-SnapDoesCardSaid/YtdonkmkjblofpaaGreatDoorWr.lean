/-
  Layer 5: the law's wakes.
-/
import Derived.Test.YtdonkmkjblofpaaGreatDoorWq
namespace Go.Proofs.YtdonkmkjblofpaaGreatDoor.Wl
open Go.RowKit Go.Sort Dx Sx Dk
set_option linter.unusedVariables false
set_option linter.unusedSimpArgs false
theorem seg1_ok : badName (segN 1) = false := by kernel_rfl
def SA : St := One (segN 1) (frm [97]) 9 1000 (inc (inc 0)) 0
theorem bytes_a : Bytes [97] := fun i hi => by
  have : i = 0 := by simp at hi; omega
  subst this
  exact ⟨by decide, by decide⟩
theorem write_a : writeS (segN 1) (frm [97]) 0 (Dk.start 1000) = (0, 0, SA) := by
  unfold writeS
  rw [if_neg (by unfold segN; simp), one_first seg1_ok (by rw [frm_length]; decide) (by rw [frm_length]; decide)]
  simp only []
  rw [if_neg (by decide), if_pos trivial, one_sync seg1_ok]
  rfl
theorem app_a : appW [97] 2 1 1 0 (Dk.start 1000) = ((1, 0), 2, 1, 0, SA) := by
  unfold appW
  rw [if_neg (by decide), if_neg (by decide), show segOf 2 1 1 = 1 by decide, show nameS 1 = segN 1 from if_pos (by decide), write_a]
  rfl
theorem read_a : readL (segN 1) SA = frm [97] := one_read seg1_ok
theorem recs_a : recsB (frm [97]) = [[97]] := by
  have := recsB_app [[97]] [] (by intro r hr; simp at hr; subst hr; decide) rfl
  simpa using this
theorem rd_a : (rdS (segN 1) SA).1 = 0 := by
  unfold rdS
  rw [read_a, recs_a, if_neg (by rw [frm_length]; decide)]
  unfold SA; rw [one_sync seg1_ok]
theorem open_a : (openS [1] SA).1 = 0 := by
  unfold openS
  rw [if_neg (by rw [rd_a]; decide)]
  rfl
theorem reco_a : recsO [1] SA = [[97]] := by
  unfold recsO
  rw [read_a, recs_a]; rfl
theorem chain_a : Chain [1] 1 SA := ⟨rfl, one_there seg1_ok, by rw [read_a]; exact bytes_frm bytes_a, by rw [read_a, frm_length]; decide, by decide, fun _ => trivial⟩
theorem txt_a : strOfNums ([97].take 1) = (⟨#[97]⟩ : ByteArray) := by decide +kernel
theorem was_ok {A : Nat → Prop} {w : World} {R : List (List Int)} {n : Nat} {v : Value} (h : WasS A w R n v) : WasOk 0 w R n v := by
  obtain ⟨vs, h1, _, h3⟩ := h
  exact ⟨vs, h1, fun i hi => (h3 i hi).elim fun u hu => ⟨u, hu.1, hu.2.1⟩⟩
theorem own_high {W w w' : World} {O O' : Nat → Prop} (hb : Below W.heap.size W w) (ho : ∀ i, O i → W.heap.size ≤ i) (st : Step w O w' O') : Below W.heap.size W w' ∧ ∀ i, O' i → W.heap.size ≤ i :=
  ⟨hb.trans (st.toTurned.below fun k hk => ⟨Nat.lt_of_lt_of_le hk hb.size, fun h => by have := ho k h; omega⟩), fun i hi => (st.own i hi).elim (ho i) fun h => Nat.le_trans hb.size h⟩
set_option maxRecDepth 100000 in
set_option maxHeartbeats 1600000 in
theorem wakes_any (w : World) (ht : Tabs w) : Calls Tryz.prog 6 #[] w fun e w' => e = .returned (.bool true) ∧ Below w.heap.size w w' := by
  have HT := Lib.hid ht
  have OP1 : Hid (∀ w1 d O, IsDisk w1 O d (Dk.start 1000) → Below w.heap.size w w1 → (∀ i, O i → w.heap.size ≤ i) → Calls Tryz.prog 41 #[.pointer (some ⟨d, 0, none⟩), .int .i64 2] w1 fun e w' => ∃ (g : Nat) (c : Option Addr × Nat) (O' : Nat → Prop), e = .returned (.tuple #[.pointer (some ⟨g, 0, none⟩), .slice c.1 0 c.2, .int .i64 1, .int .i64 0]) ∧ IsWal w' O' d g 2 1 1 0 (Dk.start 1000) ∧ Below w.heap.size w w' ∧ ∀ i, Og O' g i → w.heap.size ≤ i) := Lib.hid fun w1 d O hd hb ho => by
    refine (Open_any (ns := []) hd rfl ⟨rfl, fun n hn => by simp at hn⟩ (ht.keep hb) 2 (by decide) trivial (Nat.zero_le _) (fun i hi h => by have := glob_lt ht i hi; have := ho i h; omega)).mono ?_
    intro e w' h
    unfold OpenR at h
    rw [if_pos (show (openS [] (Dk.start 1000)).1 = 0 from rfl)] at h
    obtain ⟨g, v, O', rfl, hg, hgo, hgw, was, st, hd'⟩ := h
    obtain ⟨ad, cap, rfl⟩ := was_shape was
    obtain ⟨k1, k2⟩ := own_high hb ho st
    exact ⟨g, (ad, cap), O', rfl, ⟨hd', hgo, hgw⟩, k1, fun i hi => hi.elim (k2 i) fun h => by rw [h]; exact Nat.le_trans hb.size hg⟩
  have OP2 : Hid (∀ w1 d O, IsDisk w1 O d SA → Below w.heap.size w w1 → (∀ i, O i → w.heap.size ≤ i) → Calls Tryz.prog 41 #[.pointer (some ⟨d, 0, none⟩), .int .i64 2] w1 fun e w' => ∃ g b c0 c ad, e = .returned (.tuple #[.pointer (some ⟨g, 0, none⟩), .slice (some ⟨b, 0, none⟩) 1 c0, .int .i64 1, .int .i64 0]) ∧ w'.cell? ⟨b, 0, none⟩ = some (.slice ad 1 c) ∧ Fr.HasRow .u8 w' ad 1 [97] ∧ Below w.heap.size w w') := Lib.hid fun w1 d O hd hb ho => by
    refine (Open_any (ns := [1]) hd rfl ⟨one_names _ _ _ _ _ _, fun n hn => by simp at hn; subst hn; decide⟩ (ht.keep hb) 2 (by decide) chain_a (by rw [reco_a]; decide) (fun i hi h => by have := glob_lt ht i hi; have := ho i h; omega)).mono ?_
    intro e w' h
    unfold OpenR at h
    rw [if_pos open_a] at h
    obtain ⟨g, v, O', rfl, hg, hgo, hgw, was, st, hd'⟩ := h
    rw [reco_a] at was
    obtain ⟨ad, cap, rfl⟩ := was_shape was
    obtain ⟨b, ad', c, rfl, h1, h2⟩ := was_at (was_ok was) (i := 0) (by decide)
    exact ⟨g, b, cap, c, ad', rfl, h1, h2, (own_high hb ho st).1⟩
  have AP : Hid (∀ w2 d g O ad cp, IsWal w2 O d g 2 1 1 0 (Dk.start 1000) → Below w.heap.size w w2 → (∀ i, Og O g i → w.heap.size ≤ i) → Fr.HasRow .u8 w2 (some ad) 1 [97] → Calls Tryz.prog 42 #[.pointer (some ⟨g, 0, none⟩), .slice (some ad) 1 cp] w2 fun e w' => e = .returned (.tuple #[.int .i64 1, .int .i64 0]) ∧ ∃ O', IsDisk w' O' d SA ∧ Below w.heap.size w w' ∧ ∀ i, O' i → w.heap.size ≤ i) := Lib.hid fun w2 d g O ad cp hw hb ho hr => by
    refine (append_any (next := 1) (last := 1) hw (ht.keep hb) (some ad) 1 cp [97] bytes_a hr (fun h => by cases h) (by decide) (by decide) (by decide)).mono ?_
    intro e w' h
    rw [show [97].take 1 = [(97 : Int)] from rfl, app_a] at h
    obtain ⟨rfl, O', st, hw'⟩ := h
    obtain ⟨k1, k2⟩ := own_high hb ho st
    exact ⟨rfl, O', hw'.disk, k1, fun i hi => k2 i (.inl hi)⟩
  clear ht
  go_enter Tryz.func6, Tryz.ntmps6
  go_wp2_with fail
  refine (ok_new w 1000).mono ?_
  rintro e w1 ⟨rfl, O, hd1, hb1, ho1⟩
  obtain ⟨d, hdd⟩ : ∃ d, w.heap.size + 1 = d := ⟨_, rfl⟩
  rw [hdd] at hd1 ⊢
  clear hdd
  have O1 := Lib.hid (OP1.out w1 d O hd1 hb1 ho1)
  clear hd1 hb1 ho1
  go_wp2_with fail
  refine O1.out.mono ?_
  rintro e w2 ⟨g, ⟨ad, cap⟩, O', rfl, hw2, hb2, ho2⟩
  have kc1 := Joins.run_convert_bytes_const_at (P := Tryz.prog) w2 22 5 #[.int .u8 97] 1 1 w2.heap.size rfl Tryz.underlying22 Tryz.underlying5
  have hup : Below w2.heap.size w2 (w2.alloc (.cells #[.int .u8 97] 5 (1, 2))) := (Below.refl _ _).alloc (Nat.le_refl _) _
  have A1 := Lib.hid (AP.out (w2.alloc (.cells #[.int .u8 97] 5 (1, 2))) d g O' ⟨w2.heap.size, 0, none⟩ 1 (hw2.below hup) (hb2.trans (hup.mono hb2.size)) ho2 (const_row w2 [97] (1, 2) (by decide)))
  clear hw2 hb2 ho2 hup
  go_wp2_with fail
  refine A1.out.mono ?_
  rintro e w3 ⟨rfl, O3, hd3, hb3, ho3⟩
  have O2 := Lib.hid (OP2.out w3 d O3 hd3 hb3 ho3)
  clear hd3 hb3 ho3 kc1
  go_wp2_with fail
  refine O2.out.mono ?_
  rintro e w4 ⟨g4, b4, c0, c4, ad4, rfl, hc, hr, hb4⟩
  have kc3 := conv_at (cap := c4) hr
  rw [txt_a] at kc3
  have HB4 := Lib.hid hb4
  clear hr hb4
  go_wp2
  go_ret
  exact ⟨rfl, HB4.out⟩
end Go.Proofs.YtdonkmkjblofpaaGreatDoor.Wl

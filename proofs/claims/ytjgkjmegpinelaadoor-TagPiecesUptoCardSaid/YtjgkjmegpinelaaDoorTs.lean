/-
  Layer 7: the program's decode.
-/
import Derived.Test.YtjgkjmegpinelaaDoorTn
import Derived.Test.YtjgkjmegpinelaaDoorTr
namespace Go.Proofs.YtjgkjmegpinelaaDoor.Tg
open Go.RowKit Go.Sort Dx Sx
set_option linter.unusedVariables false
set_option linter.unusedSimpArgs false

/-- What Decode hands back: fields of the call's own, a number, an error. -/
def DecIt (R : List Fld × Nat × Int) (w : World) (e : Ending) (w' : World) : Prop := ∃ v, e = .returned (.tuple #[v, .int .i64 (R.2.1 : Int), .int .i64 R.2.2]) ∧ OwnF w' w.heap.size v R.1 ∧ Below w.heap.size w w'
theorem ownF_nil (w : World) (base : Nat) : OwnF w base (.slice none 0 0) [] := World.ownsRow_nil _ _ _ _
theorem OwnF.low2 {w : World} {base base' : Nat} {v : Value} {F : List Fld} (h : OwnF w base v F) (hb : base' ≤ base) : OwnF w base' v F := by
  refine ⟨h.1, ?_⟩
  rcases h.2 with h0 | ⟨g, cap, cur, hv, h1, rest⟩
  · exact .inl h0
  · exact .inr ⟨g, cap, cur, hv, by omega, rest⟩
theorem findS_bd {b : List UInt8} (h : (findS b).2.2 = 0) : 12 ≤ (findS b).1 ∧ (findS b).1 ≤ (findS b).2.1 ∧ (findS b).2.1 ≤ 5000 := by
  obtain ⟨r, rfl⟩ := findS_ok h
  rw [findS_front] at h ⊢
  obtain ⟨m, x, rfl, m1, m2, hs, ht⟩ := numG_ok (r := r) (s := (numG 0 0 r).1) (t := (numG 0 0 r).2.1) (by rw [← h])
  have := nd_le 4 m (by omega) (by omega)
  omega
theorem sumT_ne (a b : List UInt8) : ((bs a).toList == (bs b).toList) = decide (a = b) := by
  rw [bs_toList, bs_toList]
  cases h : decide (a = b) with
  | true => simpa using h
  | false => simpa using h
set_option maxRecDepth 100000 in
set_option maxHeartbeats 2000000 in
theorem decode_err (a : Option Addr) (len cap : Nat) (b : List UInt8) (w : World) (h : HasL w a b) (hl : b.length = len) (hcap : len ≤ cap) (hm : len ≤ 1048576) (he : (findS b).2.2 ≠ 0) :
    Calls Tryd.prog 28 #[.slice a len cap] w (DecIt (decE b) w) := by
  have hR : decE b = ([], 0, (findS b).2.2) := by unfold decE; rw [if_pos he]
  rw [hR]
  have hf := findBody_any a len cap b w h hl hcap (by omega)
  unfold FindIt at hf
  have hq : ((findS b).2.2 == 0) = false := by simpa using he
  have hq2 : ((findS b).2.2 != 0) = true := by simpa using he
  unfold DecIt
  simp only
  clear h hl hR he
  generalize (findS b).1 = s at *
  generalize (findS b).2.1 = t at *
  generalize (findS b).2.2 = E at *
  go_enter Tryd.func28, Tryd.ntmps28
  go_wp2_with (go_at_call 45; (with_reducible refine hf.mono ?_); rintro e w1 ⟨rfl, hb1⟩)
  go_ret3
  exact ⟨_, rfl, ownF_nil _ _, hb1⟩
set_option maxRecDepth 100000 in
set_option maxHeartbeats 4000000 in
theorem decode_ok (bb off len cap : Nat) (b : List UInt8) (w : World) (h : HasL w (some ⟨bb, off, none⟩) b) (hl : b.length = len) (hcap : len ≤ cap) (hm : len ≤ 1048576) (he : (findS b).2.2 = 0) (hE : Env w) :
    Calls Tryd.prog 28 #[.slice (some ⟨bb, off, none⟩) len cap] w (DecIt (decE b) w) := by
  have hR : decE b = bodyE b (findS b).1 (findS b).2.1 := by unfold decE; rw [if_neg (by omega)]
  rw [hR]
  have hf := findBody_any (some ⟨bb, off, none⟩) len cap b w h hl hcap (by omega)
  unfold FindIt at hf
  obtain ⟨b1, b2, b3⟩ := findS_bd he
  rw [he] at hf
  clear he hR
  generalize (findS b).1 = s at *
  generalize (findS b).2.1 = t at *
  unfold DecIt
  by_cases hs : len < t + 7
  · have hB : bodyE b s t = ([], 0, 10) := by unfold bodyE; rw [if_pos (by omega)]
    rw [hB]
    simp only
    have d1 : decide ((len : Int) < (t : Int) + 7) = true := by rw [decide_eq_true_eq]; omega
    clear hB h hl
    go_enter Tryd.func28, Tryd.ntmps28
    go_wp2_with (go_at_call 45; (with_reducible refine hf.mono ?_); rintro e w1 ⟨rfl, hb1⟩)
    go_ret3
    exact ⟨_, rfl, ownF_nil _ _, hb1⟩
  have d1 : decide ((len : Int) < (t : Int) + 7) = false := by rw [decide_eq_false_iff_not]; omega
  have p7 : ((b.drop t).take 7).length = 7 := by rw [List.length_take, List.length_drop]; omega
  have hrow := fun wx (hx : Below w.heap.size w wx) => h.keep hx
  have i1 : (0 : Int) ≤ (t : Int) := by omega
  have i2 : (t : Int) + 7 ≤ (len : Int) := by omega
  have i3 : (t : Int) + 7 ≤ (cap : Int) := by omega
  have i4 : (t : Int) ≤ (cap : Int) := by omega
  have i5 : (s : Int) ≤ (t : Int) := by omega
  have t1 : ((t : Int) + 7).toNat = t + 7 := by omega
  have t2 : t + 7 - t = 7 := by omega
  cases hsf : sumForm ((b.drop t).take 7) with
  | false =>
    have hB : bodyE b s t = ([], 0, 11) := by unfold bodyE; rw [if_neg (by omega), if_pos hsf]
    rw [hB]
    simp only
    have his : ∀ wx, Below w.heap.size w wx → Calls Tryd.prog 46 #[.slice (some ⟨bb, off + t, none⟩) 7 (cap - t)] wx fun e w' => e = .returned (.bool false) ∧ wx = w' := fun wx hx => by
      have := isSum_any bb (off + t) (cap - t) _ wx ((hrow wx hx).part t 7 (by omega)) p7 (by omega)
      rwa [hsf] at this
    have HIS := Lib.hid his
    clear hB h hl his hrow hsf p7
    go_enter Tryd.func28, Tryd.ntmps28
    go_wp2_with (first
      | (go_at_call 45; (with_reducible refine hf.mono ?_); rintro e w1 ⟨rfl, hb1⟩)
      | (go_at_call 46; (with_reducible refine (HIS.out _ hb1).mono ?_); rintro e w2 ⟨rfl, rfl⟩))
    go_ret3
    exact ⟨_, rfl, ownF_nil _ _, hb1⟩
  | true =>
    have his : ∀ wx, Below w.heap.size w wx → Calls Tryd.prog 46 #[.slice (some ⟨bb, off + t, none⟩) 7 (cap - t)] wx fun e w' => e = .returned (.bool true) ∧ wx = w' := fun wx hx => by
      have := isSum_any bb (off + t) (cap - t) _ wx ((hrow wx hx).part t 7 (by omega)) p7 (by omega)
      rwa [hsf] at this
    have HIS := Lib.hid his
    have htl : (b.take t).length = t := by rw [List.length_take]; omega
    have hbl : ((b.drop s).take (t - s)).length = t - s := by rw [List.length_take, List.length_drop]; omega
    have hsum : ∀ wx, Below w.heap.size w wx → Calls Tryd.prog 24 #[.slice (some ⟨bb, off, none⟩) t cap] wx fun e w' => e = .returned (.string (bs (sumT (b.take t)))) ∧ Below w.heap.size w w' := fun wx hx => by
      refine (sumField_any (some ⟨bb, off, none⟩) t cap (b.take t) wx ((hrow wx hx).front t (by omega)) htl (hE.keep hx).pow).mono ?_
      rintro e w' ⟨he, hb⟩
      exact ⟨he, hx.trans (hb.mono hx.size)⟩
    have hk1 : ∀ wx, Below w.heap.size w wx → (convert 25 9 (.slice (some ⟨bb, off + t, none⟩) 7 (cap - t))).run Tryd.prog wx = .ok (.string (bs ((b.drop t).take 7))) wx := fun wx hx => conv_at ((hrow wx hx).part t 7 (by omega)) p7
    have hk2 : ∀ wx, Below w.heap.size w wx → (convert 25 9 (.slice (some ⟨bb, off + s, none⟩) (t - s) (cap - s))).run Tryd.prog wx = .ok (.string (bs ((b.drop s).take (t - s)))) wx := fun wx hx => conv_at ((hrow wx hx).part s (t - s) (by omega)) hbl
    have HSU := Lib.hid hsum; have HK1 := Lib.hid hk1; have HK2 := Lib.hid hk2
    by_cases hq : (b.drop t).take 7 = sumT (b.take t)
    · have hB : bodyE b s t = ((fieldsS ((b.drop s).take (t - s))).1, if (fieldsS ((b.drop s).take (t - s))).2 = 0 then t + 7 else 0, (fieldsS ((b.drop s).take (t - s))).2) := by
        unfold bodyE
        rw [if_neg (by omega), if_neg (by rw [hsf]; decide), if_neg (by simp [hq])]
      rw [hB]
      have hfo : ∀ wx, Below w.heap.size w wx → Calls Tryd.prog 47 #[.string (bs ((b.drop s).take (t - s)))] wx (FieldsIt ((b.drop s).take (t - s)) wx) := fun wx hx => fieldsOf_any _ wx (by omega) (hE.keep hx)
      have HFO := Lib.hid hfo
      have hqq : ((bs ((b.drop t).take 7)).toList == (bs (sumT (b.take t))).toList) = true := by rw [sumT_ne, decide_eq_true_eq]; exact hq
      clear hB h hl his hrow hsf p7 hsum hk1 hk2 hq htl hbl hfo
      unfold FieldsIt at HFO
      generalize bs ((b.drop t).take 7) = S1 at *
      generalize bs (sumT (b.take t)) = S2 at *
      generalize bs ((b.drop s).take (t - s)) = S3 at *
      have hEc : (fieldsS ((b.drop s).take (t - s))).2 = 0 ∨ ((fieldsS ((b.drop s).take (t - s))).2 = 11 ∧ (fieldsS ((b.drop s).take (t - s))).1 = []) := by
        by_cases h0 : (fieldsS ((b.drop s).take (t - s))).2 = 0
        · exact .inl h0
        · have := fields_no h0
          rw [this]
          exact .inr ⟨rfl, rfl⟩
      generalize (fieldsS ((b.drop s).take (t - s))).1 = G at *
      generalize (fieldsS ((b.drop s).take (t - s))).2 = E at *
      go_enter Tryd.func28, Tryd.ntmps28
      go_wp2_with (first
        | (go_at_call 45; (with_reducible refine hf.mono ?_); rintro e w1 ⟨rfl, hb1⟩)
        | (go_at_call 46; (with_reducible refine (HIS.out _ hb1).mono ?_); rintro e w2 ⟨rfl, rfl⟩))
      have HB1 := Lib.hid hb1; clear hb1
      go_region_held3 (fun wx => (convert 25 9 (.slice (some ⟨bb, off + t, none⟩) 7 (cap - t))).run Tryd.prog wx = .ok (.string S1) wx)
        (first | exact HK1.out _ hb3 | exact HK1.out _ (Below.drew HB1.out) | exact HK1.out _ HB1.out)
        ((go_at_call 24; (with_reducible refine (HSU.out _ (Below.drew HB1.out)).mono ?_); rintro e w3 ⟨rfl, hb3⟩))
      go_split_ands
      have HB3 := Lib.hid hb3
      have k2 := HK2.out _ hb3
      clear hb3
      rcases hEc with rfl | ⟨rfl, rfl⟩
      · go_wp2_with fail
        refine (HFO.out _ HB3.out).mono ?_
        rintro e w4 ⟨v, rfl, ho, hb4⟩
        have HO := Lib.hid ho; have HB4 := Lib.hid (HB3.out.trans (hb4.mono HB3.out.size))
        clear ho hb4 k2
        go_wp2
        refine bodyPost_ret (results_tmp3 rfl _ _ _) rfl ?_
        exact ⟨_, by first | rfl | (simp; rfl), HO.out.low2 HB3.out.size, HB4.out⟩
      · go_wp2_with fail
        refine (HFO.out _ HB3.out).mono ?_
        rintro e w4 ⟨v, rfl, ho, hb4⟩
        have HB4 := Lib.hid (HB3.out.trans (hb4.mono HB3.out.size))
        clear ho hb4 k2
        go_wp2
        go_ret3
        exact ⟨_, rfl, ownF_nil _ _, HB4.out⟩
    · have hB : bodyE b s t = ([], 0, 12) := by
        unfold bodyE
        rw [if_neg (by omega), if_neg (by rw [hsf]; decide), if_pos hq]
      rw [hB]
      simp only
      have hqq : ((bs ((b.drop t).take 7)).toList == (bs (sumT (b.take t))).toList) = false := by rw [sumT_ne, decide_eq_false_iff_not]; exact hq
      clear hB h hl his hrow hsf p7 hsum hk1 hk2 hq htl hbl HK2
      generalize bs ((b.drop t).take 7) = S1 at *
      generalize bs (sumT (b.take t)) = S2 at *
      go_enter Tryd.func28, Tryd.ntmps28
      go_wp2_with (first
        | (go_at_call 45; (with_reducible refine hf.mono ?_); rintro e w1 ⟨rfl, hb1⟩)
        | (go_at_call 46; (with_reducible refine (HIS.out _ hb1).mono ?_); rintro e w2 ⟨rfl, rfl⟩))
      have HB1 := Lib.hid hb1; clear hb1
      go_region_held3 (fun wx => (convert 25 9 (.slice (some ⟨bb, off + t, none⟩) 7 (cap - t))).run Tryd.prog wx = .ok (.string S1) wx)
        (first | exact HK1.out _ hb3 | exact HK1.out _ (Below.drew HB1.out) | exact HK1.out _ HB1.out)
        ((go_at_call 24; (with_reducible refine (HSU.out _ (Below.drew HB1.out)).mono ?_); rintro e w3 ⟨rfl, hb3⟩))
      go_split_ands
      have HB3 := Lib.hid hb3; clear hb3
      go_wp2
      go_ret3
      exact ⟨_, rfl, ownF_nil _ _, HB3.out⟩
theorem decode_any (a : Option Addr) (len cap : Nat) (b : List UInt8) (w : World) (h : HasL w a b) (hl : b.length = len) (hcap : len ≤ cap) (hm : len ≤ 1048576) (hE : Env w) :
    Calls Tryd.prog 28 #[.slice a len cap] w (DecIt (decE b) w) := by
  by_cases he : (findS b).2.2 = 0
  · obtain ⟨r, hr⟩ := findS_ok he
    have hlen : 12 ≤ b.length := by rw [hr, List.length_append, front_length]; omega
    obtain ⟨bb, off, rfl, _⟩ := h.at (by omega)
    exact decode_ok bb off len cap b w h hl hcap hm he hE
  · exact decode_err a len cap b w h hl hcap hm he
end Go.Proofs.YtjgkjmegpinelaaDoor.Tg

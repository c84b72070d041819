/-
  Layer 7: the program's sumField, Encode.
-/
import Derived.Test.YtjgkjmegpinelaaDoorTf
import Derived.Test.YtjgkjmegpinelaaDoorTh
import Derived.Test.YtjgkjmegpinelaaDoorTb
namespace Go.Proofs.YtjgkjmegpinelaaDoor.Tg
open Go.RowKit Go.Sort Dx Sx
set_option linter.unusedVariables false
set_option linter.unusedSimpArgs false

theorem low_mod : ∀ (k m c : Nat), low k (m + 10 ^ k * c) = low k m
  | 0, _, _ => rfl
  | k + 1, m, c => by
    have e1 : (m + 10 ^ (k + 1) * c) / 10 = m / 10 + 10 ^ k * c := by rw [Nat.pow_succ, show 10 ^ k * 10 * c = 10 * (10 ^ k * c) by rw [Nat.mul_comm (10 ^ k) 10, Nat.mul_assoc], Nat.add_mul_div_left _ _ (by omega)]
    have e2 : (m + 10 ^ (k + 1) * c) % 10 = m % 10 := by rw [Nat.pow_succ, show 10 ^ k * 10 * c = 10 * (10 ^ k * c) by rw [Nat.mul_comm (10 ^ k) 10, Nat.mul_assoc], Nat.add_mul_mod_self_left]
    rw [low, low, e1, e2, low_mod k]
theorem dec_1000 {n : Nat} (h : n < 1000) : dec (1000 + n) = 49 :: low 3 n := by
  have h4 : nd (1000 + n) = 4 := by
    have a := nd_le 4 (1000 + n) (by omega) (by omega)
    have b := le_nd (m := 1000 + n) (n := 3) (by omega)
    omega
  rw [dec_low, h4, low_cons 3]
  have e1 : (1000 + n) / 10 ^ 3 % 10 = 1 := by omega
  have e2 := low_mod 3 n 1
  rw [e1, Nat.add_comm, show n + 1000 = n + 10 ^ 3 * 1 by omega, e2]
  rfl
set_option maxRecDepth 100000 in
theorem sumField_any (a : Option Addr) (len cap : Nat) (l : List UInt8) (w : World) (h : HasL w a l) (hl : l.length = len) (ht : Pow w) :
    Calls Tryd.prog 24 #[.slice a len cap] w fun e w' => e = .returned (.string (bs (sumT l))) ∧ Below w.heap.size w w' := by
  subst hl
  have hs := small_any a l.length cap (toI l) w (bytes_toI l) h
  rw [small_toI] at hs
  have hlt := smallN_lt l
  have hi := itoa_any (1000 + (smallN l : Int)) w (by omega) (by omega) ht
  rw [itoaT_pos (by omega), show (1000 + (smallN l : Int)).toNat = 1000 + smallN l by omega, dec_1000 (by omega)] at hi
  have sz : (bs (49 :: low 3 (smallN l))).size = 4 := by rw [bs_size, List.length_cons, low_length]
  have sx : (bs (49 :: low 3 (smallN l))).extract 1 4 = bs (low 3 (smallN l)) := by
    rw [bs_extract]
    show bs ((low 3 (smallN l)).take 3) = _
    rw [List.take_of_length_le (by rw [low_length]; omega)]
  have sl : (bs (low 3 (smallN l))).size = 3 := by rw [bs_size, low_length]
  have e1 : ({ data := #[49, 48, 61] } : ByteArray) ++ bs (low 3 (smallN l)) = bs ([49, 48, 61] ++ low 3 (smallN l)) := bs_app [49, 48, 61] _
  have s1 : (bs ([49, 48, 61] ++ low 3 (smallN l))).size = 6 := by rw [bs_size, List.length_append, low_length]; rfl
  have e2 : bs ([49, 48, 61] ++ low 3 (smallN l)) ++ ({ data := #[1] } : ByteArray) = bs (sumT l) := by
    unfold sumT
    rw [← List.append_assoc]
    exact bs_app _ [1]
  generalize bs (sumT l) = T at *
  generalize bs ([49, 48, 61] ++ low 3 (smallN l)) = U at *
  generalize bs (low 3 (smallN l)) = L at *
  generalize bs (49 :: low 3 (smallN l)) = D at *
  generalize smallN l = n at *
  clear h ht
  go_enter Tryd.func24, Tryd.ntmps24
  go_wp2_with (first
    | (go_at_call 43; (with_reducible refine hs.mono ?_); rintro e w1 ⟨rfl, rfl⟩)
    | (go_at_call 23; (with_reducible refine hi.mono ?_); rintro e w2 ⟨rfl, hb⟩))
  go_ret
  exact ⟨rfl, ‹_›⟩
def encR (F : List Fld) : List UInt8 × Int := if validE F = 0 then (frm (bodyL F), 0) else ([], validE F)
def EncIt (F : List Fld) (w : World) (e : Ending) (w' : World) : Prop := ∃ v, e = .returned (.tuple #[v, .int .i64 (encR F).2]) ∧ OwnG w' w.heap.size v (encR F).1 ∧ Below w.heap.size w w'
theorem pre_text (body : List UInt8) : ({ data := #[56, 61, 70, 73, 88, 46, 52, 46, 52, 1, 57, 61] } : ByteArray) ++ bs (dec body.length) ++ { data := #[1] } ++ bs body = bs (pre body) := by
  have e1 : ({ data := #[56, 61, 70, 73, 88, 46, 52, 46, 52, 1, 57, 61] } : ByteArray) = bs front := rfl
  have e2 : ({ data := #[1] } : ByteArray) = bs [1] := rfl
  rw [e1, e2, bs_app, bs_app, bs_app]
  unfold pre
  simp
theorem enc_err {F : List Fld} (h : validE F ≠ 0) : bodyR F = ([], validE F) ∧ encR F = ([], validE F) := by
  unfold bodyR encR; rw [if_neg h, if_neg h]; exact ⟨rfl, rfl⟩
theorem enc_ok {F : List Fld} (h : validE F = 0) : bodyR F = (bodyL F, 0) ∧ encR F = (frm (bodyL F), 0) := by
  unfold bodyR encR; rw [if_pos h, if_pos h]; exact ⟨rfl, rfl⟩
set_option maxRecDepth 100000 in
set_option maxHeartbeats 1000000 in
theorem encode_any (a : Option Addr) (len cap : Nat) (F : List Fld) (w : World) (hF : HasF w a F) (hl : F.length = len) (hok : OkF F) (ht : Pow w) :
    Calls Tryd.prog 12 #[.slice a len cap] w (EncIt F w) := by
  have hb := bodyOf_any a len cap F w hF hl hok ht
  unfold BodyIt at hb
  by_cases hv : validE F = 0
  · obtain ⟨h1, h2⟩ := enc_ok hv
    unfold EncIt
    rw [h2]
    rw [h1] at hb
    simp only at hb ⊢
    have hbl : (bodyL F).length ≤ 4096 := (validE_zero.1 hv).2
    clear h1 h2 hv hF hok
    generalize bodyL F = body at *
    have sB : (bs body).size = body.length := rfl
    have sD : (bs (dec body.length)).size ≤ 20 := by rw [bs_size, dec_length]; exact nd_lt20 (by omega)
    have epre := pre_text body
    have hpl : (pre body).length ≤ 4129 := by rw [pre_length]; have := nd_le 4 body.length (by omega) (by omega); omega
    have hi : ∀ wx, Below w.heap.size w wx → Calls Tryd.prog 23 #[.int .i64 (body.length : Int)] wx fun e w' => e = .returned (.string (bs (dec body.length))) ∧ Below wx.heap.size wx w' := fun wx h => by
      have := itoa_any (body.length : Int) wx (by omega) (by omega) (pow_keep ht h)
      rwa [itoaT_pos (by omega), Int.toNat_natCast] at this
    have HI := Lib.hid hi; have HT := Lib.hid ht; have HP := Lib.hid epre
    clear hi ht epre hl
    go_enter Tryd.func12, Tryd.ntmps12
    go_wp2_with fail
    refine hb.mono ?_
    rintro e w1 ⟨rfl, hb1⟩
    have HB1 := Lib.hid hb1; clear hb hb1
    go_wp2_with fail
    refine (HI.out w1 HB1.out).mono ?_
    rintro e w2 ⟨rfl, hb2⟩
    have HB2 := Lib.hid (HB1.out.trans (hb2.mono HB1.out.size)); clear hb2
    obtain ⟨v3, w3, hc3, ho3, hb3, hz3⟩ := conv_own w2 (pre body) (by omega) HB2.out.size
    rw [← HP.out] at hc3
    obtain ⟨a3, cap3, rfl, hr3, hn3, _, _⟩ := ho3.row
    have hsf := sumField_any a3 _ cap3 (pre body) w3 hr3 rfl (pow_keep HT.out (HB2.out.trans (hb3.mono HB2.out.size)))
    have HB3 := Lib.hid (HB2.out.trans (hb3.mono HB2.out.size))
    have HO3 := Lib.hid ho3
    clear hb3 hz3 ho3
    clear hr3 hn3
    go_wp2_with fail
    refine hsf.mono ?_
    rintro e w4 ⟨rfl, hb4⟩
    have HO4 := Lib.hid (HO3.out.keep hb4)
    have HB4 := Lib.hid (HB3.out.trans (hb4.mono HB3.out.size))
    have hsl := sumT_length (pre body)
    clear hb4 hsf hc3
    go_wp2_with (at_builtin; refine wp_apd_str rfl (.tmp 23) (.tmp 25) rfl w.heap.size _ (pre body) (sumT (pre body)) rfl HO4.out rfl (by omega) HB4.out.size ?_; intro v5 w5 ho5 hb5)
    go_ret2
    exact ⟨_, rfl, ho5, HB4.out.trans hb5⟩
  · obtain ⟨h1, h2⟩ := enc_err hv
    unfold EncIt
    rw [h2]
    rw [h1] at hb
    simp only at hb ⊢
    have hne : (validE F == 0) = false := by simpa using hv
    have hne2 : (validE F != 0) = true := by simpa using hv
    generalize validE F = E at *
    clear h1 h2 hF hok ht hl hv
    go_enter Tryd.func12, Tryd.ntmps12
    go_wp2_with (go_at_call 22; (with_reducible refine hb.mono ?_); rintro e w1 ⟨rfl, hb1⟩)
    go_ret2
    exact ⟨_, rfl, .inl ⟨rfl, rfl⟩, hb1⟩
end Go.Proofs.YtjgkjmegpinelaaDoor.Tg

/-
  Layer 7: the reference's begins and skip.
-/
import Derived.Test.YtjgkjmegpinelaaDoorTl
import Derived.Test.YtjgkjmegpinelaaDoorTt
namespace Go.Proofs.YtjgkjmegpinelaaDoor.Tg
open Go.RowKit Go.Sort Dx Sx
set_option linter.unusedVariables false
set_option linter.unusedSimpArgs false

theorem prefix_take {p s : List UInt8} (h : p.length ≤ s.length) : p.isPrefixOf s = decide (s.take p.length = p) := by
  cases e : p.isPrefixOf s with
  | true =>
    obtain ⟨r, rfl⟩ := List.isPrefixOf_iff_prefix.1 e
    rw [List.take_left' rfl]
    exact (decide_eq_true rfl).symm
  | false =>
    symm
    rw [decide_eq_false_iff_not]
    intro e2
    have : p <+: s := ⟨s.drop p.length, by conv => rhs; rw [← List.take_append_drop p.length s, e2]⟩
    rw [List.isPrefixOf_iff_prefix.2 this] at e
    cases e
theorem prefix_short {p s : List UInt8} (h : s.length < p.length) : p.isPrefixOf s = false := by
  cases e : p.isPrefixOf s with
  | true =>
    have := (List.isPrefixOf_iff_prefix.1 e).length_le
    omega
  | false => rfl
set_option maxRecDepth 100000 in
set_option maxHeartbeats 1000000 in
theorem rbegins_any (s p : List UInt8) (w : World) (h1 : s.length ≤ 9223372036854775807) (h2 : p.length ≤ 9223372036854775807) :
    Calls Tryd.prog 30 #[.string (bs s), .string (bs p)] w fun e w' => e = .returned (.bool (p.isPrefixOf s)) ∧ w = w' := by
  have z1 : (bs s).size = s.length := rfl
  have z2 : (bs p).size = p.length := rfl
  by_cases hle : p.length ≤ s.length
  · have d1 : decide ((p.length : Int) ≤ (s.length : Int)) = true := by rw [decide_eq_true_eq]; omega
    have x1 : (bs s).extract 0 p.length = bs (s.take p.length) := by rw [bs_extract]; rfl
    have hq := sumT_ne (s.take p.length) p
    rw [prefix_take hle]
    generalize decide (s.take p.length = p) = R at *
    generalize bs (s.take p.length) = T at *
    generalize bs s = S at *
    generalize bs p = Q at *
    generalize s.length = n at *
    generalize p.length = m at *
    cases R with
    | true =>
      go_enter Tryd.func30, Tryd.ntmps30
      go_wp2
      go_ret
      exact ⟨rfl, rfl⟩
    | false =>
      go_enter Tryd.func30, Tryd.ntmps30
      go_wp2
      go_ret
      exact ⟨rfl, rfl⟩
  · have d1 : decide ((p.length : Int) ≤ (s.length : Int)) = false := by rw [decide_eq_false_iff_not]; omega
    rw [prefix_short (by omega)]
    generalize bs s = S at *
    generalize bs p = Q at *
    generalize s.length = n at *
    generalize p.length = m at *
    go_enter Tryd.func30, Tryd.ntmps30
    go_wp2
    go_ret
    exact ⟨rfl, rfl⟩
set_option maxRecDepth 100000 in
set_option maxHeartbeats 4000000 in
theorem rskip_any (b : List UInt8) (w : World) (hm : b.length ≤ 1048576) :
    Calls Tryd.prog 31 #[.string (bs b)] w fun e w' => e = .returned (.int .i64 (skipS b : Int)) ∧ w = w' := by
  have hhdr : bs hdr = { data := #[56, 61, 70, 73, 88, 46, 52, 46, 52, 1] } := rfl
  have hz : (bs b).size = b.length := rfl
  have hx : ∀ i, (bs b).extract i b.length = bs (b.drop i) := fun i => by rw [bs_extract, List.take_of_length_le (by simp)]
  have hb1 : ∀ i w, Calls Tryd.prog 30 #[.string (bs (b.drop i)), .string { data := #[56, 61, 70, 73, 88, 46, 52, 46, 52, 1] }] w fun e w' => e = .returned (.bool (hdr.isPrefixOf (b.drop i))) ∧ w = w' := fun i w => by
    rw [← hhdr]
    exact rbegins_any _ _ w (by rw [List.length_drop]; omega) (by decide)
  have hb2 : ∀ i w, Calls Tryd.prog 30 #[.string { data := #[56, 61, 70, 73, 88, 46, 52, 46, 52, 1] }, .string (bs (b.drop i))] w fun e w' => e = .returned (.bool ((b.drop i).isPrefixOf hdr)) ∧ w = w' := fun i w => by
    rw [← hhdr]
    exact rbegins_any _ _ w (by decide) (by rw [List.length_drop]; omega)
  have HB1 := Lib.hid hb1; have HB2 := Lib.hid hb2; have HX := Lib.hid hx
  obtain ⟨n, hn⟩ : ∃ n, b.length = n := ⟨_, rfl⟩
  have HN := Lib.hid hn
  rw [hn] at hz hm
  obtain ⟨S, hS⟩ : ∃ S, bs b = S := ⟨_, rfl⟩
  rw [hS] at hz ⊢
  have HX : Hid (∀ i, S.extract i n = bs (b.drop i)) := Lib.hid (by rw [← hS, ← hn]; exact hx)
  clear hb1 hb2 hx hn hS hhdr
  go_enter Tryd.func31, Tryd.ntmps31
  go_wp2
  go_loopg [3] n (fun m i wr => ∃ k : Nat, k + m = n + 1 ∧ 1 ≤ k ∧ i = .int .i64 (k : Int) ∧ Hid (∀ j, 1 ≤ j → j < k → hdr.isPrefixOf (b.drop j) = false) ∧ wr = w)
  case atStart => exact ⟨1, by omega, by omega, rfl, Lib.hid fun j h1 h2 => by omega, rfl⟩
  case round =>
    obtain ⟨k, hk, hk1, rfl, HA, rfl⟩ := hrel
    by_cases hlt : k < n
    · have hbk := HB1.out k
      have hxk := HX.out k
      cases hp : hdr.isPrefixOf (b.drop k) with
      | true =>
        have hS : skipS b = k := by
          unfold skipS
          rw [findI_first (p := fun x => hdr.isPrefixOf x) (k := k - 1) (fun j hj => by rw [drop_add']; exact HA.out (1 + j) (by omega) (by omega)) (by rw [List.length_drop, HN.out]; omega) (by rw [drop_add', show 1 + (k - 1) = k by omega]; exact hp)]
          simp only
          omega
        have HS := Lib.hid hS
        rw [hp] at hbk
        clear hS hp
        generalize bs (b.drop k) = T at *
        go_wp2_with (go_at_call 30; (with_reducible refine (hbk _).mono ?_); rintro e wz ⟨rfl, rfl⟩)
        go_ret
        exact ⟨by rw [HS.out] <;> rfl, rfl⟩
      | false =>
        have HA2 : Hid (∀ j, 1 ≤ j → j < k + 1 → hdr.isPrefixOf (b.drop j) = false) := Lib.hid fun j j1 j2 => by
          rcases Nat.lt_or_ge j k with h | h
          · exact HA.out j j1 h
          · obtain rfl : j = k := by omega
            exact hp
        rw [hp] at hbk
        clear hp
        generalize bs (b.drop k) = T at *
        go_wp2_with (go_at_call 30; (with_reducible refine (hbk _).mono ?_); rintro e wz ⟨rfl, rfl⟩)
        go_roundg (n + 1 - (k + 1))
        case measure => omega
        case rel => exact ⟨k + 1, by omega, by omega, by go_num, HA2, rfl⟩
    · have hS : skipS b = match findI (·.isPrefixOf hdr) (b.drop 1) with | some i => i + 1 | none => b.length := by
        unfold skipS
        rw [findI_none (p := fun x => hdr.isPrefixOf x) (fun j hj => by rw [List.length_drop, HN.out] at hj; rw [drop_add']; exact HA.out (1 + j) (by omega) (by omega))]
        rfl
      have HS := Lib.hid hS
      clear hS HA HB1
      go_wp2
      go_loopg [4] n (fun m i wy => ∃ k : Nat, k + m = n + 1 ∧ 1 ≤ k ∧ i = .int .i64 (k : Int) ∧ Hid (∀ j, 1 ≤ j → j < k → (b.drop j).isPrefixOf hdr = false) ∧ wy = wr)
      case atStart => exact ⟨1, by omega, by omega, rfl, Lib.hid fun j h1 h2 => by omega, rfl⟩
      case round =>
        obtain ⟨k, hk, hk1, rfl, HA, rfl⟩ := hrel
        by_cases hlt : k < n
        · have hbk := HB2.out k
          have hxk := HX.out k
          cases hp : (b.drop k).isPrefixOf hdr with
          | true =>
            have hS : skipS b = k := by
              rw [HS.out, findI_first (p := fun x => x.isPrefixOf hdr) (k := k - 1) (fun j hj => by rw [drop_add']; exact HA.out (1 + j) (by omega) (by omega)) (by rw [List.length_drop, HN.out]; omega) (by rw [drop_add', show 1 + (k - 1) = k by omega]; exact hp)]
              simp only
              omega
            have HS2 := Lib.hid hS
            rw [hp] at hbk
            clear hS hp
            generalize bs (b.drop k) = T at *
            go_wp2_with (go_at_call 30; (with_reducible refine (hbk _).mono ?_); rintro e wz ⟨rfl, rfl⟩)
            go_ret
            exact ⟨by rw [HS2.out] <;> rfl, rfl⟩
          | false =>
            have HA2 : Hid (∀ j, 1 ≤ j → j < k + 1 → (b.drop j).isPrefixOf hdr = false) := Lib.hid fun j j1 j2 => by
              rcases Nat.lt_or_ge j k with h | h
              · exact HA.out j j1 h
              · obtain rfl : j = k := by omega
                exact hp
            rw [hp] at hbk
            clear hp
            generalize bs (b.drop k) = T at *
            go_wp2_with (go_at_call 30; (with_reducible refine (hbk _).mono ?_); rintro e wz ⟨rfl, rfl⟩)
            go_roundg (n + 1 - (k + 1))
            case measure => omega
            case rel => exact ⟨k + 1, by omega, by omega, by go_num, HA2, rfl⟩
        · have hS : skipS b = n := by
            rw [HS.out, findI_none (p := fun x => x.isPrefixOf hdr) (fun j hj => by rw [List.length_drop, HN.out] at hj; rw [drop_add']; exact HA.out (1 + j) (by omega) (by omega))]
            exact HN.out
          have HS2 := Lib.hid hS
          clear hS HA
          go_wp2
          go_ret
          exact ⟨by rw [HS2.out] <;> rfl, rfl⟩
end Go.Proofs.YtjgkjmegpinelaaDoor.Tg

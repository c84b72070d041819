/-
  Layer 4: the law DiskSafe.
-/
import Derived.Test.YtbjpchembekbbaaKl
import Derived.Test.YtbjpchembekbbaaKn
namespace Go.Proofs.Ytbjpchembekbbaa.Dk
open Go.RowKit Fo
set_option linter.unusedVariables false

def sumL (R : Nat → Rw) : Nat → Nat
  | 0 => 0
  | k + 1 => sumL R k + (R k).len
def allL (R : Nat → Rw) : Nat → List Int
  | 0 => []
  | k + 1 => allL R k ++ (R k).zs.take (R k).len
theorem sumL_le (R : Nat → Rw) {k n : Nat} (h : k ≤ n) : sumL R k ≤ sumL R n := by
  induction n with
  | zero => have : k = 0 := by omega
            subst this; exact Nat.le_refl _
  | succ n ih =>
    rcases Nat.lt_or_ge k (n + 1) with h1 | h1
    · have := ih (by omega); simp only [sumL]; omega
    · have : k = n + 1 := by omega
      subst this; exact Nat.le_refl _
theorem allL_len {w : World} {a : Option Addr} {len : Nat} {R : Nat → Rw} (h : HasRows w a len R) : ∀ k, k ≤ len → (allL R k).length = sumL R k
  | 0, _ => rfl
  | k + 1, hk => by
    have := allL_len h k (by omega)
    simp only [allL, sumL, List.length_append, this, take_len (h.2.2 k (by omega)).row]

/-- The state behind k parts: all their bytes, of which s are safe. -/
def At (k : Nat) (S : St) (l : List Int) (s : Nat) : Prop := (k = 0 ∧ S = start 1048576 ∧ l = [] ∧ s = 0) ∨ (0 < k ∧ ∃ wr, S = One [102] l s 1048576 wr 0)
theorem bn102 : badName [102] = false := by decide
theorem at_append {k : Nat} {S : St} {l b : List Int} {s : Nat} (h : At k S l s) (hb : l.length + b.length ≤ 1048576) : ∃ S', appendS [102] b S = (0, S') ∧ At (k + 1) S' (l ++ b) s := by
  rcases h with ⟨rfl, rfl, rfl, rfl⟩ | ⟨hk, wr, rfl⟩
  · exact ⟨_, one_first bn102 (by simpa using hb) (by simp at hb; omega), .inr ⟨by omega, inc 0, rfl⟩⟩
  · exact ⟨_, one_append bn102 hb (by omega), .inr ⟨by omega, inc wr, rfl⟩⟩
theorem at_sync {k : Nat} {S : St} {l : List Int} {s : Nat} (h : At (k + 1) S l s) : ∃ S', syncS [102] S = (0, S') ∧ At (k + 1) S' l l.length := by
  rcases h with ⟨h0, _⟩ | ⟨hk, wr, rfl⟩
  · omega
  · exact ⟨_, one_sync bn102, .inr ⟨hk, inc wr, rfl⟩⟩

theorem bool_at {w : World} {b off len k : Nat} {B : Nat → Bool} (h : HasBools w (some ⟨b, off, none⟩) len B) (hk : k < len) : w.cell? ⟨b, off + k, none⟩ = some (.bool (B k)) := by
  obtain ⟨b', off', e, hc⟩ := h.2 (by omega)
  cases e
  exact hc k hk
theorem off_one (keep : Int) (k : List UInt8) (l : List Int) (s : Nat) (room wr kp : Int) : (off keep (One k l s room wr kp)).down = true ∧ { off keep (One k l s room wr kp) with down := false } = One k (l.take (cutN keep ⟨k, l, s⟩)) (cutN keep ⟨k, l, s⟩) room wr kp := by
  simp [off, One, cut]
theorem off_start (keep room : Int) : (off keep (start room)).down = true ∧ there [102] { off keep (start room) with down := false } = 21 := by
  constructor
  · simp [off, start]
  · simp [off, start, there, bn102, look]
theorem names_down {S : St} (h : S.down = true) : namesL S = [] := by simp [namesL, h]
theorem row_short {w : World} {a : Option Addr} {n c : Nat} {l : List Int} (h : Fr.HasRow .u8 w a n l) (hc : c ≤ n) : Fr.HasRow .u8 w a c l :=
  ⟨Nat.le_trans hc h.1, Nat.le_trans hc h.2.1, fun h0 => by
    obtain ⟨b, off, e, hj⟩ := h.2.2 (by omega)
    exact ⟨b, off, e, fun j hj' => hj j (by omega)⟩⟩
/-- The law's own row 'all' beside the disk. -/
structure Side (W w : World) (O : Nat → Prop) (d : Nat) (S : St) (v : Value) (l : List Int) : Prop where
  disk : IsDisk w O d S
  own : Own w v l
  apart : ∀ b, v.ownBlock = some b → ¬ O b ∧ W.heap.size ≤ b
  high : ∀ i, O i → W.heap.size ≤ i
  frame : Below W.heap.size W w
theorem Side.step {W w w' : World} {O : Nat → Prop} {d : Nat} {S S' : St} {v : Value} {l : List Int} (h : Side W w O d S v l) (hs : Has w O d S' w') : ∃ O', Side W w' O' d S' v l := by
  obtain ⟨O', hst, hd⟩ := hs
  refine ⟨O', hd, h.own.same fun b hb => hst.block b (h.own.lt b hb) (h.apart b hb).1, fun b hb => ⟨fun ho => ?_, (h.apart b hb).2⟩, fun i hi => ?_, h.frame.trans (hst.toTurned.below fun k hk => ⟨Nat.lt_of_lt_of_le hk h.frame.size, fun ho => ?_⟩)⟩
  · rcases hst.own b ho with h1 | h1
    · exact (h.apart b hb).1 h1
    · have := h.own.lt b hb; omega
  · rcases hst.own i hi with h1 | h1
    · exact h.high i h1
    · exact Nat.le_trans h.frame.size h1
  · have := h.high k ho; omega
theorem Side.below {W w w' : World} {O : Nat → Prop} {d : Nat} {S : St} {v : Value} {l : List Int} (h : Side W w O d S v l) (hb : Below w.heap.size w w') : Side W w' O d S v l :=
  ⟨h.disk.below hb, h.own.same fun b e => hb.block b (h.own.lt b e), h.apart, h.high, h.frame.trans (hb.mono h.frame.size)⟩
/-- append(all, ..). -/
theorem Side.grow {W w w' : World} {O : Nat → Prop} {d : Nat} {S : St} {v v' : Value} {l l' : List Int} (h : Side W w O d S v l) (ho : Own w' v' l') (hg : w.grownBy w' v.ownBlock) (hat : v'.ownBlock = v.ownBlock ∨ v'.ownBlock = some w.heap.size) : Side W w' O d S v' l' := by
  obtain ⟨m, G, V, hd⟩ := h.disk
  refine ⟨⟨m, G, V, hd.same hg.size fun i hi => hg.block i (hd.dom i hi) fun e => (h.apart i e.symm).1 hi⟩, ho, fun b hb => ?_, h.high, h.frame.trans (Turned.below (O := fun b => v.ownBlock = some b) (Turned.of_grown hg fun b e => e) fun k hk => ⟨Nat.lt_of_lt_of_le hk h.frame.size, fun e => by have := (h.apart k e).2; omega⟩)⟩
  rcases hat with e | e
  · exact h.apart b (e ▸ hb)
  · rw [e] at hb
    cases hb
    exact ⟨fun ho => Nat.lt_irrefl _ (hd.dom _ ho), h.frame.size⟩
theorem Side.append {W w : World} {O : Nat → Prop} {d : Nat} {S S' : St} {v : Value} {l : List Int} (h : Side W w O d S v l) (s : ByteArray) (hs : s.size ≤ maxLen) (a : Option Addr) (len cap : Nat) (zs b : List Int) (hrow : Fr.HasRow .u8 w a len zs) (hn : a = none → cap = 0) (hlb : len ≤ 140737488355328) (hb : zs.take len = b) {r : Int} (he : appendS s.data.toList b S = (r, S')) :
    Calls Try.prog 16 #[.pointer (some ⟨d, 0, none⟩), .string s, .slice a len cap] w fun e w' => e = .returned (.int .i64 r) ∧ ∃ O', Side W w' O' d S' v l := by
  have c := append_disk h.disk s hs a len cap zs hrow hn hlb
  rw [hb, he] at c
  exact c.mono fun e w' ⟨x1, x2⟩ => ⟨x1, h.step x2⟩
theorem Side.sync {W w : World} {O : Nat → Prop} {d : Nat} {S S' : St} {v : Value} {l : List Int} (h : Side W w O d S v l) (s : ByteArray) (hs : s.size ≤ maxLen) {r : Int} (he : syncS s.data.toList S = (r, S')) :
    Calls Try.prog 17 #[.pointer (some ⟨d, 0, none⟩), .string s] w fun e w' => e = .returned (.int .i64 r) ∧ ∃ O', Side W w' O' d S' v l := by
  have c := sync_disk h.disk s hs
  rw [he] at c
  exact c.mono fun e w' ⟨x1, x2⟩ => ⟨x1, h.step x2⟩

set_option maxRecDepth 100000 in
set_option maxHeartbeats 1600000 in
theorem safe_walk (a : Option Addr) (len cap : Nat) (R : Nat → Rw) (a1 : Option Addr) (len1 cap1 : Nat) (B : Nat → Bool) (keep : Int) (w : World) (rows : HasRows w a len R) (bools : HasBools w a1 len1 B) :
    Calls Try.prog 4 #[.slice a len cap, .slice a1 len1 cap1, .int .i64 keep] w fun e w' => e = .returned (.bool true) ∧ Below w.heap.size w w' := by
  have hm := rows.1; have hm1 := bools.1
  have RS := Lib.hid rows; have BS := Lib.hid bools
  clear rows bools
  go_enter Try.func4, Try.ntmps4
  go_wp2_with fail
  refine (wakes_any _).mono ?_
  rintro e w1 ⟨rfl, hb1⟩
  have B1 := Lib.hid hb1; clear hb1
  have RS1 := Lib.hid (RS.out.keep B1.out); have BS1 := Lib.hid (BS.out.keep B1.out)
  go_wp2_with fail
  go_loopg [7, 22] len (fun m t i wr => ∃ k : Nat, k + m = len ∧ i = .int .i64 (k : Int) ∧ t = .int .i64 ((sumL R k : Nat) : Int) ∧ sumL R k ≤ 524288 ∧ w1 = wr)
  case atStart => exact ⟨0, by omega, rfl, rfl, by simp [sumL], rfl⟩
  case round =>
    obtain ⟨k, hk, rfl, rfl, ht, rfl⟩ := hrel
    by_cases hlt : k < len
    · obtain ⟨b, off, e1, hc⟩ := RS1.out.2.1 (by omega)
      have ck := hc k hlt
      have hrk := RS1.out.2.2 k hlt
      have hL := hrk.le; have hC := hrk.cap
      have hs1 : sumL R (k + 1) = sumL R k + (R k).len := rfl
      subst e1
      have HS := Lib.hid hs1
      clear hc hrk hs1
      generalize (R k).len = L at *
      generalize (R k).a = ra at *
      generalize (R k).cap = rc at *
      obtain ⟨t, htt⟩ : ∃ t, sumL R k = t := ⟨_, rfl⟩
      have HTT := Lib.hid htt
      rw [htt] at ht ⊢
      clear htt
      by_cases hbig : 524288 < t + L
      · have t1 : decide ((524288 : Int) < (t : Int) + (L : Int)) = true := by simp; omega
        go_wp2
        go_ret
        exact ⟨rfl, B1.out⟩
      · have t1 : decide ((524288 : Int) < (t : Int) + (L : Int)) = false := by simp; omega
        go_wp2
        go_roundg (len - (k + 1))
        case measure => omega
        case rel => exact ⟨k + 1, by omega, by go_num, by rw [HS.out, HTT.out]; go_num, by rw [HS.out, HTT.out]; omega, rfl⟩
    · obtain rfl : len = k := by omega
      by_cases hbig : 1024 < len
      · have t1 : decide ((1024 : Int) < (len : Int)) = true := by simp; omega
        have t1b : decide (1024 < len) = true := by simp; omega
        go_wp2
        go_ret
        exact ⟨rfl, B1.out⟩
      · have t1 : decide ((1024 : Int) < (len : Int)) = false := by simp; omega
        have t1b : decide (1024 < len) = false := by simp; omega
        go_wp2_with fail
        refine (new_any w1 1048576).mono ?_
        rintro e w2 ⟨rfl, hb2, hz2, hd2⟩
        have S2 : Hid (Side w1 w2 (fun i => i = w1.heap.size ∨ i = w1.heap.size + 1) (w1.heap.size + 1) (start 1048576) (.slice none 0 0) []) := ⟨hd2, own_nil _, (fun b e => by cases e), (fun i hi => by rcases hi with rfl | rfl <;> omega), hb2⟩
        obtain ⟨d, hd⟩ : ∃ d, d = w1.heap.size + 1 := ⟨_, rfl⟩
        rw [← hd] at S2 ⊢
        clear hd hb2 hz2 hd2 hbig t1 t1b
        go_wp2_with fail
        have hsum : sumL R len ≤ 524288 := ht
        have HSUM := Lib.hid hsum
        clear hsum
        go_loopg [11, 12, 41] len (fun m al sf i wr => ∃ (k n s cap' : Nat) (ad : Option Addr) (S : St) (l : List Int) (O : Nat → Prop), k + m = len ∧ i = .int .i64 (k : Int) ∧ al = .slice ad n cap' ∧ sf = .int .i64 (s : Int) ∧ s ≤ n ∧ n ≤ 524288 ∧ Hid (l.length = n) ∧ Hid (n = sumL R k) ∧ Hid (At k S l s) ∧ Hid (Side w1 wr O d S (.slice ad n cap') l))
        case atStart => exact ⟨0, 0, 0, 0, none, _, [], _, by omega, rfl, rfl, rfl, by omega, by omega, Lib.hid rfl, Lib.hid rfl, Lib.hid (.inl ⟨rfl, rfl, rfl, rfl⟩), S2⟩
        case round =>
          obtain ⟨k, n, s, cap', ad, S, l, O, hk, rfl, rfl, rfl, hsn, hn, HL, HN, HA, HS⟩ := hrel
          by_cases hlt : k < len
          · have rs := RS1.out.keep HS.out.frame
            have bs := BS1.out.keep HS.out.frame
            obtain ⟨b, off, e1, hc⟩ := rs.2.1 (by omega)
            have ck := hc k hlt
            have hrk := rs.2.2 k hlt
            have hL := hrk.le; have hC := hrk.cap
            have hle := sumL_le R (show k + 1 ≤ len by omega)
            have hs1 : sumL R (k + 1) = n + (R k).len := by rw [HN.out]; rfl
            have hsm := HSUM.out
            have hbd : n + (R k).len ≤ 524288 := by omega
            obtain ⟨b', hb'⟩ : ∃ b', (R k).zs.take (R k).len = b' := ⟨_, rfl⟩
            have lb' : b'.length = (R k).len := by rw [← hb']; exact take_len hrk.row
            obtain ⟨S', he, ha'⟩ := at_append HA.out (b := b') (by rw [HL.out, lb']; omega)
            have c := HS.out.append ⟨#[102]⟩ (by decide) (R k).a (R k).len (R k).cap (R k).zs b' hrk.row hrk.nil (by omega) hb' he
            have ln' : (l ++ b').length = n + (R k).len := by rw [List.length_append, HL.out, lb']
            have C := Lib.hid c; have RK := Lib.hid hrk; have HS1 := Lib.hid hs1; have HB' := Lib.hid hb'; have LN' := Lib.hid ln'; have HA' := Lib.hid ha'
            subst e1
            clear c hc hrk he ha' ln' hb' lb' hs1 rs hle hsm
            obtain ⟨L, hLL⟩ : ∃ L, (R k).len = L := ⟨_, rfl⟩
            obtain ⟨ra, hra⟩ : ∃ ra, (R k).a = ra := ⟨_, rfl⟩
            obtain ⟨rc, hrc⟩ : ∃ rc, (R k).cap = rc := ⟨_, rfl⟩
            rw [hLL] at ck C HS1 HB' LN' hL hbd
            rw [hra] at ck C; rw [hrc] at ck C hL hC
            have RKrow : Hid (∀ w', Below w1.heap.size w1 w' → Fr.HasRow .u8 w' ra L (R k).zs) := by rw [← hra, ← hLL]; exact fun w' hb => ((RS1.out.keep hb).2.2 k hlt).row
            have RKnil : Hid (ra = none → rc = 0) := by rw [← hra, ← hrc]; exact RK.out.nil
            clear hLL hra hrc RK bs
            by_cases hg1 : k < len1
            · have t1 : decide ((k : Int) < (len1 : Int)) = true := by simp; omega
              have t1b : decide (k < len1) = true := by simp; omega
              obtain ⟨b1, off1, e1, _⟩ := BS1.out.2 (by omega)
              subst e1
              cases hB : B k with
              | true =>
                go_wp2_with fail
                refine C.out.mono ?_
                rintro e w3 ⟨rfl, O3, hS3⟩
                have S3 := Lib.hid hS3; clear hS3 C
                have row3 : Hid (Fr.HasRow .u8 w3 ra L (R k).zs) := RKrow.out _ S3.out.frame
                go_wp2_with (first | (at_builtin; refine wp_app rfl (.tmp 50) (.tmp 51) rfl _ l rfl S3.out.own ra L rc (R k).zs rfl row3.out RKnil.out (by rw [HL.out]; omega) ?_; intro v4 w4 ho4 hg4 hat4; rw [HB'.out] at ho4; have S4 := Lib.hid (S3.out.grow ho4 hg4 hat4); obtain ⟨ad4, cap4, hv4, _⟩ := ho4.row; rw [LN'.out] at hv4; subst hv4; clear ho4 hg4 hat4; have cb4 := bool_at (BS1.out.keep S4.out.frame) hg1; rw [hB] at cb4; obtain ⟨S2', he2, ha2⟩ := at_sync HA'.out; have c2 := S4.out.sync ⟨#[102]⟩ (by decide) he2; have C2 := Lib.hid c2; have HA2 := Lib.hid ha2; clear c2 he2 ha2) | (go_at_call 17; (with_reducible refine C2.out.mono ?_); rintro e w5 ⟨rfl, O5, hS5⟩; have S5 := Lib.hid hS5; clear hS5 cb4))
                go_roundg (len - (k + 1))
                case measure => omega
                case rel => exact ⟨k + 1, n + L, n + L, cap4, ad4, _, _, _, by omega, by go_num, rfl, by go_num, by omega, by omega, LN', Lib.hid (by rw [HS1.out]), Lib.hid (by have := HA2.out; rw [LN'.out] at this; exact this), S5⟩
              | false =>
                go_wp2_with fail
                refine C.out.mono ?_
                rintro e w3 ⟨rfl, O3, hS3⟩
                have S3 := Lib.hid hS3; clear hS3 C
                have row3 : Hid (Fr.HasRow .u8 w3 ra L (R k).zs) := RKrow.out _ S3.out.frame
                go_wp2_with (first | (at_builtin; refine wp_app rfl (.tmp 50) (.tmp 51) rfl _ l rfl S3.out.own ra L rc (R k).zs rfl row3.out RKnil.out (by rw [HL.out]; omega) ?_; intro v4 w4 ho4 hg4 hat4; rw [HB'.out] at ho4; have S4 := Lib.hid (S3.out.grow ho4 hg4 hat4); obtain ⟨ad4, cap4, hv4, _⟩ := ho4.row; rw [LN'.out] at hv4; subst hv4; clear ho4 hg4 hat4; have cb4 := bool_at (BS1.out.keep S4.out.frame) hg1; rw [hB] at cb4))
                go_roundg (len - (k + 1))
                case measure => omega
                case rel => exact ⟨k + 1, n + L, s, cap4, ad4, _, _, _, by omega, by go_num, rfl, rfl, by omega, by omega, LN', Lib.hid (by rw [HS1.out]), HA', S4⟩
            · have t1 : decide ((k : Int) < (len1 : Int)) = false := by simp; omega
              have t1b : decide (k < len1) = false := by simp; omega
              go_wp2_with fail
              refine C.out.mono ?_
              rintro e w3 ⟨rfl, O3, hS3⟩
              have S3 := Lib.hid hS3; clear hS3 C
              have row3 : Hid (Fr.HasRow .u8 w3 ra L (R k).zs) := RKrow.out _ S3.out.frame
              go_wp2_with (first | (at_builtin; refine wp_app rfl (.tmp 50) (.tmp 51) rfl _ l rfl S3.out.own ra L rc (R k).zs rfl row3.out RKnil.out (by rw [HL.out]; omega) ?_; intro v4 w4 ho4 hg4 hat4; rw [HB'.out] at ho4; have S4 := Lib.hid (S3.out.grow ho4 hg4 hat4); obtain ⟨ad4, cap4, hv4, _⟩ := ho4.row; rw [LN'.out] at hv4; subst hv4; clear ho4 hg4 hat4))
              go_roundg (len - (k + 1))
              case measure => omega
              case rel => exact ⟨k + 1, n + L, s, cap4, ad4, _, _, _, by omega, by go_num, rfl, rfl, by omega, by omega, LN', Lib.hid (by rw [HS1.out]), HA', S4⟩
          · obtain rfl : len = k := by omega
            have hdn : (off keep S).down = true := by
              rcases HA.out with ⟨_, rfl, _, _⟩ | ⟨_, wr', rfl⟩
              · exact (off_start keep 1048576).1
              · exact (off_one keep [102] l s 1048576 wr' 0).1
            have HDN := Lib.hid hdn
            have DD := Lib.hid (off_disk HS.out.disk keep)
            clear hdn
            go_wp2_with fail
            refine DD.out.mono ?_
            rintro e w3 ⟨rfl, hh3⟩
            obtain ⟨O3, hS3⟩ := HS.out.step hh3
            have S3 := Lib.hid hS3
            clear hh3 hS3 DD
            have DW := down_disk S3.out.disk
            rw [HDN.out] at DW
            have DW := Lib.hid DW
            go_wp2_with fail
            refine DW.out.mono ?_
            rintro e w4 ⟨rfl, rfl⟩
            clear DW
            have nm := names_out S3.out.disk
            rw [names_down HDN.out] at nm
            have NM := Lib.hid nm
            clear nm
            go_wp2_with fail
            refine NM.out.mono ?_
            rintro e w5 ⟨adn, capn, rfl, hcn, hcn2, _, hb5⟩
            have S5 := Lib.hid (S3.out.below hb5)
            rw [show ([] : List (List UInt8)).length = 0 from rfl] at hcn ⊢
            clear hb5 NM
            have ON := Lib.hid (on_disk S5.out.disk)
            go_wp2_with fail
            refine ON.out.mono ?_
            rintro e w6 ⟨rfl, hh6⟩
            obtain ⟨O6, hS6⟩ := S5.out.step hh6
            have S6 := Lib.hid hS6
            clear hh6 hS6 ON
            by_cases h0 : len = 0
            · have t1 : ((len : Int) == 0) = true := by simp; omega
              have ht6 : there [102] { off keep S with down := false } = 21 := by
                rcases HA.out with ⟨_, rfl, _, _⟩ | ⟨h1, _⟩
                · exact (off_start keep 1048576).2
                · omega
              have rd := read_disk S6.out.disk ⟨#[102]⟩ (by decide)
              have RD : Hid (Calls Try.prog 22 #[.pointer (some ⟨d, 0, none⟩), .string ⟨#[102]⟩] w6 fun e w' => ∃ v, e = .returned (.tuple #[v, .int .i64 21]) ∧ Below w6.heap.size w6 w') := by
                exact rd.mono fun e w' ⟨v, x1, _, x3⟩ => ⟨v, by rw [x1]; exact congrArg (fun z => Ending.returned (.tuple #[v, .int .i64 z])) ht6, x3⟩
              clear rd ht6
              have h0' := Lib.hid h0
              clear h0
              go_wp2_with fail
              refine RD.out.mono ?_
              rintro e w7 ⟨v7, rfl, hb7⟩
              have F7 := Lib.hid ((S6.out.below hb7).frame)
              clear hb7 RD
              go_wp2
              go_ret
              exact ⟨rfl, B1.out.trans (F7.out.mono B1.out.size)⟩
            · have t1 : ((len : Int) == 0) = false := by simp; omega
              have t1b : (len == 0) = false := by simpa using h0
              obtain ⟨wr', hS⟩ : ∃ wr', S = One [102] l s 1048576 wr' 0 := by
                rcases HA.out with ⟨h1, _⟩ | ⟨_, wr', h1⟩
                · omega
                · exact ⟨wr', h1⟩
              obtain ⟨c, hc⟩ : ∃ c, cutN keep ⟨[102], l, s⟩ = c := ⟨_, rfl⟩
              have hst : { off keep S with down := false } = One [102] (l.take c) c 1048576 wr' 0 := by rw [hS, ← hc]; exact (off_one keep [102] l s 1048576 wr' 0).2
              have hl := HL.out
              have hcn : ((c : Nat) : Int) = (s : Int) + min (max keep 0) ((n : Int) - (s : Int)) := by rw [← hc, ← hl]; unfold cutN; simp only; omega
              have hcn2 : c ≤ n := by omega
              have rd := read_disk S6.out.disk ⟨#[102]⟩ (by decide)
              rw [hst] at rd
              have RD : Hid (Calls Try.prog 22 #[.pointer (some ⟨d, 0, none⟩), .string ⟨#[102]⟩] w6 (RowOut w6 0 (l.take c))) := by
                refine rd.mono fun e w' ⟨v, x1, x2, x3⟩ => ?_
                rw [show readL _ (One [102] (l.take c) c 1048576 wr' 0) = l.take c from one_read bn102] at x2
                obtain ⟨ad, cap, rfl, y1, y2, y3, _⟩ := Ob.own_row x2
                exact ⟨ad, cap, x1.trans (congrArg (fun z => Ending.returned (.tuple #[_, .int .i64 z])) (one_there bn102)), x2, y1, y2, y3, x3⟩
              have lc : (l.take c).length = c := by simp; omega
              have LC := Lib.hid lc
              have HCN := Lib.hid hcn
              clear rd hst hS hc hl hcn h0 lc
              go_wp2_with fail
              refine RD.out.mono ?_
              rintro e w7 ⟨adb, capb, rfl, _, rb7, _, _, hb7⟩
              rw [LC.out] at rb7 ⊢
              have S7 := Lib.hid (S6.out.below hb7)
              have RB7 := Lib.hid rb7
              clear hb7 rb7 RD
              obtain ⟨ad', cap'', hv, rv, nv, cv, cv2⟩ := S7.out.own.row
              rw [HL.out] at hv rv cv
              simp only [Value.slice.injEq, true_and] at hv
              obtain ⟨rfl, rfl⟩ := hv
              have c8 : ∀ capx, Calls Try.prog 14 #[.slice adb c capb, .slice ad c capx] w7 fun e w' => e = .returned (.bool true) ∧ Below w7.heap.size w7 w' := fun capx => by
                have := same_any adb c capb (l.take c) ad c capx l w7 RB7.out (row_short rv hcn2)
                rw [List.take_take, Nat.min_self, sameB_self] at this
                exact this
              have C8 := Lib.hid c8
              have cv3 : cap' ≤ 9223372036854775807 := by unfold maxLen at cv2; exact cv2
              have NV := Lib.hid nv
              have x1 : (0 : Int) ≤ (n : Int) - (s : Int) := by omega
              have hcn : (s : Int) + min (max keep 0) ((n : Int) - (s : Int)) = (c : Int) := HCN.out.symm
              have hc0 : (0 : Int) ≤ (c : Int) := Int.natCast_nonneg _
              have HCN2 := Lib.hid hcn
              clear c8 rv cv2 nv hcn
              cases ad with
              | none =>
                have e0 := NV.out rfl
                have n0 : n = 0 := by omega
                have c0 : c = 0 := by omega
                have s0 : s = 0 := by omega
                subst e0; subst n0; subst c0; subst s0
                have e : min (max keep 0) 0 = 0 := by omega
                clear HCN HCN2 x1
                go_wp2_with fail
                clear e
                (with_reducible refine (C8.out _).mono ?_)
                rintro e w8 ⟨rfl, hb8⟩
                have F8 := Lib.hid ((S7.out.below hb8).frame)
                clear hb8
                go_wp2
                go_ret
                exact ⟨rfl, B1.out.trans (F8.out.mono B1.out.size)⟩
              | some x =>
                have hx : ∃ bx, x = ⟨bx, 0, none⟩ := by
                  rcases S7.out.own.2 with ⟨h1, _⟩ | ⟨bx, _, _, h1, _⟩
                  · cases h1
                  · simp at h1; exact ⟨bx, h1.1⟩
                obtain ⟨bx, rfl⟩ := hx
                have e := HCN2.out
                clear HCN HCN2
                go_wp2_with fail
                clear e
                (with_reducible refine (C8.out _).mono ?_)
                rintro e w8 ⟨rfl, hb8⟩
                have F8 := Lib.hid ((S7.out.below hb8).frame)
                clear hb8
                go_wp2
                go_ret
                exact ⟨rfl, B1.out.trans (F8.out.mono B1.out.size)⟩
end Go.Proofs.Ytbjpchembekbbaa.Dk

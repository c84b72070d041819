/-
  Layer 4: shorten, used, Off, write, at a disk in whatever state.
-/
import Derived.Test.YtdonkmkjblofpaaGreatDoorKc
import Derived.BigQuiet
import Derived.Deep.QuietTactic
import Derived.Deep.LoopGhost
namespace Go.Proofs.YtdonkmkjblofpaaGreatDoor.Dk
open Go.RowKit
set_option linter.unusedVariables false

set_option maxRecDepth 100000 in
theorem shorten_some (w : World) (g b len cap s n : Nat) (h : w.heap[g]? = some (.cells #[.slice (some ⟨b, 0, none⟩) len cap, .int .i64 (s : Int)] 82 (0, 0))) (hn : n ≤ len) (hl : len ≤ cap) (hc : cap ≤ 9223372036854775807) (hs : s ≤ len) :
    Calls Tryz.prog 75 #[.pointer (some ⟨g, 0, none⟩), .int .i64 (n : Int)] w fun e w' => e = .returned (.tuple #[]) ∧ w' = (w.setCell ⟨g, 0, none⟩ (.slice (some ⟨b, 0, none⟩) n cap)).setCell ⟨g, 1, none⟩ (.int .i64 ((min s n : Nat) : Int)) := by
  have c0 : w.cell? ⟨g, 0, none⟩ = some (.slice (some ⟨b, 0, none⟩) len cap) := Joins.cell_of_block h 0
  have c1 : w.cell? ⟨g, 1, none⟩ = some (.int .i64 (s : Int)) := Joins.cell_of_block h 1
  have f0 : w.frozen? ⟨g, 0, none⟩ = false := Joins.unfrozen_of_block h 0
  have f1 : w.frozen? ⟨g, 1, none⟩ = false := Joins.unfrozen_of_block h 1
  clear h
  go_enter Tryz.func75, Tryz.ntmps75
  go_wp2
  all_goals
    (first | go_end0 | refine bodyPost_ret (results_none rfl _ _ _) rfl ?_)
    first | exact ⟨rfl, rfl⟩ | exact ⟨rfl, by rw [show min s n = s by omega]⟩ | exact ⟨rfl, by rw [show min s n = n by omega]⟩
set_option maxRecDepth 100000 in
theorem shorten_none (w : World) (g : Nat) (h : w.heap[g]? = some (.cells #[.slice none 0 0, .int .i64 0] 82 (0, 0))) :
    Calls Tryz.prog 75 #[.pointer (some ⟨g, 0, none⟩), .int .i64 0] w fun e w' => e = .returned (.tuple #[]) ∧ w' = (w.setCell ⟨g, 0, none⟩ (.slice none 0 0)).setCell ⟨g, 1, none⟩ (.int .i64 0) := by
  have c0 : w.cell? ⟨g, 0, none⟩ = some (.slice none 0 0) := Joins.cell_of_block h 0
  have c1 : w.cell? ⟨g, 1, none⟩ = some (.int .i64 0) := Joins.cell_of_block h 1
  have f0 : w.frozen? ⟨g, 0, none⟩ = false := Joins.unfrozen_of_block h 0
  have f1 : w.frozen? ⟨g, 1, none⟩ = false := Joins.unfrozen_of_block h 1
  clear h
  go_enter Tryz.func75, Tryz.ntmps75
  go_wp2
  all_goals
    (first | go_end0 | refine bodyPost_ret (results_none rfl _ _ _) rfl ?_)
    exact ⟨rfl, rfl⟩

/-- shorten, of whatever file: both its cells are stored. -/
theorem shorten_any {w : World} {O : Nat → Prop} {g : Nat} {v : Value} {f : File} (h : FileAt w O g v f) (n : Nat) (hn : n ≤ f.l.length) (hs : f.s ≤ f.l.length) :
    ∃ v', Calls Tryz.prog 75 #[.pointer (some ⟨g, 0, none⟩), .int .i64 (n : Int)] w (fun e w' => e = .returned (.tuple #[]) ∧ w' = (w.setCell ⟨g, 0, none⟩ v').setCell ⟨g, 1, none⟩ (.int .i64 ((min f.s n : Nat) : Int))) ∧
      Own w v' (f.l.take n) ∧ v'.ownBlock = v.ownBlock := by
  obtain ⟨ad, cap, rfl, hr, hnil, hlc, hcm⟩ := h.own.row
  cases ad with
  | none =>
    obtain rfl := hnil rfl
    have hl0 : f.l.length = 0 := by omega
    have e1 : f.s = 0 := by omega
    have e2 : n = 0 := by omega
    have hb := h.blk
    rw [hl0, e1] at hb
    subst e2
    refine ⟨.slice none 0 0, ?_, own_nil w, rfl⟩
    rw [e1]
    exact shorten_none w g hb
  | some a =>
    obtain ⟨b, hb⟩ : ∃ b, a = ⟨b, 0, none⟩ := by
      rcases h.own.2 with ⟨h0, _⟩ | ⟨b, _, _, h0, _⟩
      · cases h0
      · simp at h0; exact ⟨b, h0.1⟩
    subst hb
    exact ⟨.slice (some ⟨b, 0, none⟩) n cap, shorten_some w g b f.l.length cap f.s n h.blk hn hlc (by unfold maxLen at hcm; exact hcm) hs, h.own.short n hn, rfl⟩

/-! ### a range over the files -/
theorem wp_next_files {ops : Array Oper} {rest : List Oper} {o : Oper} {a : Act} {Q : Exit → Act → World → Prop} (w : World) (hg : o.guard = none) (it : Operand) (hop : o.op = Op.next it false) (G : List UInt8 → Nat) (fs : List File) (b r n : Nat) (left : Lit → Bool) (cnt : Nat)
    (hit : a.eval it = .pointer (some ⟨r, 0, none⟩)) (h : w.ranges Tryz.prog 9 Rp b r n (dat G fs) left cnt)
    (hDone : cnt = 0 → (∀ kl, left kl = false) → wpList Tryz.prog ops Q rest (a.put o.dst (.tuple #[.bool false])) w)
    (hMore : ∀ (f : File) (s : ByteArray) (w' : World) (cnt' : Nat), f ∈ fs → left (.string f.nm) = true → w'.ranges Tryz.prog 9 Rp b r n (dat G fs) (fun z => left z && !z.sameKey (.string f.nm)) cnt' → cnt' < cnt → w.grownBy w' (some r) →
      (Instr.entry (.pointer (some ⟨r, 0, none⟩))).run Tryz.prog w' = .ok (.tuple #[.string s, .pointer (some ⟨G f.nm, 0, none⟩)]) w' → wpList Tryz.prog ops Q rest (a.put o.dst (.tuple #[.bool true, .string s, .pointer (some ⟨G f.nm, 0, none⟩)])) w') :
    wpList Tryz.prog ops Q (o :: rest) a w := by
  refine wpList_plain hg fun K' hK' => ?_
  unfold Oper.wp
  rcases h.next law o.type with ⟨h0, hl, hrun⟩ | ⟨key, v, kl, y, w', cnt', hkey, hlk, hv, hat, hrun, hrg, hlt, hgr, hsz, hen⟩
  · simp [execOp, hop, hit, hrun, Result.andThen]
    exact hK' _ _ (hDone h0 hl)
  · obtain ⟨x, rfl, rfl, hx⟩ := Maps.keyOf_str Tryz.underlying9 hkey
    cases hf : look x fs with
    | none =>
      have h1 := hat .nil; have h2 := hat (.lit (.bool true))
      rw [atKey_lacks hf] at h1 h2
      rw [← h1] at h2; cases h2
    | some f =>
      have h1 := hat .nil
      rw [atKey_found hf] at h1
      obtain ⟨hm, rfl⟩ := look_some hf
      obtain ⟨y1, y2⟩ := y
      simp only at h1
      subst h1
      have ev := Rp_inv hv
      subst ev
      simp [execOp, hop, hit, hrun, Result.andThen]
      exact hK' _ _ (hMore f _ w' cnt' hm hlk hrg hlt hgr hen)

def usedBut (left : Lit → Bool) : List File → Nat
  | [] => 0
  | f :: r => (if left (.string f.nm) then 0 else f.l.length) + usedBut left r
theorem usedBut_le (left : Lit → Bool) : ∀ fs, usedBut left fs ≤ used fs
  | [] => Nat.le_refl _
  | f :: r => by have := usedBut_le left r; unfold usedBut used; split <;> omega
theorem usedBut_start {left : Lit → Bool} : ∀ {fs}, (∀ f ∈ fs, left (.string f.nm) = true) → usedBut left fs = 0
  | [], _ => rfl
  | f :: r, h => by unfold usedBut; rw [if_pos (h f (by simp)), usedBut_start fun f hf => h f (by simp [hf])]
theorem usedBut_end {left : Lit → Bool} (h : ∀ kl, left kl = false) : ∀ fs, usedBut left fs = used fs
  | [] => rfl
  | f :: r => by unfold usedBut used; rw [if_neg (by rw [h]; decide), usedBut_end h r]
theorem strike_same (left : Lit → Bool) (k : List UInt8) : (fun z : Lit => left z && !z.sameKey (.string k)) (.string k) = false := by simp [Lit.sameKey]
theorem strike_other (left : Lit → Bool) {k k' : List UInt8} (h : k' ≠ k) : (fun z : Lit => left z && !z.sameKey (.string k)) (.string k') = left (.string k') := by simp [Lit.sameKey, h]
theorem usedBut_skip {left : Lit → Bool} {k : List UInt8} : ∀ {fs}, (∀ f ∈ fs, f.nm ≠ k) → usedBut (fun z => left z && !z.sameKey (.string k)) fs = usedBut left fs
  | [], _ => rfl
  | f :: r, h => by
    unfold usedBut
    rw [usedBut_skip fun f hf => h f (by simp [hf])]
    have := strike_other left (h f (by simp))
    simp only at this
    rw [this]
theorem usedBut_step {left : Lit → Bool} {f : File} : ∀ {fs}, fs.Pairwise (fun a b : File => a.nm ≠ b.nm) → f ∈ fs → left (.string f.nm) = true → usedBut (fun z => left z && !z.sameKey (.string f.nm)) fs = usedBut left fs + f.l.length
  | [], _, h, _ => by cases h
  | y :: r, hp, hm, hl => by
    obtain ⟨h1, h2⟩ := List.pairwise_cons.1 hp
    rcases List.mem_cons.1 hm with rfl | hm
    · unfold usedBut
      rw [usedBut_skip fun g hg => (h1 g hg).symm, if_pos hl]
      have := strike_same left f.nm
      simp only at this
      rw [this]
      simp; omega
    · unfold usedBut
      rw [usedBut_step h2 hm hl]
      have := strike_other left (h1 f hm)
      simp only at this
      rw [this]
      omega

section
variable {w : World} {O : Nat → Prop} {d m : Nat} {G : List UInt8 → Nat} {V : List UInt8 → Value} {S : St}
set_option maxRecDepth 100000 in
set_option maxHeartbeats 1000000 in
theorem used_any (h : Rep w O d m G V S) :
    Calls Tryz.prog 55 #[.pointer (some ⟨d, 0, none⟩)] w fun e w' => e = .returned (.int .i64 (used S.fs : Int)) ∧ Below w.heap.size w w' := by
  obtain ⟨c0, _⟩ := h.cells
  have H := Lib.hid h
  have HU := Lib.hid (h.good.used_le)
  have HM := Lib.hid h.map
  clear h
  go_enter Tryz.func55, Tryz.ntmps55
  go_wp2_with (at_range; refine wpList_range_own _ rfl _ 77 rfl 9 80 law Tryz.underlying77 Rp m S.fs.length (dat G S.fs) rfl HM.out ?_; intro w0 hrg0' hg0' hs0'; have hrg0 := Lib.hid hrg0'; have hg0 := Lib.hid hg0'; clear hrg0' hg0' hs0')
  go_frame
  go_loopg [3] (Maps.size (dat G S.fs)) (fun k n wr => ∃ (left : Lit → Bool) (u : Nat), Hid (wr.ranges Tryz.prog 9 Rp m w.heap.size S.fs.length (dat G S.fs) left k) ∧ Hid (Below w.heap.size w wr) ∧ n = .int .i64 (u : Int) ∧ Hid (usedBut left S.fs = u) ∧ u ≤ 16777216)
  case atStart =>
    refine ⟨Maps.has (dat G S.fs), 0, hrg0, Lib.hid ((Below.refl _ _).grown hg0.out (Nat.le_refl _) (fun k hk => by cases hk)), rfl, Lib.hid (usedBut_start fun f hf => ?_), by decide⟩
    rw [has_look, look_of_mem (distinct H.out.good.sorted) hf rfl]; rfl
  case round =>
    obtain ⟨left, u, HR, HB, rfl, HS, hu⟩ := hrel
    go_wp2_with (at_next; refine wp_next_files _ rfl _ rfl G S.fs m w.heap.size S.fs.length left gk rfl HR.out ?_ ?_)
    · intro _ hl0
      have hl0 := Lib.hid hl0
      go_wp2
      have e : used S.fs = u := by rw [← HS.out, usedBut_end hl0.out]
      have E := Lib.hid e; clear e
      go_ret
      exact ⟨by rw [E.out] <;> rfl, HB.out⟩
    · intro f s w1 k1 hf hlf hrg1 hlt hg1 hen
      have hs := usedBut_step (distinct H.out.good.sorted) hf hlf
      rw [HS.out] at hs
      have hle := usedBut_le (fun z => left z && !z.sameKey (.string f.nm)) S.fs
      have hU := HU.out
      have hb1 := HB.out.grown hg1 HB.out.size (fun k hk => by cases hk; exact Nat.le_refl _)
      have hfa := (H.out.below hb1).files f hf
      obtain ⟨ad, cap, hv, _⟩ := hfa.own.row
      obtain ⟨cf, _⟩ := hfa.cells
      rw [hv] at cf
      have hu1 : u + f.l.length ≤ 16777216 := by omega
      have HS1 := Lib.hid hs; have HB1 := Lib.hid hb1; have HR1 := Lib.hid hrg1
      clear hs hle hU hb1 hfa hv hrg1 hlf hg1 hf
      generalize f.l.length = ln at *
      go_wp2
      go_roundg k1
      case measure => exact hlt
      case rel => exact ⟨_, u + ln, HR1, HB1, by go_num, HS1, hu1⟩
end
end Go.Proofs.YtdonkmkjblofpaaGreatDoor.Dk

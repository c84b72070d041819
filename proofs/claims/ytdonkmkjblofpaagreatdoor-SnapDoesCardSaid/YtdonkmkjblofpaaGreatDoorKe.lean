/-
  Layer 4: Off, write, at a disk in whatever state.
-/
import Derived.Test.YtdonkmkjblofpaaGreatDoorKd
namespace Go.Proofs.YtdonkmkjblofpaaGreatDoor.Dk
open Go.RowKit
set_option linter.unusedVariables false

/-- What is left of the files when those of 'left' are still to be cut. -/
def cutBut (left : Lit → Bool) (keep : Int) (f : File) : File := if left (.string f.nm) then f else cut keep f
theorem cutBut_nm (left : Lit → Bool) (keep : Int) (f : File) : (cutBut left keep f).nm = f.nm := by unfold cutBut; split <;> rfl
theorem cutBut_start {left : Lit → Bool} {keep : Int} {fs : List File} (h : ∀ f ∈ fs, left (.string f.nm) = true) : fs.map (cutBut left keep) = fs := by
  have : fs.map (cutBut left keep) = fs.map id := List.map_congr_left fun f hf => by simp [cutBut, h f hf]
  rw [this, List.map_id]
theorem cutBut_end {left : Lit → Bool} {keep : Int} (fs : List File) (h : ∀ kl, left kl = false) : fs.map (cutBut left keep) = fs.map (cut keep) :=
  List.map_congr_left fun f hf => by simp [cutBut, h]
theorem cutBut_step {left : Lit → Bool} {keep : Int} {f0 : File} {fs : List File} (hp : fs.Pairwise (fun a b : File => a.nm ≠ b.nm)) (hm : f0 ∈ fs) (hl : left (.string f0.nm) = true) :
    (fs.map (cutBut left keep)).map (fun f => if f.nm = f0.nm then cut keep f else f) = fs.map (cutBut (fun z => left z && !z.sameKey (.string f0.nm)) keep) := by
  rw [List.map_map]
  refine List.map_congr_left fun f hf => ?_
  simp only [Function.comp, cutBut_nm]
  by_cases e : f.nm = f0.nm
  · have := mem_eq hp hf hm e
    subst this
    have h1 := strike_same left f.nm
    simp only at h1
    unfold cutBut
    rw [if_pos rfl, if_pos hl]
    simp only [h1]
    rfl
  · have h1 := strike_other left e
    simp only at h1
    rw [if_neg e]
    unfold cutBut
    simp only [h1]

section
variable {w : World} {O : Nat → Prop} {d m : Nat} {G : List UInt8 → Nat} {V : List UInt8 → Value} {S : St}

/-- Two cells of a file are stored, of which the first leads where it led. -/
theorem file_stored (h : Rep w O d m G V S) {f0 : File} (hf : f0 ∈ S.fs) (φ : File → File) (hφ : (φ f0).nm = f0.nm) (v' : Value) (hown : Own w v' (φ f0).l) (hv : v'.ownBlock = (V f0.nm).ownBlock) (x : Value) (w' : World)
    (hw : w'.heap.size = w.heap.size) (ho : w'.os = w.os) (ht : w'.tape = w.tape) (hou : w'.output = w.output) (hk : ∀ k, k ≠ G f0.nm → w'.heap[k]? = w.heap[k]?)
    (hblk : w'.heap[G f0.nm]? = some (.cells #[v', .int .i64 ((φ f0).s : Int)] 82 (0, 0))) (hg : Good { S with fs := S.fs.map fun f => if f.nm = f0.nm then φ f else f }) :
    Rep w' O d m G (at1 V f0.nm v') { S with fs := S.fs.map fun f => if f.nm = f0.nm then φ f else f } := by
  have hfa := h.files f0 hf
  have hne := h.ne.2.2 f0 hf
  refine h.file hf φ hφ v' (Step.of ⟨ho, ht, hou, by omega, fun k _ hn => hk k fun e => hn (e ▸ hfa.og)⟩) (fun _ h => h) (fun i hi => by rw [hw]; exact h.dom i hi) (fun i _ hi _ => hk i hi)
    ⟨hfa.og, hblk, hown.same fun b hb => hk b fun e => (hne b (hv ▸ hb)).2.2 f0 hf e.symm, fun b hb => hfa.ov b (hv ▸ hb)⟩ (fun b hb => .inl (hv ▸ hb)) hg

theorem ranges_two {w : World} {b r n g : Nat} {D : DataW Unit} {left : Lit → Bool} {cnt : Nat} (h : w.ranges Tryz.prog 9 Rp b r n D left cnt) (hb : b ≠ g) (hr : r ≠ g) (i : Nat) (u : Value) : (w.setCell ⟨g, i, none⟩ u).ranges Tryz.prog 9 Rp b r n D left cnt :=
  h.kept (row := some g) ⟨rfl, rfl, rfl, by simp, fun k _ hk => Below.heap_setCell w _ u k fun e => hk (by rw [e])⟩ (fun e => hb (Option.some.inj e)) (fun e => hr (Option.some.inj e))
theorem ranges_drewN {w : World} {b r n : Nat} {D : DataW Unit} {left : Lit → Bool} {cnt : Nat} (h : w.ranges Tryz.prog 9 Rp b r n D left cnt) (q : Nat) : (w.drewN q).ranges Tryz.prog 9 Rp b r n D left cnt := h
theorem Rep.drewN (h : Rep w O d m G V S) (q : Nat) : Rep (w.drewN q) O d m G V S := h.same (Nat.le_refl _) fun _ _ => rfl

theorem Turned.grow {O : Nat → Prop} {a b c : World} {row : Option Nat} (h : Turned O a b) (g : b.grownBy c row) (hr : ∀ j, row = some j → a.heap.size ≤ j) : Turned O a c :=
  ⟨g.os.trans h.os, g.tape.trans h.tape, g.output.trans h.output, Nat.le_trans h.size g.size, fun k hk hn => (g.block k (Nat.lt_of_lt_of_le hk h.size) (fun e => by have := hr k e.symm; omega)).trans (h.block k hk hn)⟩
/-- The world behind shorten's call in Off's round. -/
def cutW (w : World) (g : Nat) (c : Nat) (v : Value) (q : Nat) : World := (((w.drewN q).setCell ⟨g, 1, none⟩ (.int .i64 (c : Int))).setCell ⟨g, 0, none⟩ v).setCell ⟨g, 1, none⟩ (.int .i64 ((min c c : Nat) : Int))
theorem off_round {w1 : World} {V' : List UInt8 → Value} {left : Lit → Bool} {keep : Int} (hS : Good S) (hp1 : Rep w1 O d m G V' { S with fs := S.fs.map (cutBut left keep) }) {f : File} (hf : f ∈ S.fs) (hlf : left (.string f.nm) = true) (q : Nat) :
    ∃ v', Calls Tryz.prog 75 #[.pointer (some ⟨G f.nm, 0, none⟩), .int .i64 (cutN keep f : Int)] ((w1.drewN q).setCell ⟨G f.nm, 1, none⟩ (.int .i64 (cutN keep f : Int))) (fun e w' => e = .returned (.tuple #[]) ∧ w' = cutW w1 (G f.nm) (cutN keep f) v' q) ∧
      Rep (cutW w1 (G f.nm) (cutN keep f) v' q) O d m G (at1 V' f.nm v') { S with fs := S.fs.map (cutBut (fun z => left z && !z.sameKey (.string f.nm)) keep) } ∧ Turned O w1 (cutW w1 (G f.nm) (cutN keep f) v' q) := by
  have hf1 : f ∈ S.fs.map (cutBut left keep) := List.mem_map.2 ⟨f, hf, by simp [cutBut, hlf]⟩
  have hfa := hp1.files f hf1
  have hne := hp1.ne.2.2 f hf1
  have hs := hS.safe f hf
  have hcn := cutN_le (keep := keep) hs
  have hb2 : ((w1.drewN q).setCell ⟨G f.nm, 1, none⟩ (.int .i64 (cutN keep f : Int))).heap[G f.nm]? = some (.cells #[V' f.nm, .int .i64 (cutN keep f : Int)] 82 (0, 0)) :=
    Joins.block_setCell (w := w1.drewN q) (i := 1) hfa.blk (.int .i64 (cutN keep f : Int))
  have hother : ∀ (v : Value) k, k ≠ G f.nm → (cutW w1 (G f.nm) (cutN keep f) v q).heap[k]? = w1.heap[k]? := fun v k hk => by
    unfold cutW
    rw [Below.heap_setCell _ _ _ k hk, Below.heap_setCell _ _ _ k hk, Below.heap_setCell _ _ _ k hk]; rfl
  have hfa2 : FileAt ((w1.drewN q).setCell ⟨G f.nm, 1, none⟩ (.int .i64 (cutN keep f : Int))) O (G f.nm) (V' f.nm) ⟨f.nm, f.l, cutN keep f⟩ :=
    ⟨hfa.og, hb2, hfa.own.same fun b hb => Below.heap_setCell _ _ _ b fun e => (hne b hb).2.2 f hf1 e.symm, hfa.ov⟩
  obtain ⟨v', hcall, hown, hvb⟩ := shorten_any hfa2 (cutN keep f) hcn.2 hcn.2
  refine ⟨v', hcall, ?_, ?_⟩
  · have hown1 : Own w1 v' (cut keep f).l := hown.same fun b hb => by
      have := (hne b (hvb ▸ hb)).2.2 f hf1
      rw [Below.heap_setCell _ _ _ b fun e => this e.symm]; rfl
    have hblk : (cutW w1 (G f.nm) (cutN keep f) v' q).heap[G f.nm]? = some (.cells #[v', .int .i64 (((cut keep f).s : Nat) : Int)] 82 (0, 0)) := by
      have b3 := Joins.block_setCell (i := 0) hb2 v'
      have b4 := Joins.block_setCell (i := 1) b3 (.int .i64 ((min (cutN keep f) (cutN keep f) : Nat) : Int))
      unfold cutW
      rw [b4, Nat.min_self]
      rfl
    have e1 := cutBut_step (left := left) (keep := keep) (distinct hS.sorted) hf hlf
    have hgood : Good { S with fs := S.fs.map (cutBut (fun z => left z && !z.sameKey (.string f.nm)) keep) } := by
      refine good_map hS (fun f _ => cutBut_nm _ _ f) (fun f hf => ?_) fun f hf => ?_
      · unfold cutBut; split
        · exact hS.safe f hf
        · rw [cut_len (hS.safe f hf)]; exact Nat.le_refl _
      · unfold cutBut; split
        · exact hS.size f hf
        · rw [cut_len (hS.safe f hf)]; have := (cutN_le (keep := keep) (hS.safe f hf)).2; have := hS.size f hf; omega
    have r := file_stored hp1 hf1 (cut keep) rfl v' hown1 hvb (.int .i64 0) (cutW w1 (G f.nm) (cutN keep f) v' q) (by simp [cutW]) rfl rfl rfl (fun k hk => hother v' k hk) hblk (by
      have e2 : ({ S with fs := S.fs.map (cutBut left keep) } : St).fs.map (fun g => if g.nm = f.nm then cut keep g else g) = S.fs.map (cutBut (fun z => left z && !z.sameKey (.string f.nm)) keep) := e1
      rw [e2]; exact hgood)
    have e2 : ({ S with fs := S.fs.map (cutBut left keep) } : St).fs.map (fun g => if g.nm = f.nm then cut keep g else g) = S.fs.map (cutBut (fun z => left z && !z.sameKey (.string f.nm)) keep) := e1
    rw [e2] at r
    exact r
  · exact (((Turned.drewN O w1 q).trans (Turned.setCell _ 1 hfa.og _)).trans (Turned.setCell _ 0 hfa.og _)).trans (Turned.setCell _ 1 hfa.og _)
theorem cutW_ranges {w : World} {b r n g c q : Nat} {v : Value} {D : DataW Unit} {left : Lit → Bool} {cnt : Nat} (h : w.ranges Tryz.prog 9 Rp b r n D left cnt) (hb : b ≠ g) (hr : r ≠ g) : (cutW w g c v q).ranges Tryz.prog 9 Rp b r n D left cnt :=
  ranges_two (ranges_two (ranges_two (ranges_drewN h q) hb hr _ _) hb hr _ _) hb hr _ _

set_option maxRecDepth 100000 in
set_option maxHeartbeats 2000000 in
theorem off_up (h : Rep w O d m G V S) (keep : Int) (hdn : S.down = false) :
    Calls Tryz.prog 36 #[.pointer (some ⟨d, 0, none⟩), .int .i64 keep] w fun e w' => e = .returned (.tuple #[]) ∧ Turned O w w' ∧ ∃ V', Rep w' O d m G V' (off keep S) := by
  obtain ⟨c0, _, c2, _, c4, _, fz⟩ := h.cells
  rw [hdn] at c2
  have H := Lib.hid h
  have HD := Lib.hid hdn
  have FZ := Lib.hid fz
  have HM := Lib.hid h.map
  clear h hdn fz
  go_enter Tryz.func36, Tryz.ntmps36
  go_wp2_with (at_range; refine wpList_range_own _ rfl _ 77 rfl 9 80 law Tryz.underlying77 Rp m S.fs.length (dat G S.fs) rfl HM.out ?_; intro w0 hrg0' hg0' hs0'; have hrg0 := Lib.hid hrg0'; have hg0 := Lib.hid hg0'; clear hrg0' hg0' hs0')
  go_frame
  go_loopg [5] (Maps.size (dat G S.fs)) (fun k u5 wr => ∃ (left : Lit → Bool) (V' : List UInt8 → Value), Hid (wr.ranges Tryz.prog 9 Rp m w.heap.size S.fs.length (dat G S.fs) left k) ∧ Hid (Turned O w wr) ∧ Hid (Rep wr O d m G V' { S with fs := S.fs.map (cutBut left keep) }))
  case atStart =>
    refine ⟨_, V, hrg0, Lib.hid (Turned.of_grown hg0.out fun _ h => by cases h), Lib.hid ?_⟩
    rw [cutBut_start fun f hf => by rw [has_look, look_of_mem (distinct H.out.good.sorted) hf rfl]; rfl]
    exact H.out.below (hg0.out |> fun g => ⟨g.os, g.tape, g.output, g.size, fun k hk => g.block k hk (by simp)⟩)
  case round =>
    obtain ⟨left, V', HR, HT, HP⟩ := hrel
    go_wp2_with (at_next; refine wp_next_files _ rfl _ rfl G S.fs m w.heap.size S.fs.length left gk rfl HR.out ?_ ?_)
    · intro _ hl0
      have hp := HP.out
      rw [cutBut_end S.fs hl0] at hp
      have HL := Lib.hid hl0
      obtain ⟨_, _, k2, _, k4, _, kz⟩ := hp.cells
      have k4f := kz 4; have k2f := kz 2
      have HQ := Lib.hid hp
      clear hp kz hl0
      go_wp2
      first | go_end0 | refine bodyPost_ret (results_none rfl _ _ _) rfl ?_
      refine ⟨rfl, ?_, V', ?_⟩
      · exact (HT.out.trans (Turned.setCell _ 4 H.out.od _)).trans (Turned.setCell _ 2 H.out.od _)
      · have r1 := HQ.out.field (S' := { S with fs := S.fs.map (cut keep), arm := 0 }) 4 (.int .i64 0) rfl rfl (Nat.zero_le _)
        have r2 := r1.field (S' := { S with fs := S.fs.map (cut keep), arm := 0, down := true }) 2 (.bool true) rfl rfl (Nat.zero_le _)
        unfold off
        rw [HD.out]
        exact r2
    · intro f s w1 k1 hf hlf hrg1 hlt hg1 hen
      have hp1 : Rep w1 O d m G V' { S with fs := S.fs.map (cutBut left keep) } := HP.out.same hg1.size fun i hi => hg1.block i (HP.out.dom i hi) (fun e => by cases e; exact absurd (H.out.dom _ hi) (Nat.lt_irrefl _))
      have hf1 : f ∈ S.fs.map (cutBut left keep) := List.mem_map.2 ⟨f, hf, by simp [cutBut, hlf]⟩
      have hfa := hp1.files f hf1
      have hs := H.out.good.safe f hf
      have hz := H.out.good.size f hf
      obtain ⟨ad, cap, hv, _⟩ := hfa.own.row
      obtain ⟨cf0, cf1, fzf⟩ := hfa.cells
      rw [hv] at cf0
      have ff1 := fzf 1
      have hcn : ((cutN keep f : Nat) : Int) = (f.s : Int) + min (max keep 0) ((f.l.length : Int) - (f.s : Int)) := by unfold cutN; omega
      obtain ⟨c, hc⟩ : ∃ c, cutN keep f = c := ⟨_, rfl⟩
      have hor := off_round (keep := keep) H.out.good hp1 hf hlf
      have hgm : G f.nm ≠ m := (hp1.ne.2.1 f hf1).2
      have hgr : G f.nm ≠ w.heap.size := fun e => by have := H.out.dom _ hfa.og; omega
      have HT1 := Lib.hid (HT.out.grow hg1 fun j e => by cases e; exact Nat.le_refl _)
      rw [hc] at hor hcn
      have HOR := Lib.hid hor; have HR1 := Lib.hid hrg1; have HGM := Lib.hid hgm; have HGR := Lib.hid hgr
      have hcl : c ≤ 1048576 := by omega
      obtain ⟨ln, hln⟩ : ∃ ln, f.l.length = ln := ⟨_, rfl⟩
      obtain ⟨sf, hsf⟩ : ∃ sf, f.s = sf := ⟨_, rfl⟩
      obtain ⟨g, hgg⟩ : ∃ g, G f.nm = g := ⟨_, rfl⟩
      rw [hgg] at hen cf0 cf1 ff1 HOR HGM HGR
      rw [hgg]
      rw [hln] at cf0 hcn hs hz
      rw [hsf] at cf1 hcn hs
      have x1 : (0:Int) ≤ (ln : Int) - (sf : Int) := by omega
      clear hor hv hf1 hfa fzf hln hsf hgg hc hrg1 hgm hgr hp1 hf hlf hg1
      have hmx : max keep 0 = if keep < 0 then 0 else keep := by split <;> omega
      rw [hmx] at hcn
      have HCN := Lib.hid hcn; clear hcn hmx
      by_cases hk : keep < 0
      · have hcn := HCN.out
        rw [if_pos hk] at hcn
        have ec : c = sf := by omega
        subst ec
        clear hcn HCN
        go_wp2
        go_quiet (fail)
        go_wp2_with (go_at_call 75; obtain ⟨v', hcall, hrep, htur⟩ := HOR.out nq; have HREP := Lib.hid hrep; have HTUR := Lib.hid htur; (with_reducible refine hcall.mono ?_); clear hcall hrep htur; rintro e w2 ⟨rfl, hw2⟩; have HW2 := Lib.hid hw2; clear hw2)
        go_roundg k1
        case measure => exact hlt
        case rel => exact ⟨_, _, Lib.hid (by rw [HW2.out]; exact cutW_ranges HR1.out (fun e => HGM.out e.symm) (fun e => HGR.out e.symm)), Lib.hid (by rw [HW2.out]; exact HT1.out.trans HTUR.out), Lib.hid (by rw [HW2.out]; exact HREP.out)⟩
      · have hcn := HCN.out
        rw [if_neg hk] at hcn
        have hk0 : 0 ≤ keep := by omega
        by_cases hk2 : keep ≤ (ln : Int) - (sf : Int)
        · have e : (sf : Int) + keep = (c : Int) := by omega
          clear hcn HCN hk
          go_wp2
          go_quiet (fail)
          go_wp2_with (go_at_call 75; obtain ⟨v', hcall, hrep, htur⟩ := HOR.out nq; have HREP := Lib.hid hrep; have HTUR := Lib.hid htur; (with_reducible refine hcall.mono ?_); clear hcall hrep htur; rintro e w2 ⟨rfl, hw2⟩; have HW2 := Lib.hid hw2; clear hw2)
          go_roundg k1
          case measure => exact hlt
          case rel => exact ⟨_, _, Lib.hid (by rw [HW2.out]; exact cutW_ranges HR1.out (fun e => HGM.out e.symm) (fun e => HGR.out e.symm)), Lib.hid (by rw [HW2.out]; exact HT1.out.trans HTUR.out), Lib.hid (by rw [HW2.out]; exact HREP.out)⟩
        · have e : (sf : Int) + ((ln : Int) - (sf : Int)) = (c : Int) := by omega
          have hk3 : (ln : Int) - (sf : Int) < keep := by omega
          clear hcn HCN hk hk2
          go_wp2
          go_quiet (fail)
          go_wp2_with (go_at_call 75; obtain ⟨v', hcall, hrep, htur⟩ := HOR.out nq; have HREP := Lib.hid hrep; have HTUR := Lib.hid htur; (with_reducible refine hcall.mono ?_); clear hcall hrep htur; rintro e w2 ⟨rfl, hw2⟩; have HW2 := Lib.hid hw2; clear hw2)
          go_roundg k1
          case measure => exact hlt
          case rel => exact ⟨_, _, Lib.hid (by rw [HW2.out]; exact cutW_ranges HR1.out (fun e => HGM.out e.symm) (fun e => HGR.out e.symm)), Lib.hid (by rw [HW2.out]; exact HT1.out.trans HTUR.out), Lib.hid (by rw [HW2.out]; exact HREP.out)⟩

theorem off_any (h : Rep w O d m G V S) (keep : Int) :
    Calls Tryz.prog 36 #[.pointer (some ⟨d, 0, none⟩), .int .i64 keep] w fun e w' => e = .returned (.tuple #[]) ∧ Turned O w w' ∧ ∃ V', Rep w' O d m G V' (off keep S) := by
  cases hd : S.down with
  | false => exact off_up h keep hd
  | true =>
    have e : off keep S = S := by unfold off; rw [if_pos hd]
    rw [e]
    obtain ⟨_, _, c2, _⟩ := h.cells
    rw [hd] at c2
    have H := Lib.hid h
    clear h hd e
    go_enter Tryz.func36, Tryz.ntmps36
    go_wp2
    first | go_end0 | refine bodyPost_ret (results_none rfl _ _ _) rfl ?_
    exact ⟨rfl, Turned.refl _ _, V, H.out⟩

def TurnedTo (w : World) (O : Nat → Prop) (d m : Nat) (G : List UInt8 → Nat) (r : Int) (S' : St) (e : Ending) (w' : World) : Prop := e = .returned (.int .i64 r) ∧ Turned O w w' ∧ ∃ V', Rep w' O d m G V' S'
set_option maxRecDepth 100000 in
theorem write_any (h : Rep w O d m G V S) :
    Calls Tryz.prog 56 #[.pointer (some ⟨d, 0, none⟩)] w (TurnedTo w O d m G (wcode S) (wrote S)) := by
  obtain ⟨_, _, _, c3, c4, c5, fz⟩ := h.cells
  have f3 := fz 3; have f4 := fz 4
  have harm := h.good.arm
  have H := Lib.hid h
  have r3 : ∀ x : St, x.fs = S.fs → x.arm = S.arm → x.room = S.room → x.down = S.down → x.keep = S.keep → x.wr = inc S.wr → Rep (w.setCell ⟨d, 3, none⟩ (.int .i64 (inc S.wr))) O d m G V x := fun x h1 h2 h3 h4 h5 h6 =>
    H.out.field (S' := x) 3 _ (by simp [dcells, h2, h3, h4, h5, h6]) h1 (by rw [h2]; exact H.out.good.arm)
  have R3 := Lib.hid r3
  clear h fz r3
  by_cases h0 : S.arm = 0
  · have e1 : wcode S = 0 := by simp [wcode, failing, h0]
    have e2 : wrote S = tick S := by simp [wrote, failing, h0]
    have E : Hid (∀ w', w' = w.setCell ⟨d, 3, none⟩ (.int .i64 (inc S.wr)) → TurnedTo w O d m G (wcode S) (wrote S) (.returned (.int .i64 0)) w') := fun w' hw => by
      subst hw
      exact ⟨by rw [e1], Turned.setCell _ 3 H.out.od _, V, by rw [e2]; exact R3.out _ rfl (by simp [tick, h0]) rfl rfl rfl rfl⟩
    rw [h0] at c4
    clear e1 e2 h0 harm
    go_enter Tryz.func56, Tryz.ntmps56
    go_wp2
    go_ret
    exact E.out _ rfl
  · have hr4 : Rep ((w.setCell ⟨d, 3, none⟩ (.int .i64 (inc S.wr))).setCell ⟨d, 4, none⟩ (.int .i64 ((S.arm - 1 : Nat) : Int))) O d m G V (tick S) :=
      (R3.out { S with wr := inc S.wr } rfl rfl rfl rfl rfl rfl).field (S' := tick S) 4 _ rfl rfl (by simp [tick]; omega)
    have ht4 : Turned O w ((w.setCell ⟨d, 3, none⟩ (.int .i64 (inc S.wr))).setCell ⟨d, 4, none⟩ (.int .i64 ((S.arm - 1 : Nat) : Int))) := (Turned.setCell _ 3 H.out.od _).trans (Turned.setCell _ 4 H.out.od _)
    by_cases h1 : S.arm = 1
    · have e1 : wcode S = 20 := by simp [wcode, failing, h1]
      have e2 : wrote S = off S.keep (tick S) := by simp [wrote, failing, h1]
      have ho := off_any hr4 S.keep
      rw [h1] at ho ht4
      rw [show ((1 - 1 : Nat) : Int) = 0 from rfl] at ho ht4
      have ho' := ho
      unfold inc at ho'
      have HO := Lib.hid ho'
      have E : Hid (∀ w', Turned O ((w.setCell ⟨d, 3, none⟩ (.int .i64 (inc S.wr))).setCell ⟨d, 4, none⟩ (.int .i64 0)) w' → (∃ V', Rep w' O d m G V' (off S.keep (tick S))) → TurnedTo w O d m G (wcode S) (wrote S) (.returned (.int .i64 20)) w') := fun w' ht hr =>
        ⟨by rw [e1], ht4.trans ht, by rw [e2]; exact hr⟩
      rw [h1] at c4
      clear e1 e2 h0 h1 harm hr4 ht4 ho ho'
      generalize S.keep = kp at *
      go_enter Tryz.func56, Tryz.ntmps56
      go_wp2_with (go_at_call 36; (with_reducible refine HO.out.mono ?_); rintro e w2 ⟨rfl, ht2, hr2⟩; have HT2 := Lib.hid ht2; have HR2 := Lib.hid hr2; clear ht2 hr2)
      go_ret
      exact E.out _ HT2.out HR2.out
    · have e1 : wcode S = 0 := by simp [wcode, failing, h1]
      have e2 : wrote S = tick S := by simp [wrote, failing, h1]
      have E : Hid (∀ w', w' = (w.setCell ⟨d, 3, none⟩ (.int .i64 (inc S.wr))).setCell ⟨d, 4, none⟩ (.int .i64 ((S.arm - 1 : Nat) : Int)) → TurnedTo w O d m G (wcode S) (wrote S) (.returned (.int .i64 0)) w') := fun w' hw => by
        subst hw
        exact ⟨by rw [e1], ht4, V, by rw [e2]; exact hr4⟩
      have h2 : 2 ≤ S.arm := by omega
      clear e1 e2 h0 h1 hr4 ht4
      obtain ⟨a, ha⟩ : ∃ a, S.arm = a + 2 := ⟨S.arm - 2, by omega⟩
      rw [ha] at c4 harm E
      have ea : ((a + 2 : Nat) : Int) = (a : Int) + 2 := by omega
      have eb : a + 2 - 1 = a + 1 := by omega
      rw [ea] at c4
      rw [eb] at E
      clear h2 ha ea eb
      go_enter Tryz.func56, Tryz.ntmps56
      go_wp2
      go_ret
      exact E.out _ (by rw [show ((a + 1 : Nat) : Int) = (a : Int) + 2 - 1 by omega]; rfl)
end
end Go.Proofs.YtdonkmkjblofpaaGreatDoor.Dk

/-
  Layer 4: Sync, Truncate, Rename, Remove, at a disk in whatever state.
-/
import Derived.Test.YtdonkmkjblofpaaGreatDoorKe
namespace Go.Proofs.YtdonkmkjblofpaaGreatDoor.Dk
open Go.RowKit
set_option linter.unusedVariables false

/-- A call at the disk: its error; the disk behind it. -/
def Did (w : World) (O : Nat → Prop) (d : Nat) (r : Int × St) (e : Ending) (w' : World) : Prop := e = .returned (.int .i64 r.1) ∧ ∃ O', Step w O w' O' ∧ IsDisk w' O' d r.2

theorem Own.kind2 {w : World} {v : Value} {l : List Int} (h : Own w v l) : ∀ b, v.ownBlock = some b → ∃ cur, w.heap[b]? = some (.cells cur 5 (0, 0)) := h.kind
theorem dat_at1 (G : List UInt8 → Nat) (x : File) (g : Nat) (fs : List File) : (dat G fs).put (.string x.nm) (.lit (.int .i64 (g : Int))) = dat (at1 G x.nm g) (put x fs) := by
  have h1 := dat_put (at1 G x.nm g) x (del x.nm fs)
  rw [at1_same] at h1
  have h2 : (dat (at1 G x.nm g) (del x.nm fs)).put (.string x.nm) (.lit (.int .i64 (g : Int))) = (dat G fs).put (.string x.nm) (.lit (.int .i64 (g : Int))) := by
    have e : dat (at1 G x.nm g) (del x.nm fs) = dat G (del x.nm fs) := dat_congr fun f hf => at1_other (mem_del.1 hf).2
    rw [e, ← dat_del]
    unfold dat DataW.put DataW.del
    simp only [List.filter_filter, Bool.and_self]
  rw [← h2, h1]
  unfold put
  congr 2
  unfold del
  simp only [List.filter_filter, Bool.and_self]

section
variable {w : World} {O : Nat → Prop} {d m : Nat} {G : List UInt8 → Nat} {V : List UInt8 → Value} {S : St}

/-- A file, turned or not in its own blocks, is laid under a name. -/
theorem Rep.lay (h : Rep w O d m G V S) {f0 : File} {g : Nat} {v : Value} (hf0 : FileAt w O g v f0) {x : File} (hsep : ∀ f ∈ S.fs, f.nm ≠ x.nm → G f.nm ≠ g ∧ ∀ b, v.ownBlock = some b → (V f.nm).ownBlock ≠ some b)
    {w2 : World} {O2 : Nat → Prop} (hO : ∀ i, O i → O2 i) (hdom : ∀ i, O2 i → i < w2.heap.size) (hb : ∀ i, O i → i ≠ g → v.ownBlock ≠ some i → w2.heap[i]? = w.heap[i]?) {v' : Value} (hfa : FileAt w2 O2 g v' x)
    (hv : ∀ b, v'.ownBlock = some b → v.ownBlock = some b ∨ w.heap.size ≤ b) {w3 : World} {n : Nat} (hown : w2.ownsMap Tryz.prog 9 Rp m S.fs.length (dat G S.fs) → w3.ownsMap Tryz.prog 9 Rp m n ((dat G S.fs).put (.string x.nm) (.lit (.int .i64 (g : Int)))))
    (hg : w2.grownBy w3 (some m)) (hgood : Good { S with fs := put x S.fs }) :
    Rep w3 O2 d m (at1 G x.nm g) (at1 V x.nm v') { S with fs := put x S.fs } := by
  obtain ⟨es, clock, hm, _⟩ := h.map
  have hd := h.blk
  have gd : g ≠ d := fun e => by have := hf0.blk; rw [e, hd] at this; simp [dcells] at this
  have gm : g ≠ m := fun e => by have := hf0.blk; rw [e, hm] at this; cases this
  have vk : ∀ b, v.ownBlock = some b → b ≠ d ∧ b ≠ m ∧ ∀ f ∈ S.fs, G f.nm ≠ b := fun b hb => by
    obtain ⟨cur, hc⟩ := hf0.own.kind b hb
    refine ⟨fun e => ?_, fun e => ?_, fun f' hf' e => ?_⟩
    · rw [e, hd] at hc; simp at hc
    · rw [e, hm] at hc; cases hc
    · have := (h.files f' hf').blk; rw [e, hc] at this; simp at this
  have hne := h.ne
  have dm : w2.heap[m]? = w.heap[m]? := hb m h.om (fun e => gm e.symm) fun e => (vk m e).2.1 rfl
  have own2 := owns_same h.map dm
  have own3 := hown own2
  have k3 : ∀ i, O2 i → i ≠ m → w3.heap[i]? = w2.heap[i]? := fun i hi hn => hg.block i (hdom i hi) fun e => hn (Option.some.inj e)
  have hx3 : FileAt w3 O2 g v' x := ⟨hfa.og, (k3 g hfa.og gm).trans hfa.blk, hfa.own.same (fun b hb' => k3 b (hfa.ov b hb') (fun e => by
    obtain ⟨cur, hc⟩ := hfa.own.kind b hb'
    rw [e, dm, hm] at hc
    cases hc)), hfa.ov⟩
  refine ⟨fun i hi => Nat.lt_of_lt_of_le (hdom i hi) hg.size, hO _ h.od, hO _ h.om, ?_, ?_, ?_, ?_, hgood⟩
  · rw [k3 d (hO _ h.od) hne.1, hb d h.od (fun e => gd e.symm) fun e => (vk d e).1 rfl]; exact h.blk
  · have := owns_tight own3
    rw [dat_at1, size_dat] at this
    exact this
  · intro f hf
    rcases mem_put.1 hf with rfl | ⟨hf, hnm⟩
    · rw [at1_same, at1_same]; exact hx3
    · rw [at1_other hnm, at1_other hnm]
      have h1 := h.files f hf
      have hs := hsep f hf hnm
      have hG : w3.heap[G f.nm]? = w.heap[G f.nm]? := (k3 _ (hO _ h1.og) (hne.2.1 f hf).2).trans (hb _ h1.og hs.1 fun e => (vk _ e).2.2 f hf rfl)
      refine ⟨hO _ h1.og, hG.trans h1.blk, h1.own.same fun b hb' => ?_, fun b hb' => hO _ (h1.ov b hb')⟩
      have hn := hne.2.2 f hf b hb'
      refine (k3 b (hO _ (h1.ov b hb')) hn.2.1).trans (hb b (h1.ov b hb') (fun e => ?_) fun e => hs.2 b e hb')
      obtain ⟨cur, hc⟩ := h1.own.kind b hb'
      have := hf0.blk
      rw [← e, hc] at this; simp at this
  · intro f hf f' hf' hnm
    rcases mem_put.1 hf with rfl | ⟨hq, hf2⟩ <;> rcases mem_put.1 hf' with rfl | ⟨hq', hf2'⟩
    · exact absurd rfl hnm
    · rw [at1_same, at1_same, at1_other hf2', at1_other hf2']
      have hs := hsep f' hq' hf2'
      refine ⟨fun e => hs.1 e.symm, fun b hb1 hb2 => ?_⟩
      rcases hv b hb1 with h1 | h1
      · exact hs.2 b h1 hb2
      · have := h.dom b ((h.files f' hq').ov b hb2); omega
    · rw [at1_same, at1_same, at1_other hf2, at1_other hf2]
      have hs := hsep f hq hf2
      refine ⟨hs.1, fun b hb1 hb2 => ?_⟩
      rcases hv b hb2 with h1 | h1
      · exact hs.2 b h1 hb1
      · have := h.dom b ((h.files f hq).ov b hb1); omega
    · rw [at1_other hf2, at1_other hf2, at1_other hf2', at1_other hf2']
      exact h.apart f hq f' hq' hnm

/-- A name is struck. -/
theorem Rep.strike (h : Rep w O d m G V S) {w' : World} {n : Nat} (k : List UInt8) (hown : w'.ownsMap Tryz.prog 9 Rp m n ((dat G S.fs).del (.string k))) (hg : w.grownBy w' (some m)) : Rep w' O d m G V { S with fs := del k S.fs } := by
  have hne := h.ne
  have k3 : ∀ i, O i → i ≠ m → w'.heap[i]? = w.heap[i]? := fun i hi hn => hg.block i (h.dom i hi) fun e => hn (Option.some.inj e)
  refine ⟨fun i hi => Nat.lt_of_lt_of_le (h.dom i hi) hg.size, h.od, h.om, (k3 d h.od hne.1).trans h.blk, ?_, fun f hf => ?_, fun f hf f' hf' => h.apart f (mem_del.1 hf).1 f' (mem_del.1 hf').1, good_del h.good k⟩
  · have := owns_tight hown
    rw [dat_del, size_dat] at this
    exact this
  · have hf := (mem_del.1 hf).1
    have h1 := h.files f hf
    exact ⟨h1.og, (k3 _ h1.og (hne.2.1 f hf).2).trans h1.blk, h1.own.same fun b hb => k3 b (h1.ov b hb) (hne.2.2 f hf b hb).2.1, h1.ov⟩

theorem did_same (h : Rep w O d m G V S) {r : Int × St} (e : r.2 = S) : Did w O d r (.returned (.int .i64 r.1)) w := ⟨rfl, O, Step.refl _ _, by rw [e]; exact ⟨m, G, V, h⟩⟩

set_option maxRecDepth 100000 in
theorem sync_any (h : Rep w O d m G V S) (s : ByteArray) (hs : s.size ≤ maxLen) :
    Calls Tryz.prog 28 #[.pointer (some ⟨d, 0, none⟩), .string s] w (Did w O d (syncS s.data.toList S)) := by
  by_cases ht : there s.data.toList S = 0
  · obtain ⟨hb, hd, f, hf⟩ := there_zero ht
    have cf := find_yes h s hs ht hf
    have cw := write_any h
    obtain ⟨hmem, hnm⟩ := look_some hf
    have CF := Lib.hid cf; have H := Lib.hid h
    cases hfl : failing S with
    | true =>
      have e : syncS s.data.toList S = (20, wrote S) := by unfold syncS; rw [if_neg (by simp [ht]), if_pos hfl]
      rw [show wcode S = 20 by simp [wcode, hfl]] at cw
      have CW := Lib.hid cw
      have D : Hid (∀ w', Turned O w w' → (∃ V', Rep w' O d m G V' (wrote S)) → Did w O d (syncS s.data.toList S) (.returned (.int .i64 20)) w') := fun w' h1 ⟨V', h2⟩ => by
        rw [e]; exact ⟨rfl, O, Step.of h1, m, G, V', h2⟩
      clear e cf cw h ht hb hd hf hmem hnm hfl hs
      go_enter Tryz.func28, Tryz.ntmps28
      go_wp2_with (first | (go_at_call 62; (with_reducible refine CF.out.mono ?_); rintro e w' ⟨rfl, rfl⟩) | (go_at_call 56; (with_reducible refine CW.out.mono ?_); rintro e w2 ⟨rfl, ht2, hr2⟩; have HT2 := Lib.hid ht2; have HR2 := Lib.hid hr2; clear ht2 hr2))
      go_ret
      exact D.out _ HT2.out HR2.out
    | false =>
      have e : syncS s.data.toList S = (0, { tick S with fs := upd s.data.toList synced S.fs }) := by unfold syncS; rw [if_neg (by simp [ht]), if_neg (by simp [hfl])]
      rw [show wcode S = 0 by simp [wcode, hfl], wrote_up hfl] at cw
      have D : Hid (∀ w2, Turned O w w2 → ∀ V', Rep w2 O d m G V' (tick S) → Did w O d (syncS s.data.toList S) (.returned (.int .i64 0)) (w2.setCell ⟨G f.nm, 1, none⟩ (.int .i64 ((f.l.length : Nat) : Int)))) := fun w2 h1 V' h2 => by
        rw [e]
        have hfa := h2.files f hmem
        refine ⟨rfl, O, Step.of (h1.trans (Turned.setCell _ 1 hfa.og _)), m, G, at1 V' f.nm (V' f.nm), ?_⟩
        have hg : Good { tick S with fs := (tick S).fs.map fun x => if x.nm = f.nm then synced x else x } := good_upd h2.good (fun _ _ => rfl) (fun _ _ => Nat.le_refl _) (fun f hf => h2.good.size f hf)
        have r := file_stored h2 hmem synced rfl (V' f.nm) hfa.own rfl (.int .i64 0) (w2.setCell ⟨G f.nm, 1, none⟩ (.int .i64 ((f.l.length : Nat) : Int))) (by simp) rfl rfl rfl (fun k hk => Below.heap_setCell _ _ _ k hk) (Joins.block_setCell hfa.blk _) hg
        rw [hnm] at r
        rw [hnm]
        exact r
      have CW := Lib.hid cw; have HM := Lib.hid hmem
      clear e cf cw h ht hb hd hf hmem hnm hfl hs
      go_enter Tryz.func28, Tryz.ntmps28
      go_wp2_with (first | (go_at_call 62; (with_reducible refine CF.out.mono ?_); rintro e w' ⟨rfl, rfl⟩) | (go_at_call 56; (with_reducible refine CW.out.mono ?_); rintro e w2 ⟨rfl, ht2, V', hr2⟩; have HT2 := Lib.hid ht2; have HR2 := Lib.hid hr2; obtain ⟨ad, cap, hv, _⟩ := (hr2.files f HM.out).own.row; obtain ⟨cf0, cf1, fzf⟩ := (hr2.files f HM.out).cells; have ff1 := fzf 1; rw [hv] at cf0; clear ht2 hr2 hv fzf))
      go_ret
      exact D.out _ HT2.out V' HR2.out
  · have e : syncS s.data.toList S = (there s.data.toList S, S) := by unfold syncS; rw [if_pos (by simpa using ht)]
    have cf := find_no h s hs ht
    have D := Lib.hid (did_same h (r := syncS s.data.toList S) (by rw [e]))
    rw [show (syncS s.data.toList S).1 = there s.data.toList S by rw [e]] at D
    generalize there s.data.toList S = r at *
    have t1 : (r == 0) = false := by simpa using ht
    have t2 : (r != 0) = true := by simpa using ht
    have CF := Lib.hid cf
    clear e cf h ht hs
    go_enter Tryz.func28, Tryz.ntmps28
    go_wp2_with (go_at_call 62; (with_reducible refine CF.out.mono ?_); rintro e w' ⟨rfl, rfl⟩)
    go_ret
    exact D.out
end
end Go.Proofs.YtdonkmkjblofpaaGreatDoor.Dk

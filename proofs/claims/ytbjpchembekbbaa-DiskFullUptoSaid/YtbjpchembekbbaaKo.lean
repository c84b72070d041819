/-
  Layer 4: the law DiskFull.
-/
import Derived.Test.YtbjpchembekbbaaKm
namespace Go.Proofs.Ytbjpchembekbbaa.Dk
open Go.RowKit Fo
set_option linter.unusedVariables false

theorem used_ins (x : File) : ∀ fs, used (ins x fs) = x.l.length + used fs
  | [] => rfl
  | y :: r => by
    unfold ins; split
    · rfl
    · simp only [used, used_ins x r]; omega
theorem used_del {k : List UInt8} : ∀ {fs : List File}, fs.Pairwise (fun a b => a.nm ≠ b.nm) → used (del k fs) + (fileOf k fs).l.length = used fs
  | [], _ => rfl
  | y :: r, h => by
    obtain ⟨h1, h2⟩ := List.pairwise_cons.1 h
    have ih := used_del (k := k) h2
    by_cases e : y.nm = k
    · have hn : look k r = none := by
        cases hl : look k r with
        | none => rfl
        | some f => obtain ⟨hm, hf⟩ := look_some hl; exact absurd (e.trans hf.symm) (h1 f hm)
      have hd : del k (y :: r) = r := by
        have : del k (y :: r) = del k r := by simp [del, e]
        rw [this, del_none hn]
      have hf : fileOf k (y :: r) = y := by simp [fileOf, look, e]
      rw [hd, hf]; simp only [used]; omega
    · have hd : del k (y :: r) = y :: del k r := by simp [del, e]
      have hf : fileOf k (y :: r) = fileOf k r := by simp [fileOf, look, e]
      rw [hd, hf]; simp only [used]; omega
theorem used_put {k : List UInt8} {b : List Int} {fs : List File} (h : fs.Pairwise (fun a b => a.nm ≠ b.nm)) : used (put (longer (fileOf k fs) b) fs) = used fs + b.length := by
  have h1 := used_del (k := k) h
  unfold put
  rw [used_ins]
  have : (longer (fileOf k fs) b).nm = k := fileOf_nm k fs
  rw [this]
  simp only [longer, List.length_append]
  omega
theorem file_le {k : List UInt8} {fs : List File} (h : fs.Pairwise (fun a b => a.nm ≠ b.nm)) : (fileOf k fs).l.length ≤ used fs := by have := used_del (k := k) h; omega
theorem two_names {fs : List File} (h : fs.Pairwise (fun a b => a.nm ≠ b.nm)) (hn : ∀ f ∈ fs, f.nm = [97] ∨ f.nm = [98]) : fs.length ≤ 2 := by
  match fs, h, hn with
  | [], _, _ => simp
  | [_], _, _ => simp
  | [_, _], _, _ => simp
  | x :: y :: z :: r, h, hn =>
    exfalso
    simp only [List.pairwise_cons] at h
    have hxy := h.1 y (by simp); have hxz := h.1 z (by simp); have hyz := h.2.1 z (by simp)
    have hx := hn x (by simp); have hy := hn y (by simp); have hz := hn z (by simp)
    rcases hx with hx | hx <;> rcases hy with hy | hy <;> rcases hz with hz | hz <;> simp [hx, hy, hz] at hxy hxz hyz

/-- The state of the law's disk: u bytes in files named a and b. -/
structure Holds2 (S : St) (room : Int) (u : Nat) : Prop where
  room : S.room = room
  up : S.down = false
  calm : S.arm = 0
  used : used S.fs = u
  names : ∀ f ∈ S.fs, f.nm = [97] ∨ f.nm = [98]
theorem holds_start (room : Int) : Holds2 (start room) room 0 := ⟨rfl, rfl, rfl, rfl, fun f hf => by cases hf⟩
theorem holds_append {S : St} {room : Int} {u : Nat} (h : Holds2 S room u) (hg : Good S) {k : List UInt8} (hk : k = [97] ∨ k = [98]) {b : List Int} (hb : u + b.length ≤ 1048576) :
    (room < ((u + b.length : Nat) : Int) → appendS k b S = (22, S)) ∧ (¬ room < ((u + b.length : Nat) : Int) → ∃ S', appendS k b S = (0, S') ∧ Holds2 S' room (u + b.length)) := by
  have hd := distinct hg.sorted
  have hbad : badName k = false := by rcases hk with rfl | rfl <;> decide
  have h1 : ready k S = 0 := by simp [ready, hbad, h.up]
  have h2 := file_le (k := k) hd
  have h3 := two_names hd h.names
  have hu := h.used
  have e : ∀ c : Int, (if S.room < ((used S.fs + b.length : Nat) : Int) then (22 : Int) else 0) = c → appErr k b.length S = c := fun c hc => by
    unfold appErr
    rw [if_neg (by simp [h1]), if_neg (by omega), if_neg (by intro h; omega)]
    exact hc
  constructor
  · intro hr
    have := e 22 (by rw [hu, h.room, if_pos hr])
    unfold appendS
    rw [this]; rfl
  · intro hr
    have := e 0 (by rw [hu, h.room, if_neg hr])
    unfold appendS
    rw [this]
    have hf : failing { S with fs := put (longer (fileOf k S.fs) b) S.fs } = false := by simp [failing, h.calm]
    have hw : wcode S = 0 := by simp [wcode, failing, h.calm]
    refine ⟨wrote { S with fs := put (longer (fileOf k S.fs) b) S.fs }, by rw [hw]; rfl, ?_⟩
    rw [wrote_up hf]
    refine ⟨h.room, h.up, by simp [tick, h.calm], ?_, fun f hf => ?_⟩
    · show used (put (longer (fileOf k S.fs) b) S.fs) = _
      rw [used_put hd, hu]
    · rcases mem_put.1 hf with rfl | ⟨hf, _⟩
      · show (fileOf k S.fs).nm = _ ∨ (fileOf k S.fs).nm = _
        rw [fileOf_nm]; exact hk
      · exact h.names f hf
theorem used_take_succ {fs : List File} {j : Nat} {f : File} (h : fs[j]? = some f) : used (fs.take (j + 1)) = used (fs.take j) + f.l.length := by
  rw [used_take, used_take, List.take_add_one, h]
  simp
theorem used_take_le (fs : List File) (j : Nat) : used (fs.take j) ≤ used fs := by
  have : used fs = used (fs.take j ++ fs.drop j) := by rw [List.take_append_drop]
  rw [this, used_take, used_take (fs.take j ++ fs.drop j), List.map_append, List.sum_append]
  omega
theorem there_mem {S : St} (hg : Good S) (hu : S.down = false) {f : File} (hf : f ∈ S.fs) : there f.nm S = 0 ∧ readL f.nm S = f.l := by
  have hl := look_of_mem (distinct hg.sorted) hf rfl
  have h1 : there f.nm S = 0 := by simp [there, hg.name f hf, hu, hl]
  refine ⟨h1, ?_⟩
  unfold readL fileOf
  rw [if_pos h1, hl]

/-- A block that is none of the disk's. -/
def Kept (w : World) (O : Nat → Prop) (nb : Nat) (c : Obj) : Prop := ¬ O nb ∧ w.heap[nb]? = some c
theorem Kept.lt {w : World} {O : Nat → Prop} {nb : Nat} {c : Obj} (h : Kept w O nb c) : nb < w.heap.size := (Array.getElem?_eq_some_iff.1 h.2).1
theorem Kept.step {w w' : World} {O O' : Nat → Prop} {nb : Nat} {c : Obj} (h : Kept w O nb c) (hs : Step w O w' O') : Kept w' O' nb c :=
  ⟨fun ho => by rcases hs.own nb ho with h1 | h1; exact h.1 h1; have := h.lt; omega, (hs.block nb h.lt h.1).trans h.2⟩
theorem Kept.below {w w' : World} {O : Nat → Prop} {nb : Nat} {c : Obj} (h : Kept w O nb c) (hb : Below w.heap.size w w') : Kept w' O nb c := ⟨h.1, (hb.block nb h.lt).trans h.2⟩
structure Lone (W w : World) (O : Nat → Prop) (d : Nat) (S : St) : Prop where
  disk : IsDisk w O d S
  high : ∀ i, O i → W.heap.size ≤ i
  frame : Below W.heap.size W w
theorem Lone.below {W w w' : World} {O : Nat → Prop} {d : Nat} {S : St} (h : Lone W w O d S) (hb : Below w.heap.size w w') : Lone W w' O d S := ⟨h.disk.below hb, h.high, h.frame.trans (hb.mono h.frame.size)⟩
theorem Lone.step {W w w' : World} {O O' : Nat → Prop} {d : Nat} {S S' : St} (h : Lone W w O d S) (hst : Step w O w' O') (hd : IsDisk w' O' d S') : Lone W w' O' d S' :=
  ⟨hd, fun i hi => by rcases hst.own i hi with h1 | h1; exact h.high i h1; exact Nat.le_trans h.frame.size h1,
   h.frame.trans (hst.toTurned.below fun k hk => ⟨Nat.lt_of_lt_of_le hk h.frame.size, fun ho => by have := h.high k ho; omega⟩)⟩

theorem and1 (z : Int) : ∃ q : Nat, q ≤ 1 ∧ bits .and .i64 z 1 = (q : Int) := by
  refine ⟨(BitVec.ofInt 64 z).toNat % 2, by omega, ?_⟩
  show IntKind.i64.wrap (((BitVec.ofInt 64 z) &&& (BitVec.ofInt 64 1)).toNat : Int) = _
  have e : ((BitVec.ofInt 64 z) &&& (BitVec.ofInt 64 1)).toNat = (BitVec.ofInt 64 z).toNat % 2 := by rw [BitVec.toNat_and]; exact Nat.and_one_is_mod _
  rw [e]
  exact IntWalk.i64_in _ (by omega)
def nmCells : Array Value := #[.string ⟨#[97]⟩, .string ⟨#[98]⟩, .string ⟨#[99]⟩]
theorem full_append {W w : World} {O : Nat → Prop} {d nb : Nat} {c : Obj} {S : St} {room : Int} {u : Nat} (h : Lone W w O d S) (hk : Kept w O nb c) (h2 : Holds2 S room u) (s : ByteArray) (hs : s.data.toList = [97] ∨ s.data.toList = [98]) (hz : s.size ≤ maxLen) (a : Option Addr) (len cap : Nat) (zs : List Int) (hrow : Fr.HasRow .u8 w a len zs) (hn : a = none → cap = 0) (hlb : u + len ≤ 1048576) :
    (room < ((u + len : Nat) : Int) → Calls Try.prog 16 #[.pointer (some ⟨d, 0, none⟩), .string s, .slice a len cap] w fun e w' => e = .returned (.int .i64 22) ∧ ∃ O' S', Lone W w' O' d S' ∧ Kept w' O' nb c ∧ Holds2 S' room u) ∧
    (¬ room < ((u + len : Nat) : Int) → Calls Try.prog 16 #[.pointer (some ⟨d, 0, none⟩), .string s, .slice a len cap] w fun e w' => e = .returned (.int .i64 0) ∧ ∃ O' S', Lone W w' O' d S' ∧ Kept w' O' nb c ∧ Holds2 S' room (u + len)) := by
  have hl : (zs.take len).length = len := take_len hrow
  obtain ⟨h3, h4⟩ := holds_append h2 h.disk.good hs (b := zs.take len) (by rw [hl]; exact hlb)
  rw [hl] at h3 h4
  have ca := append_disk h.disk s hz a len cap zs hrow hn (by omega)
  constructor
  · intro hr
    rw [h3 hr] at ca
    exact ca.mono fun e w' ⟨x1, O', x2, x3⟩ => ⟨x1, O', S, h.step x2 x3, hk.step x2, h2⟩
  · intro hr
    obtain ⟨S', e1, e2⟩ := h4 hr
    rw [e1] at ca
    exact ca.mono fun e w' ⟨x1, O', x2, x3⟩ => ⟨x1, O', S', h.step x2 x3, hk.step x2, e2⟩

set_option maxRecDepth 100000 in
set_option maxHeartbeats 1600000 in
theorem full_walk (room : Int) (a : Option Addr) (len cap : Nat) (R : Nat → Rw) (a2 : Option Addr) (len2 cap2 : Nat) (zs : List Int) (w : World) (rows : HasRows w a len R) (files : Fr.HasRow .i64 w a2 len2 zs) :
    Calls Try.prog 6 #[.int .i64 room, .slice a len cap, .slice a2 len2 cap2] w fun e w' => e = .returned (.bool true) ∧ Below w.heap.size w w' := by
  have hm := rows.1; have hm2 := files.2.1
  have RS := Lib.hid rows; have FSt := Lib.hid files
  clear rows files
  go_enter Try.func6, Try.ntmps6
  go_wp2_with fail
  refine (wakes_any _).mono ?_
  rintro e w1 ⟨rfl, hb1⟩
  have B1 := Lib.hid hb1; clear hb1
  have RS1 := Lib.hid (RS.out.keep B1.out); have FS1 := Lib.hid (FSt.out.keep B1.out)
  go_wp2_with fail
  refine (new_any w1 room).mono ?_
  rintro e w2 ⟨rfl, hb2, hz2, hd2⟩
  have L2 : Hid (Lone w1 w2 (fun i => i = w1.heap.size ∨ i = w1.heap.size + 1) (w1.heap.size + 1) (start room)) := ⟨hd2, (fun i hi => by rcases hi with rfl | rfl <;> omega), hb2⟩
  have Z2 := Lib.hid hz2
  obtain ⟨d, hd⟩ : ∃ d, d = w1.heap.size + 1 := ⟨_, rfl⟩
  have HDL : Hid (d < w2.heap.size) := Lib.hid (by omega)
  rw [← hd] at L2 ⊢
  clear hd hb2 hz2 hd2
  by_cases hbig : 512 < len
  · have t1 : decide ((512 : Int) < (len : Int)) = true := by simp; omega
    have t1b : decide (512 < len) = true := by simp; omega
    go_wp2
    go_ret
    exact ⟨rfl, B1.out.trans (L2.out.frame.mono B1.out.size)⟩
  · have t1 : decide ((512 : Int) < (len : Int)) = false := by simp; omega
    have t1b : decide (512 < len) = false := by simp; omega
    go_wp2_with fail
    have hb3 : Below w2.heap.size w2 (w2.alloc (.cells #[.string ⟨#[97]⟩, .string ⟨#[98]⟩, .string ⟨#[99]⟩] 53)) := (Below.refl _ _).alloc (Nat.le_refl _) _
    have L3 := Lib.hid (L2.out.below hb3)
    have K3 : Hid (Kept (w2.alloc (.cells #[.string ⟨#[97]⟩, .string ⟨#[98]⟩, .string ⟨#[99]⟩] 53)) (fun i => i = w1.heap.size ∨ i = d) w2.heap.size (.cells nmCells 53 (0, 0))) := ⟨(fun h => by have := Z2.out; have := HDL.out; omega), (MapKept.heap_alloc w2 _).1⟩
    obtain ⟨nb, hnb⟩ : ∃ nb, nb = w2.heap.size := ⟨_, rfl⟩
    rw [← hnb] at K3 ⊢
    clear hb3 hnb t1 t1b
    go_loopg [8, 35] len (fun m t i wr => ∃ (k u : Nat) (S : St) (O : Nat → Prop), k + m = len ∧ i = .int .i64 (k : Int) ∧ t = .int .i64 (u : Int) ∧ u ≤ k * 1024 ∧ Hid (Lone w1 wr O d S) ∧ Hid (Kept wr O nb (.cells nmCells 53 (0, 0))) ∧ Hid (Holds2 S room u))
    case atStart => exact ⟨0, 0, _, _, by omega, rfl, rfl, by omega, L3, K3, Lib.hid (holds_start room)⟩
    case round =>
      obtain ⟨k, u, S, O, hk, rfl, rfl, hu, HL, HK, HH⟩ := hrel
      by_cases hlt : k < len
      · have rs := RS1.out.keep HL.out.frame
        obtain ⟨b, off, e1, hc⟩ := rs.2.1 (by omega)
        have ck := hc k hlt
        have hrk := rs.2.2 k hlt
        have hL := hrk.le; have hC := hrk.cap
        have hrow : Hid (Fr.HasRow .u8 wr (R k).a (R k).len (R k).zs) := hrk.row
        have hnil : Hid ((R k).a = none → (R k).cap = 0) := hrk.nil
        subst e1
        clear rs hc hrk
        obtain ⟨L, hLL⟩ : ∃ L, (R k).len = L := ⟨_, rfl⟩
        obtain ⟨ra, hra⟩ : ∃ ra, (R k).a = ra := ⟨_, rfl⟩
        obtain ⟨rc, hrc⟩ : ∃ rc, (R k).cap = rc := ⟨_, rfl⟩
        rw [hLL] at ck hL hrow; rw [hra] at ck hrow hnil; rw [hrc] at ck hL hC hnil
        clear hLL hra hrc
        by_cases hbig : 1024 < L
        · have t1 : decide ((1024 : Int) < (L : Int)) = true := by simp; omega
          have t1b : decide (1024 < L) = true := by simp; omega
          go_wp2
          go_ret
          exact ⟨rfl, B1.out.trans (HL.out.frame.mono B1.out.size)⟩
        · have t1 : decide ((1024 : Int) < (L : Int)) = false := by simp; omega
          have t1b : decide (1024 < L) = false := by simp; omega
          have hub : u + L ≤ 1048576 := by omega
          have hub2 : u + L ≤ (k + 1) * 1024 := by omega
          have nm : ∀ q : Nat, q ≤ 1 → wr.cell? ⟨nb, q, none⟩ = nmCells[q]? := fun q _ => Joins.cell_of_block HK.out.2 q
          have NM := Lib.hid nm
          clear nm
          have FA := fun (s : ByteArray) (hs : s.data.toList = [97] ∨ s.data.toList = [98]) (hz : s.size ≤ maxLen) => full_append HL.out HK.out HH.out s hs hz ra L rc (R k).zs hrow.out hnil.out hub
          have FA := Lib.hid FA
          by_cases hf : k < len2
          · have fs := FS1.out.keep HL.out.frame
            obtain ⟨b2, off2, e2, hc2⟩ := fs.2.2 (by omega)
            have cf := hc2 k hf
            have t2 : decide ((k : Int) < (len2 : Int)) = true := by simp; omega
            have t2b : decide (k < len2) = true := by simp; omega
            subst e2
            clear fs hc2
            generalize zs.getD k 0 = z at cf
            obtain ⟨q, hq, eq⟩ := and1 z
            have hq01 : q = 0 ∨ q = 1 := by omega
            rcases hq01 with rfl | rfl
            · by_cases hroom : room < ((u + L : Nat) : Int)
              · have t3 : decide (room < (u : Int) + (L : Int)) = true := by simp; omega
                have F := Lib.hid ((FA.out ⟨#[97]⟩ (by simp) (by decide)).1 hroom)
                have cn := NM.out 0 (by decide)
                rw [show nmCells[0]? = some (Value.string ⟨#[97]⟩) from rfl] at cn
                go_wp2_with fail
                clear cn
                refine F.out.mono ?_
                rintro e w5 ⟨rfl, O5, S5, l5, k5, h5⟩
                have L5 := Lib.hid l5; have K5 := Lib.hid k5; have H5 := Lib.hid h5
                clear l5 k5 h5 F
                go_wp2
                go_roundg (len - (k + 1))
                case measure => omega
                case rel => exact ⟨k + 1, u, S5, O5, by omega, by go_num, rfl, by omega, L5, K5, H5⟩
              · have t3 : decide (room < (u : Int) + (L : Int)) = false := by simp; omega
                have F := Lib.hid ((FA.out ⟨#[97]⟩ (by simp) (by decide)).2 hroom)
                have cn := NM.out 0 (by decide)
                rw [show nmCells[0]? = some (Value.string ⟨#[97]⟩) from rfl] at cn
                go_wp2_with fail
                clear cn
                refine F.out.mono ?_
                rintro e w5 ⟨rfl, O5, S5, l5, k5, h5⟩
                have L5 := Lib.hid l5; have K5 := Lib.hid k5; have H5 := Lib.hid h5
                clear l5 k5 h5 F
                go_wp2
                go_roundg (len - (k + 1))
                case measure => omega
                case rel => exact ⟨k + 1, u + L, S5, O5, by omega, by go_num, by go_num, by omega, L5, K5, H5⟩
            · by_cases hroom : room < ((u + L : Nat) : Int)
              · have t3 : decide (room < (u : Int) + (L : Int)) = true := by simp; omega
                have F := Lib.hid ((FA.out ⟨#[98]⟩ (by simp) (by decide)).1 hroom)
                have cn := NM.out 1 (by decide)
                rw [show nmCells[1]? = some (Value.string ⟨#[98]⟩) from rfl] at cn
                go_wp2_with fail
                clear cn
                refine F.out.mono ?_
                rintro e w5 ⟨rfl, O5, S5, l5, k5, h5⟩
                have L5 := Lib.hid l5; have K5 := Lib.hid k5; have H5 := Lib.hid h5
                clear l5 k5 h5 F
                go_wp2
                go_roundg (len - (k + 1))
                case measure => omega
                case rel => exact ⟨k + 1, u, S5, O5, by omega, by go_num, rfl, by omega, L5, K5, H5⟩
              · have t3 : decide (room < (u : Int) + (L : Int)) = false := by simp; omega
                have F := Lib.hid ((FA.out ⟨#[98]⟩ (by simp) (by decide)).2 hroom)
                have cn := NM.out 1 (by decide)
                rw [show nmCells[1]? = some (Value.string ⟨#[98]⟩) from rfl] at cn
                go_wp2_with fail
                clear cn
                refine F.out.mono ?_
                rintro e w5 ⟨rfl, O5, S5, l5, k5, h5⟩
                have L5 := Lib.hid l5; have K5 := Lib.hid k5; have H5 := Lib.hid h5
                clear l5 k5 h5 F
                go_wp2
                go_roundg (len - (k + 1))
                case measure => omega
                case rel => exact ⟨k + 1, u + L, S5, O5, by omega, by go_num, by go_num, by omega, L5, K5, H5⟩
          · have t2 : decide ((k : Int) < (len2 : Int)) = false := by simp; omega
            have t2b : decide (k < len2) = false := by simp; omega
            by_cases hroom : room < ((u + L : Nat) : Int)
            · have t3 : decide (room < (u : Int) + (L : Int)) = true := by simp; omega
              have F := Lib.hid ((FA.out ⟨#[97]⟩ (by simp) (by decide)).1 hroom)
              have cn := NM.out 0 (by decide)
              rw [show nmCells[0]? = some (Value.string ⟨#[97]⟩) from rfl] at cn
              go_wp2_with fail
              clear cn
              refine F.out.mono ?_
              rintro e w5 ⟨rfl, O5, S5, l5, k5, h5⟩
              have L5 := Lib.hid l5; have K5 := Lib.hid k5; have H5 := Lib.hid h5
              clear l5 k5 h5 F
              go_wp2
              go_roundg (len - (k + 1))
              case measure => omega
              case rel => exact ⟨k + 1, u, S5, O5, by omega, by go_num, rfl, by omega, L5, K5, H5⟩
            · have t3 : decide (room < (u : Int) + (L : Int)) = false := by simp; omega
              have F := Lib.hid ((FA.out ⟨#[97]⟩ (by simp) (by decide)).2 hroom)
              have cn := NM.out 0 (by decide)
              rw [show nmCells[0]? = some (Value.string ⟨#[97]⟩) from rfl] at cn
              go_wp2_with fail
              clear cn
              refine F.out.mono ?_
              rintro e w5 ⟨rfl, O5, S5, l5, k5, h5⟩
              have L5 := Lib.hid l5; have K5 := Lib.hid k5; have H5 := Lib.hid h5
              clear l5 k5 h5 F
              go_wp2
              go_roundg (len - (k + 1))
              case measure => omega
              case rel => exact ⟨k + 1, u + L, S5, O5, by omega, by go_num, by go_num, by omega, L5, K5, H5⟩
      · obtain rfl : len = k := by omega
        have nm := names_out HL.out.disk
        have hnl : namesL S = S.fs.map File.nm := by unfold namesL; rw [if_neg (by simp [HH.out.up])]
        rw [hnl] at nm
        have hg := HL.out.disk.good
        have lfs : (S.fs.map File.nm).length = S.fs.length := List.length_map _
        obtain ⟨fs, hfs⟩ : ∃ fs, S.fs = fs := ⟨_, rfl⟩
        obtain ⟨q, hq⟩ : ∃ q, fs.length = q := ⟨_, rfl⟩
        have h2 := two_names (distinct hg.sorted) HH.out.names
        rw [hfs] at nm lfs h2
        rw [hq] at lfs h2
        have NM := Lib.hid nm; have LFS := Lib.hid lfs; have HFS := Lib.hid hfs; have HQ := Lib.hid hq; have HG := Lib.hid hg
        have hus : used fs = u := by rw [← hfs]; exact HH.out.used
        have HUS := Lib.hid hus
        clear nm hnl hg lfs hfs hq hus
        go_wp2_with fail
        refine NM.out.mono ?_
        rintro e w4 ⟨adn, capn, rfl, hcn, hcn2, hx, hb4⟩
        rw [LFS.out] at hcn hx ⊢
        have HX := Lib.hid hx; have L4 := Lib.hid (HL.out.below hb4)
        clear hx hb4 NM
        go_wp2_with fail
        go_loopg [14, 85] q (fun m t i wr => ∃ (j v : Nat), j + m = q ∧ i = .int .i64 (j : Int) ∧ t = .int .i64 (v : Int) ∧ Hid (used (fs.take j) = v) ∧ v ≤ u ∧ Hid (Below w4.heap.size w4 wr))
        case atStart => exact ⟨0, 0, by omega, rfl, rfl, Lib.hid rfl, by omega, Lib.hid (Below.refl _ _)⟩
        case round =>
          obtain ⟨j, v, hj, rfl, rfl, HV, hv, HB⟩ := hrel
          have hq0 : j ≤ q := by omega
          by_cases hjq : j < q
          · obtain ⟨g, cur, e1, _, _, hcell⟩ := HX.out (by omega)
            have hjf : j < fs.length := by rw [HQ.out]; exact hjq
            have cj := hcell j hjq
            have hgl : g < w4.heap.size := Fr.lt_of_cell cj
            have cj2 : wr.cell? ⟨g, j, none⟩ = some (.string ⟨fs[j].nm.toArray⟩) := by
              rw [HB.out.cell (p := ⟨g, j, none⟩) hgl, cj]
              simp [List.getD, hjf, encStr]
            have hmem : fs[j] ∈ S.fs := by rw [HFS.out]; exact List.getElem_mem hjf
            have L5 := Lib.hid (L4.out.below HB.out)
            obtain ⟨th, rl⟩ := there_mem HG.out HH.out.up hmem
            have hsz : (⟨fs[j].nm.toArray⟩ : ByteArray).size ≤ maxLen := by
              have := HG.out.name _ hmem
              simp [badName] at this
              unfold maxLen
              show fs[j].nm.toArray.size ≤ _
              simp; omega
            have rd := read_disk L5.out.disk ⟨fs[j].nm.toArray⟩ hsz
            have RD : Hid (Calls Try.prog 22 #[.pointer (some ⟨d, 0, none⟩), .string ⟨fs[j].nm.toArray⟩] wr (RowOut wr 0 fs[j].l)) := by
              refine rd.mono fun e w' ⟨v, x1, x2, x3⟩ => ?_
              have e3 : (⟨fs[j].nm.toArray⟩ : ByteArray).data.toList = fs[j].nm := by simp
              rw [e3, th] at x1
              rw [e3, rl] at x2
              obtain ⟨ad, cap, rfl, y1, y2, y3, _⟩ := Ob.own_row x2
              exact ⟨ad, cap, x1, x2, y1, y2, y3, x3⟩
            have hst := used_take_succ (fs := fs) (j := j) (f := fs[j]) (List.getElem?_eq_getElem hjf)
            have hle := used_take_le fs (j + 1)
            rw [HUS.out] at hle
            rw [HV.out] at hst
            obtain ⟨fl, hfl⟩ : ∃ fl, fs[j].l.length = fl := ⟨_, rfl⟩
            rw [hfl] at hst
            rw [hst] at hle
            have HST := Lib.hid hst; have HFL := Lib.hid hfl
            obtain ⟨nmj, hnmj⟩ : ∃ x : ByteArray, (⟨fs[j].nm.toArray⟩ : ByteArray) = x := ⟨_, rfl⟩
            rw [hnmj] at cj2 RD
            subst e1
            clear cj hcell hmem th rl rd hst hfl hnmj hsz hgl
            go_wp2_with fail
            refine RD.out.mono ?_
            rintro e w6 ⟨adr, capr, rfl, _, _, _, _, hb6⟩
            have HB6 := Lib.hid (HB.out.trans (hb6.mono HB.out.size))
            rw [HFL.out]
            clear hb6 RD cj2
            go_wp2
            go_roundg (q - (j + 1))
            case measure => omega
            case rel => exact ⟨j + 1, v + fl, by omega, by go_num, by go_num, HST, hle, HB6⟩
          · obtain rfl : q = j := by omega
            have hvu : v = u := by
              rw [← HV.out, ← HUS.out, List.take_of_length_le (by rw [HQ.out]; omega)]
            subst hvu
            have F4 := Lib.hid (L4.out.below HB.out).frame
            go_wp2
            go_ret
            exact ⟨by simp, B1.out.trans (F4.out.mono B1.out.size)⟩
end Go.Proofs.Ytbjpchembekbbaa.Dk

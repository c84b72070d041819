/-
  Layer 5: of the reference four, Frame, Name.
-/
import Derived.Test.YtdonkmkjblofpaaDoorWn
namespace Go.Proofs.YtdonkmkjblofpaaDoor.Wl
open Go.RowKit Go.Sort Dx Sx Dk
set_option linter.unusedVariables false
set_option linter.unusedSimpArgs false
theorem own_lit (w : World) (l : List Int) {base : Nat} (hb : base ≤ w.heap.size) (hl : l.length ≤ maxLen) : Ob.OwnB (w.alloc (.cells (l.map (Value.int .u8)).toArray 5)) base (.slice (some ⟨w.heap.size, 0, none⟩) l.length l.length) l :=
  ⟨by simp, .inr ⟨w.heap.size, l.length, _, rfl, hb, (MapKept.heap_alloc w _).1, Nat.le_refl _, hl, by simp, by rw [Nat.mul_one]; exact List.take_of_length_le (by simp)⟩⟩
theorem conv1 (W : World) (R : Nat) (h : R < 10) :
    (convert 26 9 (.slice (some { block := W.heap.size, off := 0 }) 1 1)).run Tryd.prog (W.alloc (.cells #[.int .u8 (48 + (R : Int))] 5)) = .ok (.string (bs [dgt R])) (W.alloc (.cells #[.int .u8 (48 + (R : Int))] 5)) := by
  refine run_convert_bytes_back _ 26 9 5 { block := W.heap.size, off := 0 } 1 [dgt R] Tryd.underlying26 Tryd.underlying5 Tryd.underlying9 ?_
  intro j hj
  have : j = 0 := by simp at hj; omega
  subst this
  show (W.alloc _).cell? ⟨W.heap.size, 0 + 0, none⟩ = _
  rw [World.cell?_alloc_new, show ([dgt R][0]'hj).toNat = 48 + R by show (dgt R).toNat = _; unfold dgt; simp only [UInt8.toNat_ofNat']; omega]
  simp
end Go.Proofs.YtdonkmkjblofpaaDoor.Wl

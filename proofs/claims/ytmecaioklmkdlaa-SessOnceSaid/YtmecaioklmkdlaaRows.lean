/-
  No cell of these rows narrows 'for every input' (looked for: loops, veiled, ifaces, maps, wideKeys, modest, calm, conditions, laid).
  DERIVED. THE GIVEN ROWS OF THIS SEAT. 6 by the template 'for every input the law returns true; each argument reads behind the call as it read before'; 0 by the template 'total and deterministic' (their statements: YtmecaioklmkdlaaTotals.lean).
  GIVEN WITH THE SEED: the statements are not yours to turn. If you find one false, say at which input.
  Laid BY PROGRAM, IN A SANDBOX (cutbox-rows.mjs): the forced cells as the released guide's own fill.sh prints them over the translation fd13c7874dbb173e… (all of the seat's roots in one cut). By AI agents, Wed Nov 11 2026. No macro, syntax, notation, axiom, sorry.
-/
import Derived.Test.YtmecaioklmkdlaaChecked
import GoSem.Claim
import GoSem.ClaimJoined
import GoSem.ClaimMapViews
import Derived.JoinedTies
import Derived.KernelRfl
namespace Go.Proofs.Ytmecaioklmkdlaa
/- THE CELL 'sum', in the pinned program and in every row, IS THE sha256 OF THE DUMP (.gsa) THAT YtmecaioklmkdlaaProg.lean LOADS. Nothing in Lean hashes anything: it is a label: what it is worth is what the hold of that sum in a sandbox is worth. -/
noncomputable def Try.pinned : Pinned := { name := "ytmecaioklmkdlaa", sum := "fd13c7874dbb173e7541ecc90628afb35b1b38c39696c3031e5856bc7608cca7", checked := Try.checked }
namespace Rows
def none {H : Type} : Left H := { results := [], args := [] }

/-- 'bulwarklaw08.SessSends': WHATEVER THE INPUT: true; the input reads as it did. -/
def sessSendsSpec : ChangeSpec := { name := "sessSends", fn := fun _ => fun
  | [d1, d2] => { results := [.lit (.bool true)], args := [d1, d2] }
  | _ => none }
def sessSendsRow : OpenClaim := { program := "ytmecaioklmkdlaa", sum := "fd13c7874dbb173e7541ecc90628afb35b1b38c39696c3031e5856bc7608cca7", func := "bulwark/bulwarklaw08.SessSends", spec := "sessSends", apart := false }
def SessSendsSaid : Prop := sessSendsRow.holds Try.pinned (OpenSpec.ofChange sessSendsSpec)

/-- ITS FALSE NEIGHBOUR: 'it returns false'. Refute it at one input. -/
def sessSendsWrong : ChangeSpec := { name := "sessSends", fn := fun _ => fun
  | [d1, d2] => { results := [.lit (.bool false)], args := [d1, d2] }
  | _ => none }
def SessSendsWrongFalsely : Prop := sessSendsRow.holds Try.pinned (OpenSpec.ofChange sessSendsWrong)

/-- 'bulwarklaw08.SessTakes': WHATEVER THE INPUT: true; the input reads as it did. -/
def sessTakesSpec : ChangeSpec := { name := "sessTakes", fn := fun _ => fun
  | [d1, d2] => { results := [.lit (.bool true)], args := [d1, d2] }
  | _ => none }
def sessTakesRow : OpenClaim := { program := "ytmecaioklmkdlaa", sum := "fd13c7874dbb173e7541ecc90628afb35b1b38c39696c3031e5856bc7608cca7", func := "bulwark/bulwarklaw08.SessTakes", spec := "sessTakes", apart := false }
def SessTakesSaid : Prop := sessTakesRow.holds Try.pinned (OpenSpec.ofChange sessTakesSpec)

/-- ITS FALSE NEIGHBOUR: 'it returns false'. Refute it at one input. -/
def sessTakesWrong : ChangeSpec := { name := "sessTakes", fn := fun _ => fun
  | [d1, d2] => { results := [.lit (.bool false)], args := [d1, d2] }
  | _ => none }
def SessTakesWrongFalsely : Prop := sessTakesRow.holds Try.pinned (OpenSpec.ofChange sessTakesWrong)

/-- 'bulwarklaw08.SessStays': WHATEVER THE INPUT: true; the input reads as it did. -/
def sessStaysSpec : ChangeSpec := { name := "sessStays", fn := fun _ => fun
  | [d1, d2, d3] => { results := [.lit (.bool true)], args := [d1, d2, d3] }
  | _ => none }
def sessStaysRow : OpenClaim := { program := "ytmecaioklmkdlaa", sum := "fd13c7874dbb173e7541ecc90628afb35b1b38c39696c3031e5856bc7608cca7", func := "bulwark/bulwarklaw08.SessStays", spec := "sessStays", apart := false }
def SessStaysSaid : Prop := sessStaysRow.holds Try.pinned (OpenSpec.ofChange sessStaysSpec)

/-- ITS FALSE NEIGHBOUR: 'it returns false'. Refute it at one input. -/
def sessStaysWrong : ChangeSpec := { name := "sessStays", fn := fun _ => fun
  | [d1, d2, d3] => { results := [.lit (.bool false)], args := [d1, d2, d3] }
  | _ => none }
def SessStaysWrongFalsely : Prop := sessStaysRow.holds Try.pinned (OpenSpec.ofChange sessStaysWrong)

/-- 'bulwarklaw08.SessOnce': WHATEVER THE INPUT: true; the input reads as it did. -/
def sessOnceSpec : ChangeSpec := { name := "sessOnce", fn := fun _ => fun
  | [d] => { results := [.lit (.bool true)], args := [d] }
  | _ => none }
def sessOnceRow : OpenClaim := { program := "ytmecaioklmkdlaa", sum := "fd13c7874dbb173e7541ecc90628afb35b1b38c39696c3031e5856bc7608cca7", func := "bulwark/bulwarklaw08.SessOnce", spec := "sessOnce", apart := false }
def SessOnceSaid : Prop := sessOnceRow.holds Try.pinned (OpenSpec.ofChange sessOnceSpec)

/-- ITS FALSE NEIGHBOUR: 'it returns false'. Refute it at one input. -/
def sessOnceWrong : ChangeSpec := { name := "sessOnce", fn := fun _ => fun
  | [d] => { results := [.lit (.bool false)], args := [d] }
  | _ => none }
def SessOnceWrongFalsely : Prop := sessOnceRow.holds Try.pinned (OpenSpec.ofChange sessOnceWrong)

/-- 'bulwarklaw08.SessMends': WHATEVER THE INPUT: true; the input reads as it did. -/
def sessMendsSpec : ChangeSpec := { name := "sessMends", fn := fun _ => fun
  | [d1, d2] => { results := [.lit (.bool true)], args := [d1, d2] }
  | _ => none }
def sessMendsRow : OpenClaim := { program := "ytmecaioklmkdlaa", sum := "fd13c7874dbb173e7541ecc90628afb35b1b38c39696c3031e5856bc7608cca7", func := "bulwark/bulwarklaw08.SessMends", spec := "sessMends", apart := false }
def SessMendsSaid : Prop := sessMendsRow.holds Try.pinned (OpenSpec.ofChange sessMendsSpec)

/-- ITS FALSE NEIGHBOUR: 'it returns false'. Refute it at one input. -/
def sessMendsWrong : ChangeSpec := { name := "sessMends", fn := fun _ => fun
  | [d1, d2] => { results := [.lit (.bool false)], args := [d1, d2] }
  | _ => none }
def SessMendsWrongFalsely : Prop := sessMendsRow.holds Try.pinned (OpenSpec.ofChange sessMendsWrong)

/-- 'bulwarklaw08.SessKeeps': WHATEVER THE INPUT: true; the input reads as it did. -/
def sessKeepsSpec : ChangeSpec := { name := "sessKeeps", fn := fun _ => fun
  | [d1, d2, d3] => { results := [.lit (.bool true)], args := [d1, d2, d3] }
  | _ => none }
def sessKeepsRow : OpenClaim := { program := "ytmecaioklmkdlaa", sum := "fd13c7874dbb173e7541ecc90628afb35b1b38c39696c3031e5856bc7608cca7", func := "bulwark/bulwarklaw08.SessKeeps", spec := "sessKeeps", apart := false }
def SessKeepsSaid : Prop := sessKeepsRow.holds Try.pinned (OpenSpec.ofChange sessKeepsSpec)

/-- ITS FALSE NEIGHBOUR: 'it returns false'. Refute it at one input. -/
def sessKeepsWrong : ChangeSpec := { name := "sessKeeps", fn := fun _ => fun
  | [d1, d2, d3] => { results := [.lit (.bool false)], args := [d1, d2, d3] }
  | _ => none }
def SessKeepsWrongFalsely : Prop := sessKeepsRow.holds Try.pinned (OpenSpec.ofChange sessKeepsWrong)

/- THE SECOND FORM. 'bulk': how many values and letters a reading holds, each counted each time it is reached (what is shared counts as often as it is met; a slice's spare places count too). A statement '..UptoSaid' is the law's where the arguments, and the package variables that the reading takes, are together of bulk at most 1048576: NARROWER than '..Said'. Prove '..Said' where nothing that the law and all that it calls make is longer than what came in: it says more and counts as full. Else prove '..UptoSaid'. A law counts once. -/
mutual
def uptoBulk {H : Type} : DataW H → Nat
  | .lit (.string bytes) => bytes.length + 1
  | .lit _ => 1
  | .nil => 1
  | .ptr d => uptoBulk d + 1
  | .slice elems spare => uptoBulkAll elems + uptoBulkAll spare + 1
  | .agg parts => uptoBulkAll parts + 1
  | .iface _ d => uptoBulk d + 1
  | .map entries => uptoBulkEntries entries + 1
  | .held _ => 1
def uptoBulkAll {H : Type} : List (DataW H) → Nat
  | [] => 0
  | d :: r => uptoBulk d + uptoBulkAll r
def uptoBulkEntries {H : Type} : List (Lit × DataW H) → Nat
  | [] => 0
  | x :: r => uptoBulkEntry x + uptoBulkEntries r
def uptoBulkEntry {H : Type} : Lit × DataW H → Nat
  | (.string bytes, d) => bytes.length + uptoBulk d + 1
  | (_, d) => uptoBulk d + 1
 end
def uptoSmall : (H : Type) → List (DataW H) → Bool := fun _ ds => decide (uptoBulkAll ds ≤ 1048576)
def OpenSpec.upto (s : _root_.Go.ChangeSpec) : _root_.Go.OpenSpec := { _root_.Go.OpenSpec.ofChange s with cond := some uptoSmall }

/-- 'bulwarklaw08.SessSends', WHERE WHAT IT READS IS OF BULK AT MOST 1048576: true; the input reads as it did. -/
def sessSendsUptoRow : OpenClaim := { program := "ytmecaioklmkdlaa", sum := "fd13c7874dbb173e7541ecc90628afb35b1b38c39696c3031e5856bc7608cca7", func := "bulwark/bulwarklaw08.SessSends", spec := "sessSends", apart := false, narrowed := true }
def SessSendsUptoSaid : Prop := sessSendsUptoRow.holds Try.pinned (OpenSpec.upto sessSendsSpec)

/-- 'bulwarklaw08.SessTakes', WHERE WHAT IT READS IS OF BULK AT MOST 1048576: true; the input reads as it did. -/
def sessTakesUptoRow : OpenClaim := { program := "ytmecaioklmkdlaa", sum := "fd13c7874dbb173e7541ecc90628afb35b1b38c39696c3031e5856bc7608cca7", func := "bulwark/bulwarklaw08.SessTakes", spec := "sessTakes", apart := false, narrowed := true }
def SessTakesUptoSaid : Prop := sessTakesUptoRow.holds Try.pinned (OpenSpec.upto sessTakesSpec)

/-- 'bulwarklaw08.SessStays', WHERE WHAT IT READS IS OF BULK AT MOST 1048576: true; the input reads as it did. -/
def sessStaysUptoRow : OpenClaim := { program := "ytmecaioklmkdlaa", sum := "fd13c7874dbb173e7541ecc90628afb35b1b38c39696c3031e5856bc7608cca7", func := "bulwark/bulwarklaw08.SessStays", spec := "sessStays", apart := false, narrowed := true }
def SessStaysUptoSaid : Prop := sessStaysUptoRow.holds Try.pinned (OpenSpec.upto sessStaysSpec)

/-- 'bulwarklaw08.SessOnce', WHERE WHAT IT READS IS OF BULK AT MOST 1048576: true; the input reads as it did. -/
def sessOnceUptoRow : OpenClaim := { program := "ytmecaioklmkdlaa", sum := "fd13c7874dbb173e7541ecc90628afb35b1b38c39696c3031e5856bc7608cca7", func := "bulwark/bulwarklaw08.SessOnce", spec := "sessOnce", apart := false, narrowed := true }
def SessOnceUptoSaid : Prop := sessOnceUptoRow.holds Try.pinned (OpenSpec.upto sessOnceSpec)

/-- 'bulwarklaw08.SessMends', WHERE WHAT IT READS IS OF BULK AT MOST 1048576: true; the input reads as it did. -/
def sessMendsUptoRow : OpenClaim := { program := "ytmecaioklmkdlaa", sum := "fd13c7874dbb173e7541ecc90628afb35b1b38c39696c3031e5856bc7608cca7", func := "bulwark/bulwarklaw08.SessMends", spec := "sessMends", apart := false, narrowed := true }
def SessMendsUptoSaid : Prop := sessMendsUptoRow.holds Try.pinned (OpenSpec.upto sessMendsSpec)

/-- 'bulwarklaw08.SessKeeps', WHERE WHAT IT READS IS OF BULK AT MOST 1048576: true; the input reads as it did. -/
def sessKeepsUptoRow : OpenClaim := { program := "ytmecaioklmkdlaa", sum := "fd13c7874dbb173e7541ecc90628afb35b1b38c39696c3031e5856bc7608cca7", func := "bulwark/bulwarklaw08.SessKeeps", spec := "sessKeeps", apart := false, narrowed := true }
def SessKeepsUptoSaid : Prop := sessKeepsUptoRow.holds Try.pinned (OpenSpec.upto sessKeepsSpec)

end Rows
end Go.Proofs.Ytmecaioklmkdlaa

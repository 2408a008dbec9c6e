/-
  NARROWER THAN 'FOR EVERY INPUT', by the rows' own cells (each row's printed sentence says how): KeyTurned: loops · KeyWithin: loops.
  DERIVED. THE GIVEN ROWS OF THIS SEAT. 3 by the template 'for every input the law returns true; each argument reads behind the call as it read before'; 0 by the template 'total and deterministic' (their statements: YtegoeaofjnpehabTotals.lean).
  GIVEN WITH THE SEED: the statements are not yours to turn. If you find one false, say at which input.
  Laid BY PROGRAM, IN A SANDBOX (cutbox-rows.mjs): the forced cells as the released guide's own fill.sh prints them over the translation 59969c03eb427b33… (all of the seat's roots in one cut). By AI agents, Wed Nov 11 2026. No macro, syntax, notation, axiom, sorry.
-/
import Derived.Test.YtegoeaofjnpehabChecked
import GoSem.Claim
import GoSem.ClaimJoined
import GoSem.ClaimMapViews
import Derived.JoinedTies
import Derived.KernelRfl
namespace Go.Proofs.Ytegoeaofjnpehab
/- THE CELL 'sum', in the pinned program and in every row, IS THE sha256 OF THE DUMP (.gsa) THAT YtegoeaofjnpehabProg.lean LOADS. Nothing in Lean hashes anything: it is a label: what it is worth is what the hold of that sum in a sandbox is worth. -/
noncomputable def Try.pinned : Pinned := { name := "ytegoeaofjnpehab", sum := "59969c03eb427b33f15d68c9b2af5fc5f348414bac9d1df45b15cb818428c97c", checked := Try.checked }
namespace Rows
def none {H : Type} : Left H := { results := [], args := [] }

/-- 'codicillaw04.KeyTakes': WHATEVER THE INPUT: true; the input reads as it did. -/
def keyTakesSpec : ChangeSpec := { name := "keyTakes", fn := fun _ => fun
  | [d1, d2] => { results := [.lit (.bool true)], args := [d1, d2] }
  | _ => none }
def keyTakesRow : OpenClaim := { program := "ytegoeaofjnpehab", sum := "59969c03eb427b33f15d68c9b2af5fc5f348414bac9d1df45b15cb818428c97c", func := "codicil/codicillaw04.KeyTakes", spec := "keyTakes", unfollowed := true, recurses := true, apart := false }
def KeyTakesSaid : Prop := keyTakesRow.holds Try.pinned (OpenSpec.ofChange keyTakesSpec)

/-- ITS FALSE NEIGHBOUR: 'it returns false'. Refute it at one input. -/
def keyTakesWrong : ChangeSpec := { name := "keyTakes", fn := fun _ => fun
  | [d1, d2] => { results := [.lit (.bool false)], args := [d1, d2] }
  | _ => none }
def KeyTakesWrongFalsely : Prop := keyTakesRow.holds Try.pinned (OpenSpec.ofChange keyTakesWrong)

/-- 'codicillaw04.KeyTurned': WHATEVER THE INPUT: true; the input reads as it did. -/
def keyTurnedSpec : ChangeSpec := { name := "keyTurned", fn := fun _ => fun
  | [d1, d2] => { results := [.lit (.bool true)], args := [d1, d2] }
  | _ => none }
def keyTurnedRow : OpenClaim := { program := "ytegoeaofjnpehab", sum := "59969c03eb427b33f15d68c9b2af5fc5f348414bac9d1df45b15cb818428c97c", func := "codicil/codicillaw04.KeyTurned", spec := "keyTurned", unfollowed := true, recurses := true, loops := true, apart := false }
def KeyTurnedSaid : Prop := keyTurnedRow.holds Try.pinned (OpenSpec.ofChange keyTurnedSpec)

/-- ITS FALSE NEIGHBOUR: 'it returns false'. Refute it at one input. -/
def keyTurnedWrong : ChangeSpec := { name := "keyTurned", fn := fun _ => fun
  | [d1, d2] => { results := [.lit (.bool false)], args := [d1, d2] }
  | _ => none }
def KeyTurnedWrongFalsely : Prop := keyTurnedRow.holds Try.pinned (OpenSpec.ofChange keyTurnedWrong)

/-- 'codicillaw04.KeyWithin': WHATEVER THE INPUT: true; the input reads as it did. -/
def keyWithinSpec : ChangeSpec := { name := "keyWithin", fn := fun _ => fun
  | [d1, d2, d3, d4] => { results := [.lit (.bool true)], args := [d1, d2, d3, d4] }
  | _ => none }
def keyWithinRow : OpenClaim := { program := "ytegoeaofjnpehab", sum := "59969c03eb427b33f15d68c9b2af5fc5f348414bac9d1df45b15cb818428c97c", func := "codicil/codicillaw04.KeyWithin", spec := "keyWithin", unfollowed := true, recurses := true, loops := true, apart := false }
def KeyWithinSaid : Prop := keyWithinRow.holds Try.pinned (OpenSpec.ofChange keyWithinSpec)

/-- ITS FALSE NEIGHBOUR: 'it returns false'. Refute it at one input. -/
def keyWithinWrong : ChangeSpec := { name := "keyWithin", fn := fun _ => fun
  | [d1, d2, d3, d4] => { results := [.lit (.bool false)], args := [d1, d2, d3, d4] }
  | _ => none }
def KeyWithinWrongFalsely : Prop := keyWithinRow.holds Try.pinned (OpenSpec.ofChange keyWithinWrong)

/- THE SECOND FORM. 'bulk': how many values and letters a reading holds, each counted each time it is reached (what is shared counts as often as it is met; a slice's spare places count too). A statement '..UptoSaid' is the law's where the arguments, and the package variables that the reading takes, are together of bulk at most 1048576: NARROWER than '..Said'. Prove '..Said' where nothing that the law and all that it calls make is longer than what came in: it says more and counts as full. Else prove '..UptoSaid'. A law counts once. -/
mutual
def uptoBulk {H : Type} : DataW H → Nat
  | .lit (.string bytes) => bytes.length + 1
  | .lit _ => 1
  | .nil => 1
  | .ptr d => uptoBulk d + 1
  | .slice elems spare => uptoBulkAll elems + uptoBulkAll spare + 1
  | .agg parts => uptoBulkAll parts + 1
  | .iface _ d => uptoBulk d + 1
  | .map entries => uptoBulkEntries entries + 1
  | .held _ => 1
def uptoBulkAll {H : Type} : List (DataW H) → Nat
  | [] => 0
  | d :: r => uptoBulk d + uptoBulkAll r
def uptoBulkEntries {H : Type} : List (Lit × DataW H) → Nat
  | [] => 0
  | x :: r => uptoBulkEntry x + uptoBulkEntries r
def uptoBulkEntry {H : Type} : Lit × DataW H → Nat
  | (.string bytes, d) => bytes.length + uptoBulk d + 1
  | (_, d) => uptoBulk d + 1
 end
def uptoSmall : (H : Type) → List (DataW H) → Bool := fun _ ds => decide (uptoBulkAll ds ≤ 1048576)
def OpenSpec.upto (s : _root_.Go.ChangeSpec) : _root_.Go.OpenSpec := { _root_.Go.OpenSpec.ofChange s with cond := some uptoSmall }

/-- 'codicillaw04.KeyTakes', WHERE WHAT IT READS IS OF BULK AT MOST 1048576: true; the input reads as it did. -/
def keyTakesUptoRow : OpenClaim := { program := "ytegoeaofjnpehab", sum := "59969c03eb427b33f15d68c9b2af5fc5f348414bac9d1df45b15cb818428c97c", func := "codicil/codicillaw04.KeyTakes", spec := "keyTakes", unfollowed := true, recurses := true, apart := false, narrowed := true }
def KeyTakesUptoSaid : Prop := keyTakesUptoRow.holds Try.pinned (OpenSpec.upto keyTakesSpec)

/-- 'codicillaw04.KeyTurned', WHERE WHAT IT READS IS OF BULK AT MOST 1048576: true; the input reads as it did. -/
def keyTurnedUptoRow : OpenClaim := { program := "ytegoeaofjnpehab", sum := "59969c03eb427b33f15d68c9b2af5fc5f348414bac9d1df45b15cb818428c97c", func := "codicil/codicillaw04.KeyTurned", spec := "keyTurned", unfollowed := true, recurses := true, loops := true, apart := false, narrowed := true }
def KeyTurnedUptoSaid : Prop := keyTurnedUptoRow.holds Try.pinned (OpenSpec.upto keyTurnedSpec)

/-- 'codicillaw04.KeyWithin', WHERE WHAT IT READS IS OF BULK AT MOST 1048576: true; the input reads as it did. -/
def keyWithinUptoRow : OpenClaim := { program := "ytegoeaofjnpehab", sum := "59969c03eb427b33f15d68c9b2af5fc5f348414bac9d1df45b15cb818428c97c", func := "codicil/codicillaw04.KeyWithin", spec := "keyWithin", unfollowed := true, recurses := true, loops := true, apart := false, narrowed := true }
def KeyWithinUptoSaid : Prop := keyWithinUptoRow.holds Try.pinned (OpenSpec.upto keyWithinSpec)

end Rows
end Go.Proofs.Ytegoeaofjnpehab

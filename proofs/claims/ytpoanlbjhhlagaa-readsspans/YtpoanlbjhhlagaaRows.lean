/-
  No cell of these rows narrows 'for every input' (looked for: loops, veiled, ifaces, maps, wideKeys, modest, calm, conditions, laid).
  DERIVED. THE GIVEN ROWS OF THIS SEAT. 4 by the template 'for every input the law returns true; each argument reads behind the call as it read before'; 0 by the template 'total and deterministic' (their statements: YtpoanlbjhhlagaaTotals.lean).
  GIVEN WITH THE SEED: the statements are not yours to turn. If you find one false, say at which input.
  Laid BY PROGRAM, IN A SANDBOX (cutbox-rows.mjs): the forced cells as the released guide's own fill.sh prints them over the translation c1ccfef080441ecb… (all of the seat's roots in one cut). By AI agents, Wed Nov 11 2026. No macro, syntax, notation, axiom, sorry.
-/
import Derived.Test.YtpoanlbjhhlagaaChecked
import GoSem.Claim
import GoSem.ClaimJoined
import GoSem.ClaimMapViews
import Derived.JoinedTies
import Derived.KernelRfl
namespace Go.Proofs.Ytpoanlbjhhlagaa
/- THE CELL 'sum', in the pinned program and in every row, IS THE sha256 OF THE DUMP (.gsa) THAT YtpoanlbjhhlagaaProg.lean LOADS. Nothing in Lean hashes anything: it is a label: what it is worth is what the hold of that sum in a sandbox is worth. -/
noncomputable def Try.pinned : Pinned := { name := "ytpoanlbjhhlagaa", sum := "c1ccfef080441ecbd3bf7f51bfbd6f16a3fe00bf6bd6161cb79f54ca7316f957", checked := Try.checked }
namespace Rows
def none {H : Type} : Left H := { results := [], args := [] }

/-- 'codicillaw17.ReadsTells': WHATEVER THE INPUT: true; the input reads as it did. -/
def readsTellsSpec : ChangeSpec := { name := "readsTells", fn := fun _ => fun
  | [d1, d2, d3] => { results := [.lit (.bool true)], args := [d1, d2, d3] }
  | _ => none }
def readsTellsRow : OpenClaim := { program := "ytpoanlbjhhlagaa", sum := "c1ccfef080441ecbd3bf7f51bfbd6f16a3fe00bf6bd6161cb79f54ca7316f957", func := "codicil/codicillaw17.ReadsTells", spec := "readsTells", inPlace := ["internal/bytealg.Compare"], unfollowed := true, recurses := true, apart := false }
def ReadsTellsSaid : Prop := readsTellsRow.holds Try.pinned (OpenSpec.ofChange readsTellsSpec)

/-- ITS FALSE NEIGHBOUR: 'it returns false'. Refute it at one input. -/
def readsTellsWrong : ChangeSpec := { name := "readsTells", fn := fun _ => fun
  | [d1, d2, d3] => { results := [.lit (.bool false)], args := [d1, d2, d3] }
  | _ => none }
def ReadsTellsWrongFalsely : Prop := readsTellsRow.holds Try.pinned (OpenSpec.ofChange readsTellsWrong)

/-- 'codicillaw17.ReadsSpans': WHATEVER THE INPUT: true; the input reads as it did. -/
def readsSpansSpec : ChangeSpec := { name := "readsSpans", fn := fun _ => fun
  | [d1, d2, d3] => { results := [.lit (.bool true)], args := [d1, d2, d3] }
  | _ => none }
def readsSpansRow : OpenClaim := { program := "ytpoanlbjhhlagaa", sum := "c1ccfef080441ecbd3bf7f51bfbd6f16a3fe00bf6bd6161cb79f54ca7316f957", func := "codicil/codicillaw17.ReadsSpans", spec := "readsSpans", inPlace := ["internal/bytealg.Compare"], unfollowed := true, recurses := true, apart := false }
def ReadsSpansSaid : Prop := readsSpansRow.holds Try.pinned (OpenSpec.ofChange readsSpansSpec)

/-- ITS FALSE NEIGHBOUR: 'it returns false'. Refute it at one input. -/
def readsSpansWrong : ChangeSpec := { name := "readsSpans", fn := fun _ => fun
  | [d1, d2, d3] => { results := [.lit (.bool false)], args := [d1, d2, d3] }
  | _ => none }
def ReadsSpansWrongFalsely : Prop := readsSpansRow.holds Try.pinned (OpenSpec.ofChange readsSpansWrong)

/-- 'codicillaw17.ReadsTurns': WHATEVER THE INPUT: true; the input reads as it did. -/
def readsTurnsSpec : ChangeSpec := { name := "readsTurns", fn := fun _ => fun
  | [d1, d2, d3] => { results := [.lit (.bool true)], args := [d1, d2, d3] }
  | _ => none }
def readsTurnsRow : OpenClaim := { program := "ytpoanlbjhhlagaa", sum := "c1ccfef080441ecbd3bf7f51bfbd6f16a3fe00bf6bd6161cb79f54ca7316f957", func := "codicil/codicillaw17.ReadsTurns", spec := "readsTurns", inPlace := ["internal/bytealg.Compare"], unfollowed := true, recurses := true, apart := false }
def ReadsTurnsSaid : Prop := readsTurnsRow.holds Try.pinned (OpenSpec.ofChange readsTurnsSpec)

/-- ITS FALSE NEIGHBOUR: 'it returns false'. Refute it at one input. -/
def readsTurnsWrong : ChangeSpec := { name := "readsTurns", fn := fun _ => fun
  | [d1, d2, d3] => { results := [.lit (.bool false)], args := [d1, d2, d3] }
  | _ => none }
def ReadsTurnsWrongFalsely : Prop := readsTurnsRow.holds Try.pinned (OpenSpec.ofChange readsTurnsWrong)

/-- 'codicillaw17.ReadsGrows': WHATEVER THE INPUT: true; the input reads as it did. -/
def readsGrowsSpec : ChangeSpec := { name := "readsGrows", fn := fun _ => fun
  | [d1, d2, d3, d4] => { results := [.lit (.bool true)], args := [d1, d2, d3, d4] }
  | _ => none }
def readsGrowsRow : OpenClaim := { program := "ytpoanlbjhhlagaa", sum := "c1ccfef080441ecbd3bf7f51bfbd6f16a3fe00bf6bd6161cb79f54ca7316f957", func := "codicil/codicillaw17.ReadsGrows", spec := "readsGrows", inPlace := ["internal/bytealg.Compare"], unfollowed := true, recurses := true, apart := false }
def ReadsGrowsSaid : Prop := readsGrowsRow.holds Try.pinned (OpenSpec.ofChange readsGrowsSpec)

/-- ITS FALSE NEIGHBOUR: 'it returns false'. Refute it at one input. -/
def readsGrowsWrong : ChangeSpec := { name := "readsGrows", fn := fun _ => fun
  | [d1, d2, d3, d4] => { results := [.lit (.bool false)], args := [d1, d2, d3, d4] }
  | _ => none }
def ReadsGrowsWrongFalsely : Prop := readsGrowsRow.holds Try.pinned (OpenSpec.ofChange readsGrowsWrong)

/- THE SECOND FORM. 'bulk': how many values and letters a reading holds, each counted each time it is reached (what is shared counts as often as it is met; a slice's spare places count too). A statement '..UptoSaid' is the law's where the arguments, and the package variables that the reading takes, are together of bulk at most 1048576: NARROWER than '..Said'. Prove '..Said' where nothing that the law and all that it calls make is longer than what came in: it says more and counts as full. Else prove '..UptoSaid'. A law counts once. -/
mutual
def uptoBulk {H : Type} : DataW H → Nat
  | .lit (.string bytes) => bytes.length + 1
  | .lit _ => 1
  | .nil => 1
  | .ptr d => uptoBulk d + 1
  | .slice elems spare => uptoBulkAll elems + uptoBulkAll spare + 1
  | .agg parts => uptoBulkAll parts + 1
  | .iface _ d => uptoBulk d + 1
  | .map entries => uptoBulkEntries entries + 1
  | .held _ => 1
def uptoBulkAll {H : Type} : List (DataW H) → Nat
  | [] => 0
  | d :: r => uptoBulk d + uptoBulkAll r
def uptoBulkEntries {H : Type} : List (Lit × DataW H) → Nat
  | [] => 0
  | x :: r => uptoBulkEntry x + uptoBulkEntries r
def uptoBulkEntry {H : Type} : Lit × DataW H → Nat
  | (.string bytes, d) => bytes.length + uptoBulk d + 1
  | (_, d) => uptoBulk d + 1
 end
def uptoSmall : (H : Type) → List (DataW H) → Bool := fun _ ds => decide (uptoBulkAll ds ≤ 1048576)
def OpenSpec.upto (s : _root_.Go.ChangeSpec) : _root_.Go.OpenSpec := { _root_.Go.OpenSpec.ofChange s with cond := some uptoSmall }

/-- 'codicillaw17.ReadsTells', WHERE WHAT IT READS IS OF BULK AT MOST 1048576: true; the input reads as it did. -/
def readsTellsUptoRow : OpenClaim := { program := "ytpoanlbjhhlagaa", sum := "c1ccfef080441ecbd3bf7f51bfbd6f16a3fe00bf6bd6161cb79f54ca7316f957", func := "codicil/codicillaw17.ReadsTells", spec := "readsTells", inPlace := ["internal/bytealg.Compare"], unfollowed := true, recurses := true, apart := false, narrowed := true }
def ReadsTellsUptoSaid : Prop := readsTellsUptoRow.holds Try.pinned (OpenSpec.upto readsTellsSpec)

/-- 'codicillaw17.ReadsSpans', WHERE WHAT IT READS IS OF BULK AT MOST 1048576: true; the input reads as it did. -/
def readsSpansUptoRow : OpenClaim := { program := "ytpoanlbjhhlagaa", sum := "c1ccfef080441ecbd3bf7f51bfbd6f16a3fe00bf6bd6161cb79f54ca7316f957", func := "codicil/codicillaw17.ReadsSpans", spec := "readsSpans", inPlace := ["internal/bytealg.Compare"], unfollowed := true, recurses := true, apart := false, narrowed := true }
def ReadsSpansUptoSaid : Prop := readsSpansUptoRow.holds Try.pinned (OpenSpec.upto readsSpansSpec)

/-- 'codicillaw17.ReadsTurns', WHERE WHAT IT READS IS OF BULK AT MOST 1048576: true; the input reads as it did. -/
def readsTurnsUptoRow : OpenClaim := { program := "ytpoanlbjhhlagaa", sum := "c1ccfef080441ecbd3bf7f51bfbd6f16a3fe00bf6bd6161cb79f54ca7316f957", func := "codicil/codicillaw17.ReadsTurns", spec := "readsTurns", inPlace := ["internal/bytealg.Compare"], unfollowed := true, recurses := true, apart := false, narrowed := true }
def ReadsTurnsUptoSaid : Prop := readsTurnsUptoRow.holds Try.pinned (OpenSpec.upto readsTurnsSpec)

/-- 'codicillaw17.ReadsGrows', WHERE WHAT IT READS IS OF BULK AT MOST 1048576: true; the input reads as it did. -/
def readsGrowsUptoRow : OpenClaim := { program := "ytpoanlbjhhlagaa", sum := "c1ccfef080441ecbd3bf7f51bfbd6f16a3fe00bf6bd6161cb79f54ca7316f957", func := "codicil/codicillaw17.ReadsGrows", spec := "readsGrows", inPlace := ["internal/bytealg.Compare"], unfollowed := true, recurses := true, apart := false, narrowed := true }
def ReadsGrowsUptoSaid : Prop := readsGrowsUptoRow.holds Try.pinned (OpenSpec.upto readsGrowsSpec)

end Rows
end Go.Proofs.Ytpoanlbjhhlagaa

/-
  No cell of these rows narrows 'for every input' (looked for: loops, veiled, ifaces, maps, wideKeys, modest, calm, conditions, laid).
  DERIVED. THE GIVEN ROWS OF THIS SEAT. 4 by the template 'for every input the law returns true; each argument reads behind the call as it read before'; 0 by the template 'total and deterministic' (their statements: YtghaphcifoknpabTotals.lean).
  GIVEN WITH THE SEED: the statements are not yours to turn. If you find one false, say at which input.
  Laid BY PROGRAM, IN A SANDBOX (cutbox-rows.mjs): the forced cells as the released guide's own fill.sh prints them over the translation d96bd06d42289c00… (all of the seat's roots in one cut). By AI agents, Wed Nov 11 2026. No macro, syntax, notation, axiom, sorry.
-/
import Derived.Test.YtghaphcifoknpabChecked
import GoSem.Claim
import GoSem.ClaimJoined
import GoSem.ClaimMapViews
import Derived.JoinedTies
import Derived.KernelRfl
namespace Go.Proofs.Ytghaphcifoknpab
/- THE CELL 'sum', in the pinned program and in every row, IS THE sha256 OF THE DUMP (.gsa) THAT YtghaphcifoknpabProg.lean LOADS. Nothing in Lean hashes anything: it is a label: what it is worth is what the hold of that sum in a sandbox is worth. -/
noncomputable def Try.pinned : Pinned := { name := "ytghaphcifoknpab", sum := "d96bd06d42289c0035b439c6852fbe1a1fc8d856d6283237de7147fa57141862", checked := Try.checked }
namespace Rows
def none {H : Type} : Left H := { results := [], args := [] }

/-- 'guidepostlaw01.NameUnder': WHATEVER THE INPUT: true; the input reads as it did. -/
def nameUnderSpec : ChangeSpec := { name := "nameUnder", fn := fun _ => fun
  | [d1, d2, d3] => { results := [.lit (.bool true)], args := [d1, d2, d3] }
  | _ => none }
def nameUnderRow : OpenClaim := { program := "ytghaphcifoknpab", sum := "d96bd06d42289c0035b439c6852fbe1a1fc8d856d6283237de7147fa57141862", func := "guidepost/guidepostlaw01.NameUnder", spec := "nameUnder", unfollowed := true, recurses := true, apart := false }
def NameUnderSaid : Prop := nameUnderRow.holds Try.pinned (OpenSpec.ofChange nameUnderSpec)

/-- ITS FALSE NEIGHBOUR: 'it returns false'. Refute it at one input. -/
def nameUnderWrong : ChangeSpec := { name := "nameUnder", fn := fun _ => fun
  | [d1, d2, d3] => { results := [.lit (.bool false)], args := [d1, d2, d3] }
  | _ => none }
def NameUnderWrongFalsely : Prop := nameUnderRow.holds Try.pinned (OpenSpec.ofChange nameUnderWrong)

/-- 'guidepostlaw01.NameMoves': WHATEVER THE INPUT: true; the input reads as it did. -/
def nameMovesSpec : ChangeSpec := { name := "nameMoves", fn := fun _ => fun
  | [d1, d2, d3] => { results := [.lit (.bool true)], args := [d1, d2, d3] }
  | _ => none }
def nameMovesRow : OpenClaim := { program := "ytghaphcifoknpab", sum := "d96bd06d42289c0035b439c6852fbe1a1fc8d856d6283237de7147fa57141862", func := "guidepost/guidepostlaw01.NameMoves", spec := "nameMoves", unfollowed := true, recurses := true, apart := false }
def NameMovesSaid : Prop := nameMovesRow.holds Try.pinned (OpenSpec.ofChange nameMovesSpec)

/-- ITS FALSE NEIGHBOUR: 'it returns false'. Refute it at one input. -/
def nameMovesWrong : ChangeSpec := { name := "nameMoves", fn := fun _ => fun
  | [d1, d2, d3] => { results := [.lit (.bool false)], args := [d1, d2, d3] }
  | _ => none }
def NameMovesWrongFalsely : Prop := nameMovesRow.holds Try.pinned (OpenSpec.ofChange nameMovesWrong)

/-- 'guidepostlaw01.NameJoins': WHATEVER THE INPUT: true; the input reads as it did. -/
def nameJoinsSpec : ChangeSpec := { name := "nameJoins", fn := fun _ => fun
  | [d1, d2] => { results := [.lit (.bool true)], args := [d1, d2] }
  | _ => none }
def nameJoinsRow : OpenClaim := { program := "ytghaphcifoknpab", sum := "d96bd06d42289c0035b439c6852fbe1a1fc8d856d6283237de7147fa57141862", func := "guidepost/guidepostlaw01.NameJoins", spec := "nameJoins", unfollowed := true, recurses := true, apart := false }
def NameJoinsSaid : Prop := nameJoinsRow.holds Try.pinned (OpenSpec.ofChange nameJoinsSpec)

/-- ITS FALSE NEIGHBOUR: 'it returns false'. Refute it at one input. -/
def nameJoinsWrong : ChangeSpec := { name := "nameJoins", fn := fun _ => fun
  | [d1, d2] => { results := [.lit (.bool false)], args := [d1, d2] }
  | _ => none }
def NameJoinsWrongFalsely : Prop := nameJoinsRow.holds Try.pinned (OpenSpec.ofChange nameJoinsWrong)

/-- 'guidepostlaw01.NameLongest': WHATEVER THE INPUT: true; the input reads as it did. -/
def nameLongestSpec : ChangeSpec := { name := "nameLongest", fn := fun _ => fun
  | [d1, d2, d3] => { results := [.lit (.bool true)], args := [d1, d2, d3] }
  | _ => none }
def nameLongestRow : OpenClaim := { program := "ytghaphcifoknpab", sum := "d96bd06d42289c0035b439c6852fbe1a1fc8d856d6283237de7147fa57141862", func := "guidepost/guidepostlaw01.NameLongest", spec := "nameLongest", unfollowed := true, recurses := true, apart := false }
def NameLongestSaid : Prop := nameLongestRow.holds Try.pinned (OpenSpec.ofChange nameLongestSpec)

/-- ITS FALSE NEIGHBOUR: 'it returns false'. Refute it at one input. -/
def nameLongestWrong : ChangeSpec := { name := "nameLongest", fn := fun _ => fun
  | [d1, d2, d3] => { results := [.lit (.bool false)], args := [d1, d2, d3] }
  | _ => none }
def NameLongestWrongFalsely : Prop := nameLongestRow.holds Try.pinned (OpenSpec.ofChange nameLongestWrong)

/- THE SECOND FORM. 'bulk': how many values and letters a reading holds, each counted each time it is reached (what is shared counts as often as it is met; a slice's spare places count too). A statement '..UptoSaid' is the law's where the arguments, and the package variables that the reading takes, are together of bulk at most 1048576: NARROWER than '..Said'. Prove '..Said' where nothing that the law and all that it calls make is longer than what came in: it says more and counts as full. Else prove '..UptoSaid'. A law counts once. -/
mutual
def uptoBulk {H : Type} : DataW H → Nat
  | .lit (.string bytes) => bytes.length + 1
  | .lit _ => 1
  | .nil => 1
  | .ptr d => uptoBulk d + 1
  | .slice elems spare => uptoBulkAll elems + uptoBulkAll spare + 1
  | .agg parts => uptoBulkAll parts + 1
  | .iface _ d => uptoBulk d + 1
  | .map entries => uptoBulkEntries entries + 1
  | .held _ => 1
def uptoBulkAll {H : Type} : List (DataW H) → Nat
  | [] => 0
  | d :: r => uptoBulk d + uptoBulkAll r
def uptoBulkEntries {H : Type} : List (Lit × DataW H) → Nat
  | [] => 0
  | x :: r => uptoBulkEntry x + uptoBulkEntries r
def uptoBulkEntry {H : Type} : Lit × DataW H → Nat
  | (.string bytes, d) => bytes.length + uptoBulk d + 1
  | (_, d) => uptoBulk d + 1
 end
def uptoSmall : (H : Type) → List (DataW H) → Bool := fun _ ds => decide (uptoBulkAll ds ≤ 1048576)
def OpenSpec.upto (s : _root_.Go.ChangeSpec) : _root_.Go.OpenSpec := { _root_.Go.OpenSpec.ofChange s with cond := some uptoSmall }

/-- 'guidepostlaw01.NameUnder', WHERE WHAT IT READS IS OF BULK AT MOST 1048576: true; the input reads as it did. -/
def nameUnderUptoRow : OpenClaim := { program := "ytghaphcifoknpab", sum := "d96bd06d42289c0035b439c6852fbe1a1fc8d856d6283237de7147fa57141862", func := "guidepost/guidepostlaw01.NameUnder", spec := "nameUnder", unfollowed := true, recurses := true, apart := false, narrowed := true }
def NameUnderUptoSaid : Prop := nameUnderUptoRow.holds Try.pinned (OpenSpec.upto nameUnderSpec)

/-- 'guidepostlaw01.NameMoves', WHERE WHAT IT READS IS OF BULK AT MOST 1048576: true; the input reads as it did. -/
def nameMovesUptoRow : OpenClaim := { program := "ytghaphcifoknpab", sum := "d96bd06d42289c0035b439c6852fbe1a1fc8d856d6283237de7147fa57141862", func := "guidepost/guidepostlaw01.NameMoves", spec := "nameMoves", unfollowed := true, recurses := true, apart := false, narrowed := true }
def NameMovesUptoSaid : Prop := nameMovesUptoRow.holds Try.pinned (OpenSpec.upto nameMovesSpec)

/-- 'guidepostlaw01.NameJoins', WHERE WHAT IT READS IS OF BULK AT MOST 1048576: true; the input reads as it did. -/
def nameJoinsUptoRow : OpenClaim := { program := "ytghaphcifoknpab", sum := "d96bd06d42289c0035b439c6852fbe1a1fc8d856d6283237de7147fa57141862", func := "guidepost/guidepostlaw01.NameJoins", spec := "nameJoins", unfollowed := true, recurses := true, apart := false, narrowed := true }
def NameJoinsUptoSaid : Prop := nameJoinsUptoRow.holds Try.pinned (OpenSpec.upto nameJoinsSpec)

/-- 'guidepostlaw01.NameLongest', WHERE WHAT IT READS IS OF BULK AT MOST 1048576: true; the input reads as it did. -/
def nameLongestUptoRow : OpenClaim := { program := "ytghaphcifoknpab", sum := "d96bd06d42289c0035b439c6852fbe1a1fc8d856d6283237de7147fa57141862", func := "guidepost/guidepostlaw01.NameLongest", spec := "nameLongest", unfollowed := true, recurses := true, apart := false, narrowed := true }
def NameLongestUptoSaid : Prop := nameLongestUptoRow.holds Try.pinned (OpenSpec.upto nameLongestSpec)

end Rows
end Go.Proofs.Ytghaphcifoknpab

/-
  No cell of these rows narrows 'for every input' (looked for: loops, veiled, ifaces, maps, wideKeys, modest, calm, conditions, laid).
  DERIVED. THE GIVEN ROWS OF THIS SEAT. 7 by the template 'for every input the law returns true; each argument reads behind the call as it read before'; 0 by the template 'total and deterministic' (their statements: YtaijjjlpbpogfaaTotals.lean).
  GIVEN WITH THE SEED: the statements are not yours to turn. If you find one false, say at which input.
  Laid BY PROGRAM, IN A SANDBOX (cutbox-rows.mjs): the forced cells as the released guide's own fill.sh prints them over the translation be2a2e81527576ea… (all of the seat's roots in one cut). By AI agents, Wed Nov 11 2026. No macro, syntax, notation, axiom, sorry.
-/
import Derived.Test.YtaijjjlpbpogfaaChecked
import GoSem.Claim
import GoSem.ClaimJoined
import GoSem.ClaimMapViews
import Derived.JoinedTies
import Derived.KernelRfl
namespace Go.Proofs.Ytaijjjlpbpogfaa
/- THE CELL 'sum', in the pinned program and in every row, IS THE sha256 OF THE DUMP (.gsa) THAT YtaijjjlpbpogfaaProg.lean LOADS. Nothing in Lean hashes anything: it is a label: what it is worth is what the hold of that sum in a sandbox is worth. -/
noncomputable def Try.pinned : Pinned := { name := "ytaijjjlpbpogfaa", sum := "be2a2e81527576ea9872e98684e3470424198020520a59943d5b8eb6bf86580c", checked := Try.checked }
namespace Rows
def none {H : Type} : Left H := { results := [], args := [] }

/-- 'pantilelaw13.DrivePlays': WHATEVER THE INPUT: true; the input reads as it did. -/
def drivePlaysSpec : ChangeSpec := { name := "drivePlays", fn := fun _ => fun
  | [d1, d2] => { results := [.lit (.bool true)], args := [d1, d2] }
  | _ => none }
def drivePlaysRow : OpenClaim := { program := "ytaijjjlpbpogfaa", sum := "be2a2e81527576ea9872e98684e3470424198020520a59943d5b8eb6bf86580c", func := "pantile/pantilelaw13.DrivePlays", spec := "drivePlays", inPlace := ["internal/bytealg.IndexByteString", "internal/bytealg.IndexString"], unfollowed := true, recurses := true, named := ["internal/bytealg.MaxLen"], apart := false }
def DrivePlaysSaid : Prop := drivePlaysRow.holds Try.pinned (OpenSpec.ofChange drivePlaysSpec)

/-- ITS FALSE NEIGHBOUR: 'it returns false'. Refute it at one input. -/
def drivePlaysWrong : ChangeSpec := { name := "drivePlays", fn := fun _ => fun
  | [d1, d2] => { results := [.lit (.bool false)], args := [d1, d2] }
  | _ => none }
def DrivePlaysWrongFalsely : Prop := drivePlaysRow.holds Try.pinned (OpenSpec.ofChange drivePlaysWrong)

/-- 'pantilelaw13.DriveKeeps': WHATEVER THE INPUT: true; the input reads as it did. -/
def driveKeepsSpec : ChangeSpec := { name := "driveKeeps", fn := fun _ => fun
  | [d1, d2, d3, d4] => { results := [.lit (.bool true)], args := [d1, d2, d3, d4] }
  | _ => none }
def driveKeepsRow : OpenClaim := { program := "ytaijjjlpbpogfaa", sum := "be2a2e81527576ea9872e98684e3470424198020520a59943d5b8eb6bf86580c", func := "pantile/pantilelaw13.DriveKeeps", spec := "driveKeeps", inPlace := ["internal/bytealg.IndexByteString", "internal/bytealg.IndexString"], unfollowed := true, recurses := true, named := ["internal/bytealg.MaxLen"], apart := false }
def DriveKeepsSaid : Prop := driveKeepsRow.holds Try.pinned (OpenSpec.ofChange driveKeepsSpec)

/-- ITS FALSE NEIGHBOUR: 'it returns false'. Refute it at one input. -/
def driveKeepsWrong : ChangeSpec := { name := "driveKeeps", fn := fun _ => fun
  | [d1, d2, d3, d4] => { results := [.lit (.bool false)], args := [d1, d2, d3, d4] }
  | _ => none }
def DriveKeepsWrongFalsely : Prop := driveKeepsRow.holds Try.pinned (OpenSpec.ofChange driveKeepsWrong)

/-- 'pantilelaw13.DriveFull': WHATEVER THE INPUT: true; the input reads as it did. -/
def driveFullSpec : ChangeSpec := { name := "driveFull", fn := fun _ => fun
  | [d1, d2] => { results := [.lit (.bool true)], args := [d1, d2] }
  | _ => none }
def driveFullRow : OpenClaim := { program := "ytaijjjlpbpogfaa", sum := "be2a2e81527576ea9872e98684e3470424198020520a59943d5b8eb6bf86580c", func := "pantile/pantilelaw13.DriveFull", spec := "driveFull", inPlace := ["internal/bytealg.IndexByteString", "internal/bytealg.IndexString"], unfollowed := true, recurses := true, named := ["internal/bytealg.MaxLen"], apart := false }
def DriveFullSaid : Prop := driveFullRow.holds Try.pinned (OpenSpec.ofChange driveFullSpec)

/-- ITS FALSE NEIGHBOUR: 'it returns false'. Refute it at one input. -/
def driveFullWrong : ChangeSpec := { name := "driveFull", fn := fun _ => fun
  | [d1, d2] => { results := [.lit (.bool false)], args := [d1, d2] }
  | _ => none }
def DriveFullWrongFalsely : Prop := driveFullRow.holds Try.pinned (OpenSpec.ofChange driveFullWrong)

/-- 'pantilelaw13.DriveOwns': WHATEVER THE INPUT: true; the input reads as it did. -/
def driveOwnsSpec : ChangeSpec := { name := "driveOwns", fn := fun _ => fun
  | [d] => { results := [.lit (.bool true)], args := [d] }
  | _ => none }
def driveOwnsRow : OpenClaim := { program := "ytaijjjlpbpogfaa", sum := "be2a2e81527576ea9872e98684e3470424198020520a59943d5b8eb6bf86580c", func := "pantile/pantilelaw13.DriveOwns", spec := "driveOwns", inPlace := ["internal/bytealg.IndexByteString", "internal/bytealg.IndexString"], unfollowed := true, recurses := true, named := ["internal/bytealg.MaxLen"], apart := false }
def DriveOwnsSaid : Prop := driveOwnsRow.holds Try.pinned (OpenSpec.ofChange driveOwnsSpec)

/-- ITS FALSE NEIGHBOUR: 'it returns false'. Refute it at one input. -/
def driveOwnsWrong : ChangeSpec := { name := "driveOwns", fn := fun _ => fun
  | [d] => { results := [.lit (.bool false)], args := [d] }
  | _ => none }
def DriveOwnsWrongFalsely : Prop := driveOwnsRow.holds Try.pinned (OpenSpec.ofChange driveOwnsWrong)

/-- 'pantilelaw13.DriveNames': WHATEVER THE INPUT: true; the input reads as it did. -/
def driveNamesSpec : ChangeSpec := { name := "driveNames", fn := fun _ => fun
  | [d] => { results := [.lit (.bool true)], args := [d] }
  | _ => none }
def driveNamesRow : OpenClaim := { program := "ytaijjjlpbpogfaa", sum := "be2a2e81527576ea9872e98684e3470424198020520a59943d5b8eb6bf86580c", func := "pantile/pantilelaw13.DriveNames", spec := "driveNames", inPlace := ["internal/bytealg.IndexByteString", "internal/bytealg.IndexString"], unfollowed := true, recurses := true, named := ["internal/bytealg.MaxLen"], apart := false }
def DriveNamesSaid : Prop := driveNamesRow.holds Try.pinned (OpenSpec.ofChange driveNamesSpec)

/-- ITS FALSE NEIGHBOUR: 'it returns false'. Refute it at one input. -/
def driveNamesWrong : ChangeSpec := { name := "driveNames", fn := fun _ => fun
  | [d] => { results := [.lit (.bool false)], args := [d] }
  | _ => none }
def DriveNamesWrongFalsely : Prop := driveNamesRow.holds Try.pinned (OpenSpec.ofChange driveNamesWrong)

/-- 'pantilelaw13.DriveTwice': WHATEVER THE INPUT: true; the input reads as it did. -/
def driveTwiceSpec : ChangeSpec := { name := "driveTwice", fn := fun _ => fun
  | [d1, d2] => { results := [.lit (.bool true)], args := [d1, d2] }
  | _ => none }
def driveTwiceRow : OpenClaim := { program := "ytaijjjlpbpogfaa", sum := "be2a2e81527576ea9872e98684e3470424198020520a59943d5b8eb6bf86580c", func := "pantile/pantilelaw13.DriveTwice", spec := "driveTwice", inPlace := ["internal/bytealg.IndexByteString", "internal/bytealg.IndexString"], unfollowed := true, recurses := true, named := ["internal/bytealg.MaxLen"], apart := false }
def DriveTwiceSaid : Prop := driveTwiceRow.holds Try.pinned (OpenSpec.ofChange driveTwiceSpec)

/-- ITS FALSE NEIGHBOUR: 'it returns false'. Refute it at one input. -/
def driveTwiceWrong : ChangeSpec := { name := "driveTwice", fn := fun _ => fun
  | [d1, d2] => { results := [.lit (.bool false)], args := [d1, d2] }
  | _ => none }
def DriveTwiceWrongFalsely : Prop := driveTwiceRow.holds Try.pinned (OpenSpec.ofChange driveTwiceWrong)

/-- 'pantilelaw13.DriveUsed': WHATEVER THE INPUT: true; the input reads as it did. -/
def driveUsedSpec : ChangeSpec := { name := "driveUsed", fn := fun _ => fun
  | [d] => { results := [.lit (.bool true)], args := [d] }
  | _ => none }
def driveUsedRow : OpenClaim := { program := "ytaijjjlpbpogfaa", sum := "be2a2e81527576ea9872e98684e3470424198020520a59943d5b8eb6bf86580c", func := "pantile/pantilelaw13.DriveUsed", spec := "driveUsed", inPlace := ["internal/bytealg.IndexByteString", "internal/bytealg.IndexString"], unfollowed := true, recurses := true, named := ["internal/bytealg.MaxLen"], apart := false }
def DriveUsedSaid : Prop := driveUsedRow.holds Try.pinned (OpenSpec.ofChange driveUsedSpec)

/-- ITS FALSE NEIGHBOUR: 'it returns false'. Refute it at one input. -/
def driveUsedWrong : ChangeSpec := { name := "driveUsed", fn := fun _ => fun
  | [d] => { results := [.lit (.bool false)], args := [d] }
  | _ => none }
def DriveUsedWrongFalsely : Prop := driveUsedRow.holds Try.pinned (OpenSpec.ofChange driveUsedWrong)

/- THE SECOND FORM. 'bulk': how many values and letters a reading holds, each counted each time it is reached (what is shared counts as often as it is met; a slice's spare places count too). A statement '..UptoSaid' is the law's where the arguments, and the package variables that the reading takes, are together of bulk at most 1048576: NARROWER than '..Said'. Prove '..Said' where nothing that the law and all that it calls make is longer than what came in: it says more and counts as full. Else prove '..UptoSaid'. A law counts once. -/
mutual
def uptoBulk {H : Type} : DataW H → Nat
  | .lit (.string bytes) => bytes.length + 1
  | .lit _ => 1
  | .nil => 1
  | .ptr d => uptoBulk d + 1
  | .slice elems spare => uptoBulkAll elems + uptoBulkAll spare + 1
  | .agg parts => uptoBulkAll parts + 1
  | .iface _ d => uptoBulk d + 1
  | .map entries => uptoBulkEntries entries + 1
  | .held _ => 1
def uptoBulkAll {H : Type} : List (DataW H) → Nat
  | [] => 0
  | d :: r => uptoBulk d + uptoBulkAll r
def uptoBulkEntries {H : Type} : List (Lit × DataW H) → Nat
  | [] => 0
  | x :: r => uptoBulkEntry x + uptoBulkEntries r
def uptoBulkEntry {H : Type} : Lit × DataW H → Nat
  | (.string bytes, d) => bytes.length + uptoBulk d + 1
  | (_, d) => uptoBulk d + 1
 end
def uptoSmall : (H : Type) → List (DataW H) → Bool := fun _ ds => decide (uptoBulkAll ds ≤ 1048576)
def OpenSpec.upto (s : _root_.Go.ChangeSpec) : _root_.Go.OpenSpec := { _root_.Go.OpenSpec.ofChange s with cond := some uptoSmall }

/-- 'pantilelaw13.DrivePlays', WHERE WHAT IT READS IS OF BULK AT MOST 1048576: true; the input reads as it did. -/
def drivePlaysUptoRow : OpenClaim := { program := "ytaijjjlpbpogfaa", sum := "be2a2e81527576ea9872e98684e3470424198020520a59943d5b8eb6bf86580c", func := "pantile/pantilelaw13.DrivePlays", spec := "drivePlays", inPlace := ["internal/bytealg.IndexByteString", "internal/bytealg.IndexString"], unfollowed := true, recurses := true, named := ["internal/bytealg.MaxLen"], apart := false, narrowed := true }
def DrivePlaysUptoSaid : Prop := drivePlaysUptoRow.holds Try.pinned (OpenSpec.upto drivePlaysSpec)

/-- 'pantilelaw13.DriveKeeps', WHERE WHAT IT READS IS OF BULK AT MOST 1048576: true; the input reads as it did. -/
def driveKeepsUptoRow : OpenClaim := { program := "ytaijjjlpbpogfaa", sum := "be2a2e81527576ea9872e98684e3470424198020520a59943d5b8eb6bf86580c", func := "pantile/pantilelaw13.DriveKeeps", spec := "driveKeeps", inPlace := ["internal/bytealg.IndexByteString", "internal/bytealg.IndexString"], unfollowed := true, recurses := true, named := ["internal/bytealg.MaxLen"], apart := false, narrowed := true }
def DriveKeepsUptoSaid : Prop := driveKeepsUptoRow.holds Try.pinned (OpenSpec.upto driveKeepsSpec)

/-- 'pantilelaw13.DriveFull', WHERE WHAT IT READS IS OF BULK AT MOST 1048576: true; the input reads as it did. -/
def driveFullUptoRow : OpenClaim := { program := "ytaijjjlpbpogfaa", sum := "be2a2e81527576ea9872e98684e3470424198020520a59943d5b8eb6bf86580c", func := "pantile/pantilelaw13.DriveFull", spec := "driveFull", inPlace := ["internal/bytealg.IndexByteString", "internal/bytealg.IndexString"], unfollowed := true, recurses := true, named := ["internal/bytealg.MaxLen"], apart := false, narrowed := true }
def DriveFullUptoSaid : Prop := driveFullUptoRow.holds Try.pinned (OpenSpec.upto driveFullSpec)

/-- 'pantilelaw13.DriveOwns', WHERE WHAT IT READS IS OF BULK AT MOST 1048576: true; the input reads as it did. -/
def driveOwnsUptoRow : OpenClaim := { program := "ytaijjjlpbpogfaa", sum := "be2a2e81527576ea9872e98684e3470424198020520a59943d5b8eb6bf86580c", func := "pantile/pantilelaw13.DriveOwns", spec := "driveOwns", inPlace := ["internal/bytealg.IndexByteString", "internal/bytealg.IndexString"], unfollowed := true, recurses := true, named := ["internal/bytealg.MaxLen"], apart := false, narrowed := true }
def DriveOwnsUptoSaid : Prop := driveOwnsUptoRow.holds Try.pinned (OpenSpec.upto driveOwnsSpec)

/-- 'pantilelaw13.DriveNames', WHERE WHAT IT READS IS OF BULK AT MOST 1048576: true; the input reads as it did. -/
def driveNamesUptoRow : OpenClaim := { program := "ytaijjjlpbpogfaa", sum := "be2a2e81527576ea9872e98684e3470424198020520a59943d5b8eb6bf86580c", func := "pantile/pantilelaw13.DriveNames", spec := "driveNames", inPlace := ["internal/bytealg.IndexByteString", "internal/bytealg.IndexString"], unfollowed := true, recurses := true, named := ["internal/bytealg.MaxLen"], apart := false, narrowed := true }
def DriveNamesUptoSaid : Prop := driveNamesUptoRow.holds Try.pinned (OpenSpec.upto driveNamesSpec)

/-- 'pantilelaw13.DriveTwice', WHERE WHAT IT READS IS OF BULK AT MOST 1048576: true; the input reads as it did. -/
def driveTwiceUptoRow : OpenClaim := { program := "ytaijjjlpbpogfaa", sum := "be2a2e81527576ea9872e98684e3470424198020520a59943d5b8eb6bf86580c", func := "pantile/pantilelaw13.DriveTwice", spec := "driveTwice", inPlace := ["internal/bytealg.IndexByteString", "internal/bytealg.IndexString"], unfollowed := true, recurses := true, named := ["internal/bytealg.MaxLen"], apart := false, narrowed := true }
def DriveTwiceUptoSaid : Prop := driveTwiceUptoRow.holds Try.pinned (OpenSpec.upto driveTwiceSpec)

/-- 'pantilelaw13.DriveUsed', WHERE WHAT IT READS IS OF BULK AT MOST 1048576: true; the input reads as it did. -/
def driveUsedUptoRow : OpenClaim := { program := "ytaijjjlpbpogfaa", sum := "be2a2e81527576ea9872e98684e3470424198020520a59943d5b8eb6bf86580c", func := "pantile/pantilelaw13.DriveUsed", spec := "driveUsed", inPlace := ["internal/bytealg.IndexByteString", "internal/bytealg.IndexString"], unfollowed := true, recurses := true, named := ["internal/bytealg.MaxLen"], apart := false, narrowed := true }
def DriveUsedUptoSaid : Prop := driveUsedUptoRow.holds Try.pinned (OpenSpec.upto driveUsedSpec)

end Rows
end Go.Proofs.Ytaijjjlpbpogfaa

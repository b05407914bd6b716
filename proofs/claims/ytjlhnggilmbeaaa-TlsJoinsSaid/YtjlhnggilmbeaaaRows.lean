/-
  No cell of these rows narrows 'for every input' (looked for: loops, veiled, ifaces, maps, wideKeys, modest, calm, conditions, laid).
  DERIVED. THE GIVEN ROWS OF THIS SEAT. 7 by the template 'for every input the law returns true; each argument reads behind the call as it read before'; 0 by the template 'total and deterministic' (their statements: YtjlhnggilmbeaaaTotals.lean).
  GIVEN WITH THE SEED: the statements are not yours to turn. If you find one false, say at which input.
  Laid BY PROGRAM, IN A SANDBOX (cutbox-rows.mjs): the forced cells as the released guide's own fill.sh prints them over the translation 3e166d185cf661fc… (all of the seat's roots in one cut). By AI agents, Wed Nov 11 2026. No macro, syntax, notation, axiom, sorry.
-/
import Derived.Test.YtjlhnggilmbeaaaChecked
import GoSem.Claim
import GoSem.ClaimJoined
import GoSem.ClaimMapViews
import Derived.JoinedTies
import Derived.KernelRfl
namespace Go.Proofs.Ytjlhnggilmbeaaa
/- THE CELL 'sum', in the pinned program and in every row, IS THE sha256 OF THE DUMP (.gsa) THAT YtjlhnggilmbeaaaProg.lean LOADS. Nothing in Lean hashes anything: it is a label: what it is worth is what the hold of that sum in a sandbox is worth. -/
noncomputable def Try.pinned : Pinned := { name := "ytjlhnggilmbeaaa", sum := "3e166d185cf661fc89f521e0ce6b468585d36302b694ec1ca499d5c7757743ef", checked := Try.checked }
namespace Rows
def none {H : Type} : Left H := { results := [], args := [] }

/-- 'pantilelaw08.TlsLeaves': WHATEVER THE INPUT: true; the input reads as it did. -/
def tlsLeavesSpec : ChangeSpec := { name := "tlsLeaves", fn := fun _ => fun
  | [d] => { results := [.lit (.bool true)], args := [d] }
  | _ => none }
def tlsLeavesRow : OpenClaim := { program := "ytjlhnggilmbeaaa", sum := "3e166d185cf661fc89f521e0ce6b468585d36302b694ec1ca499d5c7757743ef", func := "pantile/pantilelaw08.TlsLeaves", spec := "tlsLeaves", apart := false }
def TlsLeavesSaid : Prop := tlsLeavesRow.holds Try.pinned (OpenSpec.ofChange tlsLeavesSpec)

/-- ITS FALSE NEIGHBOUR: 'it returns false'. Refute it at one input. -/
def tlsLeavesWrong : ChangeSpec := { name := "tlsLeaves", fn := fun _ => fun
  | [d] => { results := [.lit (.bool false)], args := [d] }
  | _ => none }
def TlsLeavesWrongFalsely : Prop := tlsLeavesRow.holds Try.pinned (OpenSpec.ofChange tlsLeavesWrong)

/-- 'pantilelaw08.TlsParses': WHATEVER THE INPUT: true; the input reads as it did. -/
def tlsParsesSpec : ChangeSpec := { name := "tlsParses", fn := fun _ => fun
  | [d] => { results := [.lit (.bool true)], args := [d] }
  | _ => none }
def tlsParsesRow : OpenClaim := { program := "ytjlhnggilmbeaaa", sum := "3e166d185cf661fc89f521e0ce6b468585d36302b694ec1ca499d5c7757743ef", func := "pantile/pantilelaw08.TlsParses", spec := "tlsParses", apart := false }
def TlsParsesSaid : Prop := tlsParsesRow.holds Try.pinned (OpenSpec.ofChange tlsParsesSpec)

/-- ITS FALSE NEIGHBOUR: 'it returns false'. Refute it at one input. -/
def tlsParsesWrong : ChangeSpec := { name := "tlsParses", fn := fun _ => fun
  | [d] => { results := [.lit (.bool false)], args := [d] }
  | _ => none }
def TlsParsesWrongFalsely : Prop := tlsParsesRow.holds Try.pinned (OpenSpec.ofChange tlsParsesWrong)

/-- 'pantilelaw08.TlsHeads': WHATEVER THE INPUT: true; the input reads as it did. -/
def tlsHeadsSpec : ChangeSpec := { name := "tlsHeads", fn := fun _ => fun
  | [d] => { results := [.lit (.bool true)], args := [d] }
  | _ => none }
def tlsHeadsRow : OpenClaim := { program := "ytjlhnggilmbeaaa", sum := "3e166d185cf661fc89f521e0ce6b468585d36302b694ec1ca499d5c7757743ef", func := "pantile/pantilelaw08.TlsHeads", spec := "tlsHeads", apart := false }
def TlsHeadsSaid : Prop := tlsHeadsRow.holds Try.pinned (OpenSpec.ofChange tlsHeadsSpec)

/-- ITS FALSE NEIGHBOUR: 'it returns false'. Refute it at one input. -/
def tlsHeadsWrong : ChangeSpec := { name := "tlsHeads", fn := fun _ => fun
  | [d] => { results := [.lit (.bool false)], args := [d] }
  | _ => none }
def TlsHeadsWrongFalsely : Prop := tlsHeadsRow.holds Try.pinned (OpenSpec.ofChange tlsHeadsWrong)

/-- 'pantilelaw08.TlsSignatures': WHATEVER THE INPUT: true; the input reads as it did. -/
def tlsSignaturesSpec : ChangeSpec := { name := "tlsSignatures", fn := fun _ => fun
  | [d] => { results := [.lit (.bool true)], args := [d] }
  | _ => none }
def tlsSignaturesRow : OpenClaim := { program := "ytjlhnggilmbeaaa", sum := "3e166d185cf661fc89f521e0ce6b468585d36302b694ec1ca499d5c7757743ef", func := "pantile/pantilelaw08.TlsSignatures", spec := "tlsSignatures", apart := false }
def TlsSignaturesSaid : Prop := tlsSignaturesRow.holds Try.pinned (OpenSpec.ofChange tlsSignaturesSpec)

/-- ITS FALSE NEIGHBOUR: 'it returns false'. Refute it at one input. -/
def tlsSignaturesWrong : ChangeSpec := { name := "tlsSignatures", fn := fun _ => fun
  | [d] => { results := [.lit (.bool false)], args := [d] }
  | _ => none }
def TlsSignaturesWrongFalsely : Prop := tlsSignaturesRow.holds Try.pinned (OpenSpec.ofChange tlsSignaturesWrong)

/-- 'pantilelaw08.TlsJoins': WHATEVER THE INPUT: true; the input reads as it did. -/
def tlsJoinsSpec : ChangeSpec := { name := "tlsJoins", fn := fun _ => fun
  | [d] => { results := [.lit (.bool true)], args := [d] }
  | _ => none }
def tlsJoinsRow : OpenClaim := { program := "ytjlhnggilmbeaaa", sum := "3e166d185cf661fc89f521e0ce6b468585d36302b694ec1ca499d5c7757743ef", func := "pantile/pantilelaw08.TlsJoins", spec := "tlsJoins", unfollowed := true, recurses := true, apart := false }
def TlsJoinsSaid : Prop := tlsJoinsRow.holds Try.pinned (OpenSpec.ofChange tlsJoinsSpec)

/-- ITS FALSE NEIGHBOUR: 'it returns false'. Refute it at one input. -/
def tlsJoinsWrong : ChangeSpec := { name := "tlsJoins", fn := fun _ => fun
  | [d] => { results := [.lit (.bool false)], args := [d] }
  | _ => none }
def TlsJoinsWrongFalsely : Prop := tlsJoinsRow.holds Try.pinned (OpenSpec.ofChange tlsJoinsWrong)

/-- 'pantilelaw08.TlsSplits': WHATEVER THE INPUT: true; the input reads as it did. -/
def tlsSplitsSpec : ChangeSpec := { name := "tlsSplits", fn := fun _ => fun
  | [d] => { results := [.lit (.bool true)], args := [d] }
  | _ => none }
def tlsSplitsRow : OpenClaim := { program := "ytjlhnggilmbeaaa", sum := "3e166d185cf661fc89f521e0ce6b468585d36302b694ec1ca499d5c7757743ef", func := "pantile/pantilelaw08.TlsSplits", spec := "tlsSplits", unfollowed := true, recurses := true, apart := false }
def TlsSplitsSaid : Prop := tlsSplitsRow.holds Try.pinned (OpenSpec.ofChange tlsSplitsSpec)

/-- ITS FALSE NEIGHBOUR: 'it returns false'. Refute it at one input. -/
def tlsSplitsWrong : ChangeSpec := { name := "tlsSplits", fn := fun _ => fun
  | [d] => { results := [.lit (.bool false)], args := [d] }
  | _ => none }
def TlsSplitsWrongFalsely : Prop := tlsSplitsRow.holds Try.pinned (OpenSpec.ofChange tlsSplitsWrong)

/-- 'pantilelaw08.TlsApart': WHATEVER THE INPUT: true; the input reads as it did. -/
def tlsApartSpec : ChangeSpec := { name := "tlsApart", fn := fun _ => fun
  | [d1, d2] => { results := [.lit (.bool true)], args := [d1, d2] }
  | _ => none }
def tlsApartRow : OpenClaim := { program := "ytjlhnggilmbeaaa", sum := "3e166d185cf661fc89f521e0ce6b468585d36302b694ec1ca499d5c7757743ef", func := "pantile/pantilelaw08.TlsApart", spec := "tlsApart", apart := false }
def TlsApartSaid : Prop := tlsApartRow.holds Try.pinned (OpenSpec.ofChange tlsApartSpec)

/-- ITS FALSE NEIGHBOUR: 'it returns false'. Refute it at one input. -/
def tlsApartWrong : ChangeSpec := { name := "tlsApart", fn := fun _ => fun
  | [d1, d2] => { results := [.lit (.bool false)], args := [d1, d2] }
  | _ => none }
def TlsApartWrongFalsely : Prop := tlsApartRow.holds Try.pinned (OpenSpec.ofChange tlsApartWrong)

/- THE SECOND FORM. 'bulk': how many values and letters a reading holds, each counted each time it is reached (what is shared counts as often as it is met; a slice's spare places count too). A statement '..UptoSaid' is the law's where the arguments, and the package variables that the reading takes, are together of bulk at most 1048576: NARROWER than '..Said'. Prove '..Said' where nothing that the law and all that it calls make is longer than what came in: it says more and counts as full. Else prove '..UptoSaid'. A law counts once. -/
mutual
def uptoBulk {H : Type} : DataW H → Nat
  | .lit (.string bytes) => bytes.length + 1
  | .lit _ => 1
  | .nil => 1
  | .ptr d => uptoBulk d + 1
  | .slice elems spare => uptoBulkAll elems + uptoBulkAll spare + 1
  | .agg parts => uptoBulkAll parts + 1
  | .iface _ d => uptoBulk d + 1
  | .map entries => uptoBulkEntries entries + 1
  | .held _ => 1
def uptoBulkAll {H : Type} : List (DataW H) → Nat
  | [] => 0
  | d :: r => uptoBulk d + uptoBulkAll r
def uptoBulkEntries {H : Type} : List (Lit × DataW H) → Nat
  | [] => 0
  | x :: r => uptoBulkEntry x + uptoBulkEntries r
def uptoBulkEntry {H : Type} : Lit × DataW H → Nat
  | (.string bytes, d) => bytes.length + uptoBulk d + 1
  | (_, d) => uptoBulk d + 1
 end
def uptoSmall : (H : Type) → List (DataW H) → Bool := fun _ ds => decide (uptoBulkAll ds ≤ 1048576)
def OpenSpec.upto (s : _root_.Go.ChangeSpec) : _root_.Go.OpenSpec := { _root_.Go.OpenSpec.ofChange s with cond := some uptoSmall }

/-- 'pantilelaw08.TlsLeaves', WHERE WHAT IT READS IS OF BULK AT MOST 1048576: true; the input reads as it did. -/
def tlsLeavesUptoRow : OpenClaim := { program := "ytjlhnggilmbeaaa", sum := "3e166d185cf661fc89f521e0ce6b468585d36302b694ec1ca499d5c7757743ef", func := "pantile/pantilelaw08.TlsLeaves", spec := "tlsLeaves", apart := false, narrowed := true }
def TlsLeavesUptoSaid : Prop := tlsLeavesUptoRow.holds Try.pinned (OpenSpec.upto tlsLeavesSpec)

/-- 'pantilelaw08.TlsParses', WHERE WHAT IT READS IS OF BULK AT MOST 1048576: true; the input reads as it did. -/
def tlsParsesUptoRow : OpenClaim := { program := "ytjlhnggilmbeaaa", sum := "3e166d185cf661fc89f521e0ce6b468585d36302b694ec1ca499d5c7757743ef", func := "pantile/pantilelaw08.TlsParses", spec := "tlsParses", apart := false, narrowed := true }
def TlsParsesUptoSaid : Prop := tlsParsesUptoRow.holds Try.pinned (OpenSpec.upto tlsParsesSpec)

/-- 'pantilelaw08.TlsHeads', WHERE WHAT IT READS IS OF BULK AT MOST 1048576: true; the input reads as it did. -/
def tlsHeadsUptoRow : OpenClaim := { program := "ytjlhnggilmbeaaa", sum := "3e166d185cf661fc89f521e0ce6b468585d36302b694ec1ca499d5c7757743ef", func := "pantile/pantilelaw08.TlsHeads", spec := "tlsHeads", apart := false, narrowed := true }
def TlsHeadsUptoSaid : Prop := tlsHeadsUptoRow.holds Try.pinned (OpenSpec.upto tlsHeadsSpec)

/-- 'pantilelaw08.TlsSignatures', WHERE WHAT IT READS IS OF BULK AT MOST 1048576: true; the input reads as it did. -/
def tlsSignaturesUptoRow : OpenClaim := { program := "ytjlhnggilmbeaaa", sum := "3e166d185cf661fc89f521e0ce6b468585d36302b694ec1ca499d5c7757743ef", func := "pantile/pantilelaw08.TlsSignatures", spec := "tlsSignatures", apart := false, narrowed := true }
def TlsSignaturesUptoSaid : Prop := tlsSignaturesUptoRow.holds Try.pinned (OpenSpec.upto tlsSignaturesSpec)

/-- 'pantilelaw08.TlsJoins', WHERE WHAT IT READS IS OF BULK AT MOST 1048576: true; the input reads as it did. -/
def tlsJoinsUptoRow : OpenClaim := { program := "ytjlhnggilmbeaaa", sum := "3e166d185cf661fc89f521e0ce6b468585d36302b694ec1ca499d5c7757743ef", func := "pantile/pantilelaw08.TlsJoins", spec := "tlsJoins", unfollowed := true, recurses := true, apart := false, narrowed := true }
def TlsJoinsUptoSaid : Prop := tlsJoinsUptoRow.holds Try.pinned (OpenSpec.upto tlsJoinsSpec)

/-- 'pantilelaw08.TlsSplits', WHERE WHAT IT READS IS OF BULK AT MOST 1048576: true; the input reads as it did. -/
def tlsSplitsUptoRow : OpenClaim := { program := "ytjlhnggilmbeaaa", sum := "3e166d185cf661fc89f521e0ce6b468585d36302b694ec1ca499d5c7757743ef", func := "pantile/pantilelaw08.TlsSplits", spec := "tlsSplits", unfollowed := true, recurses := true, apart := false, narrowed := true }
def TlsSplitsUptoSaid : Prop := tlsSplitsUptoRow.holds Try.pinned (OpenSpec.upto tlsSplitsSpec)

/-- 'pantilelaw08.TlsApart', WHERE WHAT IT READS IS OF BULK AT MOST 1048576: true; the input reads as it did. -/
def tlsApartUptoRow : OpenClaim := { program := "ytjlhnggilmbeaaa", sum := "3e166d185cf661fc89f521e0ce6b468585d36302b694ec1ca499d5c7757743ef", func := "pantile/pantilelaw08.TlsApart", spec := "tlsApart", apart := false, narrowed := true }
def TlsApartUptoSaid : Prop := tlsApartUptoRow.holds Try.pinned (OpenSpec.upto tlsApartSpec)

end Rows
end Go.Proofs.Ytjlhnggilmbeaaa

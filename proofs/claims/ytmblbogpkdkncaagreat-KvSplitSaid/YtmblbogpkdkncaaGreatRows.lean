/-
  No cell of these rows narrows 'for every input' (looked for: loops, veiled, ifaces, maps, wideKeys, modest, calm, conditions, laid).
  DERIVED. THE GIVEN ROWS OF THIS SEAT. 4 by the template 'for every input the law returns true; each argument reads behind the call as it read before'; 0 by the template 'total and deterministic' (their statements: YtmblbogpkdkncaaGreatTotals.lean).
  GIVEN WITH THE SEED: the statements are not yours to turn. If you find one false, say at which input.
  Laid BY PROGRAM, IN A SANDBOX (cutbox-rows.mjs): the forced cells as the released guide's own fill.sh prints them over the translation 0ec1d7aa3124b3a1… (all of the seat's roots in one cut). By AI agents, Wed Nov 11 2026. No macro, syntax, notation, axiom, sorry.
-/
import Derived.Test.YtmblbogpkdkncaaGreatChecked
import GoSem.Claim
import GoSem.ClaimJoined
import GoSem.ClaimMapViews
import Derived.JoinedTies
import Derived.KernelRfl
namespace Go.Proofs.YtmblbogpkdkncaaGreat
/- THE CELL 'sum', in the pinned program and in every row, IS THE sha256 OF THE DUMP (.gsa) THAT YtmblbogpkdkncaaGreatProg.lean LOADS. Nothing in Lean hashes anything: it is a label: what it is worth is what the hold of that sum in a sandbox is worth. -/
noncomputable def Tryz.pinned : Pinned := { name := "ytmblbogpkdkncaagreat", sum := "0ec1d7aa3124b3a1c8a6cc259f16d59610c189e5d3994303fd3a5c549e1fb438", checked := Tryz.checked }
namespace Rows
def none {H : Type} : Left H := { results := [], args := [] }

/-- 'pantilelaw14.KvRoom': WHATEVER THE INPUT: true; the input reads as it did. -/
def kvRoomSpec : ChangeSpec := { name := "kvRoom", fn := fun _ => fun
  | [d] => { results := [.lit (.bool true)], args := [d] }
  | _ => none }
def kvRoomRow : OpenClaim := { program := "ytmblbogpkdkncaagreat", sum := "0ec1d7aa3124b3a1c8a6cc259f16d59610c189e5d3994303fd3a5c549e1fb438", func := "pantile/pantilelaw14.KvRoom", spec := "kvRoom", inPlace := ["internal/bytealg.IndexByteString", "internal/bytealg.IndexString", "maps.clone"], unfollowed := true, recurses := true, named := ["internal/bytealg.MaxLen"], apart := false }
def KvRoomSaid : Prop := kvRoomRow.holds Tryz.pinned (OpenSpec.ofChange kvRoomSpec)

/-- ITS FALSE NEIGHBOUR: 'it returns false'. Refute it at one input. -/
def kvRoomWrong : ChangeSpec := { name := "kvRoom", fn := fun _ => fun
  | [d] => { results := [.lit (.bool false)], args := [d] }
  | _ => none }
def KvRoomWrongFalsely : Prop := kvRoomRow.holds Tryz.pinned (OpenSpec.ofChange kvRoomWrong)

/-- 'pantilelaw14.KvNames': WHATEVER THE INPUT: true; the input reads as it did. -/
def kvNamesSpec : ChangeSpec := { name := "kvNames", fn := fun _ => fun
  | [d] => { results := [.lit (.bool true)], args := [d] }
  | _ => none }
def kvNamesRow : OpenClaim := { program := "ytmblbogpkdkncaagreat", sum := "0ec1d7aa3124b3a1c8a6cc259f16d59610c189e5d3994303fd3a5c549e1fb438", func := "pantile/pantilelaw14.KvNames", spec := "kvNames", inPlace := ["internal/bytealg.IndexByteString", "internal/bytealg.IndexString", "maps.clone"], unfollowed := true, recurses := true, named := ["internal/bytealg.MaxLen"], apart := false }
def KvNamesSaid : Prop := kvNamesRow.holds Tryz.pinned (OpenSpec.ofChange kvNamesSpec)

/-- ITS FALSE NEIGHBOUR: 'it returns false'. Refute it at one input. -/
def kvNamesWrong : ChangeSpec := { name := "kvNames", fn := fun _ => fun
  | [d] => { results := [.lit (.bool false)], args := [d] }
  | _ => none }
def KvNamesWrongFalsely : Prop := kvNamesRow.holds Tryz.pinned (OpenSpec.ofChange kvNamesWrong)

/-- 'pantilelaw14.KvKeys': WHATEVER THE INPUT: true; the input reads as it did. -/
def kvKeysSpec : ChangeSpec := { name := "kvKeys", fn := fun _ => fun
  | [d1, d2] => { results := [.lit (.bool true)], args := [d1, d2] }
  | _ => none }
def kvKeysRow : OpenClaim := { program := "ytmblbogpkdkncaagreat", sum := "0ec1d7aa3124b3a1c8a6cc259f16d59610c189e5d3994303fd3a5c549e1fb438", func := "pantile/pantilelaw14.KvKeys", spec := "kvKeys", inPlace := ["internal/bytealg.IndexByteString", "internal/bytealg.IndexString", "maps.clone"], unfollowed := true, recurses := true, named := ["internal/bytealg.MaxLen"], apart := false }
def KvKeysSaid : Prop := kvKeysRow.holds Tryz.pinned (OpenSpec.ofChange kvKeysSpec)

/-- ITS FALSE NEIGHBOUR: 'it returns false'. Refute it at one input. -/
def kvKeysWrong : ChangeSpec := { name := "kvKeys", fn := fun _ => fun
  | [d1, d2] => { results := [.lit (.bool false)], args := [d1, d2] }
  | _ => none }
def KvKeysWrongFalsely : Prop := kvKeysRow.holds Tryz.pinned (OpenSpec.ofChange kvKeysWrong)

/-- 'pantilelaw14.KvSplit': WHATEVER THE INPUT: true; the input reads as it did. -/
def kvSplitSpec : ChangeSpec := { name := "kvSplit", fn := fun _ => fun
  | [d1, d2] => { results := [.lit (.bool true)], args := [d1, d2] }
  | _ => none }
def kvSplitRow : OpenClaim := { program := "ytmblbogpkdkncaagreat", sum := "0ec1d7aa3124b3a1c8a6cc259f16d59610c189e5d3994303fd3a5c549e1fb438", func := "pantile/pantilelaw14.KvSplit", spec := "kvSplit", inPlace := ["internal/bytealg.IndexByteString", "internal/bytealg.IndexString", "maps.clone"], unfollowed := true, recurses := true, named := ["internal/bytealg.MaxLen"], apart := false }
def KvSplitSaid : Prop := kvSplitRow.holds Tryz.pinned (OpenSpec.ofChange kvSplitSpec)

/-- ITS FALSE NEIGHBOUR: 'it returns false'. Refute it at one input. -/
def kvSplitWrong : ChangeSpec := { name := "kvSplit", fn := fun _ => fun
  | [d1, d2] => { results := [.lit (.bool false)], args := [d1, d2] }
  | _ => none }
def KvSplitWrongFalsely : Prop := kvSplitRow.holds Tryz.pinned (OpenSpec.ofChange kvSplitWrong)

/- THE SECOND FORM. 'bulk': how many values and letters a reading holds, each counted each time it is reached (what is shared counts as often as it is met; a slice's spare places count too). A statement '..UptoSaid' is the law's where the arguments, and the package variables that the reading takes, are together of bulk at most 1048576: NARROWER than '..Said'. Prove '..Said' where nothing that the law and all that it calls make is longer than what came in: it says more and counts as full. Else prove '..UptoSaid'. A law counts once. -/
mutual
def uptoBulk {H : Type} : DataW H → Nat
  | .lit (.string bytes) => bytes.length + 1
  | .lit _ => 1
  | .nil => 1
  | .ptr d => uptoBulk d + 1
  | .slice elems spare => uptoBulkAll elems + uptoBulkAll spare + 1
  | .agg parts => uptoBulkAll parts + 1
  | .iface _ d => uptoBulk d + 1
  | .map entries => uptoBulkEntries entries + 1
  | .held _ => 1
def uptoBulkAll {H : Type} : List (DataW H) → Nat
  | [] => 0
  | d :: r => uptoBulk d + uptoBulkAll r
def uptoBulkEntries {H : Type} : List (Lit × DataW H) → Nat
  | [] => 0
  | x :: r => uptoBulkEntry x + uptoBulkEntries r
def uptoBulkEntry {H : Type} : Lit × DataW H → Nat
  | (.string bytes, d) => bytes.length + uptoBulk d + 1
  | (_, d) => uptoBulk d + 1
 end
def uptoSmall : (H : Type) → List (DataW H) → Bool := fun _ ds => decide (uptoBulkAll ds ≤ 1048576)
def OpenSpec.upto (s : _root_.Go.ChangeSpec) : _root_.Go.OpenSpec := { _root_.Go.OpenSpec.ofChange s with cond := some uptoSmall }

/-- 'pantilelaw14.KvRoom', WHERE WHAT IT READS IS OF BULK AT MOST 1048576: true; the input reads as it did. -/
def kvRoomUptoRow : OpenClaim := { program := "ytmblbogpkdkncaagreat", sum := "0ec1d7aa3124b3a1c8a6cc259f16d59610c189e5d3994303fd3a5c549e1fb438", func := "pantile/pantilelaw14.KvRoom", spec := "kvRoom", inPlace := ["internal/bytealg.IndexByteString", "internal/bytealg.IndexString", "maps.clone"], unfollowed := true, recurses := true, named := ["internal/bytealg.MaxLen"], apart := false, narrowed := true }
def KvRoomUptoSaid : Prop := kvRoomUptoRow.holds Tryz.pinned (OpenSpec.upto kvRoomSpec)

/-- 'pantilelaw14.KvNames', WHERE WHAT IT READS IS OF BULK AT MOST 1048576: true; the input reads as it did. -/
def kvNamesUptoRow : OpenClaim := { program := "ytmblbogpkdkncaagreat", sum := "0ec1d7aa3124b3a1c8a6cc259f16d59610c189e5d3994303fd3a5c549e1fb438", func := "pantile/pantilelaw14.KvNames", spec := "kvNames", inPlace := ["internal/bytealg.IndexByteString", "internal/bytealg.IndexString", "maps.clone"], unfollowed := true, recurses := true, named := ["internal/bytealg.MaxLen"], apart := false, narrowed := true }
def KvNamesUptoSaid : Prop := kvNamesUptoRow.holds Tryz.pinned (OpenSpec.upto kvNamesSpec)

/-- 'pantilelaw14.KvKeys', WHERE WHAT IT READS IS OF BULK AT MOST 1048576: true; the input reads as it did. -/
def kvKeysUptoRow : OpenClaim := { program := "ytmblbogpkdkncaagreat", sum := "0ec1d7aa3124b3a1c8a6cc259f16d59610c189e5d3994303fd3a5c549e1fb438", func := "pantile/pantilelaw14.KvKeys", spec := "kvKeys", inPlace := ["internal/bytealg.IndexByteString", "internal/bytealg.IndexString", "maps.clone"], unfollowed := true, recurses := true, named := ["internal/bytealg.MaxLen"], apart := false, narrowed := true }
def KvKeysUptoSaid : Prop := kvKeysUptoRow.holds Tryz.pinned (OpenSpec.upto kvKeysSpec)

/-- 'pantilelaw14.KvSplit', WHERE WHAT IT READS IS OF BULK AT MOST 1048576: true; the input reads as it did. -/
def kvSplitUptoRow : OpenClaim := { program := "ytmblbogpkdkncaagreat", sum := "0ec1d7aa3124b3a1c8a6cc259f16d59610c189e5d3994303fd3a5c549e1fb438", func := "pantile/pantilelaw14.KvSplit", spec := "kvSplit", inPlace := ["internal/bytealg.IndexByteString", "internal/bytealg.IndexString", "maps.clone"], unfollowed := true, recurses := true, named := ["internal/bytealg.MaxLen"], apart := false, narrowed := true }
def KvSplitUptoSaid : Prop := kvSplitUptoRow.holds Tryz.pinned (OpenSpec.upto kvSplitSpec)

end Rows
end Go.Proofs.YtmblbogpkdkncaaGreat

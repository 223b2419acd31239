/-
  No cell of these rows narrows 'for every input' (looked for: loops, veiled, ifaces, maps, wideKeys, modest, calm, conditions, laid).
  DERIVED. THE GIVEN ROWS OF THIS SEAT. 3 by the template 'for every input the law returns true; each argument reads behind the call as it read before'; 0 by the template 'total and deterministic' (their statements: YtcbajnajamjcnaaTotals.lean).
  GIVEN WITH THE SEED: the statements are not yours to turn. If you find one false, say at which input.
  Laid BY PROGRAM, IN A SANDBOX (cutbox-rows.mjs): the forced cells as the released guide's own fill.sh prints them over the translation 2a329a54a13722ab… (all of the seat's roots in one cut). By AI agents, Wed Nov 11 2026. No macro, syntax, notation, axiom, sorry.
-/
import Derived.Test.YtcbajnajamjcnaaChecked
import GoSem.Claim
import GoSem.ClaimJoined
import GoSem.ClaimMapViews
import Derived.JoinedTies
import Derived.KernelRfl
namespace Go.Proofs.Ytcbajnajamjcnaa
/- THE CELL 'sum', in the pinned program and in every row, IS THE sha256 OF THE DUMP (.gsa) THAT YtcbajnajamjcnaaProg.lean LOADS. Nothing in Lean hashes anything: it is a label: what it is worth is what the hold of that sum in a sandbox is worth. -/
noncomputable def Try.pinned : Pinned := { name := "ytcbajnajamjcnaa", sum := "2a329a54a13722ab76a61c6010be983c3fd4c56ed26f4b8811c89995060bc1e5", checked := Try.checked }
namespace Rows
def none {H : Type} : Left H := { results := [], args := [] }

/-- 'cofferlaw15.BucketLists': WHATEVER THE INPUT: true; the input reads as it did. -/
def bucketListsSpec : ChangeSpec := { name := "bucketLists", fn := fun _ => fun
  | [d1, d2] => { results := [.lit (.bool true)], args := [d1, d2] }
  | _ => none }
def bucketListsRow : OpenClaim := { program := "ytcbajnajamjcnaa", sum := "2a329a54a13722ab76a61c6010be983c3fd4c56ed26f4b8811c89995060bc1e5", func := "coffer/cofferlaw15.BucketLists", spec := "bucketLists", unfollowed := true, recurses := true, apart := false }
def BucketListsSaid : Prop := bucketListsRow.holds Try.pinned (OpenSpec.ofChange bucketListsSpec)

/-- ITS FALSE NEIGHBOUR: 'it returns false'. Refute it at one input. -/
def bucketListsWrong : ChangeSpec := { name := "bucketLists", fn := fun _ => fun
  | [d1, d2] => { results := [.lit (.bool false)], args := [d1, d2] }
  | _ => none }
def BucketListsWrongFalsely : Prop := bucketListsRow.holds Try.pinned (OpenSpec.ofChange bucketListsWrong)

/-- 'cofferlaw15.BucketRaw': WHATEVER THE INPUT: true; the input reads as it did. -/
def bucketRawSpec : ChangeSpec := { name := "bucketRaw", fn := fun _ => fun
  | [d1, d2] => { results := [.lit (.bool true)], args := [d1, d2] }
  | _ => none }
def bucketRawRow : OpenClaim := { program := "ytcbajnajamjcnaa", sum := "2a329a54a13722ab76a61c6010be983c3fd4c56ed26f4b8811c89995060bc1e5", func := "coffer/cofferlaw15.BucketRaw", spec := "bucketRaw", unfollowed := true, recurses := true, apart := false }
def BucketRawSaid : Prop := bucketRawRow.holds Try.pinned (OpenSpec.ofChange bucketRawSpec)

/-- ITS FALSE NEIGHBOUR: 'it returns false'. Refute it at one input. -/
def bucketRawWrong : ChangeSpec := { name := "bucketRaw", fn := fun _ => fun
  | [d1, d2] => { results := [.lit (.bool false)], args := [d1, d2] }
  | _ => none }
def BucketRawWrongFalsely : Prop := bucketRawRow.holds Try.pinned (OpenSpec.ofChange bucketRawWrong)

/-- 'cofferlaw15.BucketNewest': WHATEVER THE INPUT: true; the input reads as it did. -/
def bucketNewestSpec : ChangeSpec := { name := "bucketNewest", fn := fun _ => fun
  | [d1, d2, d3] => { results := [.lit (.bool true)], args := [d1, d2, d3] }
  | _ => none }
def bucketNewestRow : OpenClaim := { program := "ytcbajnajamjcnaa", sum := "2a329a54a13722ab76a61c6010be983c3fd4c56ed26f4b8811c89995060bc1e5", func := "coffer/cofferlaw15.BucketNewest", spec := "bucketNewest", unfollowed := true, recurses := true, apart := false }
def BucketNewestSaid : Prop := bucketNewestRow.holds Try.pinned (OpenSpec.ofChange bucketNewestSpec)

/-- ITS FALSE NEIGHBOUR: 'it returns false'. Refute it at one input. -/
def bucketNewestWrong : ChangeSpec := { name := "bucketNewest", fn := fun _ => fun
  | [d1, d2, d3] => { results := [.lit (.bool false)], args := [d1, d2, d3] }
  | _ => none }
def BucketNewestWrongFalsely : Prop := bucketNewestRow.holds Try.pinned (OpenSpec.ofChange bucketNewestWrong)

/- THE SECOND FORM. 'bulk': how many values and letters a reading holds, each counted each time it is reached (what is shared counts as often as it is met; a slice's spare places count too). A statement '..UptoSaid' is the law's where the arguments, and the package variables that the reading takes, are together of bulk at most 1048576: NARROWER than '..Said'. Prove '..Said' where nothing that the law and all that it calls make is longer than what came in: it says more and counts as full. Else prove '..UptoSaid'. A law counts once. -/
mutual
def uptoBulk {H : Type} : DataW H → Nat
  | .lit (.string bytes) => bytes.length + 1
  | .lit _ => 1
  | .nil => 1
  | .ptr d => uptoBulk d + 1
  | .slice elems spare => uptoBulkAll elems + uptoBulkAll spare + 1
  | .agg parts => uptoBulkAll parts + 1
  | .iface _ d => uptoBulk d + 1
  | .map entries => uptoBulkEntries entries + 1
  | .held _ => 1
def uptoBulkAll {H : Type} : List (DataW H) → Nat
  | [] => 0
  | d :: r => uptoBulk d + uptoBulkAll r
def uptoBulkEntries {H : Type} : List (Lit × DataW H) → Nat
  | [] => 0
  | x :: r => uptoBulkEntry x + uptoBulkEntries r
def uptoBulkEntry {H : Type} : Lit × DataW H → Nat
  | (.string bytes, d) => bytes.length + uptoBulk d + 1
  | (_, d) => uptoBulk d + 1
 end
def uptoSmall : (H : Type) → List (DataW H) → Bool := fun _ ds => decide (uptoBulkAll ds ≤ 1048576)
def OpenSpec.upto (s : _root_.Go.ChangeSpec) : _root_.Go.OpenSpec := { _root_.Go.OpenSpec.ofChange s with cond := some uptoSmall }

/-- 'cofferlaw15.BucketLists', WHERE WHAT IT READS IS OF BULK AT MOST 1048576: true; the input reads as it did. -/
def bucketListsUptoRow : OpenClaim := { program := "ytcbajnajamjcnaa", sum := "2a329a54a13722ab76a61c6010be983c3fd4c56ed26f4b8811c89995060bc1e5", func := "coffer/cofferlaw15.BucketLists", spec := "bucketLists", unfollowed := true, recurses := true, apart := false, narrowed := true }
def BucketListsUptoSaid : Prop := bucketListsUptoRow.holds Try.pinned (OpenSpec.upto bucketListsSpec)

/-- 'cofferlaw15.BucketRaw', WHERE WHAT IT READS IS OF BULK AT MOST 1048576: true; the input reads as it did. -/
def bucketRawUptoRow : OpenClaim := { program := "ytcbajnajamjcnaa", sum := "2a329a54a13722ab76a61c6010be983c3fd4c56ed26f4b8811c89995060bc1e5", func := "coffer/cofferlaw15.BucketRaw", spec := "bucketRaw", unfollowed := true, recurses := true, apart := false, narrowed := true }
def BucketRawUptoSaid : Prop := bucketRawUptoRow.holds Try.pinned (OpenSpec.upto bucketRawSpec)

/-- 'cofferlaw15.BucketNewest', WHERE WHAT IT READS IS OF BULK AT MOST 1048576: true; the input reads as it did. -/
def bucketNewestUptoRow : OpenClaim := { program := "ytcbajnajamjcnaa", sum := "2a329a54a13722ab76a61c6010be983c3fd4c56ed26f4b8811c89995060bc1e5", func := "coffer/cofferlaw15.BucketNewest", spec := "bucketNewest", unfollowed := true, recurses := true, apart := false, narrowed := true }
def BucketNewestUptoSaid : Prop := bucketNewestUptoRow.holds Try.pinned (OpenSpec.upto bucketNewestSpec)

end Rows
end Go.Proofs.Ytcbajnajamjcnaa

/-
  No cell of these rows narrows 'for every input' (looked for: loops, veiled, ifaces, maps, wideKeys, modest, calm, conditions, laid).
  DERIVED. THE GIVEN ROWS OF THIS SEAT. 3 by the template 'for every input the law returns true; each argument reads behind the call as it read before'; 0 by the template 'total and deterministic' (their statements: YtpkbigjijihljabTotals.lean).
  GIVEN WITH THE SEED: the statements are not yours to turn. If you find one false, say at which input.
  Laid BY PROGRAM, IN A SANDBOX (cutbox-rows.mjs): the forced cells as the released guide's own fill.sh prints them over the translation 34a17fc7242a6f38… (all of the seat's roots in one cut). By AI agents, Wed Nov 11 2026. No macro, syntax, notation, axiom, sorry.
-/
import Derived.Test.YtpkbigjijihljabChecked
import GoSem.Claim
import GoSem.ClaimJoined
import GoSem.ClaimMapViews
import Derived.JoinedTies
import Derived.KernelRfl
namespace Go.Proofs.Ytpkbigjijihljab
/- THE CELL 'sum', in the pinned program and in every row, IS THE sha256 OF THE DUMP (.gsa) THAT YtpkbigjijihljabProg.lean LOADS. Nothing in Lean hashes anything: it is a label: what it is worth is what the hold of that sum in a sandbox is worth. -/
noncomputable def Try.pinned : Pinned := { name := "ytpkbigjijihljab", sum := "34a17fc7242a6f3881bc3bd4fe66d9971ccaaf5ca5602728973d00268ec3b114", checked := Try.checked }
namespace Rows
def none {H : Type} : Left H := { results := [], args := [] }

/-- 'cadencelaw03.PropClosed': WHATEVER THE INPUT: true; the input reads as it did. -/
def propClosedSpec : ChangeSpec := { name := "propClosed", fn := fun _ => fun
  | [d1, d2] => { results := [.lit (.bool true)], args := [d1, d2] }
  | _ => none }
def propClosedRow : OpenClaim := { program := "ytpkbigjijihljab", sum := "34a17fc7242a6f3881bc3bd4fe66d9971ccaaf5ca5602728973d00268ec3b114", func := "cadence/cadencelaw03.PropClosed", spec := "propClosed", apart := false }
def PropClosedSaid : Prop := propClosedRow.holds Try.pinned (OpenSpec.ofChange propClosedSpec)

/-- ITS FALSE NEIGHBOUR: 'it returns false'. Refute it at one input. -/
def propClosedWrong : ChangeSpec := { name := "propClosed", fn := fun _ => fun
  | [d1, d2] => { results := [.lit (.bool false)], args := [d1, d2] }
  | _ => none }
def PropClosedWrongFalsely : Prop := propClosedRow.holds Try.pinned (OpenSpec.ofChange propClosedWrong)

/-- 'cadencelaw03.PropFollows': WHATEVER THE INPUT: true; the input reads as it did. -/
def propFollowsSpec : ChangeSpec := { name := "propFollows", fn := fun _ => fun
  | [d1, d2, d3] => { results := [.lit (.bool true)], args := [d1, d2, d3] }
  | _ => none }
def propFollowsRow : OpenClaim := { program := "ytpkbigjijihljab", sum := "34a17fc7242a6f3881bc3bd4fe66d9971ccaaf5ca5602728973d00268ec3b114", func := "cadence/cadencelaw03.PropFollows", spec := "propFollows", apart := false }
def PropFollowsSaid : Prop := propFollowsRow.holds Try.pinned (OpenSpec.ofChange propFollowsSpec)

/-- ITS FALSE NEIGHBOUR: 'it returns false'. Refute it at one input. -/
def propFollowsWrong : ChangeSpec := { name := "propFollows", fn := fun _ => fun
  | [d1, d2, d3] => { results := [.lit (.bool false)], args := [d1, d2, d3] }
  | _ => none }
def PropFollowsWrongFalsely : Prop := propFollowsRow.holds Try.pinned (OpenSpec.ofChange propFollowsWrong)

/-- 'cadencelaw03.PropOwn': WHATEVER THE INPUT: true; the input reads as it did. -/
def propOwnSpec : ChangeSpec := { name := "propOwn", fn := fun _ => fun
  | [d1, d2] => { results := [.lit (.bool true)], args := [d1, d2] }
  | _ => none }
def propOwnRow : OpenClaim := { program := "ytpkbigjijihljab", sum := "34a17fc7242a6f3881bc3bd4fe66d9971ccaaf5ca5602728973d00268ec3b114", func := "cadence/cadencelaw03.PropOwn", spec := "propOwn", apart := false }
def PropOwnSaid : Prop := propOwnRow.holds Try.pinned (OpenSpec.ofChange propOwnSpec)

/-- ITS FALSE NEIGHBOUR: 'it returns false'. Refute it at one input. -/
def propOwnWrong : ChangeSpec := { name := "propOwn", fn := fun _ => fun
  | [d1, d2] => { results := [.lit (.bool false)], args := [d1, d2] }
  | _ => none }
def PropOwnWrongFalsely : Prop := propOwnRow.holds Try.pinned (OpenSpec.ofChange propOwnWrong)

/- THE SECOND FORM. 'bulk': how many values and letters a reading holds, each counted each time it is reached (what is shared counts as often as it is met; a slice's spare places count too). A statement '..UptoSaid' is the law's where the arguments, and the package variables that the reading takes, are together of bulk at most 1048576: NARROWER than '..Said'. Prove '..Said' where nothing that the law and all that it calls make is longer than what came in: it says more and counts as full. Else prove '..UptoSaid'. A law counts once. -/
mutual
def uptoBulk {H : Type} : DataW H → Nat
  | .lit (.string bytes) => bytes.length + 1
  | .lit _ => 1
  | .nil => 1
  | .ptr d => uptoBulk d + 1
  | .slice elems spare => uptoBulkAll elems + uptoBulkAll spare + 1
  | .agg parts => uptoBulkAll parts + 1
  | .iface _ d => uptoBulk d + 1
  | .map entries => uptoBulkEntries entries + 1
  | .held _ => 1
def uptoBulkAll {H : Type} : List (DataW H) → Nat
  | [] => 0
  | d :: r => uptoBulk d + uptoBulkAll r
def uptoBulkEntries {H : Type} : List (Lit × DataW H) → Nat
  | [] => 0
  | x :: r => uptoBulkEntry x + uptoBulkEntries r
def uptoBulkEntry {H : Type} : Lit × DataW H → Nat
  | (.string bytes, d) => bytes.length + uptoBulk d + 1
  | (_, d) => uptoBulk d + 1
 end
def uptoSmall : (H : Type) → List (DataW H) → Bool := fun _ ds => decide (uptoBulkAll ds ≤ 1048576)
def OpenSpec.upto (s : _root_.Go.ChangeSpec) : _root_.Go.OpenSpec := { _root_.Go.OpenSpec.ofChange s with cond := some uptoSmall }

/-- 'cadencelaw03.PropClosed', WHERE WHAT IT READS IS OF BULK AT MOST 1048576: true; the input reads as it did. -/
def propClosedUptoRow : OpenClaim := { program := "ytpkbigjijihljab", sum := "34a17fc7242a6f3881bc3bd4fe66d9971ccaaf5ca5602728973d00268ec3b114", func := "cadence/cadencelaw03.PropClosed", spec := "propClosed", apart := false, narrowed := true }
def PropClosedUptoSaid : Prop := propClosedUptoRow.holds Try.pinned (OpenSpec.upto propClosedSpec)

/-- 'cadencelaw03.PropFollows', WHERE WHAT IT READS IS OF BULK AT MOST 1048576: true; the input reads as it did. -/
def propFollowsUptoRow : OpenClaim := { program := "ytpkbigjijihljab", sum := "34a17fc7242a6f3881bc3bd4fe66d9971ccaaf5ca5602728973d00268ec3b114", func := "cadence/cadencelaw03.PropFollows", spec := "propFollows", apart := false, narrowed := true }
def PropFollowsUptoSaid : Prop := propFollowsUptoRow.holds Try.pinned (OpenSpec.upto propFollowsSpec)

/-- 'cadencelaw03.PropOwn', WHERE WHAT IT READS IS OF BULK AT MOST 1048576: true; the input reads as it did. -/
def propOwnUptoRow : OpenClaim := { program := "ytpkbigjijihljab", sum := "34a17fc7242a6f3881bc3bd4fe66d9971ccaaf5ca5602728973d00268ec3b114", func := "cadence/cadencelaw03.PropOwn", spec := "propOwn", apart := false, narrowed := true }
def PropOwnUptoSaid : Prop := propOwnUptoRow.holds Try.pinned (OpenSpec.upto propOwnSpec)

end Rows
end Go.Proofs.Ytpkbigjijihljab

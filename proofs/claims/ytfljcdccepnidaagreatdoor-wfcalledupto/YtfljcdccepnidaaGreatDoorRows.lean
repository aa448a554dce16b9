/-
  NARROWER THAN 'FOR EVERY INPUT', by the rows' own cells (each row's printed sentence says how): WfCalled: loops, laid.
  DERIVED. THE GIVEN ROWS OF THIS SEAT. 1 by the template 'for every input the law returns true; each argument reads behind the call as it read before'; 0 by the template 'total and deterministic' (their statements: YtfljcdccepnidaaGreatDoorTotals.lean).
  GIVEN WITH THE SEED: the statements are not yours to turn. If you find one false, say at which input.
  Laid BY PROGRAM, IN A SANDBOX (cutbox-rows.mjs): the forced cells as the released guide's own fill.sh prints them over the translation 87af6202f98e0d49… (all of the seat's roots in one cut). By AI agents, Wed Nov 11 2026. No macro, syntax, notation, axiom, sorry.
-/
import Derived.Test.YtfljcdccepnidaaGreatDoorChecked
import GoSem.Claim
import GoSem.ClaimJoined
import GoSem.ClaimMapViews
import Derived.JoinedTies
import Derived.KernelRfl
namespace Go.Proofs.YtfljcdccepnidaaGreatDoor
/- THE CELL 'sum', in the pinned program and in every row, IS THE sha256 OF THE DUMP (.gsa) THAT YtfljcdccepnidaaGreatDoorProg.lean LOADS. Nothing in Lean hashes anything: it is a label: what it is worth is what the hold of that sum in a sandbox is worth. -/
noncomputable def Tryz.pinned : Pinned := { name := "ytfljcdccepnidaagreatdoor", sum := "87af6202f98e0d49da5f08fc1acc6e26211bed1040cdda7916d8ca2d86f4ffe3", checked := Tryz.checked }
namespace Rows
def none {H : Type} : Left H := { results := [], args := [] }

/- WHAT THE LISTED PACKAGE-LEVEL VARIABLES READ AS WHEN THE CALL BEGINS. Each datum BY PROGRAM (the guide's laid-datum.mjs) off the statement by which the dump's own 'gosem.cut.vars' lays the variable. In a bare row this is a premise. The card (YtfljcdccepnidaaGreatDoorCards.lean) ties it to the program's text. -/
def laid_cadence_lang_shapes {H : Type} : DataW H := .agg [.agg [.lit (.int .i64 0), .lit (.int .i64 0), .lit (.string [])], .agg [.lit (.int .i64 8), .lit (.int .i64 0), .lit (.string [])], .agg [.lit (.int .i64 8), .lit (.int .i64 0), .lit (.string [])], .agg [.lit (.int .i64 8), .lit (.int .i64 1), .lit (.string [])], .agg [.lit (.int .i64 7), .lit (.int .i64 1), .lit (.string [126])], .agg [.lit (.int .i64 7), .lit (.int .i64 1), .lit (.string [45])], .agg [.lit (.int .i64 6), .lit (.int .i64 2), .lit (.string [42])], .agg [.lit (.int .i64 6), .lit (.int .i64 2), .lit (.string [47])], .agg [.lit (.int .i64 6), .lit (.int .i64 2), .lit (.string [37])], .agg [.lit (.int .i64 5), .lit (.int .i64 2), .lit (.string [43])], .agg [.lit (.int .i64 5), .lit (.int .i64 2), .lit (.string [45])], .agg [.lit (.int .i64 4), .lit (.int .i64 2), .lit (.string [60, 60])], .agg [.lit (.int .i64 4), .lit (.int .i64 2), .lit (.string [62, 62])], .agg [.lit (.int .i64 4), .lit (.int .i64 2), .lit (.string [60, 60, 60])], .agg [.lit (.int .i64 4), .lit (.int .i64 2), .lit (.string [62, 62, 62])], .agg [.lit (.int .i64 3), .lit (.int .i64 2), .lit (.string [38])], .agg [.lit (.int .i64 2), .lit (.int .i64 2), .lit (.string [94])], .agg [.lit (.int .i64 1), .lit (.int .i64 2), .lit (.string [124])], .agg [.lit (.int .i64 0), .lit (.int .i64 2), .lit (.string [61, 61])], .agg [.lit (.int .i64 0), .lit (.int .i64 2), .lit (.string [33, 61])], .agg [.lit (.int .i64 0), .lit (.int .i64 2), .lit (.string [60])], .agg [.lit (.int .i64 0), .lit (.int .i64 2), .lit (.string [60, 61])], .agg [.lit (.int .i64 0), .lit (.int .i64 2), .lit (.string [62])], .agg [.lit (.int .i64 0), .lit (.int .i64 2), .lit (.string [62, 61])], .agg [.lit (.int .i64 8), .lit (.int .i64 2), .lit (.string [115, 97, 114])], .agg [.lit (.int .i64 8), .lit (.int .i64 2), .lit (.string [115, 108, 116])], .agg [.lit (.int .i64 8), .lit (.int .i64 3), .lit (.string [115, 101, 108])]]
def laid_cadence_lang_stmtFields {H : Type} : DataW H := .agg [.agg [.lit (.bool false), .lit (.bool false), .lit (.bool false), .lit (.bool false), .lit (.bool false), .lit (.bool false)], .agg [.lit (.bool true), .lit (.bool false), .lit (.bool true), .lit (.bool false), .lit (.bool false), .lit (.bool false)], .agg [.lit (.bool true), .lit (.bool true), .lit (.bool true), .lit (.bool false), .lit (.bool false), .lit (.bool false)], .agg [.lit (.bool false), .lit (.bool false), .lit (.bool true), .lit (.bool false), .lit (.bool true), .lit (.bool true)], .agg [.lit (.bool true), .lit (.bool false), .lit (.bool false), .lit (.bool true), .lit (.bool true), .lit (.bool false)], .agg [.lit (.bool true), .lit (.bool false), .lit (.bool false), .lit (.bool false), .lit (.bool false), .lit (.bool false)]]

/-- 'cadencelaw16.WfCalled': WHATEVER THE INPUT: true; the input reads as it did. -/
def wfCalledSpec : ChangeSpec := { name := "wfCalled", fn := fun _ => fun
  | [d1, d2, d3] => { results := [.lit (.bool true)], args := [d1, d2, d3] }
  | _ => none }
def wfCalledRow : OpenClaim := { program := "ytfljcdccepnidaagreatdoor", sum := "87af6202f98e0d49da5f08fc1acc6e26211bed1040cdda7916d8ca2d86f4ffe3", func := "cadence/cadencelaw16.WfCalled", spec := "wfCalled", unfollowed := true, recurses := true, named := ["cadence/lang.stmtFields", "cadence/lang.shapes"], loops := true, apart := false, laid := [("cadence/lang.shapes", laid_cadence_lang_shapes), ("cadence/lang.stmtFields", laid_cadence_lang_stmtFields)] }
def WfCalledSaid : Prop := wfCalledRow.holds Tryz.pinned (OpenSpec.ofChange wfCalledSpec)

/-- ITS FALSE NEIGHBOUR: 'it returns false'. Refute it at one input. -/
def wfCalledWrong : ChangeSpec := { name := "wfCalled", fn := fun _ => fun
  | [d1, d2, d3] => { results := [.lit (.bool false)], args := [d1, d2, d3] }
  | _ => none }
def WfCalledWrongFalsely : Prop := wfCalledRow.holds Tryz.pinned (OpenSpec.ofChange wfCalledWrong)

/- THE SECOND FORM. 'bulk': how many values and letters a reading holds, each counted each time it is reached (what is shared counts as often as it is met; a slice's spare places count too). A statement '..UptoSaid' is the law's where the arguments, and the package variables that the reading takes, are together of bulk at most 1048576: NARROWER than '..Said'. Prove '..Said' where nothing that the law and all that it calls make is longer than what came in: it says more and counts as full. Else prove '..UptoSaid'. A law counts once. -/
mutual
def uptoBulk {H : Type} : DataW H → Nat
  | .lit (.string bytes) => bytes.length + 1
  | .lit _ => 1
  | .nil => 1
  | .ptr d => uptoBulk d + 1
  | .slice elems spare => uptoBulkAll elems + uptoBulkAll spare + 1
  | .agg parts => uptoBulkAll parts + 1
  | .iface _ d => uptoBulk d + 1
  | .map entries => uptoBulkEntries entries + 1
  | .held _ => 1
def uptoBulkAll {H : Type} : List (DataW H) → Nat
  | [] => 0
  | d :: r => uptoBulk d + uptoBulkAll r
def uptoBulkEntries {H : Type} : List (Lit × DataW H) → Nat
  | [] => 0
  | x :: r => uptoBulkEntry x + uptoBulkEntries r
def uptoBulkEntry {H : Type} : Lit × DataW H → Nat
  | (.string bytes, d) => bytes.length + uptoBulk d + 1
  | (_, d) => uptoBulk d + 1
 end
def uptoSmall : (H : Type) → List (DataW H) → Bool := fun _ ds => decide (uptoBulkAll ds ≤ 1048576)
def OpenSpec.upto (s : _root_.Go.ChangeSpec) : _root_.Go.OpenSpec := { _root_.Go.OpenSpec.ofChange s with cond := some uptoSmall }

/-- 'cadencelaw16.WfCalled', WHERE WHAT IT READS IS OF BULK AT MOST 1048576: true; the input reads as it did. -/
def wfCalledUptoRow : OpenClaim := { program := "ytfljcdccepnidaagreatdoor", sum := "87af6202f98e0d49da5f08fc1acc6e26211bed1040cdda7916d8ca2d86f4ffe3", func := "cadence/cadencelaw16.WfCalled", spec := "wfCalled", unfollowed := true, recurses := true, named := ["cadence/lang.stmtFields", "cadence/lang.shapes"], loops := true, apart := false, laid := [("cadence/lang.shapes", laid_cadence_lang_shapes), ("cadence/lang.stmtFields", laid_cadence_lang_stmtFields)], narrowed := true }
def WfCalledUptoSaid : Prop := wfCalledUptoRow.holds Tryz.pinned (OpenSpec.upto wfCalledSpec)

end Rows
end Go.Proofs.YtfljcdccepnidaaGreatDoor

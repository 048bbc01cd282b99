/-
  NARROWER THAN 'FOR EVERY INPUT', by the rows' own cells (each row's printed sentence says how): Stored: laid · Backed: laid · Small: laid.
  DERIVED. THE GIVEN ROWS OF THIS SEAT. 3 by the template 'for every input the law returns true; each argument reads behind the call as it read before'; 0 by the template 'total and deterministic' (their statements: YtdpobjgfnhjagaaDoorTotals.lean).
  GIVEN WITH THE SEED: the statements are not yours to turn. If you find one false, say at which input.
  Laid BY PROGRAM, IN A SANDBOX (cutbox-rows.mjs): the forced cells as the released guide's own fill.sh prints them over the translation 129a53e6561ce255… (all of the seat's roots in one cut). By AI agents, Wed Nov 11 2026. No macro, syntax, notation, axiom, sorry.
-/
import Derived.Test.YtdpobjgfnhjagaaDoorChecked
import GoSem.Claim
import GoSem.ClaimJoined
import GoSem.ClaimMapViews
import Derived.JoinedTies
import Derived.KernelRfl
namespace Go.Proofs.YtdpobjgfnhjagaaDoor
/- THE CELL 'sum', in the pinned program and in every row, IS THE sha256 OF THE DUMP (.gsa) THAT YtdpobjgfnhjagaaDoorProg.lean LOADS. Nothing in Lean hashes anything: it is a label: what it is worth is what the hold of that sum in a sandbox is worth. -/
noncomputable def Tryd.pinned : Pinned := { name := "ytdpobjgfnhjagaadoor", sum := "129a53e6561ce2557a26f4d8bd8025640d007658a2f83f9fd6b7d65cf8a0325f", checked := Tryd.checked }
namespace Rows
def none {H : Type} : Left H := { results := [], args := [] }

/- WHAT THE LISTED PACKAGE-LEVEL VARIABLES READ AS WHEN THE CALL BEGINS. Each datum BY PROGRAM (the guide's laid-datum.mjs) off the statement by which the dump's own 'gosem.cut.vars' lays the variable. In a bare row this is a premise. The card (YtdpobjgfnhjagaaDoorCards.lean) ties it to the program's text. -/
def laid_spool_codes_order {H : Type} : DataW H := .agg [.lit (.int .i64 16), .lit (.int .i64 17), .lit (.int .i64 18), .lit (.int .i64 0), .lit (.int .i64 8), .lit (.int .i64 7), .lit (.int .i64 9), .lit (.int .i64 6), .lit (.int .i64 10), .lit (.int .i64 5), .lit (.int .i64 11), .lit (.int .i64 4), .lit (.int .i64 12), .lit (.int .i64 3), .lit (.int .i64 13), .lit (.int .i64 2), .lit (.int .i64 14), .lit (.int .i64 1), .lit (.int .i64 15)]

/-- 'spoolkeep.Stored': WHATEVER THE INPUT: true; the input reads as it did. -/
def storedSpec : ChangeSpec := { name := "stored", fn := fun _ => fun
  | [d1, d2, d3] => { results := [.lit (.bool true)], args := [d1, d2, d3] }
  | _ => none }
def storedRow : OpenClaim := { program := "ytdpobjgfnhjagaadoor", sum := "129a53e6561ce2557a26f4d8bd8025640d007658a2f83f9fd6b7d65cf8a0325f", func := "spool/spoolkeep.Stored", spec := "stored", unfollowed := true, recurses := true, named := ["spool/codes.order"], apart := false, laid := [("spool/codes.order", laid_spool_codes_order)] }
def StoredSaid : Prop := storedRow.holds Tryd.pinned (OpenSpec.ofChange storedSpec)

/-- ITS FALSE NEIGHBOUR: 'it returns false'. Refute it at one input. -/
def storedWrong : ChangeSpec := { name := "stored", fn := fun _ => fun
  | [d1, d2, d3] => { results := [.lit (.bool false)], args := [d1, d2, d3] }
  | _ => none }
def StoredWrongFalsely : Prop := storedRow.holds Tryd.pinned (OpenSpec.ofChange storedWrong)

/-- 'spoolkeep.Backed': WHATEVER THE INPUT: true; the input reads as it did. -/
def backedSpec : ChangeSpec := { name := "backed", fn := fun _ => fun
  | [d1, d2] => { results := [.lit (.bool true)], args := [d1, d2] }
  | _ => none }
def backedRow : OpenClaim := { program := "ytdpobjgfnhjagaadoor", sum := "129a53e6561ce2557a26f4d8bd8025640d007658a2f83f9fd6b7d65cf8a0325f", func := "spool/spoolkeep.Backed", spec := "backed", unfollowed := true, recurses := true, named := ["spool/codes.order"], apart := false, laid := [("spool/codes.order", laid_spool_codes_order)] }
def BackedSaid : Prop := backedRow.holds Tryd.pinned (OpenSpec.ofChange backedSpec)

/-- ITS FALSE NEIGHBOUR: 'it returns false'. Refute it at one input. -/
def backedWrong : ChangeSpec := { name := "backed", fn := fun _ => fun
  | [d1, d2] => { results := [.lit (.bool false)], args := [d1, d2] }
  | _ => none }
def BackedWrongFalsely : Prop := backedRow.holds Tryd.pinned (OpenSpec.ofChange backedWrong)

/-- 'spoolkeep.Small': WHATEVER THE INPUT: true; the input reads as it did. -/
def smallSpec : ChangeSpec := { name := "small", fn := fun _ => fun
  | [d1, d2, d3, d4, d5] => { results := [.lit (.bool true)], args := [d1, d2, d3, d4, d5] }
  | _ => none }
def smallRow : OpenClaim := { program := "ytdpobjgfnhjagaadoor", sum := "129a53e6561ce2557a26f4d8bd8025640d007658a2f83f9fd6b7d65cf8a0325f", func := "spool/spoolkeep.Small", spec := "small", unfollowed := true, recurses := true, named := ["spool/codes.order"], apart := false, laid := [("spool/codes.order", laid_spool_codes_order)] }
def SmallSaid : Prop := smallRow.holds Tryd.pinned (OpenSpec.ofChange smallSpec)

/-- ITS FALSE NEIGHBOUR: 'it returns false'. Refute it at one input. -/
def smallWrong : ChangeSpec := { name := "small", fn := fun _ => fun
  | [d1, d2, d3, d4, d5] => { results := [.lit (.bool false)], args := [d1, d2, d3, d4, d5] }
  | _ => none }
def SmallWrongFalsely : Prop := smallRow.holds Tryd.pinned (OpenSpec.ofChange smallWrong)

/- THE SECOND FORM. 'bulk': how many values and letters a reading holds, each counted each time it is reached (what is shared counts as often as it is met; a slice's spare places count too). A statement '..UptoSaid' is the law's where the arguments, and the package variables that the reading takes, are together of bulk at most 1048576: NARROWER than '..Said'. Prove '..Said' where nothing that the law and all that it calls make is longer than what came in: it says more and counts as full. Else prove '..UptoSaid'. A law counts once. -/
mutual
def uptoBulk {H : Type} : DataW H → Nat
  | .lit (.string bytes) => bytes.length + 1
  | .lit _ => 1
  | .nil => 1
  | .ptr d => uptoBulk d + 1
  | .slice elems spare => uptoBulkAll elems + uptoBulkAll spare + 1
  | .agg parts => uptoBulkAll parts + 1
  | .iface _ d => uptoBulk d + 1
  | .map entries => uptoBulkEntries entries + 1
  | .held _ => 1
def uptoBulkAll {H : Type} : List (DataW H) → Nat
  | [] => 0
  | d :: r => uptoBulk d + uptoBulkAll r
def uptoBulkEntries {H : Type} : List (Lit × DataW H) → Nat
  | [] => 0
  | x :: r => uptoBulkEntry x + uptoBulkEntries r
def uptoBulkEntry {H : Type} : Lit × DataW H → Nat
  | (.string bytes, d) => bytes.length + uptoBulk d + 1
  | (_, d) => uptoBulk d + 1
 end
def uptoSmall : (H : Type) → List (DataW H) → Bool := fun _ ds => decide (uptoBulkAll ds ≤ 1048576)
def OpenSpec.upto (s : _root_.Go.ChangeSpec) : _root_.Go.OpenSpec := { _root_.Go.OpenSpec.ofChange s with cond := some uptoSmall }

/-- 'spoolkeep.Stored', WHERE WHAT IT READS IS OF BULK AT MOST 1048576: true; the input reads as it did. -/
def storedUptoRow : OpenClaim := { program := "ytdpobjgfnhjagaadoor", sum := "129a53e6561ce2557a26f4d8bd8025640d007658a2f83f9fd6b7d65cf8a0325f", func := "spool/spoolkeep.Stored", spec := "stored", unfollowed := true, recurses := true, named := ["spool/codes.order"], apart := false, laid := [("spool/codes.order", laid_spool_codes_order)], narrowed := true }
def StoredUptoSaid : Prop := storedUptoRow.holds Tryd.pinned (OpenSpec.upto storedSpec)

/-- 'spoolkeep.Backed', WHERE WHAT IT READS IS OF BULK AT MOST 1048576: true; the input reads as it did. -/
def backedUptoRow : OpenClaim := { program := "ytdpobjgfnhjagaadoor", sum := "129a53e6561ce2557a26f4d8bd8025640d007658a2f83f9fd6b7d65cf8a0325f", func := "spool/spoolkeep.Backed", spec := "backed", unfollowed := true, recurses := true, named := ["spool/codes.order"], apart := false, laid := [("spool/codes.order", laid_spool_codes_order)], narrowed := true }
def BackedUptoSaid : Prop := backedUptoRow.holds Tryd.pinned (OpenSpec.upto backedSpec)

/-- 'spoolkeep.Small', WHERE WHAT IT READS IS OF BULK AT MOST 1048576: true; the input reads as it did. -/
def smallUptoRow : OpenClaim := { program := "ytdpobjgfnhjagaadoor", sum := "129a53e6561ce2557a26f4d8bd8025640d007658a2f83f9fd6b7d65cf8a0325f", func := "spool/spoolkeep.Small", spec := "small", unfollowed := true, recurses := true, named := ["spool/codes.order"], apart := false, laid := [("spool/codes.order", laid_spool_codes_order)], narrowed := true }
def SmallUptoSaid : Prop := smallUptoRow.holds Tryd.pinned (OpenSpec.upto smallSpec)

end Rows
end Go.Proofs.YtdpobjgfnhjagaaDoor

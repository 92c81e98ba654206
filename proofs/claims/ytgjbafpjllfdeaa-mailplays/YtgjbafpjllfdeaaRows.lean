/-
  No cell of these rows narrows 'for every input' (looked for: loops, veiled, ifaces, maps, wideKeys, modest, calm, conditions, laid).
  DERIVED. THE GIVEN ROWS OF THIS SEAT. 4 by the template 'for every input the law returns true; each argument reads behind the call as it read before'; 0 by the template 'total and deterministic' (their statements: YtgjbafpjllfdeaaTotals.lean).
  GIVEN WITH THE SEED: the statements are not yours to turn. If you find one false, say at which input.
  Laid BY PROGRAM, IN A SANDBOX (cutbox-rows.mjs): the forced cells as the released guide's own fill.sh prints them over the translation de72345c451ebb81… (all of the seat's roots in one cut). By AI agents, Wed Nov 11 2026. No macro, syntax, notation, axiom, sorry.
-/
import Derived.Test.YtgjbafpjllfdeaaChecked
import GoSem.Claim
import GoSem.ClaimJoined
import GoSem.ClaimMapViews
import Derived.JoinedTies
import Derived.KernelRfl
namespace Go.Proofs.Ytgjbafpjllfdeaa
/- THE CELL 'sum', in the pinned program and in every row, IS THE sha256 OF THE DUMP (.gsa) THAT YtgjbafpjllfdeaaProg.lean LOADS. Nothing in Lean hashes anything: it is a label: what it is worth is what the hold of that sum in a sandbox is worth. -/
noncomputable def Try.pinned : Pinned := { name := "ytgjbafpjllfdeaa", sum := "de72345c451ebb812287d4f2842ade539ac3902a69e3fab5f5c02c4b56b56f4a", checked := Try.checked }
namespace Rows
def none {H : Type} : Left H := { results := [], args := [] }

/-- 'tabulariumlaw05.MailPlays': WHATEVER THE INPUT: true; the input reads as it did. -/
def mailPlaysSpec : ChangeSpec := { name := "mailPlays", fn := fun _ => fun
  | [d] => { results := [.lit (.bool true)], args := [d] }
  | _ => none }
def mailPlaysRow : OpenClaim := { program := "ytgjbafpjllfdeaa", sum := "de72345c451ebb812287d4f2842ade539ac3902a69e3fab5f5c02c4b56b56f4a", func := "tabularium/tabulariumlaw05.MailPlays", spec := "mailPlays", unfollowed := true, recurses := true, apart := false }
def MailPlaysSaid : Prop := mailPlaysRow.holds Try.pinned (OpenSpec.ofChange mailPlaysSpec)

/-- ITS FALSE NEIGHBOUR: 'it returns false'. Refute it at one input. -/
def mailPlaysWrong : ChangeSpec := { name := "mailPlays", fn := fun _ => fun
  | [d] => { results := [.lit (.bool false)], args := [d] }
  | _ => none }
def MailPlaysWrongFalsely : Prop := mailPlaysRow.holds Try.pinned (OpenSpec.ofChange mailPlaysWrong)

/-- 'tabulariumlaw05.MailTakes': WHATEVER THE INPUT: true; the input reads as it did. -/
def mailTakesSpec : ChangeSpec := { name := "mailTakes", fn := fun _ => fun
  | [d1, d2] => { results := [.lit (.bool true)], args := [d1, d2] }
  | _ => none }
def mailTakesRow : OpenClaim := { program := "ytgjbafpjllfdeaa", sum := "de72345c451ebb812287d4f2842ade539ac3902a69e3fab5f5c02c4b56b56f4a", func := "tabularium/tabulariumlaw05.MailTakes", spec := "mailTakes", unfollowed := true, recurses := true, apart := false }
def MailTakesSaid : Prop := mailTakesRow.holds Try.pinned (OpenSpec.ofChange mailTakesSpec)

/-- ITS FALSE NEIGHBOUR: 'it returns false'. Refute it at one input. -/
def mailTakesWrong : ChangeSpec := { name := "mailTakes", fn := fun _ => fun
  | [d1, d2] => { results := [.lit (.bool false)], args := [d1, d2] }
  | _ => none }
def MailTakesWrongFalsely : Prop := mailTakesRow.holds Try.pinned (OpenSpec.ofChange mailTakesWrong)

/-- 'tabulariumlaw05.MailAges': WHATEVER THE INPUT: true; the input reads as it did. -/
def mailAgesSpec : ChangeSpec := { name := "mailAges", fn := fun _ => fun
  | [d1, d2] => { results := [.lit (.bool true)], args := [d1, d2] }
  | _ => none }
def mailAgesRow : OpenClaim := { program := "ytgjbafpjllfdeaa", sum := "de72345c451ebb812287d4f2842ade539ac3902a69e3fab5f5c02c4b56b56f4a", func := "tabularium/tabulariumlaw05.MailAges", spec := "mailAges", unfollowed := true, recurses := true, apart := false }
def MailAgesSaid : Prop := mailAgesRow.holds Try.pinned (OpenSpec.ofChange mailAgesSpec)

/-- ITS FALSE NEIGHBOUR: 'it returns false'. Refute it at one input. -/
def mailAgesWrong : ChangeSpec := { name := "mailAges", fn := fun _ => fun
  | [d1, d2] => { results := [.lit (.bool false)], args := [d1, d2] }
  | _ => none }
def MailAgesWrongFalsely : Prop := mailAgesRow.holds Try.pinned (OpenSpec.ofChange mailAgesWrong)

/-- 'tabulariumlaw05.MailTwins': WHATEVER THE INPUT: true; the input reads as it did. -/
def mailTwinsSpec : ChangeSpec := { name := "mailTwins", fn := fun _ => fun
  | [d1, d2] => { results := [.lit (.bool true)], args := [d1, d2] }
  | _ => none }
def mailTwinsRow : OpenClaim := { program := "ytgjbafpjllfdeaa", sum := "de72345c451ebb812287d4f2842ade539ac3902a69e3fab5f5c02c4b56b56f4a", func := "tabularium/tabulariumlaw05.MailTwins", spec := "mailTwins", unfollowed := true, recurses := true, apart := false }
def MailTwinsSaid : Prop := mailTwinsRow.holds Try.pinned (OpenSpec.ofChange mailTwinsSpec)

/-- ITS FALSE NEIGHBOUR: 'it returns false'. Refute it at one input. -/
def mailTwinsWrong : ChangeSpec := { name := "mailTwins", fn := fun _ => fun
  | [d1, d2] => { results := [.lit (.bool false)], args := [d1, d2] }
  | _ => none }
def MailTwinsWrongFalsely : Prop := mailTwinsRow.holds Try.pinned (OpenSpec.ofChange mailTwinsWrong)

/- THE SECOND FORM. 'bulk': how many values and letters a reading holds, each counted each time it is reached (what is shared counts as often as it is met; a slice's spare places count too). A statement '..UptoSaid' is the law's where the arguments, and the package variables that the reading takes, are together of bulk at most 1048576: NARROWER than '..Said'. Prove '..Said' where nothing that the law and all that it calls make is longer than what came in: it says more and counts as full. Else prove '..UptoSaid'. A law counts once. -/
mutual
def uptoBulk {H : Type} : DataW H → Nat
  | .lit (.string bytes) => bytes.length + 1
  | .lit _ => 1
  | .nil => 1
  | .ptr d => uptoBulk d + 1
  | .slice elems spare => uptoBulkAll elems + uptoBulkAll spare + 1
  | .agg parts => uptoBulkAll parts + 1
  | .iface _ d => uptoBulk d + 1
  | .map entries => uptoBulkEntries entries + 1
  | .held _ => 1
def uptoBulkAll {H : Type} : List (DataW H) → Nat
  | [] => 0
  | d :: r => uptoBulk d + uptoBulkAll r
def uptoBulkEntries {H : Type} : List (Lit × DataW H) → Nat
  | [] => 0
  | x :: r => uptoBulkEntry x + uptoBulkEntries r
def uptoBulkEntry {H : Type} : Lit × DataW H → Nat
  | (.string bytes, d) => bytes.length + uptoBulk d + 1
  | (_, d) => uptoBulk d + 1
 end
def uptoSmall : (H : Type) → List (DataW H) → Bool := fun _ ds => decide (uptoBulkAll ds ≤ 1048576)
def OpenSpec.upto (s : _root_.Go.ChangeSpec) : _root_.Go.OpenSpec := { _root_.Go.OpenSpec.ofChange s with cond := some uptoSmall }

/-- 'tabulariumlaw05.MailPlays', WHERE WHAT IT READS IS OF BULK AT MOST 1048576: true; the input reads as it did. -/
def mailPlaysUptoRow : OpenClaim := { program := "ytgjbafpjllfdeaa", sum := "de72345c451ebb812287d4f2842ade539ac3902a69e3fab5f5c02c4b56b56f4a", func := "tabularium/tabulariumlaw05.MailPlays", spec := "mailPlays", unfollowed := true, recurses := true, apart := false, narrowed := true }
def MailPlaysUptoSaid : Prop := mailPlaysUptoRow.holds Try.pinned (OpenSpec.upto mailPlaysSpec)

/-- 'tabulariumlaw05.MailTakes', WHERE WHAT IT READS IS OF BULK AT MOST 1048576: true; the input reads as it did. -/
def mailTakesUptoRow : OpenClaim := { program := "ytgjbafpjllfdeaa", sum := "de72345c451ebb812287d4f2842ade539ac3902a69e3fab5f5c02c4b56b56f4a", func := "tabularium/tabulariumlaw05.MailTakes", spec := "mailTakes", unfollowed := true, recurses := true, apart := false, narrowed := true }
def MailTakesUptoSaid : Prop := mailTakesUptoRow.holds Try.pinned (OpenSpec.upto mailTakesSpec)

/-- 'tabulariumlaw05.MailAges', WHERE WHAT IT READS IS OF BULK AT MOST 1048576: true; the input reads as it did. -/
def mailAgesUptoRow : OpenClaim := { program := "ytgjbafpjllfdeaa", sum := "de72345c451ebb812287d4f2842ade539ac3902a69e3fab5f5c02c4b56b56f4a", func := "tabularium/tabulariumlaw05.MailAges", spec := "mailAges", unfollowed := true, recurses := true, apart := false, narrowed := true }
def MailAgesUptoSaid : Prop := mailAgesUptoRow.holds Try.pinned (OpenSpec.upto mailAgesSpec)

/-- 'tabulariumlaw05.MailTwins', WHERE WHAT IT READS IS OF BULK AT MOST 1048576: true; the input reads as it did. -/
def mailTwinsUptoRow : OpenClaim := { program := "ytgjbafpjllfdeaa", sum := "de72345c451ebb812287d4f2842ade539ac3902a69e3fab5f5c02c4b56b56f4a", func := "tabularium/tabulariumlaw05.MailTwins", spec := "mailTwins", unfollowed := true, recurses := true, apart := false, narrowed := true }
def MailTwinsUptoSaid : Prop := mailTwinsUptoRow.holds Try.pinned (OpenSpec.upto mailTwinsSpec)

end Rows
end Go.Proofs.Ytgjbafpjllfdeaa

/-
  No cell of these rows narrows 'for every input' (looked for: loops, veiled, ifaces, maps, wideKeys, modest, calm, conditions, laid).
  DERIVED. THE GIVEN ROWS OF THIS SEAT. 6 by the template 'for every input the law returns true; each argument reads behind the call as it read before'; 0 by the template 'total and deterministic' (their statements: YtaafombnpngblaaGreatTotals.lean).
  GIVEN WITH THE SEED: the statements are not yours to turn. If you find one false, say at which input.
  Laid BY PROGRAM, IN A SANDBOX (cutbox-rows.mjs): the forced cells as the released guide's own fill.sh prints them over the translation 59719e75dffe2a72… (all of the seat's roots in one cut). By AI agents, Wed Nov 11 2026. No macro, syntax, notation, axiom, sorry.
-/
import Derived.Test.YtaafombnpngblaaGreatChecked
import GoSem.Claim
import GoSem.ClaimJoined
import GoSem.ClaimMapViews
import Derived.JoinedTies
import Derived.KernelRfl
namespace Go.Proofs.YtaafombnpngblaaGreat
/- THE CELL 'sum', in the pinned program and in every row, IS THE sha256 OF THE DUMP (.gsa) THAT YtaafombnpngblaaGreatProg.lean LOADS. Nothing in Lean hashes anything: it is a label: what it is worth is what the hold of that sum in a sandbox is worth. -/
noncomputable def Tryz.pinned : Pinned := { name := "ytaafombnpngblaagreat", sum := "59719e75dffe2a7261b59b5c0f5f3aa764a785db2e8f2096e1c72446a813680c", checked := Tryz.checked }
namespace Rows
def none {H : Type} : Left H := { results := [], args := [] }

/-- 'tabulariumlaw11.SpaceStays': WHATEVER THE INPUT: true; the input reads as it did. -/
def spaceStaysSpec : ChangeSpec := { name := "spaceStays", fn := fun _ => fun
  | [d] => { results := [.lit (.bool true)], args := [d] }
  | _ => none }
def spaceStaysRow : OpenClaim := { program := "ytaafombnpngblaagreat", sum := "59719e75dffe2a7261b59b5c0f5f3aa764a785db2e8f2096e1c72446a813680c", func := "tabularium/tabulariumlaw11.SpaceStays", spec := "spaceStays", inPlace := ["internal/abi.NoEscape", "internal/bytealg.MakeNoZero", "internal/bytealg.abigen_runtime_cmpstring"], unfollowed := true, recurses := true, apart := false }
def SpaceStaysSaid : Prop := spaceStaysRow.holds Tryz.pinned (OpenSpec.ofChange spaceStaysSpec)

/-- ITS FALSE NEIGHBOUR: 'it returns false'. Refute it at one input. -/
def spaceStaysWrong : ChangeSpec := { name := "spaceStays", fn := fun _ => fun
  | [d] => { results := [.lit (.bool false)], args := [d] }
  | _ => none }
def SpaceStaysWrongFalsely : Prop := spaceStaysRow.holds Tryz.pinned (OpenSpec.ofChange spaceStaysWrong)

/-- 'tabulariumlaw11.SpaceFolds': WHATEVER THE INPUT: true; the input reads as it did. -/
def spaceFoldsSpec : ChangeSpec := { name := "spaceFolds", fn := fun _ => fun
  | [d1, d2] => { results := [.lit (.bool true)], args := [d1, d2] }
  | _ => none }
def spaceFoldsRow : OpenClaim := { program := "ytaafombnpngblaagreat", sum := "59719e75dffe2a7261b59b5c0f5f3aa764a785db2e8f2096e1c72446a813680c", func := "tabularium/tabulariumlaw11.SpaceFolds", spec := "spaceFolds", inPlace := ["internal/abi.NoEscape", "internal/bytealg.MakeNoZero", "internal/bytealg.abigen_runtime_cmpstring"], unfollowed := true, recurses := true, apart := false }
def SpaceFoldsSaid : Prop := spaceFoldsRow.holds Tryz.pinned (OpenSpec.ofChange spaceFoldsSpec)

/-- ITS FALSE NEIGHBOUR: 'it returns false'. Refute it at one input. -/
def spaceFoldsWrong : ChangeSpec := { name := "spaceFolds", fn := fun _ => fun
  | [d1, d2] => { results := [.lit (.bool false)], args := [d1, d2] }
  | _ => none }
def SpaceFoldsWrongFalsely : Prop := spaceFoldsRow.holds Tryz.pinned (OpenSpec.ofChange spaceFoldsWrong)

/-- 'tabulariumlaw11.SpaceWrites': WHATEVER THE INPUT: true; the input reads as it did. -/
def spaceWritesSpec : ChangeSpec := { name := "spaceWrites", fn := fun _ => fun
  | [d] => { results := [.lit (.bool true)], args := [d] }
  | _ => none }
def spaceWritesRow : OpenClaim := { program := "ytaafombnpngblaagreat", sum := "59719e75dffe2a7261b59b5c0f5f3aa764a785db2e8f2096e1c72446a813680c", func := "tabularium/tabulariumlaw11.SpaceWrites", spec := "spaceWrites", inPlace := ["internal/abi.NoEscape", "internal/bytealg.MakeNoZero", "internal/bytealg.abigen_runtime_cmpstring"], unfollowed := true, recurses := true, apart := false }
def SpaceWritesSaid : Prop := spaceWritesRow.holds Tryz.pinned (OpenSpec.ofChange spaceWritesSpec)

/-- ITS FALSE NEIGHBOUR: 'it returns false'. Refute it at one input. -/
def spaceWritesWrong : ChangeSpec := { name := "spaceWrites", fn := fun _ => fun
  | [d] => { results := [.lit (.bool false)], args := [d] }
  | _ => none }
def SpaceWritesWrongFalsely : Prop := spaceWritesRow.holds Tryz.pinned (OpenSpec.ofChange spaceWritesWrong)

/-- 'tabulariumlaw11.SpaceMoves': WHATEVER THE INPUT: true; the input reads as it did. -/
def spaceMovesSpec : ChangeSpec := { name := "spaceMoves", fn := fun _ => fun
  | [d1, d2, d3] => { results := [.lit (.bool true)], args := [d1, d2, d3] }
  | _ => none }
def spaceMovesRow : OpenClaim := { program := "ytaafombnpngblaagreat", sum := "59719e75dffe2a7261b59b5c0f5f3aa764a785db2e8f2096e1c72446a813680c", func := "tabularium/tabulariumlaw11.SpaceMoves", spec := "spaceMoves", inPlace := ["internal/abi.NoEscape", "internal/bytealg.MakeNoZero", "internal/bytealg.abigen_runtime_cmpstring"], unfollowed := true, recurses := true, apart := false }
def SpaceMovesSaid : Prop := spaceMovesRow.holds Tryz.pinned (OpenSpec.ofChange spaceMovesSpec)

/-- ITS FALSE NEIGHBOUR: 'it returns false'. Refute it at one input. -/
def spaceMovesWrong : ChangeSpec := { name := "spaceMoves", fn := fun _ => fun
  | [d1, d2, d3] => { results := [.lit (.bool false)], args := [d1, d2, d3] }
  | _ => none }
def SpaceMovesWrongFalsely : Prop := spaceMovesRow.holds Tryz.pinned (OpenSpec.ofChange spaceMovesWrong)

/-- 'tabulariumlaw11.SpaceQuotas': WHATEVER THE INPUT: true; the input reads as it did. -/
def spaceQuotasSpec : ChangeSpec := { name := "spaceQuotas", fn := fun _ => fun
  | [d1, d2, d3] => { results := [.lit (.bool true)], args := [d1, d2, d3] }
  | _ => none }
def spaceQuotasRow : OpenClaim := { program := "ytaafombnpngblaagreat", sum := "59719e75dffe2a7261b59b5c0f5f3aa764a785db2e8f2096e1c72446a813680c", func := "tabularium/tabulariumlaw11.SpaceQuotas", spec := "spaceQuotas", inPlace := ["internal/abi.NoEscape", "internal/bytealg.MakeNoZero", "internal/bytealg.abigen_runtime_cmpstring"], unfollowed := true, recurses := true, apart := false }
def SpaceQuotasSaid : Prop := spaceQuotasRow.holds Tryz.pinned (OpenSpec.ofChange spaceQuotasSpec)

/-- ITS FALSE NEIGHBOUR: 'it returns false'. Refute it at one input. -/
def spaceQuotasWrong : ChangeSpec := { name := "spaceQuotas", fn := fun _ => fun
  | [d1, d2, d3] => { results := [.lit (.bool false)], args := [d1, d2, d3] }
  | _ => none }
def SpaceQuotasWrongFalsely : Prop := spaceQuotasRow.holds Tryz.pinned (OpenSpec.ofChange spaceQuotasWrong)

/-- 'tabulariumlaw11.SpaceLeases': WHATEVER THE INPUT: true; the input reads as it did. -/
def spaceLeasesSpec : ChangeSpec := { name := "spaceLeases", fn := fun _ => fun
  | [d] => { results := [.lit (.bool true)], args := [d] }
  | _ => none }
def spaceLeasesRow : OpenClaim := { program := "ytaafombnpngblaagreat", sum := "59719e75dffe2a7261b59b5c0f5f3aa764a785db2e8f2096e1c72446a813680c", func := "tabularium/tabulariumlaw11.SpaceLeases", spec := "spaceLeases", inPlace := ["internal/abi.NoEscape", "internal/bytealg.MakeNoZero", "internal/bytealg.abigen_runtime_cmpstring"], unfollowed := true, recurses := true, apart := false }
def SpaceLeasesSaid : Prop := spaceLeasesRow.holds Tryz.pinned (OpenSpec.ofChange spaceLeasesSpec)

/-- ITS FALSE NEIGHBOUR: 'it returns false'. Refute it at one input. -/
def spaceLeasesWrong : ChangeSpec := { name := "spaceLeases", fn := fun _ => fun
  | [d] => { results := [.lit (.bool false)], args := [d] }
  | _ => none }
def SpaceLeasesWrongFalsely : Prop := spaceLeasesRow.holds Tryz.pinned (OpenSpec.ofChange spaceLeasesWrong)

/- THE SECOND FORM. 'bulk': how many values and letters a reading holds, each counted each time it is reached (what is shared counts as often as it is met; a slice's spare places count too). A statement '..UptoSaid' is the law's where the arguments, and the package variables that the reading takes, are together of bulk at most 1048576: NARROWER than '..Said'. Prove '..Said' where nothing that the law and all that it calls make is longer than what came in: it says more and counts as full. Else prove '..UptoSaid'. A law counts once. -/
mutual
def uptoBulk {H : Type} : DataW H → Nat
  | .lit (.string bytes) => bytes.length + 1
  | .lit _ => 1
  | .nil => 1
  | .ptr d => uptoBulk d + 1
  | .slice elems spare => uptoBulkAll elems + uptoBulkAll spare + 1
  | .agg parts => uptoBulkAll parts + 1
  | .iface _ d => uptoBulk d + 1
  | .map entries => uptoBulkEntries entries + 1
  | .held _ => 1
def uptoBulkAll {H : Type} : List (DataW H) → Nat
  | [] => 0
  | d :: r => uptoBulk d + uptoBulkAll r
def uptoBulkEntries {H : Type} : List (Lit × DataW H) → Nat
  | [] => 0
  | x :: r => uptoBulkEntry x + uptoBulkEntries r
def uptoBulkEntry {H : Type} : Lit × DataW H → Nat
  | (.string bytes, d) => bytes.length + uptoBulk d + 1
  | (_, d) => uptoBulk d + 1
 end
def uptoSmall : (H : Type) → List (DataW H) → Bool := fun _ ds => decide (uptoBulkAll ds ≤ 1048576)
def OpenSpec.upto (s : _root_.Go.ChangeSpec) : _root_.Go.OpenSpec := { _root_.Go.OpenSpec.ofChange s with cond := some uptoSmall }

/-- 'tabulariumlaw11.SpaceStays', WHERE WHAT IT READS IS OF BULK AT MOST 1048576: true; the input reads as it did. -/
def spaceStaysUptoRow : OpenClaim := { program := "ytaafombnpngblaagreat", sum := "59719e75dffe2a7261b59b5c0f5f3aa764a785db2e8f2096e1c72446a813680c", func := "tabularium/tabulariumlaw11.SpaceStays", spec := "spaceStays", inPlace := ["internal/abi.NoEscape", "internal/bytealg.MakeNoZero", "internal/bytealg.abigen_runtime_cmpstring"], unfollowed := true, recurses := true, apart := false, narrowed := true }
def SpaceStaysUptoSaid : Prop := spaceStaysUptoRow.holds Tryz.pinned (OpenSpec.upto spaceStaysSpec)

/-- 'tabulariumlaw11.SpaceFolds', WHERE WHAT IT READS IS OF BULK AT MOST 1048576: true; the input reads as it did. -/
def spaceFoldsUptoRow : OpenClaim := { program := "ytaafombnpngblaagreat", sum := "59719e75dffe2a7261b59b5c0f5f3aa764a785db2e8f2096e1c72446a813680c", func := "tabularium/tabulariumlaw11.SpaceFolds", spec := "spaceFolds", inPlace := ["internal/abi.NoEscape", "internal/bytealg.MakeNoZero", "internal/bytealg.abigen_runtime_cmpstring"], unfollowed := true, recurses := true, apart := false, narrowed := true }
def SpaceFoldsUptoSaid : Prop := spaceFoldsUptoRow.holds Tryz.pinned (OpenSpec.upto spaceFoldsSpec)

/-- 'tabulariumlaw11.SpaceWrites', WHERE WHAT IT READS IS OF BULK AT MOST 1048576: true; the input reads as it did. -/
def spaceWritesUptoRow : OpenClaim := { program := "ytaafombnpngblaagreat", sum := "59719e75dffe2a7261b59b5c0f5f3aa764a785db2e8f2096e1c72446a813680c", func := "tabularium/tabulariumlaw11.SpaceWrites", spec := "spaceWrites", inPlace := ["internal/abi.NoEscape", "internal/bytealg.MakeNoZero", "internal/bytealg.abigen_runtime_cmpstring"], unfollowed := true, recurses := true, apart := false, narrowed := true }
def SpaceWritesUptoSaid : Prop := spaceWritesUptoRow.holds Tryz.pinned (OpenSpec.upto spaceWritesSpec)

/-- 'tabulariumlaw11.SpaceMoves', WHERE WHAT IT READS IS OF BULK AT MOST 1048576: true; the input reads as it did. -/
def spaceMovesUptoRow : OpenClaim := { program := "ytaafombnpngblaagreat", sum := "59719e75dffe2a7261b59b5c0f5f3aa764a785db2e8f2096e1c72446a813680c", func := "tabularium/tabulariumlaw11.SpaceMoves", spec := "spaceMoves", inPlace := ["internal/abi.NoEscape", "internal/bytealg.MakeNoZero", "internal/bytealg.abigen_runtime_cmpstring"], unfollowed := true, recurses := true, apart := false, narrowed := true }
def SpaceMovesUptoSaid : Prop := spaceMovesUptoRow.holds Tryz.pinned (OpenSpec.upto spaceMovesSpec)

/-- 'tabulariumlaw11.SpaceQuotas', WHERE WHAT IT READS IS OF BULK AT MOST 1048576: true; the input reads as it did. -/
def spaceQuotasUptoRow : OpenClaim := { program := "ytaafombnpngblaagreat", sum := "59719e75dffe2a7261b59b5c0f5f3aa764a785db2e8f2096e1c72446a813680c", func := "tabularium/tabulariumlaw11.SpaceQuotas", spec := "spaceQuotas", inPlace := ["internal/abi.NoEscape", "internal/bytealg.MakeNoZero", "internal/bytealg.abigen_runtime_cmpstring"], unfollowed := true, recurses := true, apart := false, narrowed := true }
def SpaceQuotasUptoSaid : Prop := spaceQuotasUptoRow.holds Tryz.pinned (OpenSpec.upto spaceQuotasSpec)

/-- 'tabulariumlaw11.SpaceLeases', WHERE WHAT IT READS IS OF BULK AT MOST 1048576: true; the input reads as it did. -/
def spaceLeasesUptoRow : OpenClaim := { program := "ytaafombnpngblaagreat", sum := "59719e75dffe2a7261b59b5c0f5f3aa764a785db2e8f2096e1c72446a813680c", func := "tabularium/tabulariumlaw11.SpaceLeases", spec := "spaceLeases", inPlace := ["internal/abi.NoEscape", "internal/bytealg.MakeNoZero", "internal/bytealg.abigen_runtime_cmpstring"], unfollowed := true, recurses := true, apart := false, narrowed := true }
def SpaceLeasesUptoSaid : Prop := spaceLeasesUptoRow.holds Tryz.pinned (OpenSpec.upto spaceLeasesSpec)

end Rows
end Go.Proofs.YtaafombnpngblaaGreat

/-
  NARROWER THAN 'FOR EVERY INPUT', by the rows' own cells (each row's printed sentence says how): StorePlays: loops · StoreCopy: loops · SolvePlays: loops · SolveSound: loops · SolveComplete: loops · SolveBoth: loops · SolveClosed: loops · SolveDyn: loops.
  DERIVED. THE GIVEN ROWS OF THIS SEAT. 8 by the template 'for every input the law returns true; each argument reads behind the call as it read before'; 0 by the template 'total and deterministic' (their statements: YteolbbgnkbcfmaaTotals.lean).
  GIVEN WITH THE SEED: the statements are not yours to turn. If you find one false, say at which input.
  Laid BY PROGRAM, IN A SANDBOX (cutbox-rows.mjs): the forced cells as the released guide's own fill.sh prints them over the translation b5ef4c2e615b0cb5… (all of the seat's roots in one cut). By AI agents, Wed Nov 11 2026. No macro, syntax, notation, axiom, sorry.
-/
import Derived.Test.YteolbbgnkbcfmaaChecked
import GoSem.Claim
import GoSem.ClaimJoined
import GoSem.ClaimMapViews
import Derived.JoinedTies
import Derived.KernelRfl
namespace Go.Proofs.Yteolbbgnkbcfmaa
/- THE CELL 'sum', in the pinned program and in every row, IS THE sha256 OF THE DUMP (.gsa) THAT YteolbbgnkbcfmaaProg.lean LOADS. Nothing in Lean hashes anything: it is a label: what it is worth is what the hold of that sum in a sandbox is worth. -/
noncomputable def Try.pinned : Pinned := { name := "yteolbbgnkbcfmaa", sum := "b5ef4c2e615b0cb50f1f2de9ac4752e2ca065ae543e1a0cfc5f219050196eff5", checked := Try.checked }
namespace Rows
def none {H : Type} : Left H := { results := [], args := [] }

/-- 'suretylaw12.StorePlays': WHATEVER THE INPUT: true; the input reads as it did. -/
def storePlaysSpec : ChangeSpec := { name := "storePlays", fn := fun _ => fun
  | [d1, d2] => { results := [.lit (.bool true)], args := [d1, d2] }
  | _ => none }
def storePlaysRow : OpenClaim := { program := "yteolbbgnkbcfmaa", sum := "b5ef4c2e615b0cb50f1f2de9ac4752e2ca065ae543e1a0cfc5f219050196eff5", func := "surety/suretylaw12.StorePlays", spec := "storePlays", unfollowed := true, recurses := true, loops := true, plainKeys := false, apart := false }
def StorePlaysSaid : Prop := storePlaysRow.holds Try.pinned (OpenSpec.ofChange storePlaysSpec)

/-- ITS FALSE NEIGHBOUR: 'it returns false'. Refute it at one input. -/
def storePlaysWrong : ChangeSpec := { name := "storePlays", fn := fun _ => fun
  | [d1, d2] => { results := [.lit (.bool false)], args := [d1, d2] }
  | _ => none }
def StorePlaysWrongFalsely : Prop := storePlaysRow.holds Try.pinned (OpenSpec.ofChange storePlaysWrong)

/-- 'suretylaw12.StoreCopy': WHATEVER THE INPUT: true; the input reads as it did. -/
def storeCopySpec : ChangeSpec := { name := "storeCopy", fn := fun _ => fun
  | [d1, d2] => { results := [.lit (.bool true)], args := [d1, d2] }
  | _ => none }
def storeCopyRow : OpenClaim := { program := "yteolbbgnkbcfmaa", sum := "b5ef4c2e615b0cb50f1f2de9ac4752e2ca065ae543e1a0cfc5f219050196eff5", func := "surety/suretylaw12.StoreCopy", spec := "storeCopy", unfollowed := true, recurses := true, loops := true, plainKeys := false, apart := false }
def StoreCopySaid : Prop := storeCopyRow.holds Try.pinned (OpenSpec.ofChange storeCopySpec)

/-- ITS FALSE NEIGHBOUR: 'it returns false'. Refute it at one input. -/
def storeCopyWrong : ChangeSpec := { name := "storeCopy", fn := fun _ => fun
  | [d1, d2] => { results := [.lit (.bool false)], args := [d1, d2] }
  | _ => none }
def StoreCopyWrongFalsely : Prop := storeCopyRow.holds Try.pinned (OpenSpec.ofChange storeCopyWrong)

/-- 'suretylaw13.SolvePlays': WHATEVER THE INPUT: true; the input reads as it did. -/
def solvePlaysSpec : ChangeSpec := { name := "solvePlays", fn := fun _ => fun
  | [d1, d2, d3] => { results := [.lit (.bool true)], args := [d1, d2, d3] }
  | _ => none }
def solvePlaysRow : OpenClaim := { program := "yteolbbgnkbcfmaa", sum := "b5ef4c2e615b0cb50f1f2de9ac4752e2ca065ae543e1a0cfc5f219050196eff5", func := "surety/suretylaw13.SolvePlays", spec := "solvePlays", unfollowed := true, recurses := true, loops := true, plainKeys := false, apart := false }
def SolvePlaysSaid : Prop := solvePlaysRow.holds Try.pinned (OpenSpec.ofChange solvePlaysSpec)

/-- ITS FALSE NEIGHBOUR: 'it returns false'. Refute it at one input. -/
def solvePlaysWrong : ChangeSpec := { name := "solvePlays", fn := fun _ => fun
  | [d1, d2, d3] => { results := [.lit (.bool false)], args := [d1, d2, d3] }
  | _ => none }
def SolvePlaysWrongFalsely : Prop := solvePlaysRow.holds Try.pinned (OpenSpec.ofChange solvePlaysWrong)

/-- 'suretylaw13.SolveSound': WHATEVER THE INPUT: true; the input reads as it did. -/
def solveSoundSpec : ChangeSpec := { name := "solveSound", fn := fun _ => fun
  | [d1, d2] => { results := [.lit (.bool true)], args := [d1, d2] }
  | _ => none }
def solveSoundRow : OpenClaim := { program := "yteolbbgnkbcfmaa", sum := "b5ef4c2e615b0cb50f1f2de9ac4752e2ca065ae543e1a0cfc5f219050196eff5", func := "surety/suretylaw13.SolveSound", spec := "solveSound", unfollowed := true, recurses := true, loops := true, plainKeys := false, apart := false }
def SolveSoundSaid : Prop := solveSoundRow.holds Try.pinned (OpenSpec.ofChange solveSoundSpec)

/-- ITS FALSE NEIGHBOUR: 'it returns false'. Refute it at one input. -/
def solveSoundWrong : ChangeSpec := { name := "solveSound", fn := fun _ => fun
  | [d1, d2] => { results := [.lit (.bool false)], args := [d1, d2] }
  | _ => none }
def SolveSoundWrongFalsely : Prop := solveSoundRow.holds Try.pinned (OpenSpec.ofChange solveSoundWrong)

/-- 'suretylaw13.SolveComplete': WHATEVER THE INPUT: true; the input reads as it did. -/
def solveCompleteSpec : ChangeSpec := { name := "solveComplete", fn := fun _ => fun
  | [d1, d2] => { results := [.lit (.bool true)], args := [d1, d2] }
  | _ => none }
def solveCompleteRow : OpenClaim := { program := "yteolbbgnkbcfmaa", sum := "b5ef4c2e615b0cb50f1f2de9ac4752e2ca065ae543e1a0cfc5f219050196eff5", func := "surety/suretylaw13.SolveComplete", spec := "solveComplete", unfollowed := true, recurses := true, loops := true, plainKeys := false, apart := false }
def SolveCompleteSaid : Prop := solveCompleteRow.holds Try.pinned (OpenSpec.ofChange solveCompleteSpec)

/-- ITS FALSE NEIGHBOUR: 'it returns false'. Refute it at one input. -/
def solveCompleteWrong : ChangeSpec := { name := "solveComplete", fn := fun _ => fun
  | [d1, d2] => { results := [.lit (.bool false)], args := [d1, d2] }
  | _ => none }
def SolveCompleteWrongFalsely : Prop := solveCompleteRow.holds Try.pinned (OpenSpec.ofChange solveCompleteWrong)

/-- 'suretylaw13.SolveBoth': WHATEVER THE INPUT: true; the input reads as it did. -/
def solveBothSpec : ChangeSpec := { name := "solveBoth", fn := fun _ => fun
  | [d1, d2] => { results := [.lit (.bool true)], args := [d1, d2] }
  | _ => none }
def solveBothRow : OpenClaim := { program := "yteolbbgnkbcfmaa", sum := "b5ef4c2e615b0cb50f1f2de9ac4752e2ca065ae543e1a0cfc5f219050196eff5", func := "surety/suretylaw13.SolveBoth", spec := "solveBoth", unfollowed := true, recurses := true, loops := true, plainKeys := false, apart := false }
def SolveBothSaid : Prop := solveBothRow.holds Try.pinned (OpenSpec.ofChange solveBothSpec)

/-- ITS FALSE NEIGHBOUR: 'it returns false'. Refute it at one input. -/
def solveBothWrong : ChangeSpec := { name := "solveBoth", fn := fun _ => fun
  | [d1, d2] => { results := [.lit (.bool false)], args := [d1, d2] }
  | _ => none }
def SolveBothWrongFalsely : Prop := solveBothRow.holds Try.pinned (OpenSpec.ofChange solveBothWrong)

/-- 'suretylaw13.SolveClosed': WHATEVER THE INPUT: true; the input reads as it did. -/
def solveClosedSpec : ChangeSpec := { name := "solveClosed", fn := fun _ => fun
  | [d1, d2] => { results := [.lit (.bool true)], args := [d1, d2] }
  | _ => none }
def solveClosedRow : OpenClaim := { program := "yteolbbgnkbcfmaa", sum := "b5ef4c2e615b0cb50f1f2de9ac4752e2ca065ae543e1a0cfc5f219050196eff5", func := "surety/suretylaw13.SolveClosed", spec := "solveClosed", unfollowed := true, recurses := true, loops := true, plainKeys := false, apart := false }
def SolveClosedSaid : Prop := solveClosedRow.holds Try.pinned (OpenSpec.ofChange solveClosedSpec)

/-- ITS FALSE NEIGHBOUR: 'it returns false'. Refute it at one input. -/
def solveClosedWrong : ChangeSpec := { name := "solveClosed", fn := fun _ => fun
  | [d1, d2] => { results := [.lit (.bool false)], args := [d1, d2] }
  | _ => none }
def SolveClosedWrongFalsely : Prop := solveClosedRow.holds Try.pinned (OpenSpec.ofChange solveClosedWrong)

/-- 'suretylaw13.SolveDyn': WHATEVER THE INPUT: true; the input reads as it did. -/
def solveDynSpec : ChangeSpec := { name := "solveDyn", fn := fun _ => fun
  | [d1, d2, d3] => { results := [.lit (.bool true)], args := [d1, d2, d3] }
  | _ => none }
def solveDynRow : OpenClaim := { program := "yteolbbgnkbcfmaa", sum := "b5ef4c2e615b0cb50f1f2de9ac4752e2ca065ae543e1a0cfc5f219050196eff5", func := "surety/suretylaw13.SolveDyn", spec := "solveDyn", unfollowed := true, recurses := true, loops := true, plainKeys := false, apart := false }
def SolveDynSaid : Prop := solveDynRow.holds Try.pinned (OpenSpec.ofChange solveDynSpec)

/-- ITS FALSE NEIGHBOUR: 'it returns false'. Refute it at one input. -/
def solveDynWrong : ChangeSpec := { name := "solveDyn", fn := fun _ => fun
  | [d1, d2, d3] => { results := [.lit (.bool false)], args := [d1, d2, d3] }
  | _ => none }
def SolveDynWrongFalsely : Prop := solveDynRow.holds Try.pinned (OpenSpec.ofChange solveDynWrong)

/- THE SECOND FORM. 'bulk': how many values and letters a reading holds, each counted each time it is reached (what is shared counts as often as it is met; a slice's spare places count too). A statement '..UptoSaid' is the law's where the arguments, and the package variables that the reading takes, are together of bulk at most 1048576: NARROWER than '..Said'. Prove '..Said' where nothing that the law and all that it calls make is longer than what came in: it says more and counts as full. Else prove '..UptoSaid'. A law counts once. -/
mutual
def uptoBulk {H : Type} : DataW H → Nat
  | .lit (.string bytes) => bytes.length + 1
  | .lit _ => 1
  | .nil => 1
  | .ptr d => uptoBulk d + 1
  | .slice elems spare => uptoBulkAll elems + uptoBulkAll spare + 1
  | .agg parts => uptoBulkAll parts + 1
  | .iface _ d => uptoBulk d + 1
  | .map entries => uptoBulkEntries entries + 1
  | .held _ => 1
def uptoBulkAll {H : Type} : List (DataW H) → Nat
  | [] => 0
  | d :: r => uptoBulk d + uptoBulkAll r
def uptoBulkEntries {H : Type} : List (Lit × DataW H) → Nat
  | [] => 0
  | x :: r => uptoBulkEntry x + uptoBulkEntries r
def uptoBulkEntry {H : Type} : Lit × DataW H → Nat
  | (.string bytes, d) => bytes.length + uptoBulk d + 1
  | (_, d) => uptoBulk d + 1
 end
def uptoSmall : (H : Type) → List (DataW H) → Bool := fun _ ds => decide (uptoBulkAll ds ≤ 1048576)
def OpenSpec.upto (s : _root_.Go.ChangeSpec) : _root_.Go.OpenSpec := { _root_.Go.OpenSpec.ofChange s with cond := some uptoSmall }

/-- 'suretylaw12.StorePlays', WHERE WHAT IT READS IS OF BULK AT MOST 1048576: true; the input reads as it did. -/
def storePlaysUptoRow : OpenClaim := { program := "yteolbbgnkbcfmaa", sum := "b5ef4c2e615b0cb50f1f2de9ac4752e2ca065ae543e1a0cfc5f219050196eff5", func := "surety/suretylaw12.StorePlays", spec := "storePlays", unfollowed := true, recurses := true, loops := true, plainKeys := false, apart := false, narrowed := true }
def StorePlaysUptoSaid : Prop := storePlaysUptoRow.holds Try.pinned (OpenSpec.upto storePlaysSpec)

/-- 'suretylaw12.StoreCopy', WHERE WHAT IT READS IS OF BULK AT MOST 1048576: true; the input reads as it did. -/
def storeCopyUptoRow : OpenClaim := { program := "yteolbbgnkbcfmaa", sum := "b5ef4c2e615b0cb50f1f2de9ac4752e2ca065ae543e1a0cfc5f219050196eff5", func := "surety/suretylaw12.StoreCopy", spec := "storeCopy", unfollowed := true, recurses := true, loops := true, plainKeys := false, apart := false, narrowed := true }
def StoreCopyUptoSaid : Prop := storeCopyUptoRow.holds Try.pinned (OpenSpec.upto storeCopySpec)

/-- 'suretylaw13.SolvePlays', WHERE WHAT IT READS IS OF BULK AT MOST 1048576: true; the input reads as it did. -/
def solvePlaysUptoRow : OpenClaim := { program := "yteolbbgnkbcfmaa", sum := "b5ef4c2e615b0cb50f1f2de9ac4752e2ca065ae543e1a0cfc5f219050196eff5", func := "surety/suretylaw13.SolvePlays", spec := "solvePlays", unfollowed := true, recurses := true, loops := true, plainKeys := false, apart := false, narrowed := true }
def SolvePlaysUptoSaid : Prop := solvePlaysUptoRow.holds Try.pinned (OpenSpec.upto solvePlaysSpec)

/-- 'suretylaw13.SolveSound', WHERE WHAT IT READS IS OF BULK AT MOST 1048576: true; the input reads as it did. -/
def solveSoundUptoRow : OpenClaim := { program := "yteolbbgnkbcfmaa", sum := "b5ef4c2e615b0cb50f1f2de9ac4752e2ca065ae543e1a0cfc5f219050196eff5", func := "surety/suretylaw13.SolveSound", spec := "solveSound", unfollowed := true, recurses := true, loops := true, plainKeys := false, apart := false, narrowed := true }
def SolveSoundUptoSaid : Prop := solveSoundUptoRow.holds Try.pinned (OpenSpec.upto solveSoundSpec)

/-- 'suretylaw13.SolveComplete', WHERE WHAT IT READS IS OF BULK AT MOST 1048576: true; the input reads as it did. -/
def solveCompleteUptoRow : OpenClaim := { program := "yteolbbgnkbcfmaa", sum := "b5ef4c2e615b0cb50f1f2de9ac4752e2ca065ae543e1a0cfc5f219050196eff5", func := "surety/suretylaw13.SolveComplete", spec := "solveComplete", unfollowed := true, recurses := true, loops := true, plainKeys := false, apart := false, narrowed := true }
def SolveCompleteUptoSaid : Prop := solveCompleteUptoRow.holds Try.pinned (OpenSpec.upto solveCompleteSpec)

/-- 'suretylaw13.SolveBoth', WHERE WHAT IT READS IS OF BULK AT MOST 1048576: true; the input reads as it did. -/
def solveBothUptoRow : OpenClaim := { program := "yteolbbgnkbcfmaa", sum := "b5ef4c2e615b0cb50f1f2de9ac4752e2ca065ae543e1a0cfc5f219050196eff5", func := "surety/suretylaw13.SolveBoth", spec := "solveBoth", unfollowed := true, recurses := true, loops := true, plainKeys := false, apart := false, narrowed := true }
def SolveBothUptoSaid : Prop := solveBothUptoRow.holds Try.pinned (OpenSpec.upto solveBothSpec)

/-- 'suretylaw13.SolveClosed', WHERE WHAT IT READS IS OF BULK AT MOST 1048576: true; the input reads as it did. -/
def solveClosedUptoRow : OpenClaim := { program := "yteolbbgnkbcfmaa", sum := "b5ef4c2e615b0cb50f1f2de9ac4752e2ca065ae543e1a0cfc5f219050196eff5", func := "surety/suretylaw13.SolveClosed", spec := "solveClosed", unfollowed := true, recurses := true, loops := true, plainKeys := false, apart := false, narrowed := true }
def SolveClosedUptoSaid : Prop := solveClosedUptoRow.holds Try.pinned (OpenSpec.upto solveClosedSpec)

/-- 'suretylaw13.SolveDyn', WHERE WHAT IT READS IS OF BULK AT MOST 1048576: true; the input reads as it did. -/
def solveDynUptoRow : OpenClaim := { program := "yteolbbgnkbcfmaa", sum := "b5ef4c2e615b0cb50f1f2de9ac4752e2ca065ae543e1a0cfc5f219050196eff5", func := "surety/suretylaw13.SolveDyn", spec := "solveDyn", unfollowed := true, recurses := true, loops := true, plainKeys := false, apart := false, narrowed := true }
def SolveDynUptoSaid : Prop := solveDynUptoRow.holds Try.pinned (OpenSpec.upto solveDynSpec)

end Rows
end Go.Proofs.Yteolbbgnkbcfmaa

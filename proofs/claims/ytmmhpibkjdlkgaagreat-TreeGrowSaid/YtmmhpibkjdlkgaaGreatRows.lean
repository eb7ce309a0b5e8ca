/-
  NARROWER THAN 'FOR EVERY INPUT', by the rows' own cells (each row's printed sentence says how): TreeExact: loops · TreeWith: loops · TreePats: loops · TreeBare: loops · TreeFree: loops · TreeGrow: loops.
  DERIVED. THE GIVEN ROWS OF THIS SEAT. 6 by the template 'for every input the law returns true; each argument reads behind the call as it read before'; 0 by the template 'total and deterministic' (their statements: YtmmhpibkjdlkgaaGreatTotals.lean).
  GIVEN WITH THE SEED: the statements are not yours to turn. If you find one false, say at which input.
  Laid BY PROGRAM, IN A SANDBOX (cutbox-rows.mjs): the forced cells as the released guide's own fill.sh prints them over the translation c4859dc23bc268d8… (all of the seat's roots in one cut). By AI agents, Wed Nov 11 2026. No macro, syntax, notation, axiom, sorry.
-/
import Derived.Test.YtmmhpibkjdlkgaaGreatChecked
import GoSem.Claim
import GoSem.ClaimJoined
import GoSem.ClaimMapViews
import Derived.JoinedTies
import Derived.KernelRfl
namespace Go.Proofs.YtmmhpibkjdlkgaaGreat
/- THE CELL 'sum', in the pinned program and in every row, IS THE sha256 OF THE DUMP (.gsa) THAT YtmmhpibkjdlkgaaGreatProg.lean LOADS. Nothing in Lean hashes anything: it is a label: what it is worth is what the hold of that sum in a sandbox is worth. -/
noncomputable def Tryz.pinned : Pinned := { name := "ytmmhpibkjdlkgaagreat", sum := "c4859dc23bc268d848ab716fbd7d4625f667b995c7bc09a0942d84cb29e4aa83", checked := Tryz.checked }
namespace Rows
def none {H : Type} : Left H := { results := [], args := [] }

/-- 'suretylaw05.TreeExact': WHATEVER THE INPUT: true; the input reads as it did. -/
def treeExactSpec : ChangeSpec := { name := "treeExact", fn := fun _ => fun
  | [d1, d2] => { results := [.lit (.bool true)], args := [d1, d2] }
  | _ => none }
def treeExactRow : OpenClaim := { program := "ytmmhpibkjdlkgaagreat", sum := "c4859dc23bc268d848ab716fbd7d4625f667b995c7bc09a0942d84cb29e4aa83", func := "surety/suretylaw05.TreeExact", spec := "treeExact", unfollowed := true, recurses := true, loops := true, apart := false }
def TreeExactSaid : Prop := treeExactRow.holds Tryz.pinned (OpenSpec.ofChange treeExactSpec)

/-- ITS FALSE NEIGHBOUR: 'it returns false'. Refute it at one input. -/
def treeExactWrong : ChangeSpec := { name := "treeExact", fn := fun _ => fun
  | [d1, d2] => { results := [.lit (.bool false)], args := [d1, d2] }
  | _ => none }
def TreeExactWrongFalsely : Prop := treeExactRow.holds Tryz.pinned (OpenSpec.ofChange treeExactWrong)

/-- 'suretylaw05.TreeWith': WHATEVER THE INPUT: true; the input reads as it did. -/
def treeWithSpec : ChangeSpec := { name := "treeWith", fn := fun _ => fun
  | [d1, d2] => { results := [.lit (.bool true)], args := [d1, d2] }
  | _ => none }
def treeWithRow : OpenClaim := { program := "ytmmhpibkjdlkgaagreat", sum := "c4859dc23bc268d848ab716fbd7d4625f667b995c7bc09a0942d84cb29e4aa83", func := "surety/suretylaw05.TreeWith", spec := "treeWith", unfollowed := true, recurses := true, loops := true, apart := false }
def TreeWithSaid : Prop := treeWithRow.holds Tryz.pinned (OpenSpec.ofChange treeWithSpec)

/-- ITS FALSE NEIGHBOUR: 'it returns false'. Refute it at one input. -/
def treeWithWrong : ChangeSpec := { name := "treeWith", fn := fun _ => fun
  | [d1, d2] => { results := [.lit (.bool false)], args := [d1, d2] }
  | _ => none }
def TreeWithWrongFalsely : Prop := treeWithRow.holds Tryz.pinned (OpenSpec.ofChange treeWithWrong)

/-- 'suretylaw05.TreePats': WHATEVER THE INPUT: true; the input reads as it did. -/
def treePatsSpec : ChangeSpec := { name := "treePats", fn := fun _ => fun
  | [d1, d2] => { results := [.lit (.bool true)], args := [d1, d2] }
  | _ => none }
def treePatsRow : OpenClaim := { program := "ytmmhpibkjdlkgaagreat", sum := "c4859dc23bc268d848ab716fbd7d4625f667b995c7bc09a0942d84cb29e4aa83", func := "surety/suretylaw05.TreePats", spec := "treePats", unfollowed := true, recurses := true, loops := true, apart := false }
def TreePatsSaid : Prop := treePatsRow.holds Tryz.pinned (OpenSpec.ofChange treePatsSpec)

/-- ITS FALSE NEIGHBOUR: 'it returns false'. Refute it at one input. -/
def treePatsWrong : ChangeSpec := { name := "treePats", fn := fun _ => fun
  | [d1, d2] => { results := [.lit (.bool false)], args := [d1, d2] }
  | _ => none }
def TreePatsWrongFalsely : Prop := treePatsRow.holds Tryz.pinned (OpenSpec.ofChange treePatsWrong)

/-- 'suretylaw05.TreeBare': WHATEVER THE INPUT: true; the input reads as it did. -/
def treeBareSpec : ChangeSpec := { name := "treeBare", fn := fun _ => fun
  | [d1, d2] => { results := [.lit (.bool true)], args := [d1, d2] }
  | _ => none }
def treeBareRow : OpenClaim := { program := "ytmmhpibkjdlkgaagreat", sum := "c4859dc23bc268d848ab716fbd7d4625f667b995c7bc09a0942d84cb29e4aa83", func := "surety/suretylaw05.TreeBare", spec := "treeBare", unfollowed := true, recurses := true, loops := true, apart := false }
def TreeBareSaid : Prop := treeBareRow.holds Tryz.pinned (OpenSpec.ofChange treeBareSpec)

/-- ITS FALSE NEIGHBOUR: 'it returns false'. Refute it at one input. -/
def treeBareWrong : ChangeSpec := { name := "treeBare", fn := fun _ => fun
  | [d1, d2] => { results := [.lit (.bool false)], args := [d1, d2] }
  | _ => none }
def TreeBareWrongFalsely : Prop := treeBareRow.holds Tryz.pinned (OpenSpec.ofChange treeBareWrong)

/-- 'suretylaw05.TreeFree': WHATEVER THE INPUT: true; the input reads as it did. -/
def treeFreeSpec : ChangeSpec := { name := "treeFree", fn := fun _ => fun
  | [d1, d2, d3] => { results := [.lit (.bool true)], args := [d1, d2, d3] }
  | _ => none }
def treeFreeRow : OpenClaim := { program := "ytmmhpibkjdlkgaagreat", sum := "c4859dc23bc268d848ab716fbd7d4625f667b995c7bc09a0942d84cb29e4aa83", func := "surety/suretylaw05.TreeFree", spec := "treeFree", unfollowed := true, recurses := true, loops := true, apart := false }
def TreeFreeSaid : Prop := treeFreeRow.holds Tryz.pinned (OpenSpec.ofChange treeFreeSpec)

/-- ITS FALSE NEIGHBOUR: 'it returns false'. Refute it at one input. -/
def treeFreeWrong : ChangeSpec := { name := "treeFree", fn := fun _ => fun
  | [d1, d2, d3] => { results := [.lit (.bool false)], args := [d1, d2, d3] }
  | _ => none }
def TreeFreeWrongFalsely : Prop := treeFreeRow.holds Tryz.pinned (OpenSpec.ofChange treeFreeWrong)

/-- 'suretylaw05.TreeGrow': WHATEVER THE INPUT: true; the input reads as it did. -/
def treeGrowSpec : ChangeSpec := { name := "treeGrow", fn := fun _ => fun
  | [d1, d2] => { results := [.lit (.bool true)], args := [d1, d2] }
  | _ => none }
def treeGrowRow : OpenClaim := { program := "ytmmhpibkjdlkgaagreat", sum := "c4859dc23bc268d848ab716fbd7d4625f667b995c7bc09a0942d84cb29e4aa83", func := "surety/suretylaw05.TreeGrow", spec := "treeGrow", unfollowed := true, recurses := true, loops := true, apart := false }
def TreeGrowSaid : Prop := treeGrowRow.holds Tryz.pinned (OpenSpec.ofChange treeGrowSpec)

/-- ITS FALSE NEIGHBOUR: 'it returns false'. Refute it at one input. -/
def treeGrowWrong : ChangeSpec := { name := "treeGrow", fn := fun _ => fun
  | [d1, d2] => { results := [.lit (.bool false)], args := [d1, d2] }
  | _ => none }
def TreeGrowWrongFalsely : Prop := treeGrowRow.holds Tryz.pinned (OpenSpec.ofChange treeGrowWrong)

/- THE SECOND FORM. 'bulk': how many values and letters a reading holds, each counted each time it is reached (what is shared counts as often as it is met; a slice's spare places count too). A statement '..UptoSaid' is the law's where the arguments, and the package variables that the reading takes, are together of bulk at most 1048576: NARROWER than '..Said'. Prove '..Said' where nothing that the law and all that it calls make is longer than what came in: it says more and counts as full. Else prove '..UptoSaid'. A law counts once. -/
mutual
def uptoBulk {H : Type} : DataW H → Nat
  | .lit (.string bytes) => bytes.length + 1
  | .lit _ => 1
  | .nil => 1
  | .ptr d => uptoBulk d + 1
  | .slice elems spare => uptoBulkAll elems + uptoBulkAll spare + 1
  | .agg parts => uptoBulkAll parts + 1
  | .iface _ d => uptoBulk d + 1
  | .map entries => uptoBulkEntries entries + 1
  | .held _ => 1
def uptoBulkAll {H : Type} : List (DataW H) → Nat
  | [] => 0
  | d :: r => uptoBulk d + uptoBulkAll r
def uptoBulkEntries {H : Type} : List (Lit × DataW H) → Nat
  | [] => 0
  | x :: r => uptoBulkEntry x + uptoBulkEntries r
def uptoBulkEntry {H : Type} : Lit × DataW H → Nat
  | (.string bytes, d) => bytes.length + uptoBulk d + 1
  | (_, d) => uptoBulk d + 1
 end
def uptoSmall : (H : Type) → List (DataW H) → Bool := fun _ ds => decide (uptoBulkAll ds ≤ 1048576)
def OpenSpec.upto (s : _root_.Go.ChangeSpec) : _root_.Go.OpenSpec := { _root_.Go.OpenSpec.ofChange s with cond := some uptoSmall }

/-- 'suretylaw05.TreeExact', WHERE WHAT IT READS IS OF BULK AT MOST 1048576: true; the input reads as it did. -/
def treeExactUptoRow : OpenClaim := { program := "ytmmhpibkjdlkgaagreat", sum := "c4859dc23bc268d848ab716fbd7d4625f667b995c7bc09a0942d84cb29e4aa83", func := "surety/suretylaw05.TreeExact", spec := "treeExact", unfollowed := true, recurses := true, loops := true, apart := false, narrowed := true }
def TreeExactUptoSaid : Prop := treeExactUptoRow.holds Tryz.pinned (OpenSpec.upto treeExactSpec)

/-- 'suretylaw05.TreeWith', WHERE WHAT IT READS IS OF BULK AT MOST 1048576: true; the input reads as it did. -/
def treeWithUptoRow : OpenClaim := { program := "ytmmhpibkjdlkgaagreat", sum := "c4859dc23bc268d848ab716fbd7d4625f667b995c7bc09a0942d84cb29e4aa83", func := "surety/suretylaw05.TreeWith", spec := "treeWith", unfollowed := true, recurses := true, loops := true, apart := false, narrowed := true }
def TreeWithUptoSaid : Prop := treeWithUptoRow.holds Tryz.pinned (OpenSpec.upto treeWithSpec)

/-- 'suretylaw05.TreePats', WHERE WHAT IT READS IS OF BULK AT MOST 1048576: true; the input reads as it did. -/
def treePatsUptoRow : OpenClaim := { program := "ytmmhpibkjdlkgaagreat", sum := "c4859dc23bc268d848ab716fbd7d4625f667b995c7bc09a0942d84cb29e4aa83", func := "surety/suretylaw05.TreePats", spec := "treePats", unfollowed := true, recurses := true, loops := true, apart := false, narrowed := true }
def TreePatsUptoSaid : Prop := treePatsUptoRow.holds Tryz.pinned (OpenSpec.upto treePatsSpec)

/-- 'suretylaw05.TreeBare', WHERE WHAT IT READS IS OF BULK AT MOST 1048576: true; the input reads as it did. -/
def treeBareUptoRow : OpenClaim := { program := "ytmmhpibkjdlkgaagreat", sum := "c4859dc23bc268d848ab716fbd7d4625f667b995c7bc09a0942d84cb29e4aa83", func := "surety/suretylaw05.TreeBare", spec := "treeBare", unfollowed := true, recurses := true, loops := true, apart := false, narrowed := true }
def TreeBareUptoSaid : Prop := treeBareUptoRow.holds Tryz.pinned (OpenSpec.upto treeBareSpec)

/-- 'suretylaw05.TreeFree', WHERE WHAT IT READS IS OF BULK AT MOST 1048576: true; the input reads as it did. -/
def treeFreeUptoRow : OpenClaim := { program := "ytmmhpibkjdlkgaagreat", sum := "c4859dc23bc268d848ab716fbd7d4625f667b995c7bc09a0942d84cb29e4aa83", func := "surety/suretylaw05.TreeFree", spec := "treeFree", unfollowed := true, recurses := true, loops := true, apart := false, narrowed := true }
def TreeFreeUptoSaid : Prop := treeFreeUptoRow.holds Tryz.pinned (OpenSpec.upto treeFreeSpec)

/-- 'suretylaw05.TreeGrow', WHERE WHAT IT READS IS OF BULK AT MOST 1048576: true; the input reads as it did. -/
def treeGrowUptoRow : OpenClaim := { program := "ytmmhpibkjdlkgaagreat", sum := "c4859dc23bc268d848ab716fbd7d4625f667b995c7bc09a0942d84cb29e4aa83", func := "surety/suretylaw05.TreeGrow", spec := "treeGrow", unfollowed := true, recurses := true, loops := true, apart := false, narrowed := true }
def TreeGrowUptoSaid : Prop := treeGrowUptoRow.holds Tryz.pinned (OpenSpec.upto treeGrowSpec)

end Rows
end Go.Proofs.YtmmhpibkjdlkgaaGreat

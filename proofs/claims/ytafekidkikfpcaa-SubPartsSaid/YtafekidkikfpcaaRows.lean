/-
  NARROWER THAN 'FOR EVERY INPUT', by the rows' own cells (each row's printed sentence says how): SubExact: loops · SubBoth: loops · SubBelow: loops · SubOrder: loops · SubParts: loops · SubDyn: loops.
  DERIVED. THE GIVEN ROWS OF THIS SEAT. 6 by the template 'for every input the law returns true; each argument reads behind the call as it read before'; 0 by the template 'total and deterministic' (their statements: YtafekidkikfpcaaTotals.lean).
  GIVEN WITH THE SEED: the statements are not yours to turn. If you find one false, say at which input.
  Laid BY PROGRAM, IN A SANDBOX (cutbox-rows.mjs): the forced cells as the released guide's own fill.sh prints them over the translation d91fc480acdad8c4… (all of the seat's roots in one cut). By AI agents, Wed Nov 11 2026. No macro, syntax, notation, axiom, sorry.
-/
import Derived.Test.YtafekidkikfpcaaChecked
import GoSem.Claim
import GoSem.ClaimJoined
import GoSem.ClaimMapViews
import Derived.JoinedTies
import Derived.KernelRfl
namespace Go.Proofs.Ytafekidkikfpcaa
/- THE CELL 'sum', in the pinned program and in every row, IS THE sha256 OF THE DUMP (.gsa) THAT YtafekidkikfpcaaProg.lean LOADS. Nothing in Lean hashes anything: it is a label: what it is worth is what the hold of that sum in a sandbox is worth. -/
noncomputable def Try.pinned : Pinned := { name := "ytafekidkikfpcaa", sum := "d91fc480acdad8c4231d1f86c8d27f384235595104123c35abefdd42d5e08700", checked := Try.checked }
namespace Rows
def none {H : Type} : Left H := { results := [], args := [] }

/-- 'suretylaw10.SubExact': WHATEVER THE INPUT: true; the input reads as it did. -/
def subExactSpec : ChangeSpec := { name := "subExact", fn := fun _ => fun
  | [d1, d2] => { results := [.lit (.bool true)], args := [d1, d2] }
  | _ => none }
def subExactRow : OpenClaim := { program := "ytafekidkikfpcaa", sum := "d91fc480acdad8c4231d1f86c8d27f384235595104123c35abefdd42d5e08700", func := "surety/suretylaw10.SubExact", spec := "subExact", unfollowed := true, recurses := true, loops := true, apart := false }
def SubExactSaid : Prop := subExactRow.holds Try.pinned (OpenSpec.ofChange subExactSpec)

/-- ITS FALSE NEIGHBOUR: 'it returns false'. Refute it at one input. -/
def subExactWrong : ChangeSpec := { name := "subExact", fn := fun _ => fun
  | [d1, d2] => { results := [.lit (.bool false)], args := [d1, d2] }
  | _ => none }
def SubExactWrongFalsely : Prop := subExactRow.holds Try.pinned (OpenSpec.ofChange subExactWrong)

/-- 'suretylaw10.SubBoth': WHATEVER THE INPUT: true; the input reads as it did. -/
def subBothSpec : ChangeSpec := { name := "subBoth", fn := fun _ => fun
  | [d1, d2] => { results := [.lit (.bool true)], args := [d1, d2] }
  | _ => none }
def subBothRow : OpenClaim := { program := "ytafekidkikfpcaa", sum := "d91fc480acdad8c4231d1f86c8d27f384235595104123c35abefdd42d5e08700", func := "surety/suretylaw10.SubBoth", spec := "subBoth", unfollowed := true, recurses := true, loops := true, apart := false }
def SubBothSaid : Prop := subBothRow.holds Try.pinned (OpenSpec.ofChange subBothSpec)

/-- ITS FALSE NEIGHBOUR: 'it returns false'. Refute it at one input. -/
def subBothWrong : ChangeSpec := { name := "subBoth", fn := fun _ => fun
  | [d1, d2] => { results := [.lit (.bool false)], args := [d1, d2] }
  | _ => none }
def SubBothWrongFalsely : Prop := subBothRow.holds Try.pinned (OpenSpec.ofChange subBothWrong)

/-- 'suretylaw10.SubBelow': WHATEVER THE INPUT: true; the input reads as it did. -/
def subBelowSpec : ChangeSpec := { name := "subBelow", fn := fun _ => fun
  | [d1, d2] => { results := [.lit (.bool true)], args := [d1, d2] }
  | _ => none }
def subBelowRow : OpenClaim := { program := "ytafekidkikfpcaa", sum := "d91fc480acdad8c4231d1f86c8d27f384235595104123c35abefdd42d5e08700", func := "surety/suretylaw10.SubBelow", spec := "subBelow", unfollowed := true, recurses := true, loops := true, apart := false }
def SubBelowSaid : Prop := subBelowRow.holds Try.pinned (OpenSpec.ofChange subBelowSpec)

/-- ITS FALSE NEIGHBOUR: 'it returns false'. Refute it at one input. -/
def subBelowWrong : ChangeSpec := { name := "subBelow", fn := fun _ => fun
  | [d1, d2] => { results := [.lit (.bool false)], args := [d1, d2] }
  | _ => none }
def SubBelowWrongFalsely : Prop := subBelowRow.holds Try.pinned (OpenSpec.ofChange subBelowWrong)

/-- 'suretylaw10.SubOrder': WHATEVER THE INPUT: true; the input reads as it did. -/
def subOrderSpec : ChangeSpec := { name := "subOrder", fn := fun _ => fun
  | [d1, d2, d3] => { results := [.lit (.bool true)], args := [d1, d2, d3] }
  | _ => none }
def subOrderRow : OpenClaim := { program := "ytafekidkikfpcaa", sum := "d91fc480acdad8c4231d1f86c8d27f384235595104123c35abefdd42d5e08700", func := "surety/suretylaw10.SubOrder", spec := "subOrder", unfollowed := true, recurses := true, loops := true, apart := false }
def SubOrderSaid : Prop := subOrderRow.holds Try.pinned (OpenSpec.ofChange subOrderSpec)

/-- ITS FALSE NEIGHBOUR: 'it returns false'. Refute it at one input. -/
def subOrderWrong : ChangeSpec := { name := "subOrder", fn := fun _ => fun
  | [d1, d2, d3] => { results := [.lit (.bool false)], args := [d1, d2, d3] }
  | _ => none }
def SubOrderWrongFalsely : Prop := subOrderRow.holds Try.pinned (OpenSpec.ofChange subOrderWrong)

/-- 'suretylaw10.SubParts': WHATEVER THE INPUT: true; the input reads as it did. -/
def subPartsSpec : ChangeSpec := { name := "subParts", fn := fun _ => fun
  | [d1, d2, d3, d4] => { results := [.lit (.bool true)], args := [d1, d2, d3, d4] }
  | _ => none }
def subPartsRow : OpenClaim := { program := "ytafekidkikfpcaa", sum := "d91fc480acdad8c4231d1f86c8d27f384235595104123c35abefdd42d5e08700", func := "surety/suretylaw10.SubParts", spec := "subParts", unfollowed := true, recurses := true, loops := true, apart := false }
def SubPartsSaid : Prop := subPartsRow.holds Try.pinned (OpenSpec.ofChange subPartsSpec)

/-- ITS FALSE NEIGHBOUR: 'it returns false'. Refute it at one input. -/
def subPartsWrong : ChangeSpec := { name := "subParts", fn := fun _ => fun
  | [d1, d2, d3, d4] => { results := [.lit (.bool false)], args := [d1, d2, d3, d4] }
  | _ => none }
def SubPartsWrongFalsely : Prop := subPartsRow.holds Try.pinned (OpenSpec.ofChange subPartsWrong)

/-- 'suretylaw10.SubDyn': WHATEVER THE INPUT: true; the input reads as it did. -/
def subDynSpec : ChangeSpec := { name := "subDyn", fn := fun _ => fun
  | [d1, d2] => { results := [.lit (.bool true)], args := [d1, d2] }
  | _ => none }
def subDynRow : OpenClaim := { program := "ytafekidkikfpcaa", sum := "d91fc480acdad8c4231d1f86c8d27f384235595104123c35abefdd42d5e08700", func := "surety/suretylaw10.SubDyn", spec := "subDyn", unfollowed := true, recurses := true, loops := true, apart := false }
def SubDynSaid : Prop := subDynRow.holds Try.pinned (OpenSpec.ofChange subDynSpec)

/-- ITS FALSE NEIGHBOUR: 'it returns false'. Refute it at one input. -/
def subDynWrong : ChangeSpec := { name := "subDyn", fn := fun _ => fun
  | [d1, d2] => { results := [.lit (.bool false)], args := [d1, d2] }
  | _ => none }
def SubDynWrongFalsely : Prop := subDynRow.holds Try.pinned (OpenSpec.ofChange subDynWrong)

/- THE SECOND FORM. 'bulk': how many values and letters a reading holds, each counted each time it is reached (what is shared counts as often as it is met; a slice's spare places count too). A statement '..UptoSaid' is the law's where the arguments, and the package variables that the reading takes, are together of bulk at most 1048576: NARROWER than '..Said'. Prove '..Said' where nothing that the law and all that it calls make is longer than what came in: it says more and counts as full. Else prove '..UptoSaid'. A law counts once. -/
mutual
def uptoBulk {H : Type} : DataW H → Nat
  | .lit (.string bytes) => bytes.length + 1
  | .lit _ => 1
  | .nil => 1
  | .ptr d => uptoBulk d + 1
  | .slice elems spare => uptoBulkAll elems + uptoBulkAll spare + 1
  | .agg parts => uptoBulkAll parts + 1
  | .iface _ d => uptoBulk d + 1
  | .map entries => uptoBulkEntries entries + 1
  | .held _ => 1
def uptoBulkAll {H : Type} : List (DataW H) → Nat
  | [] => 0
  | d :: r => uptoBulk d + uptoBulkAll r
def uptoBulkEntries {H : Type} : List (Lit × DataW H) → Nat
  | [] => 0
  | x :: r => uptoBulkEntry x + uptoBulkEntries r
def uptoBulkEntry {H : Type} : Lit × DataW H → Nat
  | (.string bytes, d) => bytes.length + uptoBulk d + 1
  | (_, d) => uptoBulk d + 1
 end
def uptoSmall : (H : Type) → List (DataW H) → Bool := fun _ ds => decide (uptoBulkAll ds ≤ 1048576)
def OpenSpec.upto (s : _root_.Go.ChangeSpec) : _root_.Go.OpenSpec := { _root_.Go.OpenSpec.ofChange s with cond := some uptoSmall }

/-- 'suretylaw10.SubExact', WHERE WHAT IT READS IS OF BULK AT MOST 1048576: true; the input reads as it did. -/
def subExactUptoRow : OpenClaim := { program := "ytafekidkikfpcaa", sum := "d91fc480acdad8c4231d1f86c8d27f384235595104123c35abefdd42d5e08700", func := "surety/suretylaw10.SubExact", spec := "subExact", unfollowed := true, recurses := true, loops := true, apart := false, narrowed := true }
def SubExactUptoSaid : Prop := subExactUptoRow.holds Try.pinned (OpenSpec.upto subExactSpec)

/-- 'suretylaw10.SubBoth', WHERE WHAT IT READS IS OF BULK AT MOST 1048576: true; the input reads as it did. -/
def subBothUptoRow : OpenClaim := { program := "ytafekidkikfpcaa", sum := "d91fc480acdad8c4231d1f86c8d27f384235595104123c35abefdd42d5e08700", func := "surety/suretylaw10.SubBoth", spec := "subBoth", unfollowed := true, recurses := true, loops := true, apart := false, narrowed := true }
def SubBothUptoSaid : Prop := subBothUptoRow.holds Try.pinned (OpenSpec.upto subBothSpec)

/-- 'suretylaw10.SubBelow', WHERE WHAT IT READS IS OF BULK AT MOST 1048576: true; the input reads as it did. -/
def subBelowUptoRow : OpenClaim := { program := "ytafekidkikfpcaa", sum := "d91fc480acdad8c4231d1f86c8d27f384235595104123c35abefdd42d5e08700", func := "surety/suretylaw10.SubBelow", spec := "subBelow", unfollowed := true, recurses := true, loops := true, apart := false, narrowed := true }
def SubBelowUptoSaid : Prop := subBelowUptoRow.holds Try.pinned (OpenSpec.upto subBelowSpec)

/-- 'suretylaw10.SubOrder', WHERE WHAT IT READS IS OF BULK AT MOST 1048576: true; the input reads as it did. -/
def subOrderUptoRow : OpenClaim := { program := "ytafekidkikfpcaa", sum := "d91fc480acdad8c4231d1f86c8d27f384235595104123c35abefdd42d5e08700", func := "surety/suretylaw10.SubOrder", spec := "subOrder", unfollowed := true, recurses := true, loops := true, apart := false, narrowed := true }
def SubOrderUptoSaid : Prop := subOrderUptoRow.holds Try.pinned (OpenSpec.upto subOrderSpec)

/-- 'suretylaw10.SubParts', WHERE WHAT IT READS IS OF BULK AT MOST 1048576: true; the input reads as it did. -/
def subPartsUptoRow : OpenClaim := { program := "ytafekidkikfpcaa", sum := "d91fc480acdad8c4231d1f86c8d27f384235595104123c35abefdd42d5e08700", func := "surety/suretylaw10.SubParts", spec := "subParts", unfollowed := true, recurses := true, loops := true, apart := false, narrowed := true }
def SubPartsUptoSaid : Prop := subPartsUptoRow.holds Try.pinned (OpenSpec.upto subPartsSpec)

/-- 'suretylaw10.SubDyn', WHERE WHAT IT READS IS OF BULK AT MOST 1048576: true; the input reads as it did. -/
def subDynUptoRow : OpenClaim := { program := "ytafekidkikfpcaa", sum := "d91fc480acdad8c4231d1f86c8d27f384235595104123c35abefdd42d5e08700", func := "surety/suretylaw10.SubDyn", spec := "subDyn", unfollowed := true, recurses := true, loops := true, apart := false, narrowed := true }
def SubDynUptoSaid : Prop := subDynUptoRow.holds Try.pinned (OpenSpec.upto subDynSpec)

end Rows
end Go.Proofs.Ytafekidkikfpcaa

/-
  NARROWER THAN 'FOR EVERY INPUT', by the rows' own cells (each row's printed sentence says how): TypExact: loops · TypSame: loops · TypParts: loops · TypVars: loops · TypBad: loops.
  DERIVED. THE GIVEN ROWS OF THIS SEAT. 5 by the template 'for every input the law returns true; each argument reads behind the call as it read before'; 0 by the template 'total and deterministic' (their statements: YtlmcklicnmbhdaaTotals.lean).
  GIVEN WITH THE SEED: the statements are not yours to turn. If you find one false, say at which input.
  Laid BY PROGRAM, IN A SANDBOX (cutbox-rows.mjs): the forced cells as the released guide's own fill.sh prints them over the translation 13814df7709a137e… (all of the seat's roots in one cut). By AI agents, Wed Nov 11 2026. No macro, syntax, notation, axiom, sorry.
-/
import Derived.Test.YtlmcklicnmbhdaaChecked
import GoSem.Claim
import GoSem.ClaimJoined
import GoSem.ClaimMapViews
import Derived.JoinedTies
import Derived.KernelRfl
namespace Go.Proofs.Ytlmcklicnmbhdaa
/- THE CELL 'sum', in the pinned program and in every row, IS THE sha256 OF THE DUMP (.gsa) THAT YtlmcklicnmbhdaaProg.lean LOADS. Nothing in Lean hashes anything: it is a label: what it is worth is what the hold of that sum in a sandbox is worth. -/
noncomputable def Try.pinned : Pinned := { name := "ytlmcklicnmbhdaa", sum := "13814df7709a137e8e26fc5ec3e612c8ebe1c20eda4be1e1da2ae5975298d5ac", checked := Try.checked }
namespace Rows
def none {H : Type} : Left H := { results := [], args := [] }

/-- 'suretylaw03.TypExact': WHATEVER THE INPUT: true; the input reads as it did. -/
def typExactSpec : ChangeSpec := { name := "typExact", fn := fun _ => fun
  | [d1, d2] => { results := [.lit (.bool true)], args := [d1, d2] }
  | _ => none }
def typExactRow : OpenClaim := { program := "ytlmcklicnmbhdaa", sum := "13814df7709a137e8e26fc5ec3e612c8ebe1c20eda4be1e1da2ae5975298d5ac", func := "surety/suretylaw03.TypExact", spec := "typExact", unfollowed := true, recurses := true, loops := true, apart := false }
def TypExactSaid : Prop := typExactRow.holds Try.pinned (OpenSpec.ofChange typExactSpec)

/-- ITS FALSE NEIGHBOUR: 'it returns false'. Refute it at one input. -/
def typExactWrong : ChangeSpec := { name := "typExact", fn := fun _ => fun
  | [d1, d2] => { results := [.lit (.bool false)], args := [d1, d2] }
  | _ => none }
def TypExactWrongFalsely : Prop := typExactRow.holds Try.pinned (OpenSpec.ofChange typExactWrong)

/-- 'suretylaw03.TypSame': WHATEVER THE INPUT: true; the input reads as it did. -/
def typSameSpec : ChangeSpec := { name := "typSame", fn := fun _ => fun
  | [d1, d2, d3] => { results := [.lit (.bool true)], args := [d1, d2, d3] }
  | _ => none }
def typSameRow : OpenClaim := { program := "ytlmcklicnmbhdaa", sum := "13814df7709a137e8e26fc5ec3e612c8ebe1c20eda4be1e1da2ae5975298d5ac", func := "surety/suretylaw03.TypSame", spec := "typSame", unfollowed := true, recurses := true, loops := true, apart := false }
def TypSameSaid : Prop := typSameRow.holds Try.pinned (OpenSpec.ofChange typSameSpec)

/-- ITS FALSE NEIGHBOUR: 'it returns false'. Refute it at one input. -/
def typSameWrong : ChangeSpec := { name := "typSame", fn := fun _ => fun
  | [d1, d2, d3] => { results := [.lit (.bool false)], args := [d1, d2, d3] }
  | _ => none }
def TypSameWrongFalsely : Prop := typSameRow.holds Try.pinned (OpenSpec.ofChange typSameWrong)

/-- 'suretylaw03.TypParts': WHATEVER THE INPUT: true; the input reads as it did. -/
def typPartsSpec : ChangeSpec := { name := "typParts", fn := fun _ => fun
  | [d1, d2] => { results := [.lit (.bool true)], args := [d1, d2] }
  | _ => none }
def typPartsRow : OpenClaim := { program := "ytlmcklicnmbhdaa", sum := "13814df7709a137e8e26fc5ec3e612c8ebe1c20eda4be1e1da2ae5975298d5ac", func := "surety/suretylaw03.TypParts", spec := "typParts", unfollowed := true, recurses := true, loops := true, apart := false }
def TypPartsSaid : Prop := typPartsRow.holds Try.pinned (OpenSpec.ofChange typPartsSpec)

/-- ITS FALSE NEIGHBOUR: 'it returns false'. Refute it at one input. -/
def typPartsWrong : ChangeSpec := { name := "typParts", fn := fun _ => fun
  | [d1, d2] => { results := [.lit (.bool false)], args := [d1, d2] }
  | _ => none }
def TypPartsWrongFalsely : Prop := typPartsRow.holds Try.pinned (OpenSpec.ofChange typPartsWrong)

/-- 'suretylaw03.TypVars': WHATEVER THE INPUT: true; the input reads as it did. -/
def typVarsSpec : ChangeSpec := { name := "typVars", fn := fun _ => fun
  | [d1, d2] => { results := [.lit (.bool true)], args := [d1, d2] }
  | _ => none }
def typVarsRow : OpenClaim := { program := "ytlmcklicnmbhdaa", sum := "13814df7709a137e8e26fc5ec3e612c8ebe1c20eda4be1e1da2ae5975298d5ac", func := "surety/suretylaw03.TypVars", spec := "typVars", unfollowed := true, recurses := true, loops := true, apart := false }
def TypVarsSaid : Prop := typVarsRow.holds Try.pinned (OpenSpec.ofChange typVarsSpec)

/-- ITS FALSE NEIGHBOUR: 'it returns false'. Refute it at one input. -/
def typVarsWrong : ChangeSpec := { name := "typVars", fn := fun _ => fun
  | [d1, d2] => { results := [.lit (.bool false)], args := [d1, d2] }
  | _ => none }
def TypVarsWrongFalsely : Prop := typVarsRow.holds Try.pinned (OpenSpec.ofChange typVarsWrong)

/-- 'suretylaw03.TypBad': WHATEVER THE INPUT: true; the input reads as it did. -/
def typBadSpec : ChangeSpec := { name := "typBad", fn := fun _ => fun
  | [d1, d2, d3] => { results := [.lit (.bool true)], args := [d1, d2, d3] }
  | _ => none }
def typBadRow : OpenClaim := { program := "ytlmcklicnmbhdaa", sum := "13814df7709a137e8e26fc5ec3e612c8ebe1c20eda4be1e1da2ae5975298d5ac", func := "surety/suretylaw03.TypBad", spec := "typBad", unfollowed := true, recurses := true, loops := true, apart := false }
def TypBadSaid : Prop := typBadRow.holds Try.pinned (OpenSpec.ofChange typBadSpec)

/-- ITS FALSE NEIGHBOUR: 'it returns false'. Refute it at one input. -/
def typBadWrong : ChangeSpec := { name := "typBad", fn := fun _ => fun
  | [d1, d2, d3] => { results := [.lit (.bool false)], args := [d1, d2, d3] }
  | _ => none }
def TypBadWrongFalsely : Prop := typBadRow.holds Try.pinned (OpenSpec.ofChange typBadWrong)

/- THE SECOND FORM. 'bulk': how many values and letters a reading holds, each counted each time it is reached (what is shared counts as often as it is met; a slice's spare places count too). A statement '..UptoSaid' is the law's where the arguments, and the package variables that the reading takes, are together of bulk at most 1048576: NARROWER than '..Said'. Prove '..Said' where nothing that the law and all that it calls make is longer than what came in: it says more and counts as full. Else prove '..UptoSaid'. A law counts once. -/
mutual
def uptoBulk {H : Type} : DataW H → Nat
  | .lit (.string bytes) => bytes.length + 1
  | .lit _ => 1
  | .nil => 1
  | .ptr d => uptoBulk d + 1
  | .slice elems spare => uptoBulkAll elems + uptoBulkAll spare + 1
  | .agg parts => uptoBulkAll parts + 1
  | .iface _ d => uptoBulk d + 1
  | .map entries => uptoBulkEntries entries + 1
  | .held _ => 1
def uptoBulkAll {H : Type} : List (DataW H) → Nat
  | [] => 0
  | d :: r => uptoBulk d + uptoBulkAll r
def uptoBulkEntries {H : Type} : List (Lit × DataW H) → Nat
  | [] => 0
  | x :: r => uptoBulkEntry x + uptoBulkEntries r
def uptoBulkEntry {H : Type} : Lit × DataW H → Nat
  | (.string bytes, d) => bytes.length + uptoBulk d + 1
  | (_, d) => uptoBulk d + 1
 end
def uptoSmall : (H : Type) → List (DataW H) → Bool := fun _ ds => decide (uptoBulkAll ds ≤ 1048576)
def OpenSpec.upto (s : _root_.Go.ChangeSpec) : _root_.Go.OpenSpec := { _root_.Go.OpenSpec.ofChange s with cond := some uptoSmall }

/-- 'suretylaw03.TypExact', WHERE WHAT IT READS IS OF BULK AT MOST 1048576: true; the input reads as it did. -/
def typExactUptoRow : OpenClaim := { program := "ytlmcklicnmbhdaa", sum := "13814df7709a137e8e26fc5ec3e612c8ebe1c20eda4be1e1da2ae5975298d5ac", func := "surety/suretylaw03.TypExact", spec := "typExact", unfollowed := true, recurses := true, loops := true, apart := false, narrowed := true }
def TypExactUptoSaid : Prop := typExactUptoRow.holds Try.pinned (OpenSpec.upto typExactSpec)

/-- 'suretylaw03.TypSame', WHERE WHAT IT READS IS OF BULK AT MOST 1048576: true; the input reads as it did. -/
def typSameUptoRow : OpenClaim := { program := "ytlmcklicnmbhdaa", sum := "13814df7709a137e8e26fc5ec3e612c8ebe1c20eda4be1e1da2ae5975298d5ac", func := "surety/suretylaw03.TypSame", spec := "typSame", unfollowed := true, recurses := true, loops := true, apart := false, narrowed := true }
def TypSameUptoSaid : Prop := typSameUptoRow.holds Try.pinned (OpenSpec.upto typSameSpec)

/-- 'suretylaw03.TypParts', WHERE WHAT IT READS IS OF BULK AT MOST 1048576: true; the input reads as it did. -/
def typPartsUptoRow : OpenClaim := { program := "ytlmcklicnmbhdaa", sum := "13814df7709a137e8e26fc5ec3e612c8ebe1c20eda4be1e1da2ae5975298d5ac", func := "surety/suretylaw03.TypParts", spec := "typParts", unfollowed := true, recurses := true, loops := true, apart := false, narrowed := true }
def TypPartsUptoSaid : Prop := typPartsUptoRow.holds Try.pinned (OpenSpec.upto typPartsSpec)

/-- 'suretylaw03.TypVars', WHERE WHAT IT READS IS OF BULK AT MOST 1048576: true; the input reads as it did. -/
def typVarsUptoRow : OpenClaim := { program := "ytlmcklicnmbhdaa", sum := "13814df7709a137e8e26fc5ec3e612c8ebe1c20eda4be1e1da2ae5975298d5ac", func := "surety/suretylaw03.TypVars", spec := "typVars", unfollowed := true, recurses := true, loops := true, apart := false, narrowed := true }
def TypVarsUptoSaid : Prop := typVarsUptoRow.holds Try.pinned (OpenSpec.upto typVarsSpec)

/-- 'suretylaw03.TypBad', WHERE WHAT IT READS IS OF BULK AT MOST 1048576: true; the input reads as it did. -/
def typBadUptoRow : OpenClaim := { program := "ytlmcklicnmbhdaa", sum := "13814df7709a137e8e26fc5ec3e612c8ebe1c20eda4be1e1da2ae5975298d5ac", func := "surety/suretylaw03.TypBad", spec := "typBad", unfollowed := true, recurses := true, loops := true, apart := false, narrowed := true }
def TypBadUptoSaid : Prop := typBadUptoRow.holds Try.pinned (OpenSpec.upto typBadSpec)

end Rows
end Go.Proofs.Ytlmcklicnmbhdaa

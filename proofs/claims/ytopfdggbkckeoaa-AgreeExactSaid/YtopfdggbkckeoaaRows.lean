/-
  NARROWER THAN 'FOR EVERY INPUT', by the rows' own cells (each row's printed sentence says how): AgreeExact: loops · AgreeBoth: loops · AgreeParts: loops · AgreeMeet: loops · AgreeNotOn: loops.
  DERIVED. THE GIVEN ROWS OF THIS SEAT. 6 by the template 'for every input the law returns true; each argument reads behind the call as it read before'; 0 by the template 'total and deterministic' (their statements: YtopfdggbkckeoaaTotals.lean).
  GIVEN WITH THE SEED: the statements are not yours to turn. If you find one false, say at which input.
  Laid BY PROGRAM, IN A SANDBOX (cutbox-rows.mjs): the forced cells as the released guide's own fill.sh prints them over the translation f8d816d96d3f9be5… (all of the seat's roots in one cut). By AI agents, Wed Nov 11 2026. No macro, syntax, notation, axiom, sorry.
-/
import Derived.Test.YtopfdggbkckeoaaChecked
import GoSem.Claim
import GoSem.ClaimJoined
import GoSem.ClaimMapViews
import Derived.JoinedTies
import Derived.KernelRfl
namespace Go.Proofs.Ytopfdggbkckeoaa
/- THE CELL 'sum', in the pinned program and in every row, IS THE sha256 OF THE DUMP (.gsa) THAT YtopfdggbkckeoaaProg.lean LOADS. Nothing in Lean hashes anything: it is a label: what it is worth is what the hold of that sum in a sandbox is worth. -/
noncomputable def Try.pinned : Pinned := { name := "ytopfdggbkckeoaa", sum := "f8d816d96d3f9be5d1ae086270a6bdabaa459f85ae72e67caeb9dcb161293d27", checked := Try.checked }
namespace Rows
def none {H : Type} : Left H := { results := [], args := [] }

/-- 'suretylaw08.AgreeExact': WHATEVER THE INPUT: true; the input reads as it did. -/
def agreeExactSpec : ChangeSpec := { name := "agreeExact", fn := fun _ => fun
  | [d1, d2] => { results := [.lit (.bool true)], args := [d1, d2] }
  | _ => none }
def agreeExactRow : OpenClaim := { program := "ytopfdggbkckeoaa", sum := "f8d816d96d3f9be5d1ae086270a6bdabaa459f85ae72e67caeb9dcb161293d27", func := "surety/suretylaw08.AgreeExact", spec := "agreeExact", unfollowed := true, recurses := true, loops := true, apart := false }
def AgreeExactSaid : Prop := agreeExactRow.holds Try.pinned (OpenSpec.ofChange agreeExactSpec)

/-- ITS FALSE NEIGHBOUR: 'it returns false'. Refute it at one input. -/
def agreeExactWrong : ChangeSpec := { name := "agreeExact", fn := fun _ => fun
  | [d1, d2] => { results := [.lit (.bool false)], args := [d1, d2] }
  | _ => none }
def AgreeExactWrongFalsely : Prop := agreeExactRow.holds Try.pinned (OpenSpec.ofChange agreeExactWrong)

/-- 'suretylaw08.AgreeBoth': WHATEVER THE INPUT: true; the input reads as it did. -/
def agreeBothSpec : ChangeSpec := { name := "agreeBoth", fn := fun _ => fun
  | [d1, d2] => { results := [.lit (.bool true)], args := [d1, d2] }
  | _ => none }
def agreeBothRow : OpenClaim := { program := "ytopfdggbkckeoaa", sum := "f8d816d96d3f9be5d1ae086270a6bdabaa459f85ae72e67caeb9dcb161293d27", func := "surety/suretylaw08.AgreeBoth", spec := "agreeBoth", unfollowed := true, recurses := true, loops := true, apart := false }
def AgreeBothSaid : Prop := agreeBothRow.holds Try.pinned (OpenSpec.ofChange agreeBothSpec)

/-- ITS FALSE NEIGHBOUR: 'it returns false'. Refute it at one input. -/
def agreeBothWrong : ChangeSpec := { name := "agreeBoth", fn := fun _ => fun
  | [d1, d2] => { results := [.lit (.bool false)], args := [d1, d2] }
  | _ => none }
def AgreeBothWrongFalsely : Prop := agreeBothRow.holds Try.pinned (OpenSpec.ofChange agreeBothWrong)

/-- 'suretylaw08.AgreeParts': WHATEVER THE INPUT: true; the input reads as it did. -/
def agreePartsSpec : ChangeSpec := { name := "agreeParts", fn := fun _ => fun
  | [d1, d2, d3, d4] => { results := [.lit (.bool true)], args := [d1, d2, d3, d4] }
  | _ => none }
def agreePartsRow : OpenClaim := { program := "ytopfdggbkckeoaa", sum := "f8d816d96d3f9be5d1ae086270a6bdabaa459f85ae72e67caeb9dcb161293d27", func := "surety/suretylaw08.AgreeParts", spec := "agreeParts", unfollowed := true, recurses := true, loops := true, apart := false }
def AgreePartsSaid : Prop := agreePartsRow.holds Try.pinned (OpenSpec.ofChange agreePartsSpec)

/-- ITS FALSE NEIGHBOUR: 'it returns false'. Refute it at one input. -/
def agreePartsWrong : ChangeSpec := { name := "agreeParts", fn := fun _ => fun
  | [d1, d2, d3, d4] => { results := [.lit (.bool false)], args := [d1, d2, d3, d4] }
  | _ => none }
def AgreePartsWrongFalsely : Prop := agreePartsRow.holds Try.pinned (OpenSpec.ofChange agreePartsWrong)

/-- 'suretylaw08.AgreeMeet': WHATEVER THE INPUT: true; the input reads as it did. -/
def agreeMeetSpec : ChangeSpec := { name := "agreeMeet", fn := fun _ => fun
  | [d1, d2] => { results := [.lit (.bool true)], args := [d1, d2] }
  | _ => none }
def agreeMeetRow : OpenClaim := { program := "ytopfdggbkckeoaa", sum := "f8d816d96d3f9be5d1ae086270a6bdabaa459f85ae72e67caeb9dcb161293d27", func := "surety/suretylaw08.AgreeMeet", spec := "agreeMeet", unfollowed := true, recurses := true, loops := true, apart := false }
def AgreeMeetSaid : Prop := agreeMeetRow.holds Try.pinned (OpenSpec.ofChange agreeMeetSpec)

/-- ITS FALSE NEIGHBOUR: 'it returns false'. Refute it at one input. -/
def agreeMeetWrong : ChangeSpec := { name := "agreeMeet", fn := fun _ => fun
  | [d1, d2] => { results := [.lit (.bool false)], args := [d1, d2] }
  | _ => none }
def AgreeMeetWrongFalsely : Prop := agreeMeetRow.holds Try.pinned (OpenSpec.ofChange agreeMeetWrong)

/-- 'suretylaw08.AgreeNotOn': WHATEVER THE INPUT: true; the input reads as it did. -/
def agreeNotOnSpec : ChangeSpec := { name := "agreeNotOn", fn := fun _ => fun
  | [d1, d2] => { results := [.lit (.bool true)], args := [d1, d2] }
  | _ => none }
def agreeNotOnRow : OpenClaim := { program := "ytopfdggbkckeoaa", sum := "f8d816d96d3f9be5d1ae086270a6bdabaa459f85ae72e67caeb9dcb161293d27", func := "surety/suretylaw08.AgreeNotOn", spec := "agreeNotOn", unfollowed := true, recurses := true, loops := true, apart := false }
def AgreeNotOnSaid : Prop := agreeNotOnRow.holds Try.pinned (OpenSpec.ofChange agreeNotOnSpec)

/-- ITS FALSE NEIGHBOUR: 'it returns false'. Refute it at one input. -/
def agreeNotOnWrong : ChangeSpec := { name := "agreeNotOn", fn := fun _ => fun
  | [d1, d2] => { results := [.lit (.bool false)], args := [d1, d2] }
  | _ => none }
def AgreeNotOnWrongFalsely : Prop := agreeNotOnRow.holds Try.pinned (OpenSpec.ofChange agreeNotOnWrong)

/-- 'suretylaw08.AgreeBits': WHATEVER THE INPUT: true; the input reads as it did. -/
def agreeBitsSpec : ChangeSpec := { name := "agreeBits", fn := fun _ => fun
  | [d1, d2, d3, d4] => { results := [.lit (.bool true)], args := [d1, d2, d3, d4] }
  | _ => none }
def agreeBitsRow : OpenClaim := { program := "ytopfdggbkckeoaa", sum := "f8d816d96d3f9be5d1ae086270a6bdabaa459f85ae72e67caeb9dcb161293d27", func := "surety/suretylaw08.AgreeBits", spec := "agreeBits", unfollowed := true, recurses := true, apart := false }
def AgreeBitsSaid : Prop := agreeBitsRow.holds Try.pinned (OpenSpec.ofChange agreeBitsSpec)

/-- ITS FALSE NEIGHBOUR: 'it returns false'. Refute it at one input. -/
def agreeBitsWrong : ChangeSpec := { name := "agreeBits", fn := fun _ => fun
  | [d1, d2, d3, d4] => { results := [.lit (.bool false)], args := [d1, d2, d3, d4] }
  | _ => none }
def AgreeBitsWrongFalsely : Prop := agreeBitsRow.holds Try.pinned (OpenSpec.ofChange agreeBitsWrong)

/- THE SECOND FORM. 'bulk': how many values and letters a reading holds, each counted each time it is reached (what is shared counts as often as it is met; a slice's spare places count too). A statement '..UptoSaid' is the law's where the arguments, and the package variables that the reading takes, are together of bulk at most 1048576: NARROWER than '..Said'. Prove '..Said' where nothing that the law and all that it calls make is longer than what came in: it says more and counts as full. Else prove '..UptoSaid'. A law counts once. -/
mutual
def uptoBulk {H : Type} : DataW H → Nat
  | .lit (.string bytes) => bytes.length + 1
  | .lit _ => 1
  | .nil => 1
  | .ptr d => uptoBulk d + 1
  | .slice elems spare => uptoBulkAll elems + uptoBulkAll spare + 1
  | .agg parts => uptoBulkAll parts + 1
  | .iface _ d => uptoBulk d + 1
  | .map entries => uptoBulkEntries entries + 1
  | .held _ => 1
def uptoBulkAll {H : Type} : List (DataW H) → Nat
  | [] => 0
  | d :: r => uptoBulk d + uptoBulkAll r
def uptoBulkEntries {H : Type} : List (Lit × DataW H) → Nat
  | [] => 0
  | x :: r => uptoBulkEntry x + uptoBulkEntries r
def uptoBulkEntry {H : Type} : Lit × DataW H → Nat
  | (.string bytes, d) => bytes.length + uptoBulk d + 1
  | (_, d) => uptoBulk d + 1
 end
def uptoSmall : (H : Type) → List (DataW H) → Bool := fun _ ds => decide (uptoBulkAll ds ≤ 1048576)
def OpenSpec.upto (s : _root_.Go.ChangeSpec) : _root_.Go.OpenSpec := { _root_.Go.OpenSpec.ofChange s with cond := some uptoSmall }

/-- 'suretylaw08.AgreeExact', WHERE WHAT IT READS IS OF BULK AT MOST 1048576: true; the input reads as it did. -/
def agreeExactUptoRow : OpenClaim := { program := "ytopfdggbkckeoaa", sum := "f8d816d96d3f9be5d1ae086270a6bdabaa459f85ae72e67caeb9dcb161293d27", func := "surety/suretylaw08.AgreeExact", spec := "agreeExact", unfollowed := true, recurses := true, loops := true, apart := false, narrowed := true }
def AgreeExactUptoSaid : Prop := agreeExactUptoRow.holds Try.pinned (OpenSpec.upto agreeExactSpec)

/-- 'suretylaw08.AgreeBoth', WHERE WHAT IT READS IS OF BULK AT MOST 1048576: true; the input reads as it did. -/
def agreeBothUptoRow : OpenClaim := { program := "ytopfdggbkckeoaa", sum := "f8d816d96d3f9be5d1ae086270a6bdabaa459f85ae72e67caeb9dcb161293d27", func := "surety/suretylaw08.AgreeBoth", spec := "agreeBoth", unfollowed := true, recurses := true, loops := true, apart := false, narrowed := true }
def AgreeBothUptoSaid : Prop := agreeBothUptoRow.holds Try.pinned (OpenSpec.upto agreeBothSpec)

/-- 'suretylaw08.AgreeParts', WHERE WHAT IT READS IS OF BULK AT MOST 1048576: true; the input reads as it did. -/
def agreePartsUptoRow : OpenClaim := { program := "ytopfdggbkckeoaa", sum := "f8d816d96d3f9be5d1ae086270a6bdabaa459f85ae72e67caeb9dcb161293d27", func := "surety/suretylaw08.AgreeParts", spec := "agreeParts", unfollowed := true, recurses := true, loops := true, apart := false, narrowed := true }
def AgreePartsUptoSaid : Prop := agreePartsUptoRow.holds Try.pinned (OpenSpec.upto agreePartsSpec)

/-- 'suretylaw08.AgreeMeet', WHERE WHAT IT READS IS OF BULK AT MOST 1048576: true; the input reads as it did. -/
def agreeMeetUptoRow : OpenClaim := { program := "ytopfdggbkckeoaa", sum := "f8d816d96d3f9be5d1ae086270a6bdabaa459f85ae72e67caeb9dcb161293d27", func := "surety/suretylaw08.AgreeMeet", spec := "agreeMeet", unfollowed := true, recurses := true, loops := true, apart := false, narrowed := true }
def AgreeMeetUptoSaid : Prop := agreeMeetUptoRow.holds Try.pinned (OpenSpec.upto agreeMeetSpec)

/-- 'suretylaw08.AgreeNotOn', WHERE WHAT IT READS IS OF BULK AT MOST 1048576: true; the input reads as it did. -/
def agreeNotOnUptoRow : OpenClaim := { program := "ytopfdggbkckeoaa", sum := "f8d816d96d3f9be5d1ae086270a6bdabaa459f85ae72e67caeb9dcb161293d27", func := "surety/suretylaw08.AgreeNotOn", spec := "agreeNotOn", unfollowed := true, recurses := true, loops := true, apart := false, narrowed := true }
def AgreeNotOnUptoSaid : Prop := agreeNotOnUptoRow.holds Try.pinned (OpenSpec.upto agreeNotOnSpec)

/-- 'suretylaw08.AgreeBits', WHERE WHAT IT READS IS OF BULK AT MOST 1048576: true; the input reads as it did. -/
def agreeBitsUptoRow : OpenClaim := { program := "ytopfdggbkckeoaa", sum := "f8d816d96d3f9be5d1ae086270a6bdabaa459f85ae72e67caeb9dcb161293d27", func := "surety/suretylaw08.AgreeBits", spec := "agreeBits", unfollowed := true, recurses := true, apart := false, narrowed := true }
def AgreeBitsUptoSaid : Prop := agreeBitsUptoRow.holds Try.pinned (OpenSpec.upto agreeBitsSpec)

end Rows
end Go.Proofs.Ytopfdggbkckeoaa

/-
  NARROWER THAN 'FOR EVERY INPUT', by the rows' own cells (each row's printed sentence says how): PrecExact: loops · PrecOrder: loops · PrecMeet: loops · PrecAgree: loops · PrecGround: loops · PrecLess: loops.
  DERIVED. THE GIVEN ROWS OF THIS SEAT. 6 by the template 'for every input the law returns true; each argument reads behind the call as it read before'; 0 by the template 'total and deterministic' (their statements: YtcnnahmchjeakaaTotals.lean).
  GIVEN WITH THE SEED: the statements are not yours to turn. If you find one false, say at which input.
  Laid BY PROGRAM, IN A SANDBOX (cutbox-rows.mjs): the forced cells as the released guide's own fill.sh prints them over the translation 1d378f3d09b3b890… (all of the seat's roots in one cut). By AI agents, Wed Nov 11 2026. No macro, syntax, notation, axiom, sorry.
-/
import Derived.Test.YtcnnahmchjeakaaChecked
import GoSem.Claim
import GoSem.ClaimJoined
import GoSem.ClaimMapViews
import Derived.JoinedTies
import Derived.KernelRfl
namespace Go.Proofs.Ytcnnahmchjeakaa
/- THE CELL 'sum', in the pinned program and in every row, IS THE sha256 OF THE DUMP (.gsa) THAT YtcnnahmchjeakaaProg.lean LOADS. Nothing in Lean hashes anything: it is a label: what it is worth is what the hold of that sum in a sandbox is worth. -/
noncomputable def Try.pinned : Pinned := { name := "ytcnnahmchjeakaa", sum := "1d378f3d09b3b89046e5fe985b357b5d726e0fd2315f8c3055fdca74154260d1", checked := Try.checked }
namespace Rows
def none {H : Type} : Left H := { results := [], args := [] }

/-- 'suretylaw09.PrecExact': WHATEVER THE INPUT: true; the input reads as it did. -/
def precExactSpec : ChangeSpec := { name := "precExact", fn := fun _ => fun
  | [d1, d2] => { results := [.lit (.bool true)], args := [d1, d2] }
  | _ => none }
def precExactRow : OpenClaim := { program := "ytcnnahmchjeakaa", sum := "1d378f3d09b3b89046e5fe985b357b5d726e0fd2315f8c3055fdca74154260d1", func := "surety/suretylaw09.PrecExact", spec := "precExact", unfollowed := true, recurses := true, loops := true, apart := false }
def PrecExactSaid : Prop := precExactRow.holds Try.pinned (OpenSpec.ofChange precExactSpec)

/-- ITS FALSE NEIGHBOUR: 'it returns false'. Refute it at one input. -/
def precExactWrong : ChangeSpec := { name := "precExact", fn := fun _ => fun
  | [d1, d2] => { results := [.lit (.bool false)], args := [d1, d2] }
  | _ => none }
def PrecExactWrongFalsely : Prop := precExactRow.holds Try.pinned (OpenSpec.ofChange precExactWrong)

/-- 'suretylaw09.PrecOrder': WHATEVER THE INPUT: true; the input reads as it did. -/
def precOrderSpec : ChangeSpec := { name := "precOrder", fn := fun _ => fun
  | [d1, d2, d3] => { results := [.lit (.bool true)], args := [d1, d2, d3] }
  | _ => none }
def precOrderRow : OpenClaim := { program := "ytcnnahmchjeakaa", sum := "1d378f3d09b3b89046e5fe985b357b5d726e0fd2315f8c3055fdca74154260d1", func := "surety/suretylaw09.PrecOrder", spec := "precOrder", unfollowed := true, recurses := true, loops := true, apart := false }
def PrecOrderSaid : Prop := precOrderRow.holds Try.pinned (OpenSpec.ofChange precOrderSpec)

/-- ITS FALSE NEIGHBOUR: 'it returns false'. Refute it at one input. -/
def precOrderWrong : ChangeSpec := { name := "precOrder", fn := fun _ => fun
  | [d1, d2, d3] => { results := [.lit (.bool false)], args := [d1, d2, d3] }
  | _ => none }
def PrecOrderWrongFalsely : Prop := precOrderRow.holds Try.pinned (OpenSpec.ofChange precOrderWrong)

/-- 'suretylaw09.PrecMeet': WHATEVER THE INPUT: true; the input reads as it did. -/
def precMeetSpec : ChangeSpec := { name := "precMeet", fn := fun _ => fun
  | [d1, d2, d3] => { results := [.lit (.bool true)], args := [d1, d2, d3] }
  | _ => none }
def precMeetRow : OpenClaim := { program := "ytcnnahmchjeakaa", sum := "1d378f3d09b3b89046e5fe985b357b5d726e0fd2315f8c3055fdca74154260d1", func := "surety/suretylaw09.PrecMeet", spec := "precMeet", unfollowed := true, recurses := true, loops := true, apart := false }
def PrecMeetSaid : Prop := precMeetRow.holds Try.pinned (OpenSpec.ofChange precMeetSpec)

/-- ITS FALSE NEIGHBOUR: 'it returns false'. Refute it at one input. -/
def precMeetWrong : ChangeSpec := { name := "precMeet", fn := fun _ => fun
  | [d1, d2, d3] => { results := [.lit (.bool false)], args := [d1, d2, d3] }
  | _ => none }
def PrecMeetWrongFalsely : Prop := precMeetRow.holds Try.pinned (OpenSpec.ofChange precMeetWrong)

/-- 'suretylaw09.PrecAgree': WHATEVER THE INPUT: true; the input reads as it did. -/
def precAgreeSpec : ChangeSpec := { name := "precAgree", fn := fun _ => fun
  | [d1, d2] => { results := [.lit (.bool true)], args := [d1, d2] }
  | _ => none }
def precAgreeRow : OpenClaim := { program := "ytcnnahmchjeakaa", sum := "1d378f3d09b3b89046e5fe985b357b5d726e0fd2315f8c3055fdca74154260d1", func := "surety/suretylaw09.PrecAgree", spec := "precAgree", unfollowed := true, recurses := true, loops := true, apart := false }
def PrecAgreeSaid : Prop := precAgreeRow.holds Try.pinned (OpenSpec.ofChange precAgreeSpec)

/-- ITS FALSE NEIGHBOUR: 'it returns false'. Refute it at one input. -/
def precAgreeWrong : ChangeSpec := { name := "precAgree", fn := fun _ => fun
  | [d1, d2] => { results := [.lit (.bool false)], args := [d1, d2] }
  | _ => none }
def PrecAgreeWrongFalsely : Prop := precAgreeRow.holds Try.pinned (OpenSpec.ofChange precAgreeWrong)

/-- 'suretylaw09.PrecGround': WHATEVER THE INPUT: true; the input reads as it did. -/
def precGroundSpec : ChangeSpec := { name := "precGround", fn := fun _ => fun
  | [d1, d2] => { results := [.lit (.bool true)], args := [d1, d2] }
  | _ => none }
def precGroundRow : OpenClaim := { program := "ytcnnahmchjeakaa", sum := "1d378f3d09b3b89046e5fe985b357b5d726e0fd2315f8c3055fdca74154260d1", func := "surety/suretylaw09.PrecGround", spec := "precGround", unfollowed := true, recurses := true, loops := true, apart := false }
def PrecGroundSaid : Prop := precGroundRow.holds Try.pinned (OpenSpec.ofChange precGroundSpec)

/-- ITS FALSE NEIGHBOUR: 'it returns false'. Refute it at one input. -/
def precGroundWrong : ChangeSpec := { name := "precGround", fn := fun _ => fun
  | [d1, d2] => { results := [.lit (.bool false)], args := [d1, d2] }
  | _ => none }
def PrecGroundWrongFalsely : Prop := precGroundRow.holds Try.pinned (OpenSpec.ofChange precGroundWrong)

/-- 'suretylaw09.PrecLess': WHATEVER THE INPUT: true; the input reads as it did. -/
def precLessSpec : ChangeSpec := { name := "precLess", fn := fun _ => fun
  | [d1, d2] => { results := [.lit (.bool true)], args := [d1, d2] }
  | _ => none }
def precLessRow : OpenClaim := { program := "ytcnnahmchjeakaa", sum := "1d378f3d09b3b89046e5fe985b357b5d726e0fd2315f8c3055fdca74154260d1", func := "surety/suretylaw09.PrecLess", spec := "precLess", unfollowed := true, recurses := true, loops := true, apart := false }
def PrecLessSaid : Prop := precLessRow.holds Try.pinned (OpenSpec.ofChange precLessSpec)

/-- ITS FALSE NEIGHBOUR: 'it returns false'. Refute it at one input. -/
def precLessWrong : ChangeSpec := { name := "precLess", fn := fun _ => fun
  | [d1, d2] => { results := [.lit (.bool false)], args := [d1, d2] }
  | _ => none }
def PrecLessWrongFalsely : Prop := precLessRow.holds Try.pinned (OpenSpec.ofChange precLessWrong)

/- THE SECOND FORM. 'bulk': how many values and letters a reading holds, each counted each time it is reached (what is shared counts as often as it is met; a slice's spare places count too). A statement '..UptoSaid' is the law's where the arguments, and the package variables that the reading takes, are together of bulk at most 1048576: NARROWER than '..Said'. Prove '..Said' where nothing that the law and all that it calls make is longer than what came in: it says more and counts as full. Else prove '..UptoSaid'. A law counts once. -/
mutual
def uptoBulk {H : Type} : DataW H → Nat
  | .lit (.string bytes) => bytes.length + 1
  | .lit _ => 1
  | .nil => 1
  | .ptr d => uptoBulk d + 1
  | .slice elems spare => uptoBulkAll elems + uptoBulkAll spare + 1
  | .agg parts => uptoBulkAll parts + 1
  | .iface _ d => uptoBulk d + 1
  | .map entries => uptoBulkEntries entries + 1
  | .held _ => 1
def uptoBulkAll {H : Type} : List (DataW H) → Nat
  | [] => 0
  | d :: r => uptoBulk d + uptoBulkAll r
def uptoBulkEntries {H : Type} : List (Lit × DataW H) → Nat
  | [] => 0
  | x :: r => uptoBulkEntry x + uptoBulkEntries r
def uptoBulkEntry {H : Type} : Lit × DataW H → Nat
  | (.string bytes, d) => bytes.length + uptoBulk d + 1
  | (_, d) => uptoBulk d + 1
 end
def uptoSmall : (H : Type) → List (DataW H) → Bool := fun _ ds => decide (uptoBulkAll ds ≤ 1048576)
def OpenSpec.upto (s : _root_.Go.ChangeSpec) : _root_.Go.OpenSpec := { _root_.Go.OpenSpec.ofChange s with cond := some uptoSmall }

/-- 'suretylaw09.PrecExact', WHERE WHAT IT READS IS OF BULK AT MOST 1048576: true; the input reads as it did. -/
def precExactUptoRow : OpenClaim := { program := "ytcnnahmchjeakaa", sum := "1d378f3d09b3b89046e5fe985b357b5d726e0fd2315f8c3055fdca74154260d1", func := "surety/suretylaw09.PrecExact", spec := "precExact", unfollowed := true, recurses := true, loops := true, apart := false, narrowed := true }
def PrecExactUptoSaid : Prop := precExactUptoRow.holds Try.pinned (OpenSpec.upto precExactSpec)

/-- 'suretylaw09.PrecOrder', WHERE WHAT IT READS IS OF BULK AT MOST 1048576: true; the input reads as it did. -/
def precOrderUptoRow : OpenClaim := { program := "ytcnnahmchjeakaa", sum := "1d378f3d09b3b89046e5fe985b357b5d726e0fd2315f8c3055fdca74154260d1", func := "surety/suretylaw09.PrecOrder", spec := "precOrder", unfollowed := true, recurses := true, loops := true, apart := false, narrowed := true }
def PrecOrderUptoSaid : Prop := precOrderUptoRow.holds Try.pinned (OpenSpec.upto precOrderSpec)

/-- 'suretylaw09.PrecMeet', WHERE WHAT IT READS IS OF BULK AT MOST 1048576: true; the input reads as it did. -/
def precMeetUptoRow : OpenClaim := { program := "ytcnnahmchjeakaa", sum := "1d378f3d09b3b89046e5fe985b357b5d726e0fd2315f8c3055fdca74154260d1", func := "surety/suretylaw09.PrecMeet", spec := "precMeet", unfollowed := true, recurses := true, loops := true, apart := false, narrowed := true }
def PrecMeetUptoSaid : Prop := precMeetUptoRow.holds Try.pinned (OpenSpec.upto precMeetSpec)

/-- 'suretylaw09.PrecAgree', WHERE WHAT IT READS IS OF BULK AT MOST 1048576: true; the input reads as it did. -/
def precAgreeUptoRow : OpenClaim := { program := "ytcnnahmchjeakaa", sum := "1d378f3d09b3b89046e5fe985b357b5d726e0fd2315f8c3055fdca74154260d1", func := "surety/suretylaw09.PrecAgree", spec := "precAgree", unfollowed := true, recurses := true, loops := true, apart := false, narrowed := true }
def PrecAgreeUptoSaid : Prop := precAgreeUptoRow.holds Try.pinned (OpenSpec.upto precAgreeSpec)

/-- 'suretylaw09.PrecGround', WHERE WHAT IT READS IS OF BULK AT MOST 1048576: true; the input reads as it did. -/
def precGroundUptoRow : OpenClaim := { program := "ytcnnahmchjeakaa", sum := "1d378f3d09b3b89046e5fe985b357b5d726e0fd2315f8c3055fdca74154260d1", func := "surety/suretylaw09.PrecGround", spec := "precGround", unfollowed := true, recurses := true, loops := true, apart := false, narrowed := true }
def PrecGroundUptoSaid : Prop := precGroundUptoRow.holds Try.pinned (OpenSpec.upto precGroundSpec)

/-- 'suretylaw09.PrecLess', WHERE WHAT IT READS IS OF BULK AT MOST 1048576: true; the input reads as it did. -/
def precLessUptoRow : OpenClaim := { program := "ytcnnahmchjeakaa", sum := "1d378f3d09b3b89046e5fe985b357b5d726e0fd2315f8c3055fdca74154260d1", func := "surety/suretylaw09.PrecLess", spec := "precLess", unfollowed := true, recurses := true, loops := true, apart := false, narrowed := true }
def PrecLessUptoSaid : Prop := precLessUptoRow.holds Try.pinned (OpenSpec.upto precLessSpec)

end Rows
end Go.Proofs.Ytcnnahmchjeakaa

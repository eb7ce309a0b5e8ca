/-
  NARROWER THAN 'FOR EVERY INPUT', by the rows' own cells (each row's printed sentence says how): StorePlays: loops · StoreRead: loops · StoreLinks: loops · StoreLevels: loops · StoreCopy: loops.
  DERIVED. THE GIVEN ROWS OF THIS SEAT. 6 by the template 'for every input the law returns true; each argument reads behind the call as it read before'; 0 by the template 'total and deterministic' (their statements: YtnnkhjmfedmajaaTotals.lean).
  GIVEN WITH THE SEED: the statements are not yours to turn. If you find one false, say at which input.
  Laid BY PROGRAM, IN A SANDBOX (cutbox-rows.mjs): the forced cells as the released guide's own fill.sh prints them over the translation 446d3ebd889c594b… (all of the seat's roots in one cut). By AI agents, Wed Nov 11 2026. No macro, syntax, notation, axiom, sorry.
-/
import Derived.Test.YtnnkhjmfedmajaaChecked
import GoSem.Claim
import GoSem.ClaimJoined
import GoSem.ClaimMapViews
import Derived.JoinedTies
import Derived.KernelRfl
namespace Go.Proofs.Ytnnkhjmfedmajaa
/- THE CELL 'sum', in the pinned program and in every row, IS THE sha256 OF THE DUMP (.gsa) THAT YtnnkhjmfedmajaaProg.lean LOADS. Nothing in Lean hashes anything: it is a label: what it is worth is what the hold of that sum in a sandbox is worth. -/
noncomputable def Try.pinned : Pinned := { name := "ytnnkhjmfedmajaa", sum := "446d3ebd889c594b81bd74f13c169bb139fb5d8d8036336ab865e346fcc24692", checked := Try.checked }
namespace Rows
def none {H : Type} : Left H := { results := [], args := [] }

/-- 'suretylaw12.StorePlays': WHATEVER THE INPUT: true; the input reads as it did. -/
def storePlaysSpec : ChangeSpec := { name := "storePlays", fn := fun _ => fun
  | [d1, d2] => { results := [.lit (.bool true)], args := [d1, d2] }
  | _ => none }
def storePlaysRow : OpenClaim := { program := "ytnnkhjmfedmajaa", sum := "446d3ebd889c594b81bd74f13c169bb139fb5d8d8036336ab865e346fcc24692", func := "surety/suretylaw12.StorePlays", spec := "storePlays", unfollowed := true, recurses := true, loops := true, apart := false }
def StorePlaysSaid : Prop := storePlaysRow.holds Try.pinned (OpenSpec.ofChange storePlaysSpec)

/-- ITS FALSE NEIGHBOUR: 'it returns false'. Refute it at one input. -/
def storePlaysWrong : ChangeSpec := { name := "storePlays", fn := fun _ => fun
  | [d1, d2] => { results := [.lit (.bool false)], args := [d1, d2] }
  | _ => none }
def StorePlaysWrongFalsely : Prop := storePlaysRow.holds Try.pinned (OpenSpec.ofChange storePlaysWrong)

/-- 'suretylaw12.StoreRead': WHATEVER THE INPUT: true; the input reads as it did. -/
def storeReadSpec : ChangeSpec := { name := "storeRead", fn := fun _ => fun
  | [d1, d2] => { results := [.lit (.bool true)], args := [d1, d2] }
  | _ => none }
def storeReadRow : OpenClaim := { program := "ytnnkhjmfedmajaa", sum := "446d3ebd889c594b81bd74f13c169bb139fb5d8d8036336ab865e346fcc24692", func := "surety/suretylaw12.StoreRead", spec := "storeRead", unfollowed := true, recurses := true, loops := true, apart := false }
def StoreReadSaid : Prop := storeReadRow.holds Try.pinned (OpenSpec.ofChange storeReadSpec)

/-- ITS FALSE NEIGHBOUR: 'it returns false'. Refute it at one input. -/
def storeReadWrong : ChangeSpec := { name := "storeRead", fn := fun _ => fun
  | [d1, d2] => { results := [.lit (.bool false)], args := [d1, d2] }
  | _ => none }
def StoreReadWrongFalsely : Prop := storeReadRow.holds Try.pinned (OpenSpec.ofChange storeReadWrong)

/-- 'suretylaw12.StoreLinks': WHATEVER THE INPUT: true; the input reads as it did. -/
def storeLinksSpec : ChangeSpec := { name := "storeLinks", fn := fun _ => fun
  | [d1, d2, d3] => { results := [.lit (.bool true)], args := [d1, d2, d3] }
  | _ => none }
def storeLinksRow : OpenClaim := { program := "ytnnkhjmfedmajaa", sum := "446d3ebd889c594b81bd74f13c169bb139fb5d8d8036336ab865e346fcc24692", func := "surety/suretylaw12.StoreLinks", spec := "storeLinks", unfollowed := true, recurses := true, loops := true, apart := false }
def StoreLinksSaid : Prop := storeLinksRow.holds Try.pinned (OpenSpec.ofChange storeLinksSpec)

/-- ITS FALSE NEIGHBOUR: 'it returns false'. Refute it at one input. -/
def storeLinksWrong : ChangeSpec := { name := "storeLinks", fn := fun _ => fun
  | [d1, d2, d3] => { results := [.lit (.bool false)], args := [d1, d2, d3] }
  | _ => none }
def StoreLinksWrongFalsely : Prop := storeLinksRow.holds Try.pinned (OpenSpec.ofChange storeLinksWrong)

/-- 'suretylaw12.StoreLevels': WHATEVER THE INPUT: true; the input reads as it did. -/
def storeLevelsSpec : ChangeSpec := { name := "storeLevels", fn := fun _ => fun
  | [d1, d2, d3, d4, d5] => { results := [.lit (.bool true)], args := [d1, d2, d3, d4, d5] }
  | _ => none }
def storeLevelsRow : OpenClaim := { program := "ytnnkhjmfedmajaa", sum := "446d3ebd889c594b81bd74f13c169bb139fb5d8d8036336ab865e346fcc24692", func := "surety/suretylaw12.StoreLevels", spec := "storeLevels", unfollowed := true, recurses := true, loops := true, apart := false }
def StoreLevelsSaid : Prop := storeLevelsRow.holds Try.pinned (OpenSpec.ofChange storeLevelsSpec)

/-- ITS FALSE NEIGHBOUR: 'it returns false'. Refute it at one input. -/
def storeLevelsWrong : ChangeSpec := { name := "storeLevels", fn := fun _ => fun
  | [d1, d2, d3, d4, d5] => { results := [.lit (.bool false)], args := [d1, d2, d3, d4, d5] }
  | _ => none }
def StoreLevelsWrongFalsely : Prop := storeLevelsRow.holds Try.pinned (OpenSpec.ofChange storeLevelsWrong)

/-- 'suretylaw12.StoreCopy': WHATEVER THE INPUT: true; the input reads as it did. -/
def storeCopySpec : ChangeSpec := { name := "storeCopy", fn := fun _ => fun
  | [d1, d2] => { results := [.lit (.bool true)], args := [d1, d2] }
  | _ => none }
def storeCopyRow : OpenClaim := { program := "ytnnkhjmfedmajaa", sum := "446d3ebd889c594b81bd74f13c169bb139fb5d8d8036336ab865e346fcc24692", func := "surety/suretylaw12.StoreCopy", spec := "storeCopy", unfollowed := true, recurses := true, loops := true, apart := false }
def StoreCopySaid : Prop := storeCopyRow.holds Try.pinned (OpenSpec.ofChange storeCopySpec)

/-- ITS FALSE NEIGHBOUR: 'it returns false'. Refute it at one input. -/
def storeCopyWrong : ChangeSpec := { name := "storeCopy", fn := fun _ => fun
  | [d1, d2] => { results := [.lit (.bool false)], args := [d1, d2] }
  | _ => none }
def StoreCopyWrongFalsely : Prop := storeCopyRow.holds Try.pinned (OpenSpec.ofChange storeCopyWrong)

/-- 'suretylaw12.StoreLimit': WHATEVER THE INPUT: true; the input reads as it did. -/
def storeLimitSpec : ChangeSpec := { name := "storeLimit", fn := fun _ => fun
  | [d1, d2] => { results := [.lit (.bool true)], args := [d1, d2] }
  | _ => none }
def storeLimitRow : OpenClaim := { program := "ytnnkhjmfedmajaa", sum := "446d3ebd889c594b81bd74f13c169bb139fb5d8d8036336ab865e346fcc24692", func := "surety/suretylaw12.StoreLimit", spec := "storeLimit", unfollowed := true, recurses := true, apart := false }
def StoreLimitSaid : Prop := storeLimitRow.holds Try.pinned (OpenSpec.ofChange storeLimitSpec)

/-- ITS FALSE NEIGHBOUR: 'it returns false'. Refute it at one input. -/
def storeLimitWrong : ChangeSpec := { name := "storeLimit", fn := fun _ => fun
  | [d1, d2] => { results := [.lit (.bool false)], args := [d1, d2] }
  | _ => none }
def StoreLimitWrongFalsely : Prop := storeLimitRow.holds Try.pinned (OpenSpec.ofChange storeLimitWrong)

/- THE SECOND FORM. 'bulk': how many values and letters a reading holds, each counted each time it is reached (what is shared counts as often as it is met; a slice's spare places count too). A statement '..UptoSaid' is the law's where the arguments, and the package variables that the reading takes, are together of bulk at most 1048576: NARROWER than '..Said'. Prove '..Said' where nothing that the law and all that it calls make is longer than what came in: it says more and counts as full. Else prove '..UptoSaid'. A law counts once. -/
mutual
def uptoBulk {H : Type} : DataW H → Nat
  | .lit (.string bytes) => bytes.length + 1
  | .lit _ => 1
  | .nil => 1
  | .ptr d => uptoBulk d + 1
  | .slice elems spare => uptoBulkAll elems + uptoBulkAll spare + 1
  | .agg parts => uptoBulkAll parts + 1
  | .iface _ d => uptoBulk d + 1
  | .map entries => uptoBulkEntries entries + 1
  | .held _ => 1
def uptoBulkAll {H : Type} : List (DataW H) → Nat
  | [] => 0
  | d :: r => uptoBulk d + uptoBulkAll r
def uptoBulkEntries {H : Type} : List (Lit × DataW H) → Nat
  | [] => 0
  | x :: r => uptoBulkEntry x + uptoBulkEntries r
def uptoBulkEntry {H : Type} : Lit × DataW H → Nat
  | (.string bytes, d) => bytes.length + uptoBulk d + 1
  | (_, d) => uptoBulk d + 1
 end
def uptoSmall : (H : Type) → List (DataW H) → Bool := fun _ ds => decide (uptoBulkAll ds ≤ 1048576)
def OpenSpec.upto (s : _root_.Go.ChangeSpec) : _root_.Go.OpenSpec := { _root_.Go.OpenSpec.ofChange s with cond := some uptoSmall }

/-- 'suretylaw12.StorePlays', WHERE WHAT IT READS IS OF BULK AT MOST 1048576: true; the input reads as it did. -/
def storePlaysUptoRow : OpenClaim := { program := "ytnnkhjmfedmajaa", sum := "446d3ebd889c594b81bd74f13c169bb139fb5d8d8036336ab865e346fcc24692", func := "surety/suretylaw12.StorePlays", spec := "storePlays", unfollowed := true, recurses := true, loops := true, apart := false, narrowed := true }
def StorePlaysUptoSaid : Prop := storePlaysUptoRow.holds Try.pinned (OpenSpec.upto storePlaysSpec)

/-- 'suretylaw12.StoreRead', WHERE WHAT IT READS IS OF BULK AT MOST 1048576: true; the input reads as it did. -/
def storeReadUptoRow : OpenClaim := { program := "ytnnkhjmfedmajaa", sum := "446d3ebd889c594b81bd74f13c169bb139fb5d8d8036336ab865e346fcc24692", func := "surety/suretylaw12.StoreRead", spec := "storeRead", unfollowed := true, recurses := true, loops := true, apart := false, narrowed := true }
def StoreReadUptoSaid : Prop := storeReadUptoRow.holds Try.pinned (OpenSpec.upto storeReadSpec)

/-- 'suretylaw12.StoreLinks', WHERE WHAT IT READS IS OF BULK AT MOST 1048576: true; the input reads as it did. -/
def storeLinksUptoRow : OpenClaim := { program := "ytnnkhjmfedmajaa", sum := "446d3ebd889c594b81bd74f13c169bb139fb5d8d8036336ab865e346fcc24692", func := "surety/suretylaw12.StoreLinks", spec := "storeLinks", unfollowed := true, recurses := true, loops := true, apart := false, narrowed := true }
def StoreLinksUptoSaid : Prop := storeLinksUptoRow.holds Try.pinned (OpenSpec.upto storeLinksSpec)

/-- 'suretylaw12.StoreLevels', WHERE WHAT IT READS IS OF BULK AT MOST 1048576: true; the input reads as it did. -/
def storeLevelsUptoRow : OpenClaim := { program := "ytnnkhjmfedmajaa", sum := "446d3ebd889c594b81bd74f13c169bb139fb5d8d8036336ab865e346fcc24692", func := "surety/suretylaw12.StoreLevels", spec := "storeLevels", unfollowed := true, recurses := true, loops := true, apart := false, narrowed := true }
def StoreLevelsUptoSaid : Prop := storeLevelsUptoRow.holds Try.pinned (OpenSpec.upto storeLevelsSpec)

/-- 'suretylaw12.StoreCopy', WHERE WHAT IT READS IS OF BULK AT MOST 1048576: true; the input reads as it did. -/
def storeCopyUptoRow : OpenClaim := { program := "ytnnkhjmfedmajaa", sum := "446d3ebd889c594b81bd74f13c169bb139fb5d8d8036336ab865e346fcc24692", func := "surety/suretylaw12.StoreCopy", spec := "storeCopy", unfollowed := true, recurses := true, loops := true, apart := false, narrowed := true }
def StoreCopyUptoSaid : Prop := storeCopyUptoRow.holds Try.pinned (OpenSpec.upto storeCopySpec)

/-- 'suretylaw12.StoreLimit', WHERE WHAT IT READS IS OF BULK AT MOST 1048576: true; the input reads as it did. -/
def storeLimitUptoRow : OpenClaim := { program := "ytnnkhjmfedmajaa", sum := "446d3ebd889c594b81bd74f13c169bb139fb5d8d8036336ab865e346fcc24692", func := "surety/suretylaw12.StoreLimit", spec := "storeLimit", unfollowed := true, recurses := true, apart := false, narrowed := true }
def StoreLimitUptoSaid : Prop := storeLimitUptoRow.holds Try.pinned (OpenSpec.upto storeLimitSpec)

end Rows
end Go.Proofs.Ytnnkhjmfedmajaa

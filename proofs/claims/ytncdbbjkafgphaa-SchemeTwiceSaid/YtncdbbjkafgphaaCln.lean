/-
  DERIVED: THE SHELF's CONTRACTS AT THIS DUMP, IN PLAIN WORDS (tools/lay-plain.mjs out of 'TryClnS.lean', which tools/lay-shelf.mjs wrote): THE SAME DECLARATIONS UNDER THE SAME NAMES: 'import', 'namespace', 'open', 'def', 'theorem' AND NOTHING ELSE: no command of the shelf's: FOR A HAND-IN. Each laying: the table of numbers ('.._ren') and one theorem, a field a fact of the dump's own or the kernel's comparison; each contract: ONE APPLICATION.
-/
import Derived.Shelf.SlicesE.Clone
import Derived.Ground.SlgnProg
import Derived.Test.YtncdbbjkafgphaaProg
namespace Go.Proofs
open Go.Shelf
def Try.laysCloneT_ren : Go.Shelf.Ren := ⟨fun | 41 => 56 | n => n, fun | 22 => 22 | 23 => 24 | 4 => 4 | n => n, fun | n => n⟩
theorem Try.laysCloneT : Go.Proofs.SlLaysE0.n41 Try.prog Try.laysCloneT_ren := {
  mixed := by kernel_rfl
  f41 := ⟨Try.f56.name, by decide, Try.func56.trans (congrArg some (by kernel_rfl))⟩
  t4 := Try.underlying4
  a4 := Try.isAgg4
  z4 := Try.sizeOf4
  v4 := Try.zeroValue4
  t22 := Try.underlying22
  a22 := Try.isAgg22
  z22 := Try.sizeOf22
  v22 := Try.zeroValue22 }
theorem Try.cloneT_any : ∀ (i0 : TypeInfo) (z : Value) (bytes : Nat), Try.prog.info? 24 = some i0 → i0.zero = some z → i0.size = 3 → i0.bytes = bytes → z.cells.size = 3 → (∀ w, (Go.sizeOf 24).run Try.prog w = .ok 3 w) →
    ∀ (b off n c : Nat) (news : List Value) (w : World), news.length = n * 3 → n ≤ maxLen → n * bytes ≤ 140737488355328 → (∀ j u, news[j]? = some u → w.cell? ⟨b, off + j, none⟩ = some u) → (∀ u ∈ news, u.oneCell' = true) →
    Calls Try.prog 56 #[.slice (some ⟨b, off, none⟩) n c] w fun e w' => ∃ v', e = .returned v' ∧ w'.ownsRow w.heap.size 24 3 v' n news ∧ v' ≠ .slice none 0 0 ∧ Go.RowKit.Below w.heap.size w w' := fun i0 z bytes hi hz0 hz1 hz2 hzs z23 b off n c news w hl hn hbig hc h1 => AnyE.slices_Clone Try.laysCloneT i0 z 3 bytes hi hz0 hz1 hz2 hzs (by decide) z23 b off n c news w hl hn hbig hc h1
theorem Try.cloneT_nil : ∀ (n c : Nat) (w : World), Calls Try.prog 56 #[.slice none n c] w fun e w' => e = .returned (.slice none 0 0) ∧ w' = w := fun n c w => AnyE.slices_Clone_nil Try.laysCloneT n c w

end Go.Proofs

/- A []byte that came in: what its cells hold (for the laws of layer 4). -/
import Derived.Test.YtideicoifinnoaaGreatDoorTfA
import Derived.Test.YtideicoifinnoaaGreatDoorLexA
import Derived.WalkKit
import Derived.ProofKit
import Derived.OpenShut
namespace Go.Proofs.YtideicoifinnoaaGreatDoor
open Go Go.ChangeShapes Go.WideShapes Go.ChangeAt Go.RowKit

theorem cells_u8 : Tryz.prog.cellsOf 5 = 1 := by kernel_rfl
/-- The slice holds bytes. -/
def BytesAt (W : World) (a : Option Addr) (n : Nat) (cap : Nat) : Prop :=
  n ≤ maxLen ∧ n ≤ cap ∧ (a = none → cap = 0) ∧ ∃ bs : List UInt8, bs.length = n ∧ Holds W a bs
theorem wf_u8 {a : Int} (h : (Lit.int .u8 a).wf = true) : a = ((UInt8.ofNat a.toNat).toNat : Int) := by
  have e1 : IntKind.u8.min = 0 := rfl
  have e2 : IntKind.u8.max = 255 := rfl
  simp [Lit.wf, e1, e2] at h
  rw [UInt8.toNat_ofNat']; omega
theorem bytes_open {H : Type} {enc : TypeId × Value → H} {W : World} {a : Option Addr} {n cap : Nat} {d : DataW H} {ps : List MemPlace}
    (h : DataW.Trod enc Tryz.prog W 0 (fun _ => true) true 25 (.slice a n cap) d ps) : BytesAt W a n cap := by
  obtain ⟨fuel, hf⟩ := h
  rcases open_ints Tryz.underlying25 Tryz.underlying5 cells_u8 hf with ⟨hcs, hx⟩ | ⟨ad, len, cap', zs, hcs, _, hl, hm, hz, hx, hcell, hwz⟩
  · simp [Value.cells] at hcs
    obtain ⟨rfl, rfl, rfl⟩ := hcs
    exact ⟨by unfold maxLen; omega, Nat.le_refl _, fun _ => rfl, [], rfl, Or.inl rfl⟩
  · simp [Value.cells] at hcs
    obtain ⟨rfl, rfl, rfl⟩ := hcs
    simp only [if_true] at hz
    have hle : n ≤ zs.length := by omega
    refine ⟨by omega, by omega, (fun h => by cases h), (zs.take n).map fun z => UInt8.ofNat z.toNat, by simp; omega, ?_⟩
    by_cases hn : n = 0
    · subst hn; exact Or.inl (by simp)
    · obtain ⟨b, off, rfl, hc⟩ := ints_at hcell (by omega)
      refine Or.inr ⟨b, off, rfl, World.block_lt_of_cell? W ⟨b, off + 0, none⟩ (hc 0 (by omega)), fun i hi => ?_⟩
      simp at hi
      rw [hc i (by omega)]
      have hg : zs.getD i 0 = zs[i]'(by omega) := by simp [List.getD, List.getElem?_eq_getElem (show i < zs.length by omega)]
      rw [hg]
      have hw := wf_u8 (hwz (zs[i]'(by omega)) (List.getElem_mem _))
      simp only [List.getElem_map, List.getElem_take]
      rw [← hw]
end Go.Proofs.YtideicoifinnoaaGreatDoor

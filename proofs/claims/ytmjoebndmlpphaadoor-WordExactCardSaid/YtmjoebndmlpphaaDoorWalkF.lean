/- wakes: the statements' own sample. -/
import Derived.Test.YtmjoebndmlpphaaDoorWalkE
namespace Go.Proofs.YtmjoebndmlpphaaDoor
open Go Go.RowKit
open Go.Proofs

theorem text_min : Wd.num (-9223372036854775808) = [126, 57, 50, 50, 51, 51, 55, 50, 48, 51, 54, 56, 53, 52, 55, 55, 53, 56, 48, 56] := by decide +kernel
theorem text_m5 : Wd.num (-5) = [126, 53] := by decide +kernel
theorem lit_a : Wd.quote [97, 34] = [34, 97, 92, 50, 50, 34] := by decide +kernel

set_option maxHeartbeats 1000000 in
theorem wakes_any (w : World) (hg : Good w) :
    Calls Tryd.prog 21 #[] w fun e w' => e = .returned (.bool true) ∧ Below w.heap.size w w' := by
  have HG := Lib.hid hg; clear hg
  have hp := parse_yes (-9223372036854775808) ⟨by decide, by decide⟩
  rw [text_min] at hp
  have HP := Lib.hid hp; clear hp
  have hu := unq_yes { data := #[34, 97, 92, 50, 50, 34] } [97, 34] (by decide) lit_a.symm
  have HU := Lib.hid hu; clear hu
  have h1 := name_any { data := #[120, 49, 39] } (by decide)
  rw [show Wd.name ({ data := #[120, 49, 39] } : ByteArray).data.toList = true from by decide +kernel] at h1
  have H1 := Lib.hid h1; clear h1
  have h2 := name_any { data := #[105, 110] } (by decide)
  rw [show Wd.name ({ data := #[105, 110] } : ByteArray).data.toList = false from by decide +kernel] at h2
  have H2 := Lib.hid h2; clear h2
  have h3 := key_any { data := #[105, 110] }
  rw [show Wd.key ({ data := #[105, 110] } : ByteArray).data.toList = true from by decide +kernel] at h3
  have H3 := Lib.hid h3; clear h3
  have h5 := num_any (-5) ⟨by decide, by decide⟩
  rw [text_m5] at h5
  have H5 := Lib.hid h5; clear h5
  go_enter Tryd.func21, Tryd.ntmps21
  go_wp2_with fail
  refine (HP.out _ HG.out).mono ?_
  rintro e w1 ⟨rfl, hb1⟩
  go_wp2_with fail
  refine (HU.out _).mono ?_
  rintro e w2 ⟨rfl, hb2⟩
  go_wp2_with fail
  refine (H1.out _).mono ?_
  rintro e w3 ⟨rfl, rfl⟩
  go_wp2_with fail
  refine (H2.out _).mono ?_
  rintro e w3 ⟨rfl, rfl⟩
  go_wp2_with fail
  refine (H3.out _).mono ?_
  rintro e w3 ⟨rfl, rfl⟩
  go_wp2_with fail
  refine (H5.out _ ((HG.out.below hb1).below hb2)).mono ?_
  rintro e w3 ⟨rfl, hb3⟩
  go_wp2_with fail
  go_ret
  exact ⟨rfl, (hb1.trans (hb2.mono hb1.size)).trans (hb3.mono (Nat.le_trans hb1.size hb2.size))⟩
end Go.Proofs.YtmjoebndmlpphaaDoor

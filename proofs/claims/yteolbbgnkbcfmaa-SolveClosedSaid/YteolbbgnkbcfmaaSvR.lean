/- suretylaw08.Right: a row of types, right and few enough. -/
import Derived.Test.YteolbbgnkbcfmaaTrA
import Derived.Test.YteolbbgnkbcfmaaAgL
namespace Go.Proofs.Yteolbbgnkbcfmaa
open Go Go.RowKit
open Tp (T)
set_option maxHeartbeats 1000000 in
theorem lright_any (l : List T) (a : Option Addr) (cap : Nat) (w : World) (hl : l.length ≤ 10) (hk : KidsAt (LT w.heap.size) w l a) :
    Calls Try.prog 38 #[.slice a l.length cap] w fun e w' => e = .returned (.bool (!decide (600 < Tp.sizes l) && Tp.rights l)) ∧ Below w.heap.size w w' := by
  have hhe := heavy_any l a cap w hl hk
  have HK := Lib.hid hk; clear hk
  obtain ⟨m, hm⟩ : ∃ m, l.length = m := ⟨_, rfl⟩
  obtain ⟨hv, hhv⟩ : ∃ hv, decide (600 < Tp.sizes l) = hv := ⟨_, rfl⟩
  rw [hm] at hl hhe ⊢
  rw [hhv] at hhe ⊢
  have HM := Lib.hid hm; have HHE := Lib.hid hhe; clear hm hhe hhv
  go_enter Try.func38, Try.ntmps38
  go_wp2_with fail
  refine HHE.out.mono ?_
  rintro e w1 ⟨rfl, hb1⟩
  have HB1 := Lib.hid hb1; clear hb1
  cases hv with
  | true =>
    go_wp2_with fail
    go_ret
    exact ⟨rfl, HB1.out⟩
  | false =>
    go_wp2_with fail
    go_loopg [3] m (fun gk i wr => ∃ (k : Nat), k ≤ m ∧ i = .int .i64 k ∧ Tp.rights (l.take k) = true ∧ Below w.heap.size w wr ∧ gk = m - k)
    case atStart => exact ⟨0, Nat.zero_le _, rfl, rfl, HB1.out, rfl⟩
    case round =>
      obtain ⟨k, hk, rfl, q1, hb, rfl⟩ := hrel
      have HB := Lib.hid hb; have Q1 := Lib.hid q1; clear hb q1
      by_cases hlt : k < m
      · have hkl : k < l.length := by rw [HM.out]; exact hlt
        have hk2 : KidsAt (LT wr.heap.size) wr l a := HK.out.below HB.out (fun _ h => h) (fun b h => Nat.lt_of_lt_of_le h HB.out.size)
        obtain ⟨b, o, rfl, hbn, hN⟩ := hk2.first (by omega)
        obtain ⟨xa, xcap, hx, x0, x1, x2⟩ := (hN k hkl).ty
        have hst := rights_take l k hkl
        have hget := rights_get l k hkl
        have hcall := rright_any (Tp.size l[k]) l[k] xa xcap wr (Nat.le_refl _) hx
        unfold tv at hcall
        obtain ⟨y, hy⟩ : ∃ x, l[k] = x := ⟨_, rfl⟩
        rw [hy] at x0 x1 x2 hcall hst hget
        obtain ⟨ry, hry⟩ : ∃ r, Tp.right y = r := ⟨_, rfl⟩
        rw [hry] at hcall hst hget
        have HST := Lib.hid hst; have HC := Lib.hid hcall; have HGET := Lib.hid hget
        clear hst hcall hx hy hry hk2 hN hbn hget
        go_wp2_with fail
        refine HC.out.mono ?_
        rintro e w5 ⟨rfl, hb5⟩
        have HB5 := Lib.hid hb5; clear hb5 x0 x1 x2
        cases ry with
        | true =>
          go_wp2_with fail
          go_roundg (m - (k + 1))
          case measure => omega
          case rel => exact ⟨k + 1, by omega, by go_num, by rw [HST.out, Q1.out]; rfl, HB.out.trans (HB5.out.mono HB.out.size), rfl⟩
        | false =>
          go_wp2_with fail
          go_ret
          exact ⟨ret_boolT (by rw [HGET.out (by simp)]; rfl), HB.out.trans (HB5.out.mono HB.out.size)⟩
      · obtain rfl : k = m := by omega
        have htk : l.take k = l := List.take_of_length_le (by rw [HM.out]; exact Nat.le_refl _)
        have hre : Tp.rights l = true := by rw [← htk]; exact Q1.out
        have HRE := Lib.hid hre; clear htk hre
        go_wp2_with fail
        go_ret
        exact ⟨ret_boolT (by rw [HRE.out]; rfl), HB.out⟩
end Go.Proofs.Yteolbbgnkbcfmaa

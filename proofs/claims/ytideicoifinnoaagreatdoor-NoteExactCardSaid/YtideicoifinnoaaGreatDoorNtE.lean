/- note.leafText. -/
import Derived.Test.YtideicoifinnoaaGreatDoorNtA
namespace Go.Proofs.YtideicoifinnoaaGreatDoor
open Go Go.RowKit
open Tp (T)
open Nt (Pc)

theorem beq_no {k q : Int} (h : ¬ k = q) : (k == q) = false := by simpa using h
set_option maxRecDepth 100000 in
set_option maxHeartbeats 2000000 in
theorem leaf_any (t : T) (a : Option Addr) (cap : Nat) (w : World) (hg : Good w) (hn : Wd.inI64 t.num) :
    Calls Tryz.prog 17 #[tv t a cap] w fun e w' => e = .returned (.string ⟨(Nt.leafTx t.kind t.num).toArray⟩) ∧ Below w.heap.size w w' := by
  obtain ⟨k, hk⟩ : ∃ k, t.kind = k := ⟨_, rfl⟩
  obtain ⟨n, hnn⟩ : ∃ n, t.num = n := ⟨_, rfl⟩
  obtain ⟨m, hm⟩ : ∃ m, t.kids.length = m := ⟨_, rfl⟩
  unfold tv
  rw [hk, hnn, hm]
  rw [hnn] at hn
  clear hk hnn hm
  have HN := Lib.hid hn; have HG := Lib.hid hg
  have hal : Below w.heap.size w (w.alloc (.cells #[.int .i64 k, .int .i64 n, .slice a m cap] 24)) := (Below.refl _ _).alloc (Nat.le_refl _) _
  have HAL := Lib.hid hal
  clear hn hg hal
  by_cases h6 : k = 6
  · subst h6
    obtain ⟨s, hs⟩ : ∃ s, Wd.num n = s := ⟨_, rfl⟩
    have hnum := num_any n HN.out _ (HG.out.below HAL.out)
    rw [hs] at hnum
    have hr : Nt.leafTx 6 n = 39 :: s := by rw [← hs]; rfl
    rw [hr]
    have hlen : s.length ≤ 21 := by rw [← hs]; exact Wd.num_len n HN.out
    have HNUM := Lib.hid hnum
    clear hnum hs hr
    go_enter Tryz.func17, Tryz.ntmps17
    go_wp2_with fail
    refine HNUM.out.mono ?_
    rintro e w1 ⟨rfl, hb1⟩
    go_wp2_with fail
    go_ret
    exact ⟨ret_string (by simp), HAL.out.trans (hb1.mono (by simp))⟩
  · by_cases h1 : k = 1
    · subst h1
      go_enter Tryz.func17, Tryz.ntmps17
      go_wp2_with fail
      go_ret
      exact ⟨rfl, HAL.out⟩
    · by_cases h2 : k = 2
      · subst h2
        go_enter Tryz.func17, Tryz.ntmps17
        go_wp2_with fail
        go_ret
        exact ⟨rfl, HAL.out⟩
      · by_cases h3 : k = 3
        · subst h3
          go_enter Tryz.func17, Tryz.ntmps17
          go_wp2_with fail
          go_ret
          exact ⟨rfl, HAL.out⟩
        · by_cases h4 : k = 4
          · subst h4
            go_enter Tryz.func17, Tryz.ntmps17
            go_wp2_with fail
            go_ret
            exact ⟨rfl, HAL.out⟩
          · by_cases h5 : k = 5
            · subst h5
              go_enter Tryz.func17, Tryz.ntmps17
              go_wp2_with fail
              go_ret
              exact ⟨rfl, HAL.out⟩
            · have hr : Nt.leafTx k n = [] := by simp [Nt.leafTx, h1, h2, h3, h4, h5, h6]
              have b1 := beq_no h1; have b2 := beq_no h2; have b3 := beq_no h3; have b4 := beq_no h4; have b5 := beq_no h5; have b6 := beq_no h6
              rw [hr]
              clear hr
              go_enter Tryz.func17, Tryz.ntmps17
              go_wp2_with fail
              go_ret
              exact ⟨rfl, HAL.out⟩
end Go.Proofs.YtideicoifinnoaaGreatDoor

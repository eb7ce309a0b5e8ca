/- The methods of package sub: turned, settled, fits, walked. -/
import Derived.Test.YtafekidkikfpcaaSbV
namespace Go.Proofs.Ytafekidkikfpcaa
open Go Go.RowKit
open Tp (T Md)

set_option maxRecDepth 100000 in
theorem turned_any (m : Md) (w : World) : Calls Try.prog 45 #[.int .i64 (mdv m)] w fun e w' => e = .returned (.int .i64 (mdv m.flip)) ∧ w' = w := by
  cases m
  all_goals
    unfold mdv Md.flip
    go_enter Try.func45, Try.ntmps45
    go_wp2_with fail
    go_ret
    exact ⟨rfl, rfl⟩
set_option maxRecDepth 100000 in
set_option maxHeartbeats 1000000 in
theorem settled_any (d : Md) {x y : T} {k n k' n' : Int} {m m' : Nat} {a a' : Option Addr} {c c' : Nat} {w : World} (hv : TV x k n m) (hv' : TV y k' n' m') :
    Calls Try.prog 37 #[.agg #[.int .i64 (mdv d), .int .i64 k, .int .i64 n, .slice a m c, .int .i64 k', .int .i64 n', .slice a' m' c']] w fun e w' => e = .returned (.bool (settled d x y)) ∧ Below w.heap.size w w' := by
  obtain ⟨W1, hW1⟩ : ∃ W, w.alloc (.cells #[.int .i64 (mdv d), .int .i64 k, .int .i64 n, .slice a m c, .int .i64 k', .int .i64 n', .slice a' m' c'] 49) = W := ⟨_, rfl⟩
  obtain ⟨hbx, hb1, -⟩ := box_cl hW1
  obtain ⟨c0, c1, c2, c3, c4, c5, c6⟩ := cells_cl hbx
  have HW1 := Lib.hid hW1; have HB1 := Lib.hid hb1
  have hs : ∀ d, settled d x y = match d with | .p => decide (k' = 5) | .n => decide (k = 5) | .s => false := fun d => by cases d <;> simp only [settled, hv.1, hv'.1]
  rw [hs]
  clear hW1 hb1 hbx hv hv' hs
  go_enter Try.func37, Try.ntmps37
  go_upto_region 1 with fail
  rw [HW1.out]
  cases d with
  | p =>
    simp only [mdv] at c0
    by_cases h : k' = 5
    · have g : (k' == 5) = true := by simp [h]
      go_wp2_with fail
      go_ret
      exact ⟨ret_boolT (by simp_all), HB1.out⟩
    · have g : (k' == 5) = false := by simp [h]
      go_wp2_with fail
      go_ret
      exact ⟨ret_boolT (by simp_all), HB1.out⟩
  | n =>
    simp only [mdv] at c0
    by_cases h : k = 5
    · have g : (k == 5) = true := by simp [h]
      go_wp2_with fail
      go_ret
      exact ⟨ret_boolT (by simp_all), HB1.out⟩
    · have g : (k == 5) = false := by simp [h]
      go_wp2_with fail
      go_ret
      exact ⟨ret_boolT (by simp_all), HB1.out⟩
  | s =>
    simp only [mdv] at c0
    go_wp2_with fail
    go_ret
    exact ⟨rfl, HB1.out⟩
set_option maxRecDepth 100000 in
set_option maxHeartbeats 1000000 in
theorem fits_any (d : Md) {x y : T} {k n k' n' : Int} {m m' : Nat} {a a' : Option Addr} {c c' : Nat} {w : World} (hv : TV x k n m) (hv' : TV y k' n' m') :
    Calls Try.prog 38 #[.agg #[.int .i64 (mdv d), .int .i64 k, .int .i64 n, .slice a m c, .int .i64 k', .int .i64 n', .slice a' m' c']] w fun e w' => e = .returned (.bool (fits x y)) ∧ Below w.heap.size w w' := by
  obtain ⟨W1, hW1⟩ : ∃ W, w.alloc (.cells #[.int .i64 (mdv d), .int .i64 k, .int .i64 n, .slice a m c, .int .i64 k', .int .i64 n', .slice a' m' c'] 49) = W := ⟨_, rfl⟩
  obtain ⟨hbx, hb1, -⟩ := box_cl hW1
  obtain ⟨c0, c1, c2, c3, c4, c5, c6⟩ := cells_cl hbx
  have HW1 := Lib.hid hW1; have HB1 := Lib.hid hb1
  have hs : fits x y = if k' = 5 then !decide (k = 6) else decide (k = k') && decide (n = n') := by unfold fits; rw [hv.1, hv.2.1, hv'.1, hv'.2.1]
  rw [hs]
  clear hW1 hb1 hbx hv hv' hs
  go_enter Try.func38, Try.ntmps38
  go_upto_region 1 with fail
  rw [HW1.out]
  by_cases h : k' = 5
  · have g : (k' == 5) = true := by simp [h]
    by_cases h6 : k = 6
    · have g6 : (k != 6) = false := by simp [h6]
      go_wp2_with fail
      go_ret
      exact ⟨ret_boolT (by simp_all), HB1.out⟩
    · have g6 : (k != 6) = true := by simp [h6]
      go_wp2_with fail
      go_ret
      exact ⟨ret_boolT (by simp_all), HB1.out⟩
  · have g : (k' == 5) = false := by simp [h]
    by_cases hk : k = k'
    · have gk : (k == k') = true := by simp [hk]
      by_cases hn : n = n'
      · have gn : (n == n') = true := by simp [hn]
        go_wp2_with fail
        go_ret
        exact ⟨ret_boolT (by simp_all), HB1.out⟩
      · have gn : (n == n') = false := by simp [hn]
        go_wp2_with fail
        go_ret
        exact ⟨ret_boolT (by simp_all), HB1.out⟩
    · have gk : (k == k') = false := by simp [hk]
      go_wp2_with fail
      go_ret
      exact ⟨ret_boolT (by simp_all), HB1.out⟩
end Go.Proofs.Ytafekidkikfpcaa

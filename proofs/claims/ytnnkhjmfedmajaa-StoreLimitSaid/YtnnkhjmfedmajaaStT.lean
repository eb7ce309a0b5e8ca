/- StoreLimit: the walk. -/
import Derived.Test.YtnnkhjmfedmajaaStS
namespace Go.Proofs.Ytnnkhjmfedmajaa
open Go Go.RowKit
open Tp (T)
open Sg (Of Rt)
/-- The leaves and i variables. -/
def vrs (j : Nat) : List SNd := lvs 5 ++ (List.range j).map fun (i : Nat) => ⟨⟨6, (i : Int), 0, 0, 0⟩, 5 + i⟩
theorem vrs_len (j : Nat) : (vrs j).length = 5 + j := by unfold vrs; rw [List.length_append, lvs_len, List.length_map, List.length_range]
theorem vrs_succ (j : Nat) : vrs (j + 1) = vrs j ++ [⟨⟨6, (j : Int), 0, 0, 0⟩, (vrs j).length⟩] := by
  rw [vrs_len]; unfold vrs; rw [List.range_succ, List.map_append, List.append_assoc]; rfl
theorem vrs_get (i : Nat) : (vrs (i + 1))[5 + i]? = some ⟨⟨6, (i : Int), 0, 0, 0⟩, 5 + i⟩ := by
  rw [vrs_succ, List.getElem?_append_right (by rw [vrs_len]; exact Nat.le_refl _), vrs_len, Nat.sub_self]; rfl
theorem vrs_zero : vrs 0 = lvs 5 := by unfold vrs; simp
set_option maxRecDepth 100000 in
theorem int60_any (x : Int) (w : World) : ∃ k : Nat, k < 60 ∧ Calls Try.prog 26 #[.int .i64 x, .int .i64 60] w fun e w' => e = .returned (.int .i64 (k : Int)) ∧ w' = w := by
  have h : 0 ≤ IntKind.u64.wrap x := by
    simp [IntKind.wrap, IntKind.bits, IntKind.signed]
    omega
  have h3 : 0 ≤ (IntKind.u64.wrap x).tmod 60 ∧ (IntKind.u64.wrap x).tmod 60 < 60 := by
    rw [Int.tmod_eq_emod_of_nonneg h]
    exact ⟨Int.emod_nonneg _ (by omega), Int.emod_lt_of_pos _ (by omega)⟩
  obtain ⟨r, hr⟩ : ∃ r, (IntKind.u64.wrap x).tmod 60 = r := ⟨_, rfl⟩
  rw [hr] at h3
  have h4 : wrap64 r = r := by unfold wrap64; omega
  have h7 : (r.toNat : Int) = r := by omega
  refine ⟨r.toNat, by omega, ?_⟩
  rw [h7]
  clear h
  go_enter Try.func26, Try.ntmps26
  go_wp2_with fail
  go_ret
  exact ⟨rfl, rfl⟩
set_option maxRecDepth 100000 in
set_option maxHeartbeats 8000000 in
theorem llimit12_any (x y : Int) (w : World) (hx : I64 x) (_ : I64 y) :
    Calls Try.prog 8 #[.int .i64 x, .int .i64 y] w fun e w' => e = .returned (.bool true) ∧ Below w.heap.size w w' := by
  obtain ⟨n, hn, hint⟩ := int60_any y w
  have HINT := Lib.hid hint; clear hint
  have HX := Lib.hid hx; clear hx
  go_enter Try.func8, Try.ntmps8
  go_wp2_with fail
  refine HINT.out.mono ?_
  rintro e w0 ⟨rfl, hw0⟩
  rw [hw0]; clear hw0
  go_upto_if 13 with fail
  go_cut [0] from 12 (fun v wx => ∃ l : Int, v = .int .i64 l ∧ l ≤ 1060 ∧ w = wx)
  case first =>
    by_cases h : 60 < x
    · have h3 : 0 ≤ x.tmod 1000 ∧ x.tmod 1000 < 1000 := by
        rw [Int.tmod_eq_emod_of_nonneg (by omega)]
        exact ⟨Int.emod_nonneg _ (by omega), Int.emod_lt_of_pos _ (by omega)⟩
      obtain ⟨r, hr⟩ : ∃ r, x.tmod 1000 = r := ⟨_, rfl⟩
      rw [hr] at h3
      have h4 : wrap64 r = r := by unfold wrap64; omega
      have h5 : wrap64 (61 + r) = 61 + r := by unfold wrap64; omega
      go_wp2_with fail
      go_meet
      case rel => exact ⟨_, rfl, by omega, rfl⟩
    · go_wp2_with fail
      go_meet
      case rel => exact ⟨_, rfl, by omega, rfl⟩
  case rest =>
  obtain ⟨l, rfl, hl, hwc⟩ := hcut
  subst hwc
  obtain ⟨m, hm⟩ : ∃ m : Nat, max l 0 = (m : Int) := ⟨(max l 0).toNat, by omega⟩
  have hm9 : m ≤ 1060 := by omega
  go_wp2_with fail
  refine (new12_any l w).mono ?_
  rintro e w1 ⟨g1, cap1, rfl, hsv, hb⟩
  rw [show min (max l 0) 65536 = (m : Int) from by omega] at hsv
  have S1 := Lib.hid hsv; have B1 := Lib.hid hb; clear hsv hb
  go_upto_region 7 with fail
  go_cut [6] from 200 (fun v wx => v = .int .i64 (m : Int) ∧ w1 = wx)
  case first =>
    go_wp2_with fail
    all_goals
      go_meet
      case rel => exact ⟨congrArg (Value.int .i64) (by omega), rfl⟩
  case rest =>
  obtain ⟨rfl, hwc⟩ := hcut
  subst hwc
  clear hm hl
  go_wp2_with fail
  go_loopg [7] n (fun gk v wr => ∃ i g cap : Nat, i ≤ n ∧ v = .int .i64 (i : Int) ∧ SV w.heap.size w.heap.size g cap (m : Int) ((min i m : Nat) : Int) 0 wr (vrs (min i m)) ∧ Below w.heap.size w wr ∧ gk = n - i)
  case atStart => exact ⟨0, g1, cap1, Nat.zero_le _, rfl, by rw [Nat.zero_min, vrs_zero]; exact S1.out, B1.out, rfl⟩
  case round =>
    obtain ⟨i, g, cap, hin, rfl, hsv, hb, rfl⟩ := hrel
    by_cases hlt : i < n
    · by_cases him : i < m
      · rw [show min i m = i from by omega] at hsv
        have hV : Calls Try.prog 34 #[.pointer (some ⟨w.heap.size, 0, none⟩), .int .i64 (i : Int)] wr fun e w' => e = .returned (.tuple #[.int .i64 (5 + (i : Int)), .int .i64 0]) ∧ AddP w.heap.size w.heap.size g (m : Int) (i : Int) 0 (vrs i) ⟨6, (i : Int), 0, 0, 0⟩ wr w' := by
          have h9 := var12_any hsv ⟨by omega, by omega, by omega, by rw [vrs_len]; omega⟩ (i : Int) (by omega) (by omega)
          rw [show ((vrs i).length : Int) = 5 + (i : Int) from by rw [vrs_len]; omega] at h9
          exact h9
        have HV := Lib.hid hV; have S2 := Lib.hid hsv; have B2 := Lib.hid hb
        clear hV hsv hb
        go_wp2_with fail
        refine HV.out.mono ?_
        clear HV
        rintro e w2 ⟨rfl, g2, cap2, hsv, hk, -⟩
        rw [← vrs_succ] at hsv
        have S3 := Lib.hid (show SV w.heap.size w.heap.size g2 cap2 (m : Int) ((i + 1 : Nat) : Int) 0 w2 (vrs (i + 1)) from hsv)
        have B3 := Lib.hid (kp_low B2.out (Nat.le_refl _) (Nat.le_refl _) S2.out.far.1 hk)
        clear hsv hk S2 B2
        have hi5 : ((5 + i : Nat) : Int) = 5 + (i : Int) := by omega
        have HLV := Lib.hid (fun x (hx : SV w.heap.size w.heap.size g2 cap2 (m : Int) ((i + 1 : Nat) : Int) 0 x (vrs (i + 1))) => show Calls Try.prog 35 #[.pointer (some ⟨w.heap.size, 0, none⟩), .int .i64 (5 + (i : Int))] x fun e w' => e = .returned (.int .i64 (i : Int)) ∧ SV w.heap.size w.heap.size g2 cap2 (m : Int) ((i + 1 : Nat) : Int) 0 w' (vrs (i + 1)) ∧ Kp x.heap.size (fun k => k = g2) x w' from by have h9 := level12_any hx (vrs_get i) (vrs_get i); rw [hi5, if_pos rfl] at h9; exact h9)
        have HRT := Lib.hid (fun x (hx : SV w.heap.size w.heap.size g2 cap2 (m : Int) ((i + 1 : Nat) : Int) 0 x (vrs (i + 1))) => show Calls Try.prog 31 #[.pointer (some ⟨w.heap.size, 0, none⟩), .int .i64 (5 + (i : Int))] x fun e w' => e = .returned (.int .i64 (5 + (i : Int))) ∧ SV w.heap.size w.heap.size g2 cap2 (m : Int) ((i + 1 : Nat) : Int) 0 w' (vrs (i + 1)) ∧ Kp x.heap.size (fun k => k = g2) x w' from by have h9 := root12_any hx (vrs_get i); rw [hi5] at h9; exact h9)
        have hw5 : wrap64 (5 + (i : Int)) = 5 + (i : Int) := by unfold wrap64; omega
        clear hi5
        go_wp2_with fail
        refine (HLV.out _ S3.out).mono ?_
        rintro e w4 ⟨rfl, hsv, hk⟩
        have S4 := Lib.hid hsv; have B4 := Lib.hid (kp_low B3.out (Nat.le_refl _) (Nat.le_refl _) S3.out.far.1 (hk.mono (Nat.le_refl _) (fun _ _ h => .inr h)))
        clear hsv hk
        go_wp2_with fail
        refine (HRT.out _ S4.out).mono ?_
        rintro e w5 ⟨rfl, hsv, hk⟩
        have S6 := Lib.hid hsv; have B6 := Lib.hid (kp_low B4.out (Nat.le_refl _) (Nat.le_refl _) S4.out.far.1 (hk.mono (Nat.le_refl _) (fun _ _ h => .inr h)))
        clear hsv hk HLV HRT S3 B3 S4 B4
        have hw6 : wrap64 (5 + (i : Int)) = 5 + (i : Int) := by unfold wrap64; omega
        have hw7 : wrap64 (5 + (i : Int) + 1) = 5 + (i : Int) + 1 := by unfold wrap64; omega
        have hw8 : wrap64 ((i : Int) + 1) = (i : Int) + 1 := by unfold wrap64; omega
        go_wp2_with fail
        refine (count12_any S6.out).mono ?_
        rintro e w8 ⟨rfl, hw9⟩
        rw [hw9]; clear hw9
        go_wp2_with fail
        refine (kind12_out S6.out (x := 5 + (i : Int) + 1) (by unfold okN; rw [vrs_len]; simp; omega)).mono ?_
        rintro e w9 ⟨rfl, hb⟩
        have S9 := Lib.hid (S6.out.below hb); have B9 := Lib.hid (B6.out.trans (hb.mono B6.out.size)); clear hb
        go_wp2_with fail
        go_roundg (n - (i + 1))
        case measure => omega
        case rel => exact ⟨i + 1, g2, cap2, by omega, by first | rfl | go_num, by rw [show min (i + 1) m = (i + 1) from by omega]; exact S9.out, B9.out, rfl⟩
      · rw [show min i m = m from by omega] at hsv
        have hV := var12_full hsv (i : Int) (by omega) rfl
        have HV := Lib.hid hV; have S2 := Lib.hid hsv; have B2 := Lib.hid hb
        clear hV hsv hb
        go_wp2_with fail
        refine HV.out.mono ?_
        clear HV
        rintro e w2 ⟨rfl, hb⟩
        have S6 := Lib.hid (S2.out.below hb); have B6 := Lib.hid (B2.out.trans (hb.mono B2.out.size))
        clear hb S2 B2
        have hw6 : wrap64 (5 + (i : Int)) = 5 + (i : Int) := by unfold wrap64; omega
        have hw7 : wrap64 (5 + (i : Int) + 1) = 5 + (i : Int) + 1 := by unfold wrap64; omega
        have hw8 : wrap64 ((i : Int) + 1) = (i : Int) + 1 := by unfold wrap64; omega
        go_wp2_with fail
        refine (count12_any S6.out).mono ?_
        rintro e w8 ⟨rfl, hw9⟩
        rw [hw9]; clear hw9
        go_wp2_with fail
        refine (kind12_out S6.out (x := 5 + (i : Int) + 1) (by unfold okN; rw [vrs_len]; simp; omega)).mono ?_
        rintro e w9 ⟨rfl, hb⟩
        have S9 := Lib.hid (S6.out.below hb); have B9 := Lib.hid (B6.out.trans (hb.mono B6.out.size)); clear hb
        go_wp2_with fail
        go_roundg (n - (i + 1))
        case measure => omega
        case rel => exact ⟨i + 1, g, cap, by omega, by first | rfl | go_num, by rw [show min (i + 1) m = m from by omega]; exact S9.out, B9.out, rfl⟩
    · obtain rfl : i = n := by omega
      have S2 := Lib.hid hsv; have B2 := Lib.hid hb
      clear hsv hb
      go_wp2_with fail
      refine (wakes12_any wr).mono ?_
      rintro e w9 ⟨rfl, hb⟩
      have B9 := Lib.hid (B2.out.trans (hb.mono B2.out.size)); clear hb
      go_wp2_with fail
      go_ret
      exact ⟨rfl, B9.out⟩
end Go.Proofs.Ytnnkhjmfedmajaa

/- Walks: Key, smallLetter, nameByte, Name. -/
import Derived.Test.YthiifacfkeibbaaDoorProg
import Derived.Test.YthiifacfkeibbaaDoorPure
import Derived.WalkKit
import Derived.WalkSpells
import Derived.WalkLawsBesides
import Derived.Lib.Hide
namespace Go.Proofs.YthiifacfkeibbaaDoor
open Go Go.RowKit

theorem ret_bool {a b : Bool} (h : a = b) : Ending.returned (.bool a) = .returned (.bool b) := by rw [h]

set_option maxHeartbeats 400000 in
theorem lower_any (c : Int) (w : World) :
    Calls Tryd.prog 47 #[.int .u8 c] w fun e w' => e = .returned (.bool (Wd.lowI c)) ∧ w = w' := by
  by_cases h1 : 97 ≤ c <;> by_cases h2 : c ≤ 122 <;> go_enter Tryd.func47, Tryd.ntmps47 <;> go_wp2 <;> go_ret <;> exact ⟨ret_bool (by simp [Wd.lowI]; omega), rfl⟩

set_option maxHeartbeats 400000 in
theorem namebyte_any (c : Int) (w : World) :
    Calls Tryd.prog 48 #[.int .u8 c] w fun e w' => e = .returned (.bool (Wd.partI c)) ∧ w = w' := by
  go_enter Tryd.func48, Tryd.ntmps48
  go_wp2_with (go_at_call 47; refine (lower_any _ _).mono ?_; rintro e w' ⟨rfl, rfl⟩)
  all_goals go_ret
  all_goals exact ⟨ret_bool (by rw [Bool.eq_iff_iff]; simp [Wd.partI, *] <;> omega), rfl⟩

set_option maxHeartbeats 400000 in
theorem key_any (s : ByteArray) (w : World) :
    Calls Tryd.prog 40 #[.string s] w fun e w' => e = .returned (.bool (Wd.key s.data.toList)) ∧ w = w' := by
  rw [← ByteArray.toList_eq]
  go_enter Tryd.func40, Tryd.ntmps40
  go_wp2
  all_goals first | (exfalso; simp_all; done) | (go_ret; exact ⟨ret_bool (by simp only [Wd.key, Wd.keys, List.contains_cons, List.contains_nil, Bool.or_false, Bool.true_or, Bool.or_true, *]), rfl⟩)

theorem part_at {s : ByteArray} (k : Nat) (h : k < s.size) : Wd.part (s.data.toList[k]'(by simpa using h)) = Wd.partI (s[k].toNat) := rfl

set_option maxHeartbeats 400000 in
theorem name_any (s : ByteArray) (hs : s.size ≤ maxLen) (w : World) :
    Calls Tryd.prog 41 #[.string s] w fun e w' => e = .returned (.bool (Wd.name s.data.toList)) ∧ w = w' := by
  unfold maxLen at hs
  have hl : s.data.toList.length = s.size := by simp
  by_cases h0 : s.size = 0
  · have he : s.toList.isEmpty = true := by
      rw [ByteArray.toList_eq]; cases hc : s.data.toList with
      | nil => rfl
      | cons a r => rw [hc] at hl; simp at hl; omega
    have hn : Wd.name s.data.toList = false := by
      rw [ByteArray.toList_eq] at he
      cases hc : s.data.toList with
      | nil => rfl
      | cons a r => rw [hc] at he; simp at he
    have HN := Lib.hid hn; clear hn hl h0
    go_enter Tryd.func41, Tryd.ntmps41
    go_wp2_with fail
    go_ret
    exact ⟨ret_bool HN.out.symm, rfl⟩
  have hp : 0 < s.size := by omega
  have he : s.toList.isEmpty = false := by
    rw [ByteArray.toList_eq]; cases hc : s.data.toList with
    | nil => rw [hc] at hl; simp at hl; omega
    | cons a r => rfl
  have hlp : 0 < s.data.toList.length := by omega
  have hn := Wd.name_of s.data.toList hlp
  by_cases h1 : 32 < s.size
  · have hn2 : Wd.name s.data.toList = false := by rw [hn, hl, decide_eq_false (by omega)]; rfl
    have HN := Lib.hid hn2; clear hn2 hn hl h0 hlp
    go_enter Tryd.func41, Tryd.ntmps41
    go_wp2_with fail
    go_ret
    exact ⟨ret_bool HN.out.symm, rfl⟩
  have hle : s.size ≤ 32 := by omega
  rw [hl, decide_eq_true hle] at hn
  by_cases h2 : Wd.lowI (s[0].toNat) = true
  · have hn2 : Wd.name s.data.toList = ((s.data.toList.drop 1).all Wd.part && !Wd.key s.data.toList) := by
      rw [hn, show Wd.low s.data.toList[0] = true from h2]; simp
    have HN := Lib.hid hn2; have HL := Lib.hid hl; clear hn hn2 hl h0 h1
    go_enter Tryd.func41, Tryd.ntmps41
    go_wp2_with (go_at_call 47; refine (lower_any _ _).mono ?_; rintro e w' ⟨rfl, rfl⟩)
    go_loop [3] (fun i => ∃ k : Nat, 1 ≤ k ∧ k ≤ s.size ∧ i = .int .i64 k ∧ ((s.data.toList.take k).drop 1).all Wd.part = true) (fun i => s.size - (intOf i).toNat)
    case atStart => exact ⟨1, by omega, by omega, rfl, Wd.start_all _ _⟩
    case round =>
      obtain ⟨k, hk1, hk2, rfl, hall⟩ := hrel
      have HA := Lib.hid hall; clear hall
      by_cases hlt : k < s.size
      · have hlt' : k < s.data.toList.length := by rw [HL.out]; exact hlt
        by_cases hq : Wd.partI (s[k].toNat) = true
        · have hstep : ((s.data.toList.take (k + 1)).drop 1).all Wd.part = true := by
            rw [Wd.drop1_snoc _ k hk1 hlt', HA.out, show Wd.part s.data.toList[k] = true from hq]; rfl
          have HS := Lib.hid hstep; clear hstep
          go_wp2_with (go_at_call 48; refine (namebyte_any _ _).mono ?_; rintro e w' ⟨rfl, rfl⟩)
          go_round
          case rel => exact ⟨k + 1, by omega, by omega, by go_num, HS.out⟩
          case measure => simp [intOf]; omega
        · have hq' : Wd.partI (s[k].toNat) = false := by simpa using hq
          have hno : Wd.name s.data.toList = false := by
            rw [HN.out, Wd.all_no _ k hk1 hlt' _ (show Wd.part s.data.toList[k] = false from hq')]; rfl
          have HF := Lib.hid hno; clear hno hq
          go_wp2_with (go_at_call 48; refine (namebyte_any _ _).mono ?_; rintro e w' ⟨rfl, rfl⟩)
          go_ret
          exact ⟨ret_bool HF.out.symm, rfl⟩
      · have hfin : Wd.name s.data.toList = !Wd.key s.data.toList := by
          rw [HN.out]
          have h := HA.out
          rw [List.take_of_length_le (by rw [HL.out]; omega)] at h
          rw [h]; simp
        have HF := Lib.hid hfin; clear hfin
        go_wp2_with (go_at_call 40; refine (key_any _ _).mono ?_; rintro e w' ⟨rfl, rfl⟩)
        go_ret
        exact ⟨ret_bool HF.out.symm, rfl⟩
  · have h2' : Wd.lowI (s[0].toNat) = false := by simpa using h2
    have hn2 : Wd.name s.data.toList = false := by
      rw [hn, show Wd.low s.data.toList[0] = false from h2']; rfl
    have HN := Lib.hid hn2; clear hn hn2 hl h0 h1 h2
    go_enter Tryd.func41, Tryd.ntmps41
    go_wp2_with (go_at_call 47; refine (lower_any _ _).mono ?_; rintro e w' ⟨rfl, rfl⟩)
    go_ret
    exact ⟨ret_bool HN.out.symm, rfl⟩
end Go.Proofs.YthiifacfkeibbaaDoor

/- Walks: package lex's small functions: remark, blanks, the classes, run. -/
import Derived.Test.YthiifacfkeibbaaDoorWalkE
import Derived.Test.YthiifacfkeibbaaDoorLexP
import Derived.RegionTactic
import Derived.Deep.QuietTactic
import Derived.BigQuiet
namespace Go.Proofs.YthiifacfkeibbaaDoor
open Go Go.RowKit
open Go.Proofs

theorem idx (x : List UInt8) (k : Nat) (h : k < x.length) (w : World) : (Instr.index 9 (.string ⟨x.toArray⟩) (.int .i64 (k : Int))).run Tryd.prog w = .ok (.int .u8 (x[k].toNat : Int)) w := by
  simp [go_sem, h]
  rfl
theorem ba_size (l : List UInt8) : ({ data := l.toArray } : ByteArray).size = l.length := by rw [Lib.size_eq]
theorem sl_from (l : List UInt8) (k : Nat) (h : k ≤ l.length) (w : World) : (Instr.slice 9 (.string ⟨l.toArray⟩) (some (.int .i64 (k : Int))) none none).run Tryd.prog w = .ok (.string ⟨(l.drop k).toArray⟩) w := by
  rw [run_slice_string_l w 9 _ Tryd.underlying9 .i64 _ (by omega) (by rw [ba_size]; omega), ByteArray.extract_mk, ba_size, List.take_of_length_le (by simp)]
  rfl
theorem sl_to (l : List UInt8) (k : Nat) (h : k ≤ l.length) (w : World) : (Instr.slice 9 (.string ⟨l.toArray⟩) none (some (.int .i64 (k : Int))) none).run Tryd.prog w = .ok (.string ⟨(l.take k).toArray⟩) w := by
  rw [run_slice_string_h w 9 _ Tryd.underlying9 .i64 _ (by omega) (by rw [ba_size]; omega), ByteArray.extract_mk]
  simp
theorem ret_string' {a b : List UInt8} (h : a = b) : Ending.returned (.string ⟨a.toArray⟩) = .returned (.string ⟨b.toArray⟩) := by rw [h]
theorem ret_int {k : IntKind} {a b : Int} (h : a = b) : Ending.returned (.int k a) = .returned (.int k b) := by rw [h]

/-! ### Where a byte stands first -/
def upTo (c : UInt8) (l : List UInt8) : List UInt8 := l.takeWhile fun x => !(x == c)
theorem indexByte_eq (c : UInt8) : ∀ l : List UInt8, Lib.indexByte l c = if (upTo c l).length < l.length then ((upTo c l).length : Int) else -1
  | [] => rfl
  | b :: l => by
    have ih := indexByte_eq c l
    have hle : (upTo c l).length ≤ l.length := Lx.tw_len _ l
    unfold Lib.indexByte
    by_cases hb : (b == c) = true
    · have e : upTo c (b :: l) = [] := by simp [upTo, hb]
      rw [if_pos hb, e]; simp
    · have e : upTo c (b :: l) = b :: upTo c l := by simp [upTo, hb]
      rw [if_neg hb, e, ih]
      by_cases h : (upTo c l).length < l.length
      · rw [if_pos h, if_neg (by simp), if_pos (by simp; omega)]; simp only [List.length_cons, Int.natCast_add]; rfl
      · rw [if_neg h, if_pos (by decide), if_neg (by simp; first | done | omega)]
theorem index_yes (l : List UInt8) (c : UInt8) (cv : Int) (hc : cv = (c.toNat : Int)) (h : (upTo c l).length < l.length) (w : World) :
    Calls Tryd.prog 39 #[.string ⟨l.toArray⟩, .int .u8 cv] w fun e w' => e = .returned (.int .i64 ((upTo c l).length : Int)) ∧ w = w' := by
  subst hc
  refine (Tryd.strings_IndexByte _ _ w).mono ?_
  rintro e w' ⟨rfl, rfl⟩
  refine ⟨?_, rfl⟩
  have e1 : ((c.toNat : Int)).toNat.toUInt8 = c := by simp
  rw [e1]
  show Ending.returned (.int .i64 (Lib.indexByte l c)) = _
  rw [indexByte_eq, if_pos h]
theorem index_no (l : List UInt8) (c : UInt8) (cv : Int) (hc : cv = (c.toNat : Int)) (h : ¬ (upTo c l).length < l.length) (w : World) :
    Calls Tryd.prog 39 #[.string ⟨l.toArray⟩, .int .u8 cv] w fun e w' => e = .returned (.int .i64 (-1)) ∧ w = w' := by
  subst hc
  refine (Tryd.strings_IndexByte _ _ w).mono ?_
  rintro e w' ⟨rfl, rfl⟩
  refine ⟨?_, rfl⟩
  have e1 : ((c.toNat : Int)).toNat.toUInt8 = c := by simp
  rw [e1]
  show Ending.returned (.int .i64 (Lib.indexByte l c)) = _
  rw [indexByte_eq, if_neg h]

set_option maxHeartbeats 400000 in
theorem remark_any (l : List UInt8) (w : World) :
    Calls Tryd.prog 26 #[.string ⟨l.toArray⟩] w fun e w' => e = .returned (.int .i64 ((upTo 10 l).length : Int)) ∧ w = w' := by
  by_cases h : (upTo 10 l).length < l.length
  · go_enter Tryd.func26, Tryd.ntmps26
    go_wp2_with (go_at_call 39; refine (index_yes l 10 _ rfl h _).mono ?_; rintro e w' ⟨rfl, rfl⟩)
    go_ret
    exact ⟨rfl, rfl⟩
  · have hle : (upTo 10 l).length ≤ l.length := Lx.tw_len _ l
    have he : (upTo 10 l).length = l.length := by omega
    have HE := Lib.hid he; clear he
    go_enter Tryd.func26, Tryd.ntmps26
    go_wp2_with (go_at_call 39; refine (index_no l 10 _ rfl h _).mono ?_; rintro e w' ⟨rfl, rfl⟩)
    go_ret
    exact ⟨ret_int (by rw [HE.out]), rfl⟩

/-! ### What goes by -/
theorem skip_true : ∀ l : List UInt8, Lx.skipB true l = (upTo 10 l).length + Lx.skip (l.drop (upTo 10 l).length)
  | [] => rfl
  | c :: r => by
    have ih := skip_true r
    by_cases h : c = 10
    · subst h
      have e : upTo 10 (10 :: r) = [] := by simp [upTo]
      rw [e]
      simp only [Lx.skipB, Lx.skip, List.length_nil, List.drop_zero, if_true]
      rw [if_pos (by decide)]; omega
    · have e : upTo 10 (c :: r) = c :: upTo 10 r := by simp [upTo, h]
      rw [e]
      simp only [Lx.skipB, List.length_cons, List.drop_succ_cons]
      rw [if_neg h, ih]; omega
theorem skip_blank (c : UInt8) (r : List UInt8) (h : Lx.blank c = true) : Lx.skip (c :: r) = 1 + Lx.skip r := by
  unfold Lx.skip; simp only [Lx.skipB]; rw [if_pos h]
theorem skip_rem (r : List UInt8) : Lx.skip (35 :: r) = (upTo 10 (35 :: r)).length + Lx.skip ((35 :: r).drop (upTo 10 (35 :: r)).length) := by
  have e : upTo 10 (35 :: r) = 35 :: upTo 10 r := by simp [upTo]
  have h := skip_true r
  rw [e]
  simp only [Lx.skip, Lx.skipB, List.length_cons, List.drop_succ_cons] at h ⊢
  rw [if_neg (by decide), if_pos trivial, h]; omega
theorem rem_pos (r : List UInt8) : 1 ≤ (upTo 10 (35 :: r)).length := by
  have e : upTo 10 (35 :: r) = 35 :: upTo 10 r := by simp [upTo]
  rw [e]; simp

set_option maxHeartbeats 1000000 in
theorem blanks_any (l : List UInt8) (hl : l.length ≤ 1000000) (w : World) :
    Calls Tryd.prog 17 #[.string ⟨l.toArray⟩] w fun e w' => e = .returned (.int .i64 (Lx.skip l : Int)) ∧ w = w' := by
  have hix := idx l
  have hfr := sl_from l
  have HIX := Lib.hid hix; have HFR := Lib.hid hfr; clear hix hfr
  go_enter Tryd.func17, Tryd.ntmps17
  go_wp2_with fail
  go_loop [3] (fun i => ∃ k : Nat, k ≤ l.length ∧ i = .int .i64 k ∧ Lx.skip l = k + Lx.skip (l.drop k)) (fun i => l.length - (intOf i).toNat)
  case atStart => exact ⟨0, Nat.zero_le _, rfl, by simp⟩
  case round =>
    obtain ⟨k, hk, rfl, hs⟩ := hrel
    have HS := Lib.hid hs; clear hs
    by_cases hlt : k < l.length
    · have hi := HIX.out k hlt
      have hd : l.drop k = l[k] :: l.drop (k + 1) := List.drop_eq_getElem_cons hlt
      have HD := Lib.hid hd; clear hd
      by_cases hb : Lx.blank l[k] = true
      · have hs2 : Lx.skip l = (k + 1) + Lx.skip (l.drop (k + 1)) := by rw [HS.out, HD.out, skip_blank _ _ hb]; omega
        have HS2 := Lib.hid hs2; clear hs2
        have hb' : Lx.blankI (l[k].toNat : Int) = true := hb
        clear hb
        generalize (l[k].toNat : Int) = c at *
        simp only [Lx.blankI, Bool.or_eq_true] at hb'
        cases h9 : (c == 9) <;> cases h10 : (c == 10) <;> cases h13 : (c == 13) <;> cases h32 : (c == 32) <;> first | (exfalso; simp_all; done) | skip
        all_goals
          clear hb'
          go_wp2_with fail
          go_round
          case rel => exact ⟨k + 1, by omega, by go_num, HS2.out⟩
          case measure => simp [intOf]; omega
      · have hb' : Lx.blankI (l[k].toNat : Int) = false := by simpa [Lx.blank] using hb
        simp only [Lx.blankI, Bool.or_eq_false_iff] at hb'
        obtain ⟨⟨⟨h9, h10⟩, h13⟩, h32⟩ := hb'
        by_cases h35 : l[k] = 35
        · have hs2 := skip_rem (l.drop (k + 1))
          have hp := rem_pos (l.drop (k + 1))
          rw [← h35, ← HD.out] at hs2 hp
          obtain ⟨m, hm⟩ : ∃ m, m = (upTo 10 (l.drop k)).length := ⟨_, rfl⟩
          have hml : (upTo 10 (l.drop k)).length ≤ (l.drop k).length := Lx.tw_len _ _
          have hr := remark_any (l.drop k)
          rw [← hm] at hs2 hp hml hr
          rw [List.drop_drop] at hs2
          have hs3 : Lx.skip l = (k + m) + Lx.skip (l.drop (k + m)) := by rw [HS.out, hs2]; omega
          have hkm : k + m ≤ l.length := by simp at hml; omega
          have e35 : ((l[k].toNat : Int) == 35) = true := by rw [h35]; decide
          have HS3 := Lib.hid hs3; have HR := Lib.hid hr
          have hf := HFR.out k hk
          clear hs2 hm hml hr hs3 hb
          clear h35
          generalize (l[k].toNat : Int) = c at *
          go_wp2_with (go_at_call 26; refine (HR.out _).mono ?_; rintro e w' ⟨rfl, rfl⟩)
          go_round
          case rel => exact ⟨k + m, by omega, by go_num, HS3.out⟩
          case measure => simp [intOf]; omega
        · have e35 : ((l[k].toNat : Int) == 35) = false := by
            rw [beq_eq_false_iff_ne]; intro e
            exact h35 (UInt8.toNat_inj.1 (by have : (35 : UInt8).toNat = 35 := rfl; omega))
          have hs2 : Lx.skip l = k := by rw [HS.out, HD.out, Lx.skip_none (by simpa using hb) h35]; omega
          have HS2 := Lib.hid hs2; clear hs2 hb h35
          generalize (l[k].toNat : Int) = c at *
          go_wp2_with fail
          go_ret
          exact ⟨ret_int (by rw [HS2.out]), rfl⟩
    · have hs2 : Lx.skip l = k := by rw [HS.out, List.drop_of_length_le (by omega)]; rfl
      have HS2 := Lib.hid hs2; clear hs2
      go_wp2_with fail
      go_ret
      exact ⟨ret_int (by rw [HS2.out]), rfl⟩

/-! ### The classes -/
set_option maxHeartbeats 400000 in
theorem xlow_any (c : Int) (w : World) :
    Calls Tryd.prog 27 #[.int .u8 c] w fun e w' => e = .returned (.bool (Wd.lowI c)) ∧ w = w' := by
  by_cases h1 : 97 ≤ c <;> by_cases h2 : c ≤ 122 <;> go_enter Tryd.func27, Tryd.ntmps27 <;> go_wp2 <;> go_ret <;> exact ⟨ret_bool (by simp [Wd.lowI]; omega), rfl⟩
set_option maxHeartbeats 400000 in
theorem xdig_any (c : Int) (w : World) :
    Calls Tryd.prog 31 #[.int .u8 c] w fun e w' => e = .returned (.bool (Lx.digI c)) ∧ w = w' := by
  by_cases h1 : 48 ≤ c <;> by_cases h2 : c ≤ 57 <;> go_enter Tryd.func31, Tryd.ntmps31 <;> go_wp2 <;> go_ret <;> exact ⟨ret_bool (by simp [Lx.digI]; omega), rfl⟩
set_option maxHeartbeats 1000000 in
theorem xpart_any (c : Int) (w : World) :
    Calls Tryd.prog 30 #[.int .u8 c] w fun e w' => e = .returned (.bool (Wd.partI c)) ∧ w = w' := by
  cases h1 : Wd.lowI c <;> cases h2 : Lx.digI c <;> cases h3 : (c == 95) <;> cases h4 : (c == 39) <;> go_enter Tryd.func30, Tryd.ntmps30 <;> go_wp2_with (first | (go_at_call 27; refine (xlow_any _ _).mono ?_; rintro e w' ⟨rfl, rfl⟩) | (go_at_call 31; refine (xdig_any _ _).mono ?_; rintro e w' ⟨rfl, rfl⟩))
  all_goals go_ret
  all_goals refine ⟨ret_bool ?_, rfl⟩
  all_goals (rw [Bool.eq_iff_iff]; simp [Wd.partI, *]; try (simp [Lx.digI] at h2; omega))
end Go.Proofs.YthiifacfkeibbaaDoor

/- Walks: package lex's small functions: remark, blanks, the classes, run. Walks: package lex's run and its tokens. Walks: package lex's first. Walks: package lex's Scan. -/
import Derived.Test.YtideicoifinnoaaGreatDoorWalkA
import Derived.Test.YtideicoifinnoaaGreatDoorLexP
import Derived.RegionTactic
import Derived.Deep.QuietTactic
import Derived.BigQuiet
import Derived.IntWalk
namespace Go.Proofs.YtideicoifinnoaaGreatDoor
open Go Go.RowKit
open Go.Proofs

theorem idx (x : List UInt8) (k : Nat) (h : k < x.length) (w : World) : (Instr.index 9 (.string ⟨x.toArray⟩) (.int .i64 (k : Int))).run Tryz.prog w = .ok (.int .u8 (x[k].toNat : Int)) w := by
  simp [go_sem, h]
  rfl
theorem ba_size (l : List UInt8) : ({ data := l.toArray } : ByteArray).size = l.length := by rw [Lib.size_eq]
theorem sl_from (l : List UInt8) (k : Nat) (h : k ≤ l.length) (w : World) : (Instr.slice 9 (.string ⟨l.toArray⟩) (some (.int .i64 (k : Int))) none none).run Tryz.prog w = .ok (.string ⟨(l.drop k).toArray⟩) w := by
  rw [run_slice_string_l w 9 _ Tryz.underlying9 .i64 _ (by omega) (by rw [ba_size]; omega), ByteArray.extract_mk, ba_size, List.take_of_length_le (by simp)]
  rfl
theorem sl_to (l : List UInt8) (k : Nat) (h : k ≤ l.length) (w : World) : (Instr.slice 9 (.string ⟨l.toArray⟩) none (some (.int .i64 (k : Int))) none).run Tryz.prog w = .ok (.string ⟨(l.take k).toArray⟩) w := by
  rw [run_slice_string_h w 9 _ Tryz.underlying9 .i64 _ (by omega) (by rw [ba_size]; omega), ByteArray.extract_mk]
  simp
theorem ret_string' {a b : List UInt8} (h : a = b) : Ending.returned (.string ⟨a.toArray⟩) = .returned (.string ⟨b.toArray⟩) := by rw [h]
theorem ret_int {k : IntKind} {a b : Int} (h : a = b) : Ending.returned (.int k a) = .returned (.int k b) := by rw [h]

/-! ### Where a byte stands first -/
def upTo (c : UInt8) (l : List UInt8) : List UInt8 := l.takeWhile fun x => !(x == c)
theorem indexByte_eq (c : UInt8) : ∀ l : List UInt8, Lib.indexByte l c = if (upTo c l).length < l.length then ((upTo c l).length : Int) else -1
  | [] => rfl
  | b :: l => by
    have ih := indexByte_eq c l
    have hle : (upTo c l).length ≤ l.length := Lx.tw_len _ l
    unfold Lib.indexByte
    by_cases hb : (b == c) = true
    · have e : upTo c (b :: l) = [] := by simp [upTo, hb]
      rw [if_pos hb, e]; simp
    · have e : upTo c (b :: l) = b :: upTo c l := by simp [upTo, hb]
      rw [if_neg hb, e, ih]
      by_cases h : (upTo c l).length < l.length
      · rw [if_pos h, if_neg (by simp), if_pos (by simp; omega)]; simp only [List.length_cons, Int.natCast_add]; rfl
      · rw [if_neg h, if_pos (by decide), if_neg (by simp; first | done | omega)]
theorem index_yes (l : List UInt8) (c : UInt8) (cv : Int) (hc : cv = (c.toNat : Int)) (h : (upTo c l).length < l.length) (w : World) :
    Calls Tryz.prog 55 #[.string ⟨l.toArray⟩, .int .u8 cv] w fun e w' => e = .returned (.int .i64 ((upTo c l).length : Int)) ∧ w = w' := by
  subst hc
  refine (Tryz.strings_IndexByte _ _ w).mono ?_
  rintro e w' ⟨rfl, rfl⟩
  refine ⟨?_, rfl⟩
  have e1 : ((c.toNat : Int)).toNat.toUInt8 = c := by simp
  rw [e1]
  show Ending.returned (.int .i64 (Lib.indexByte l c)) = _
  rw [indexByte_eq, if_pos h]
theorem index_no (l : List UInt8) (c : UInt8) (cv : Int) (hc : cv = (c.toNat : Int)) (h : ¬ (upTo c l).length < l.length) (w : World) :
    Calls Tryz.prog 55 #[.string ⟨l.toArray⟩, .int .u8 cv] w fun e w' => e = .returned (.int .i64 (-1)) ∧ w = w' := by
  subst hc
  refine (Tryz.strings_IndexByte _ _ w).mono ?_
  rintro e w' ⟨rfl, rfl⟩
  refine ⟨?_, rfl⟩
  have e1 : ((c.toNat : Int)).toNat.toUInt8 = c := by simp
  rw [e1]
  show Ending.returned (.int .i64 (Lib.indexByte l c)) = _
  rw [indexByte_eq, if_neg h]

set_option maxHeartbeats 400000 in
theorem remark_any (l : List UInt8) (w : World) :
    Calls Tryz.prog 35 #[.string ⟨l.toArray⟩] w fun e w' => e = .returned (.int .i64 ((upTo 10 l).length : Int)) ∧ w = w' := by
  by_cases h : (upTo 10 l).length < l.length
  · go_enter Tryz.func35, Tryz.ntmps35
    go_wp2_with (go_at_call 55; refine (index_yes l 10 _ rfl h _).mono ?_; rintro e w' ⟨rfl, rfl⟩)
    go_ret
    exact ⟨rfl, rfl⟩
  · have hle : (upTo 10 l).length ≤ l.length := Lx.tw_len _ l
    have he : (upTo 10 l).length = l.length := by omega
    have HE := Lib.hid he; clear he
    go_enter Tryz.func35, Tryz.ntmps35
    go_wp2_with (go_at_call 55; refine (index_no l 10 _ rfl h _).mono ?_; rintro e w' ⟨rfl, rfl⟩)
    go_ret
    exact ⟨ret_int (by rw [HE.out]), rfl⟩

/-! ### What goes by -/
theorem skip_true : ∀ l : List UInt8, Lx.skipB true l = (upTo 10 l).length + Lx.skip (l.drop (upTo 10 l).length)
  | [] => rfl
  | c :: r => by
    have ih := skip_true r
    by_cases h : c = 10
    · subst h
      have e : upTo 10 (10 :: r) = [] := by simp [upTo]
      rw [e]
      simp only [Lx.skipB, Lx.skip, List.length_nil, List.drop_zero, if_true]
      rw [if_pos (by decide)]; omega
    · have e : upTo 10 (c :: r) = c :: upTo 10 r := by simp [upTo, h]
      rw [e]
      simp only [Lx.skipB, List.length_cons, List.drop_succ_cons]
      rw [if_neg h, ih]; omega
theorem skip_blank (c : UInt8) (r : List UInt8) (h : Lx.blank c = true) : Lx.skip (c :: r) = 1 + Lx.skip r := by
  unfold Lx.skip; simp only [Lx.skipB]; rw [if_pos h]
theorem skip_rem (r : List UInt8) : Lx.skip (35 :: r) = (upTo 10 (35 :: r)).length + Lx.skip ((35 :: r).drop (upTo 10 (35 :: r)).length) := by
  have e : upTo 10 (35 :: r) = 35 :: upTo 10 r := by simp [upTo]
  have h := skip_true r
  rw [e]
  simp only [Lx.skip, Lx.skipB, List.length_cons, List.drop_succ_cons] at h ⊢
  rw [if_neg (by decide), if_pos trivial, h]; omega
theorem rem_pos (r : List UInt8) : 1 ≤ (upTo 10 (35 :: r)).length := by
  have e : upTo 10 (35 :: r) = 35 :: upTo 10 r := by simp [upTo]
  rw [e]; simp

set_option maxHeartbeats 1000000 in
theorem blanks_any (l : List UInt8) (hl : l.length ≤ 1000000) (w : World) :
    Calls Tryz.prog 24 #[.string ⟨l.toArray⟩] w fun e w' => e = .returned (.int .i64 (Lx.skip l : Int)) ∧ w = w' := by
  have hix := idx l
  have hfr := sl_from l
  have HIX := Lib.hid hix; have HFR := Lib.hid hfr; clear hix hfr
  go_enter Tryz.func24, Tryz.ntmps24
  go_wp2_with fail
  go_loop [3] (fun i => ∃ k : Nat, k ≤ l.length ∧ i = .int .i64 k ∧ Lx.skip l = k + Lx.skip (l.drop k)) (fun i => l.length - (intOf i).toNat)
  case atStart => exact ⟨0, Nat.zero_le _, rfl, by simp⟩
  case round =>
    obtain ⟨k, hk, rfl, hs⟩ := hrel
    have HS := Lib.hid hs; clear hs
    by_cases hlt : k < l.length
    · have hi := HIX.out k hlt
      have hd : l.drop k = l[k] :: l.drop (k + 1) := List.drop_eq_getElem_cons hlt
      have HD := Lib.hid hd; clear hd
      by_cases hb : Lx.blank l[k] = true
      · have hs2 : Lx.skip l = (k + 1) + Lx.skip (l.drop (k + 1)) := by rw [HS.out, HD.out, skip_blank _ _ hb]; omega
        have HS2 := Lib.hid hs2; clear hs2
        have hb' : Lx.blankI (l[k].toNat : Int) = true := hb
        clear hb
        generalize (l[k].toNat : Int) = c at *
        simp only [Lx.blankI, Bool.or_eq_true] at hb'
        cases h9 : (c == 9) <;> cases h10 : (c == 10) <;> cases h13 : (c == 13) <;> cases h32 : (c == 32) <;> first | (exfalso; simp_all; done) | skip
        all_goals
          clear hb'
          go_wp2_with fail
          go_round
          case rel => exact ⟨k + 1, by omega, by go_num, HS2.out⟩
          case measure => simp [intOf]; omega
      · have hb' : Lx.blankI (l[k].toNat : Int) = false := by simpa [Lx.blank] using hb
        simp only [Lx.blankI, Bool.or_eq_false_iff] at hb'
        obtain ⟨⟨⟨h9, h10⟩, h13⟩, h32⟩ := hb'
        by_cases h35 : l[k] = 35
        · have hs2 := skip_rem (l.drop (k + 1))
          have hp := rem_pos (l.drop (k + 1))
          rw [← h35, ← HD.out] at hs2 hp
          obtain ⟨m, hm⟩ : ∃ m, m = (upTo 10 (l.drop k)).length := ⟨_, rfl⟩
          have hml : (upTo 10 (l.drop k)).length ≤ (l.drop k).length := Lx.tw_len _ _
          have hr := remark_any (l.drop k)
          rw [← hm] at hs2 hp hml hr
          rw [List.drop_drop] at hs2
          have hs3 : Lx.skip l = (k + m) + Lx.skip (l.drop (k + m)) := by rw [HS.out, hs2]; omega
          have hkm : k + m ≤ l.length := by simp at hml; omega
          have e35 : ((l[k].toNat : Int) == 35) = true := by rw [h35]; decide
          have HS3 := Lib.hid hs3; have HR := Lib.hid hr
          have hf := HFR.out k hk
          clear hs2 hm hml hr hs3 hb
          clear h35
          generalize (l[k].toNat : Int) = c at *
          go_wp2_with (go_at_call 35; refine (HR.out _).mono ?_; rintro e w' ⟨rfl, rfl⟩)
          go_round
          case rel => exact ⟨k + m, by omega, by go_num, HS3.out⟩
          case measure => simp [intOf]; omega
        · have e35 : ((l[k].toNat : Int) == 35) = false := by
            rw [beq_eq_false_iff_ne]; intro e
            exact h35 (UInt8.toNat_inj.1 (by have : (35 : UInt8).toNat = 35 := rfl; omega))
          have hs2 : Lx.skip l = k := by rw [HS.out, HD.out, Lx.skip_none (by simpa using hb) h35]; omega
          have HS2 := Lib.hid hs2; clear hs2 hb h35
          generalize (l[k].toNat : Int) = c at *
          go_wp2_with fail
          go_ret
          exact ⟨ret_int (by rw [HS2.out]), rfl⟩
    · have hs2 : Lx.skip l = k := by rw [HS.out, List.drop_of_length_le (by omega)]; rfl
      have HS2 := Lib.hid hs2; clear hs2
      go_wp2_with fail
      go_ret
      exact ⟨ret_int (by rw [HS2.out]), rfl⟩

/-! ### The classes -/
set_option maxHeartbeats 400000 in
theorem xlow_any (c : Int) (w : World) :
    Calls Tryz.prog 36 #[.int .u8 c] w fun e w' => e = .returned (.bool (Wd.lowI c)) ∧ w = w' := by
  by_cases h1 : 97 ≤ c <;> by_cases h2 : c ≤ 122 <;> go_enter Tryz.func36, Tryz.ntmps36 <;> go_wp2 <;> go_ret <;> exact ⟨ret_bool (by simp [Wd.lowI]; omega), rfl⟩
set_option maxHeartbeats 400000 in
theorem xdig_any (c : Int) (w : World) :
    Calls Tryz.prog 40 #[.int .u8 c] w fun e w' => e = .returned (.bool (Lx.digI c)) ∧ w = w' := by
  by_cases h1 : 48 ≤ c <;> by_cases h2 : c ≤ 57 <;> go_enter Tryz.func40, Tryz.ntmps40 <;> go_wp2 <;> go_ret <;> exact ⟨ret_bool (by simp [Lx.digI]; omega), rfl⟩
set_option maxHeartbeats 1000000 in
theorem xpart_any (c : Int) (w : World) :
    Calls Tryz.prog 39 #[.int .u8 c] w fun e w' => e = .returned (.bool (Wd.partI c)) ∧ w = w' := by
  cases h1 : Wd.lowI c <;> cases h2 : Lx.digI c <;> cases h3 : (c == 95) <;> cases h4 : (c == 39) <;> go_enter Tryz.func39, Tryz.ntmps39 <;> go_wp2_with (first | (go_at_call 36; refine (xlow_any _ _).mono ?_; rintro e w' ⟨rfl, rfl⟩) | (go_at_call 40; refine (xdig_any _ _).mono ?_; rintro e w' ⟨rfl, rfl⟩))
  all_goals go_ret
  all_goals refine ⟨ret_bool ?_, rfl⟩
  all_goals (rw [Bool.eq_iff_iff]; simp [Wd.partI, *]; try (simp [Lx.digI] at h2; omega))
end Go.Proofs.YtideicoifinnoaaGreatDoor
namespace Go.Proofs.YtideicoifinnoaaGreatDoor
open Go Go.RowKit
open Go.Proofs

theorem tw_step (p : UInt8 → Bool) (l : List UInt8) (k : Nat) (h : k < l.length) (hp : p l[k] = true) (n : Nat) (hn : n = k + ((l.drop k).takeWhile p).length) : n = (k + 1) + ((l.drop (k + 1)).takeWhile p).length := by
  rw [hn, List.drop_eq_getElem_cons h, List.takeWhile_cons, if_pos hp]; simp; omega
theorem tw_stop (p : UInt8 → Bool) (l : List UInt8) (k : Nat) (h : k < l.length) (hp : p l[k] = false) (n : Nat) (hn : n = k + ((l.drop k).takeWhile p).length) : n = k := by
  rw [hn, List.drop_eq_getElem_cons h, List.takeWhile_cons, if_neg (by simp [hp])]; simp
theorem tw_end (p : UInt8 → Bool) (l : List UInt8) (k : Nat) (h : l.length ≤ k) (n : Nat) (hn : n = k + ((l.drop k).takeWhile p).length) : n = k := by
  rw [hn, List.drop_of_length_le h]; simp

set_option maxHeartbeats 400000 in
theorem run_part (l : List UInt8) (hl : l.length ≤ 1000000) (w : World) :
    Calls Tryz.prog 38 #[.string ⟨l.toArray⟩, .func (.func 39) #[] #[]] w fun e w' => e = .returned (.int .i64 ((l.takeWhile Wd.part).length : Int)) ∧ w = w' := by
  have hix := idx l
  have HIX := Lib.hid hix; clear hix
  obtain ⟨n, hn⟩ : ∃ n, n = (l.takeWhile Wd.part).length := ⟨_, rfl⟩
  rw [← hn]
  have HN := Lib.hid hn; clear hn
  go_enter Tryz.func38, Tryz.ntmps38
  go_wp2_with fail
  go_loop [8] (fun i => ∃ k : Nat, k ≤ l.length ∧ i = .int .i64 k ∧ n = k + ((l.drop k).takeWhile Wd.part).length) (fun i => l.length - (intOf i).toNat)
  case atStart => exact ⟨0, Nat.zero_le _, rfl, by rw [HN.out]; simp⟩
  case round =>
    obtain ⟨k, hk, rfl, hs⟩ := hrel
    have HS := Lib.hid hs; clear hs
    by_cases hlt : k < l.length
    · have hi := HIX.out k hlt
      cases hq : Wd.partI ((l[k]).toNat : Int)
      · have hn := tw_stop Wd.part l k hlt hq n HS.out
        have HF := Lib.hid hn; clear hn
        go_wp2_with (go_at_call 39; refine (xpart_any _ _).mono ?_; rintro e w' ⟨rfl, rfl⟩)
        go_ret
        exact ⟨ret_int (by rw [HF.out]), rfl⟩
      · have hn := tw_step Wd.part l k hlt hq n HS.out
        have HF := Lib.hid hn; clear hn
        go_wp2_with (go_at_call 39; refine (xpart_any _ _).mono ?_; rintro e w' ⟨rfl, rfl⟩)
        go_round
        case rel => exact ⟨k + 1, by omega, by go_num, HF.out⟩
        case measure => simp [intOf]; omega
    · have hn := tw_end Wd.part l k (by omega) n HS.out
      have hk2 : k = l.length := by omega
      have HF := Lib.hid hn; have HK := Lib.hid hk2; clear hn hk2
      go_wp2_with fail
      go_ret
      exact ⟨ret_int (by rw [HF.out, HK.out]), rfl⟩

set_option maxHeartbeats 400000 in
theorem run_dig (l : List UInt8) (hl : l.length ≤ 1000000) (w : World) :
    Calls Tryz.prog 38 #[.string ⟨l.toArray⟩, .func (.func 40) #[] #[]] w fun e w' => e = .returned (.int .i64 ((l.takeWhile Lx.dig).length : Int)) ∧ w = w' := by
  have hix := idx l
  have HIX := Lib.hid hix; clear hix
  obtain ⟨n, hn⟩ : ∃ n, n = (l.takeWhile Lx.dig).length := ⟨_, rfl⟩
  rw [← hn]
  have HN := Lib.hid hn; clear hn
  go_enter Tryz.func38, Tryz.ntmps38
  go_wp2_with fail
  go_loop [8] (fun i => ∃ k : Nat, k ≤ l.length ∧ i = .int .i64 k ∧ n = k + ((l.drop k).takeWhile Lx.dig).length) (fun i => l.length - (intOf i).toNat)
  case atStart => exact ⟨0, Nat.zero_le _, rfl, by rw [HN.out]; simp⟩
  case round =>
    obtain ⟨k, hk, rfl, hs⟩ := hrel
    have HS := Lib.hid hs; clear hs
    by_cases hlt : k < l.length
    · have hi := HIX.out k hlt
      cases hq : Lx.digI ((l[k]).toNat : Int)
      · have hn := tw_stop Lx.dig l k hlt hq n HS.out
        have HF := Lib.hid hn; clear hn
        go_wp2_with (go_at_call 40; refine (xdig_any _ _).mono ?_; rintro e w' ⟨rfl, rfl⟩)
        go_ret
        exact ⟨ret_int (by rw [HF.out]), rfl⟩
      · have hn := tw_step Lx.dig l k hlt hq n HS.out
        have HF := Lib.hid hn; clear hn
        go_wp2_with (go_at_call 40; refine (xdig_any _ _).mono ?_; rintro e w' ⟨rfl, rfl⟩)
        go_round
        case rel => exact ⟨k + 1, by omega, by go_num, HF.out⟩
        case measure => simp [intOf]; omega
    · have hn := tw_end Lx.dig l k (by omega) n HS.out
      have hk2 : k = l.length := by omega
      have HF := Lib.hid hn; have HK := Lib.hid hk2; clear hn hk2
      go_wp2_with fail
      go_ret
      exact ⟨ret_int (by rw [HF.out, HK.out]), rfl⟩

/-! ### What a token's function hands back -/
theorem bcell {W w1 : World} (hb : Below W.heap.size W w1) : (∀ b o, b < W.heap.size → w1.cell? ⟨b, o, none⟩ = W.cell? ⟨b, o, none⟩) ∧ (∀ b o, b < W.heap.size → w1.frozen? ⟨b, o, none⟩ = W.frozen? ⟨b, o, none⟩) :=
  ⟨fun b o h => hb.cell (p := ⟨b, o, none⟩) h, fun b o h => hb.frozen (p := ⟨b, o, none⟩) h⟩
theorem below_set5 {B : Nat} {w w1 : World} (h : Below B w w1) (g : Nat) (hg : B ≤ g) (a b c d e : Value) :
    Below B w (((((w1.setCell ⟨g, 0, none⟩ a).setCell ⟨g, 1, none⟩ b).setCell ⟨g, 2, none⟩ c).setCell ⟨g, 3, none⟩ d).setCell ⟨g, 4, none⟩ e) :=
  ((((h.setCell hg _).setCell hg _).setCell hg _).setCell hg _).setCell hg _
theorem below_in {w w1 : World} {o : Obj} (hb : Below (w.alloc o).heap.size (w.alloc o) w1) : Below w.heap.size w w1 :=
  ((Below.refl _ _).alloc (Nat.le_refl _) _).trans (hb.mono (by simp))
def Hit (b : Lx.Bare) (w : World) (e : Ending) (w' : World) : Prop :=
  e = .returned (.tuple #[.agg #[.int .i64 (b.kind : Int), .int .i64 0, .int .i64 (b.len : Int), .string ⟨b.s.toArray⟩, .int .i64 b.n], .bool true]) ∧ Below w.heap.size w w'
def Miss (w : World) (e : Ending) (w' : World) : Prop :=
  ∃ (k t : Int) (s : ByteArray) (n : Int), e = .returned (.tuple #[.agg #[.int .i64 k, .int .i64 0, .int .i64 t, .string s, .int .i64 n], .bool false]) ∧ Below w.heap.size w w'

set_option maxHeartbeats 1000000 in
theorem word_key (l : List UInt8) (hk : Wd.key l = true) (w : World) :
    Calls Tryz.prog 37 #[.string ⟨l.toArray⟩] w (Hit ⟨2, l.length, l, 0⟩ w) := by
  have h1 := key_any ⟨l.toArray⟩
  rw [show ({ data := l.toArray } : ByteArray).data.toList = l from by simp, hk] at h1
  have H1 := Lib.hid h1; clear h1 hk
  go_enter Tryz.func37, Tryz.ntmps37
  go_wp2_with (go_at_call 56; refine (H1.out _).mono ?_; rintro e w' ⟨rfl, rfl⟩)
  exact bodyPost_ret (v := .tuple #[.agg #[.int .i64 2, .int .i64 0, .int .i64 (l.length : Int), .string ⟨l.toArray⟩, .int .i64 0], .bool true]) (by simp [results, Tryz.results37, go_sem]) rfl ⟨rfl, ((Below.refl _ _).alloc (Nat.le_refl _) _).alloc (by simp) _⟩

set_option maxHeartbeats 1000000 in
theorem word_name (l : List UInt8) (hl : l.length ≤ 1000000) (hk : Wd.key l = false) (hn : Wd.name l = true) (w : World) :
    Calls Tryz.prog 37 #[.string ⟨l.toArray⟩] w (Hit ⟨1, l.length, l, 0⟩ w) := by
  have el : ({ data := l.toArray } : ByteArray).data.toList = l := by simp
  have h1 := key_any ⟨l.toArray⟩
  have h2 := name_any ⟨l.toArray⟩ (by rw [ba_size]; unfold maxLen; omega)
  rw [el, hk] at h1
  rw [el, hn] at h2
  have H1 := Lib.hid h1; have H2 := Lib.hid h2; clear h1 h2 hk hn el
  go_enter Tryz.func37, Tryz.ntmps37
  go_wp2_with (go_at_call 56; refine (H1.out _).mono ?_; rintro e w' ⟨rfl, rfl⟩)
  go_region_with (go_at_call 57; refine (H2.out _).mono ?_; rintro e w' ⟨rfl, rfl⟩)
  all_goals
    go_wp2_with fail
    exact bodyPost_ret (v := .tuple #[.agg #[.int .i64 1, .int .i64 0, .int .i64 (l.length : Int), .string ⟨l.toArray⟩, .int .i64 0], .bool true]) (by simp [results, Tryz.results37, go_sem]) rfl ⟨rfl, (((Below.refl _ _).alloc (Nat.le_refl _) _).alloc (by simp) _).drew⟩

set_option maxHeartbeats 1000000 in
theorem word_none (l : List UInt8) (hl : l.length ≤ 1000000) (hk : Wd.key l = false) (hn : Wd.name l = false) (w : World) :
    Calls Tryz.prog 37 #[.string ⟨l.toArray⟩] w (Miss w) := by
  have el : ({ data := l.toArray } : ByteArray).data.toList = l := by simp
  have h1 := key_any ⟨l.toArray⟩
  have h2 := name_any ⟨l.toArray⟩ (by rw [ba_size]; unfold maxLen; omega)
  rw [el, hk] at h1
  rw [el, hn] at h2
  have H1 := Lib.hid h1; have H2 := Lib.hid h2; clear h1 h2 hk hn el
  go_enter Tryz.func37, Tryz.ntmps37
  go_wp2_with (go_at_call 56; refine (H1.out _).mono ?_; rintro e w' ⟨rfl, rfl⟩)
  go_region_with (go_at_call 57; refine (H2.out _).mono ?_; rintro e w' ⟨rfl, rfl⟩)
  all_goals
    go_wp2_with fail
    exact bodyPost_ret (v := .tuple #[.agg #[.int .i64 1, .int .i64 0, .int .i64 (l.length : Int), .string ⟨l.toArray⟩, .int .i64 0], .bool false]) (by simp [results, Tryz.results37, go_sem]) rfl ⟨_, _, _, _, rfl, (((Below.refl _ _).alloc (Nat.le_refl _) _).alloc (by simp) _).drew⟩

set_option maxHeartbeats 1000000 in
theorem num_yes (l : List UInt8) (n : Int) (hn : Lx.pnum l = some n) (w : World) (hg : Good w) :
    Calls Tryz.prog 41 #[.string ⟨l.toArray⟩] w (Hit ⟨3, l.length, [], n⟩ w) := by
  obtain ⟨h1, h2⟩ := Lx.pnum_some hn
  have h3 := parse_yes n h1
  rw [h2] at h3
  have H3 := Lib.hid h3; have HG := Lib.hid hg; clear h1 h2 h3 hn hg
  go_enter Tryz.func41, Tryz.ntmps41
  go_wp2_with fail
  have HG1 := Lib.hid (HG.out.below ((Below.refl w.heap.size w).alloc (Nat.le_refl _) (.cells #[.int .i64 0, .int .i64 0, .int .i64 0, .string { data := #[] }, .int .i64 0] 60)))
  refine (H3.out _ HG1.out).mono ?_
  rintro e w1 ⟨rfl, hb⟩
  obtain ⟨hc, hf⟩ := bcell hb
  have hz := hb.size
  simp at hz
  go_wp2_with fail
  exact bodyPost_ret (v := .tuple #[.agg #[.int .i64 3, .int .i64 0, .int .i64 (l.length : Int), .string ⟨#[]⟩, .int .i64 n], .bool true]) (by simp [results, Tryz.results41, go_sem, hc]) rfl ⟨rfl, below_set5 (below_in hb) _ (Nat.le_refl _) _ _ _ _ _⟩

set_option maxHeartbeats 1000000 in
theorem num_no (l : List UInt8) (hl : l.length ≤ 1000000) (hn : Lx.pnum l = none) (w : World) (hg : Good w) :
    Calls Tryz.prog 41 #[.string ⟨l.toArray⟩] w (Miss w) := by
  have h3 := parse_no ⟨l.toArray⟩ (by rw [ba_size]; omega) (by simpa using Lx.pnum_none hn)
  have H3 := Lib.hid h3; have HG := Lib.hid hg; clear h3 hn hg
  go_enter Tryz.func41, Tryz.ntmps41
  go_wp2_with fail
  have HG1 := Lib.hid (HG.out.below ((Below.refl w.heap.size w).alloc (Nat.le_refl _) (.cells #[.int .i64 0, .int .i64 0, .int .i64 0, .string { data := #[] }, .int .i64 0] 60)))
  refine (H3.out _ HG1.out).mono ?_
  rintro e w1 ⟨rfl, hb⟩
  obtain ⟨hc, hf⟩ := bcell hb
  have hz := hb.size
  simp at hz
  go_wp2_with fail
  exact bodyPost_ret (v := .tuple #[.agg #[.int .i64 3, .int .i64 0, .int .i64 (l.length : Int), .string ⟨#[]⟩, .int .i64 0], .bool false]) (by simp [results, Tryz.results41, go_sem, hc]) rfl ⟨_, _, _, _, rfl, below_set5 (below_in hb) _ (Nat.le_refl _) _ _ _ _ _⟩

/-! ### A literal -/
theorem upTo_notQ : ∀ r : List UInt8, upTo 34 r = r.takeWhile Lx.notQ
  | [] => rfl
  | c :: r => by
    have ih := upTo_notQ r
    have e : Lx.notQ c = !(c == 34) := by
      unfold Lx.notQ
      congr 1
      rw [Bool.eq_iff_iff, beq_iff_eq, beq_iff_eq]
      constructor
      · intro h; exact UInt8.toNat_inj.1 (by have : (34 : UInt8).toNat = 34 := rfl; omega)
      · rintro rfl; rfl
    unfold upTo at ih ⊢
    rw [List.takeWhile_cons, List.takeWhile_cons, ← e, ih]
theorem tw_take (p : UInt8 → Bool) : ∀ l : List UInt8, l.take (l.takeWhile p).length = l.takeWhile p
  | [] => rfl
  | c :: r => by
    rw [List.takeWhile_cons]
    split
    · rw [List.length_cons, List.take_succ_cons, tw_take p r]
    · simp
theorem tw_q (r : List UInt8) (h : (r.takeWhile Lx.notQ).length < r.length) : r.take ((r.takeWhile Lx.notQ).length + 1) = r.takeWhile Lx.notQ ++ [34] := by
  have hd : r[(r.takeWhile Lx.notQ).length] = 34 := by
    have h1 := indexByte_eq 34 r
    rw [upTo_notQ, if_pos h] at h1
    have h2 := (Lib.indexByte_some h1).1
    rw [List.getElem?_eq_getElem h] at h2
    exact Option.some.inj h2
  rw [List.take_succ_eq_append_getElem h, hd, tw_take]
theorem sl_1 (c : UInt8) (r : List UInt8) (w : World) : (Instr.slice 9 (.string ⟨(c :: r).toArray⟩) (some (.int .i64 1)) none none).run Tryz.prog w = .ok (.string ⟨r.toArray⟩) w := sl_from (c :: r) 1 (by simp) w

set_option maxHeartbeats 1000000 in
theorem str_open (r : List UInt8) (hr : ¬ (r.takeWhile Lx.notQ).length < r.length) (w : World) :
    Calls Tryz.prog 42 #[.string ⟨(34 :: r).toArray⟩] w (Miss w) := by
  have h1 := index_no r 34 34 rfl (by rw [upTo_notQ]; exact hr)
  have hs := sl_1 34 r
  have H1 := Lib.hid h1; clear h1 hr
  go_enter Tryz.func42, Tryz.ntmps42
  go_wp2_with (go_at_call 55; refine (H1.out _).mono ?_; rintro e w' ⟨rfl, rfl⟩)
  exact bodyPost_ret (v := .tuple #[.agg #[.int .i64 0, .int .i64 0, .int .i64 0, .string ⟨#[]⟩, .int .i64 0], .bool false]) (by simp [results, Tryz.results42, go_sem]) rfl ⟨_, _, _, _, rfl, (Below.refl _ _).alloc (Nat.le_refl _) _⟩

set_option maxHeartbeats 1000000 in
theorem str_walk (r x : List UInt8) (m : Nat) (hml : m ≤ 1000000) (u : List UInt8) (E : Int) (q : Bool) (hE : (E == 0) = q)
    (hsl : ∀ w, (Instr.slice 9 (.string ⟨(34 :: r).toArray⟩) none (some (.int .i64 ((m : Int) + 2))) none).run Tryz.prog w = .ok (.string ⟨x.toArray⟩) w)
    (I : ∀ w, Calls Tryz.prog 55 #[.string ⟨r.toArray⟩, .int .u8 34] w fun e w' => e = .returned (.int .i64 (m : Int)) ∧ w = w')
    (U : ∀ w, Calls Tryz.prog 59 #[.string ⟨x.toArray⟩] w fun e w' => e = .returned (.tuple #[.string ⟨u.toArray⟩, .int .i64 E]) ∧ Below w.heap.size w w')
    (w : World) :
    Calls Tryz.prog 42 #[.string ⟨(34 :: r).toArray⟩] w fun e w' => e = .returned (.tuple #[.agg #[.int .i64 4, .int .i64 0, .int .i64 ((m : Int) + 2), .string ⟨u.toArray⟩, .int .i64 0], .bool q]) ∧ Below w.heap.size w w' := by
  have hs := sl_1 34 r
  have HI := Lib.hid I; have HU := Lib.hid U; clear I U
  go_enter Tryz.func42, Tryz.ntmps42
  go_wp2_with (go_at_call 55; refine (HI.out _).mono ?_; rintro e w' ⟨rfl, rfl⟩)
  refine (HU.out _).mono ?_
  rintro e w1 ⟨rfl, hb⟩
  obtain ⟨hc, hf⟩ := bcell hb
  have hz := hb.size
  simp at hz
  go_wp2_with fail
  exact bodyPost_ret (v := .tuple #[.agg #[.int .i64 4, .int .i64 0, .int .i64 ((m : Int) + 2), .string ⟨u.toArray⟩, .int .i64 0], .bool q]) (by simp [results, Tryz.results42, go_sem, hc]) rfl ⟨rfl, below_set5 (below_in hb) _ (Nat.le_refl _) _ _ _ _ _⟩

theorem str_sl (r : List UInt8) (h : (r.takeWhile Lx.notQ).length < r.length) (w : World) :
    (Instr.slice 9 (.string ⟨(34 :: r).toArray⟩) none (some (.int .i64 (((r.takeWhile Lx.notQ).length : Int) + 2))) none).run Tryz.prog w = .ok (.string ⟨(34 :: r.takeWhile Lx.notQ ++ [34]).toArray⟩) w := by
  have h1 := sl_to (34 :: r) ((r.takeWhile Lx.notQ).length + 2) (by simp; omega) w
  rw [show ((34 :: r).take ((r.takeWhile Lx.notQ).length + 2)) = 34 :: r.takeWhile Lx.notQ ++ [34] from by
    rw [show (r.takeWhile Lx.notQ).length + 2 = ((r.takeWhile Lx.notQ).length + 1) + 1 from rfl, List.take_succ_cons, tw_q r h]; rfl] at h1
  exact h1
theorem index_eq (r : List UInt8) (h : (r.takeWhile Lx.notQ).length < r.length) (w : World) :
    Calls Tryz.prog 55 #[.string ⟨r.toArray⟩, .int .u8 34] w fun e w' => e = .returned (.int .i64 ((r.takeWhile Lx.notQ).length : Int)) ∧ w = w' := by
  have h1 := index_yes r 34 34 rfl (by rw [upTo_notQ]; exact h) w
  rw [upTo_notQ] at h1
  exact h1
theorem str_yes (r : List UInt8) (hl : r.length ≤ 100000) (h : (r.takeWhile Lx.notQ).length < r.length) (u : List UInt8) (hu : Lx.plit (34 :: r.takeWhile Lx.notQ ++ [34]) = some u) (w : World) :
    Calls Tryz.prog 42 #[.string ⟨(34 :: r).toArray⟩] w (Hit ⟨4, (34 :: r.takeWhile Lx.notQ ++ [34]).length, u, 0⟩ w) := by
  obtain ⟨h1, h2⟩ := Lx.plit_some hu
  refine (str_walk r (34 :: r.takeWhile Lx.notQ ++ [34]) _ (by omega) u 0 true rfl (str_sl r h) (index_eq r h) (unq_yes _ u h1 (by simpa using h2.symm)) w).mono ?_
  rintro e w' ⟨rfl, hb⟩
  refine ⟨?_, hb⟩
  simp; omega
theorem str_no (r : List UInt8) (hl : r.length ≤ 100000) (h : (r.takeWhile Lx.notQ).length < r.length) (hu : Lx.plit (34 :: r.takeWhile Lx.notQ ++ [34]) = none) (w : World) :
    Calls Tryz.prog 42 #[.string ⟨(34 :: r).toArray⟩] w (Miss w) := by
  refine (str_walk r (34 :: r.takeWhile Lx.notQ ++ [34]) _ (by omega) [] 3 false rfl (str_sl r h) (index_eq r h) (unq_no _ (by rw [ba_size]; simp; omega) (by simpa using Lx.plit_none hu)) w).mono ?_
  rintro e w' ⟨rfl, hb⟩
  exact ⟨_, _, _, _, rfl, hb⟩

/-! ### A sign -/
theorem hp_any (l p : List UInt8) (q : Bool) (h : Lib.hasPrefix l p = q) (w : World) :
    Calls Tryz.prog 60 #[.string ⟨l.toArray⟩, .string ⟨p.toArray⟩] w fun e w' => e = .returned (.bool q) ∧ w = w' := by
  refine (Tryz.strings_HasPrefix _ _ w).mono ?_
  rintro e w' ⟨rfl, rfl⟩
  exact ⟨by subst h; simp, rfl⟩
theorem lg0 (w : World) : (Instr.slice 9 (.string { data := #[45, 62, 58, 58, 61, 61] }) (some (.int .i64 0)) (some (.int .i64 2)) none).run Tryz.prog w = .ok (.string { data := #[45, 62] }) w := by kernel_rfl
theorem lg1 (w : World) : (Instr.slice 9 (.string { data := #[45, 62, 58, 58, 61, 61] }) (some (.int .i64 2)) (some (.int .i64 4)) none).run Tryz.prog w = .ok (.string { data := #[58, 58] }) w := by kernel_rfl
theorem lg2 (w : World) : (Instr.slice 9 (.string { data := #[45, 62, 58, 58, 61, 61] }) (some (.int .i64 4)) (some (.int .i64 6)) none).run Tryz.prog w = .ok (.string { data := #[61, 61] }) w := by kernel_rfl

set_option maxHeartbeats 1000000 in
theorem sign_0 (l : List UInt8) (h0 : Lib.hasPrefix l [45, 62] = true) (w : World) :
    Calls Tryz.prog 43 #[.string ⟨l.toArray⟩] w (Hit ⟨5, 2, [45, 62], 0⟩ w) := by
  have g0 := lg0
  have H0 := Lib.hid (hp_any l [45, 62] true h0); clear h0
  go_enter Tryz.func43, Tryz.ntmps43
  go_wp2_with fail
  go_loop [4] (fun i => i = .int .i64 0) (fun i => 6 - (intOf i).toNat)
  case atStart => rfl
  case round =>
    subst hrel
    go_wp2_with (go_at_call 60; refine (H0.out _).mono ?_; rintro e w' ⟨rfl, rfl⟩)
    exact bodyPost_ret (v := .tuple #[.agg #[.int .i64 5, .int .i64 0, .int .i64 2, .string ⟨#[45, 62]⟩, .int .i64 0], .bool true]) (by simp [results, Tryz.results43, go_sem]) rfl ⟨rfl, (Below.refl _ _).alloc (Nat.le_refl _) _⟩

set_option maxHeartbeats 1000000 in
theorem sign_1 (l : List UInt8) (h0 : Lib.hasPrefix l [45, 62] = false) (h1 : Lib.hasPrefix l [58, 58] = true) (w : World) :
    Calls Tryz.prog 43 #[.string ⟨l.toArray⟩] w (Hit ⟨5, 2, [58, 58], 0⟩ w) := by
  have g0 := lg0; have g1 := lg1
  have H0 := Lib.hid (hp_any l [45, 62] false h0); have H1 := Lib.hid (hp_any l [58, 58] true h1); clear h0 h1
  go_enter Tryz.func43, Tryz.ntmps43
  go_wp2_with fail
  go_loop [4] (fun i => i = .int .i64 0 ∨ i = .int .i64 2) (fun i => 6 - (intOf i).toNat)
  case atStart => exact Or.inl rfl
  case round =>
    rcases hrel with rfl | rfl
    · go_wp2_with (go_at_call 60; refine (H0.out _).mono ?_; rintro e w' ⟨rfl, rfl⟩)
      go_round
      case rel => exact Or.inr rfl
      case measure => simp [intOf]
    · go_wp2_with (go_at_call 60; refine (H1.out _).mono ?_; rintro e w' ⟨rfl, rfl⟩)
      exact bodyPost_ret (v := .tuple #[.agg #[.int .i64 5, .int .i64 0, .int .i64 2, .string ⟨#[58, 58]⟩, .int .i64 0], .bool true]) (by simp [results, Tryz.results43, go_sem]) rfl ⟨rfl, (Below.refl _ _).alloc (Nat.le_refl _) _⟩

set_option maxHeartbeats 1000000 in
theorem sign_2 (l : List UInt8) (h0 : Lib.hasPrefix l [45, 62] = false) (h1 : Lib.hasPrefix l [58, 58] = false) (h2 : Lib.hasPrefix l [61, 61] = true) (w : World) :
    Calls Tryz.prog 43 #[.string ⟨l.toArray⟩] w (Hit ⟨5, 2, [61, 61], 0⟩ w) := by
  have g0 := lg0; have g1 := lg1; have g2 := lg2
  have H0 := Lib.hid (hp_any l [45, 62] false h0); have H1 := Lib.hid (hp_any l [58, 58] false h1); have H2 := Lib.hid (hp_any l [61, 61] true h2); clear h0 h1 h2
  go_enter Tryz.func43, Tryz.ntmps43
  go_wp2_with fail
  go_loop [4] (fun i => i = .int .i64 0 ∨ i = .int .i64 2 ∨ i = .int .i64 4) (fun i => 6 - (intOf i).toNat)
  case atStart => exact Or.inl rfl
  case round =>
    rcases hrel with rfl | rfl | rfl
    · go_wp2_with (go_at_call 60; refine (H0.out _).mono ?_; rintro e w' ⟨rfl, rfl⟩)
      go_round
      case rel => exact Or.inr (Or.inl rfl)
      case measure => simp [intOf]
    · go_wp2_with (go_at_call 60; refine (H1.out _).mono ?_; rintro e w' ⟨rfl, rfl⟩)
      go_round
      case rel => exact Or.inr (Or.inr rfl)
      case measure => simp [intOf]
    · go_wp2_with (go_at_call 60; refine (H2.out _).mono ?_; rintro e w' ⟨rfl, rfl⟩)
      exact bodyPost_ret (v := .tuple #[.agg #[.int .i64 5, .int .i64 0, .int .i64 2, .string ⟨#[61, 61]⟩, .int .i64 0], .bool true]) (by simp [results, Tryz.results43, go_sem]) rfl ⟨rfl, (Below.refl _ _).alloc (Nat.le_refl _) _⟩

theorem sl_t1 (c : UInt8) (r : List UInt8) (w : World) : (Instr.slice 9 (.string ⟨(c :: r).toArray⟩) none (some (.int .i64 1)) none).run Tryz.prog w = .ok (.string ⟨#[c]⟩) w := sl_to (c :: r) 1 (by simp) w
theorem ix_0 (c : UInt8) (r : List UInt8) (w : World) : (Instr.index 9 (.string ⟨(c :: r).toArray⟩) (.int .i64 0)).run Tryz.prog w = .ok (.int .u8 (c.toNat : Int)) w := idx (c :: r) 0 (by simp) w
/-- Where a byte stands among the signs of one byte, or -1. -/
theorem short_ix : ∀ n : Fin 256, (Lib.indexByte Lx.shorts (UInt8.ofNat n.val) = -1 ∧ Lx.shorts.contains (UInt8.ofNat n.val) = false) ∨ (0 ≤ Lib.indexByte Lx.shorts (UInt8.ofNat n.val) ∧ Lx.shorts.contains (UInt8.ofNat n.val) = true) := by decide +kernel
theorem short_at (c : UInt8) (w : World) :
    Calls Tryz.prog 55 #[.string { data := #[40, 41, 91, 93, 44, 58, 61, 124, 43, 45, 42, 47, 60, 63, 95] }, .int .u8 (c.toNat : Int)] w fun e w' => e = .returned (.int .i64 (Lib.indexByte Lx.shorts c)) ∧ w = w' := by
  refine (Tryz.strings_IndexByte _ _ w).mono ?_
  rintro e w' ⟨rfl, rfl⟩
  refine ⟨?_, rfl⟩
  have e1 : ((c.toNat : Int)).toNat.toUInt8 = c := by simp
  rw [e1]; rfl

set_option maxHeartbeats 1000000 in
theorem sign_3 (c : UInt8) (r : List UInt8) (h0 : Lib.hasPrefix (c :: r) [45, 62] = false) (h1 : Lib.hasPrefix (c :: r) [58, 58] = false) (h2 : Lib.hasPrefix (c :: r) [61, 61] = false) (hs : Lx.shorts.contains c = true) (w : World) :
    Calls Tryz.prog 43 #[.string ⟨(c :: r).toArray⟩] w (Hit ⟨5, 1, [c], 0⟩ w) := by
  have g0 := lg0; have g1 := lg1; have g2 := lg2; have g3 := sl_t1 c r; have g4 := ix_0 c r
  have H0 := Lib.hid (hp_any (c :: r) [45, 62] false h0); have H1 := Lib.hid (hp_any (c :: r) [58, 58] false h1); have H2 := Lib.hid (hp_any (c :: r) [61, 61] false h2); clear h0 h1 h2
  have hx : ∃ k : Int, 0 ≤ k ∧ ∀ w : World, Calls Tryz.prog 55 #[.string { data := #[40, 41, 91, 93, 44, 58, 61, 124, 43, 45, 42, 47, 60, 63, 95] }, .int .u8 (c.toNat : Int)] w fun e w' => e = .returned (.int .i64 k) ∧ w = w' := by
    have k := short_ix ⟨c.toNat, c.toNat_lt⟩
    simp only [UInt8.ofNat_toNat] at k
    rcases k with ⟨_, k⟩ | ⟨k, _⟩
    · rw [hs] at k; cases k
    · exact ⟨_, k, fun w => short_at c w⟩
  obtain ⟨k, hk, hx⟩ := hx
  have HX := Lib.hid hx; clear hx hs
  go_enter Tryz.func43, Tryz.ntmps43
  go_wp2_with fail
  go_loop [4] (fun i => i = .int .i64 0 ∨ i = .int .i64 2 ∨ i = .int .i64 4 ∨ i = .int .i64 6) (fun i => 6 - (intOf i).toNat)
  case atStart => exact Or.inl rfl
  case round =>
    rcases hrel with rfl | rfl | rfl | rfl
    · go_wp2_with (go_at_call 60; refine (H0.out _).mono ?_; rintro e w' ⟨rfl, rfl⟩)
      go_round
      case rel => exact Or.inr (Or.inl rfl)
      case measure => simp [intOf]
    · go_wp2_with (go_at_call 60; refine (H1.out _).mono ?_; rintro e w' ⟨rfl, rfl⟩)
      go_round
      case rel => exact Or.inr (Or.inr (Or.inl rfl))
      case measure => simp [intOf]
    · go_wp2_with (go_at_call 60; refine (H2.out _).mono ?_; rintro e w' ⟨rfl, rfl⟩)
      go_round
      case rel => exact Or.inr (Or.inr (Or.inr rfl))
      case measure => simp [intOf]
    · go_wp2_with (go_at_call 55; refine (HX.out _).mono ?_; rintro e w' ⟨rfl, rfl⟩)
      exact bodyPost_ret (v := .tuple #[.agg #[.int .i64 5, .int .i64 0, .int .i64 1, .string ⟨#[c]⟩, .int .i64 0], .bool true]) (by simp [results, Tryz.results43, go_sem]) rfl ⟨rfl, (Below.refl _ _).alloc (Nat.le_refl _) _⟩

set_option maxHeartbeats 1000000 in
theorem sign_no (c : UInt8) (r : List UInt8) (h0 : Lib.hasPrefix (c :: r) [45, 62] = false) (h1 : Lib.hasPrefix (c :: r) [58, 58] = false) (h2 : Lib.hasPrefix (c :: r) [61, 61] = false) (hs : Lx.shorts.contains c = false) (w : World) :
    Calls Tryz.prog 43 #[.string ⟨(c :: r).toArray⟩] w (Miss w) := by
  have g0 := lg0; have g1 := lg1; have g2 := lg2; have g4 := ix_0 c r
  have H0 := Lib.hid (hp_any (c :: r) [45, 62] false h0); have H1 := Lib.hid (hp_any (c :: r) [58, 58] false h1); have H2 := Lib.hid (hp_any (c :: r) [61, 61] false h2); clear h0 h1 h2
  have hx : ∀ w : World, Calls Tryz.prog 55 #[.string { data := #[40, 41, 91, 93, 44, 58, 61, 124, 43, 45, 42, 47, 60, 63, 95] }, .int .u8 (c.toNat : Int)] w fun e w' => e = .returned (.int .i64 (-1)) ∧ w = w' := by
    have k := short_ix ⟨c.toNat, c.toNat_lt⟩
    simp only [UInt8.ofNat_toNat] at k
    rcases k with ⟨k, _⟩ | ⟨_, k⟩
    · intro w
      have := short_at c w
      rw [k] at this; exact this
    · rw [hs] at k; cases k
  have HX := Lib.hid hx; clear hx hs
  go_enter Tryz.func43, Tryz.ntmps43
  go_wp2_with fail
  go_loop [4] (fun i => i = .int .i64 0 ∨ i = .int .i64 2 ∨ i = .int .i64 4 ∨ i = .int .i64 6) (fun i => 6 - (intOf i).toNat)
  case atStart => exact Or.inl rfl
  case round =>
    rcases hrel with rfl | rfl | rfl | rfl
    · go_wp2_with (go_at_call 60; refine (H0.out _).mono ?_; rintro e w' ⟨rfl, rfl⟩)
      go_round
      case rel => exact Or.inr (Or.inl rfl)
      case measure => simp [intOf]
    · go_wp2_with (go_at_call 60; refine (H1.out _).mono ?_; rintro e w' ⟨rfl, rfl⟩)
      go_round
      case rel => exact Or.inr (Or.inr (Or.inl rfl))
      case measure => simp [intOf]
    · go_wp2_with (go_at_call 60; refine (H2.out _).mono ?_; rintro e w' ⟨rfl, rfl⟩)
      go_round
      case rel => exact Or.inr (Or.inr (Or.inr rfl))
      case measure => simp [intOf]
    · go_wp2_with (go_at_call 55; refine (HX.out _).mono ?_; rintro e w' ⟨rfl, rfl⟩)
      exact bodyPost_ret (v := .tuple #[.agg #[.int .i64 0, .int .i64 0, .int .i64 0, .string ⟨#[]⟩, .int .i64 0], .bool false]) (by simp [results, Tryz.results43, go_sem]) rfl ⟨_, _, _, _, rfl, (Below.refl _ _).alloc (Nat.le_refl _) _⟩

theorem long_eq (c : UInt8) (r : List UInt8) : Lx.long c (r.getD 0 0) = (Lib.hasPrefix (c :: r) [45, 62] || Lib.hasPrefix (c :: r) [58, 58] || Lib.hasPrefix (c :: r) [61, 61]) := by
  have hb : ∀ a b : UInt8, (a == b) = (b == a) := fun a b => by rw [Bool.eq_iff_iff, beq_iff_eq, beq_iff_eq]; exact eq_comm
  cases r with
  | nil => simp [Lx.long, Lib.hasPrefix, List.isPrefixOf]
  | cons d r => simp [Lx.long, Lib.hasPrefix, List.isPrefixOf, hb]
theorem hp_two (c a b : UInt8) (r : List UInt8) (h : Lib.hasPrefix (c :: r) [a, b] = true) : c :: r.take 1 = [a, b] := by
  cases r with
  | nil => simp [Lib.hasPrefix, List.isPrefixOf] at h
  | cons d r =>
    simp [Lib.hasPrefix, List.isPrefixOf] at h
    obtain ⟨rfl, rfl⟩ := h
    simp
theorem sign_yes (c : UInt8) (r : List UInt8) (b : Lx.Bare) (h : Lx.signT c r = some b) (w : World) :
    Calls Tryz.prog 43 #[.string ⟨(c :: r).toArray⟩] w (Hit b w) := by
  unfold Lx.signT at h
  rw [long_eq] at h
  cases h0 : Lib.hasPrefix (c :: r) [45, 62]
  · cases h1 : Lib.hasPrefix (c :: r) [58, 58]
    · cases h2 : Lib.hasPrefix (c :: r) [61, 61]
      · rw [h0, h1, h2] at h
        simp only [Bool.or_self, Bool.false_eq_true, if_false] at h
        split at h
        · rename_i hs
          injection h with h; subst h
          exact sign_3 c r h0 h1 h2 hs w
        · cases h
      · rw [h0, h1, h2, hp_two _ _ _ _ h2] at h
        simp at h; subst h
        exact sign_2 _ h0 h1 h2 w
    · rw [h0, h1, hp_two _ _ _ _ h1] at h
      simp at h; subst h
      exact sign_1 _ h0 h1 w
  · rw [h0, hp_two _ _ _ _ h0] at h
    simp at h; subst h
    exact sign_0 _ h0 w
theorem sign_none (c : UInt8) (r : List UInt8) (h : Lx.signT c r = none) (w : World) :
    Calls Tryz.prog 43 #[.string ⟨(c :: r).toArray⟩] w (Miss w) := by
  unfold Lx.signT at h
  rw [long_eq] at h
  cases h0 : Lib.hasPrefix (c :: r) [45, 62]
  · cases h1 : Lib.hasPrefix (c :: r) [58, 58]
    · cases h2 : Lib.hasPrefix (c :: r) [61, 61]
      · rw [h0, h1, h2] at h
        simp only [Bool.or_self, Bool.false_eq_true, if_false] at h
        split at h
        · cases h
        · rename_i hs
          exact sign_no c r h0 h1 h2 (by simpa using hs) w
      · rw [h0, h1, h2] at h; simp at h
    · rw [h0, h1] at h; simp at h
  · rw [h0] at h; simp at h
end Go.Proofs.YtideicoifinnoaaGreatDoor
namespace Go.Proofs.YtideicoifinnoaaGreatDoor
open Go Go.RowKit
open Go.Proofs

def TokIs (P : Bool → Int → Int → ByteArray → Int → Prop) (w : World) (e : Ending) (w' : World) : Prop :=
  ∃ (q : Bool) (k t : Int) (s : ByteArray) (n : Int), P q k t s n ∧ e = .returned (.tuple #[.agg #[.int .i64 k, .int .i64 0, .int .i64 t, .string s, .int .i64 n], .bool q]) ∧ Below w.heap.size w w'
def PHit (b : Lx.Bare) (q : Bool) (k t : Int) (s : ByteArray) (n : Int) : Prop := q = true ∧ k = (b.kind : Int) ∧ t = (b.len : Int) ∧ s = ⟨b.s.toArray⟩ ∧ n = b.n
def PMiss (q : Bool) (_ _ : Int) (_ : ByteArray) (_ : Int) : Prop := q = false
def POf : Option Lx.Bare → Bool → Int → Int → ByteArray → Int → Prop
  | some b => PHit b
  | none => PMiss
theorem hit_in {b : Lx.Bare} {f : Nat} {a : Array Value} {w : World} (h : Calls Tryz.prog f a w (Hit b w)) : Calls Tryz.prog f a w (TokIs (PHit b) w) :=
  h.mono fun _ _ ⟨h1, h2⟩ => ⟨true, _, _, _, _, ⟨rfl, rfl, rfl, rfl, rfl⟩, h1, h2⟩
theorem miss_in {f : Nat} {a : Array Value} {w : World} (h : Calls Tryz.prog f a w (Miss w)) : Calls Tryz.prog f a w (TokIs PMiss w) :=
  h.mono fun _ _ ⟨k, t, s, n, h1, h2⟩ => ⟨false, k, t, s, n, rfl, h1, h2⟩
theorem hit_out {b : Lx.Bare} {f : Nat} {a : Array Value} {w : World} (h : Calls Tryz.prog f a w (TokIs (PHit b) w)) : Calls Tryz.prog f a w (Hit b w) :=
  h.mono fun _ _ ⟨_, _, _, _, _, ⟨h1, h2, h3, h4, h5⟩, h6, h7⟩ => by subst h1 h2 h3 h4 h5; exact ⟨h6, h7⟩
theorem miss_out {f : Nat} {a : Array Value} {w : World} (h : Calls Tryz.prog f a w (TokIs PMiss w)) : Calls Tryz.prog f a w (Miss w) :=
  h.mono fun _ _ ⟨q, k, t, s, n, h1, h2, h3⟩ => ⟨k, t, s, n, by rw [h2, show q = false from h1], h3⟩

theorem sl_m (c : UInt8) (r : List UInt8) (p : UInt8 → Bool) (w : World) :
    (Instr.slice 9 (.string ⟨(c :: r).toArray⟩) none (some (.int .i64 (1 + ((r.takeWhile p).length : Int)))) none).run Tryz.prog w = .ok (.string ⟨(c :: r.takeWhile p).toArray⟩) w := by
  have h1 := sl_to (c :: r) ((r.takeWhile p).length + 1) (by have := Lx.tw_len p r; simp; omega) w
  rw [List.take_succ_cons, tw_take] at h1
  rw [show (1 + ((r.takeWhile p).length : Int)) = (((r.takeWhile p).length + 1 : Nat) : Int) from by omega]
  exact h1

set_option maxHeartbeats 1000000 in
theorem first_word (c : UInt8) (r : List UInt8) (hl : r.length ≤ 100000) (P : Bool → Int → Int → ByteArray → Int → Prop) (hc : Wd.lowI (c.toNat : Int) = true)
    (T : ∀ w, Good w → Calls Tryz.prog 37 #[.string ⟨(c :: r.takeWhile Wd.part).toArray⟩] w (TokIs P w)) (w : World) (hg : Good w) :
    Calls Tryz.prog 25 #[.string ⟨(c :: r).toArray⟩] w (TokIs P w) := by
  have g1 := sl_1 c r; have g2 := sl_m c r Wd.part; have g3 := ix_0 c r
  have hm := Lx.tw_len Wd.part r
  have hr := run_part r (by omega)
  have HT := Lib.hid T; have HG := Lib.hid hg; have HR := Lib.hid hr
  clear T hg hr
  obtain ⟨m, hm2⟩ : ∃ m, m = (r.takeWhile Wd.part).length := ⟨_, rfl⟩
  rw [← hm2] at g2 hm HR
  clear hm2
  generalize r.takeWhile Wd.part = y at *
  go_enter Tryz.func25, Tryz.ntmps25
  go_wp2_with (first | (go_at_call 36; refine (xlow_any _ _).mono ?_; rintro e w' ⟨rfl, rfl⟩) | (go_at_call 38; refine (HR.out _).mono ?_; rintro e w' ⟨rfl, rfl⟩))
  have HG1 := Lib.hid (HG.out.below ((Below.refl w.heap.size w).alloc (Nat.le_refl _) (.cells #[.int .i64 0, .int .i64 0, .int .i64 0, .string { data := #[] }, .int .i64 0] 60)))
  refine (HT.out _ HG1.out).mono ?_
  rintro e w1 ⟨q, k, t, s, n, hP, rfl, hb⟩
  obtain ⟨hcell, hf⟩ := bcell hb
  have hz := hb.size
  have HP := Lib.hid hP; clear hP
  simp at hz
  go_wp2_with fail
  exact bodyPost_ret (v := .tuple #[.agg #[.int .i64 k, .int .i64 0, .int .i64 t, .string s, .int .i64 n], .bool q]) (by simp [results, Tryz.results25, go_sem, hcell]) rfl ⟨_, _, _, _, _, HP.out, rfl, below_set5 (below_in hb) _ (Nat.le_refl _) _ _ _ _ _⟩

set_option maxHeartbeats 1000000 in
theorem first_num (c : UInt8) (r : List UInt8) (hl : r.length ≤ 100000) (P : Bool → Int → Int → ByteArray → Int → Prop) (hc : Wd.lowI (c.toNat : Int) = false) (hd : (Lx.digI (c.toNat : Int) || (c.toNat : Int) == 126) = true)
    (T : ∀ w, Good w → Calls Tryz.prog 41 #[.string ⟨(c :: r.takeWhile Lx.dig).toArray⟩] w (TokIs P w)) (w : World) (hg : Good w) :
    Calls Tryz.prog 25 #[.string ⟨(c :: r).toArray⟩] w (TokIs P w) := by
  have g1 := sl_1 c r; have g2 := sl_m c r Lx.dig; have g3 := ix_0 c r
  have hm := Lx.tw_len Lx.dig r
  have hr := run_dig r (by omega)
  have HT := Lib.hid T; have HG := Lib.hid hg; have HR := Lib.hid hr
  clear T hg hr
  obtain ⟨m, hm2⟩ : ∃ m, m = (r.takeWhile Lx.dig).length := ⟨_, rfl⟩
  rw [← hm2] at g2 hm HR
  clear hm2
  generalize r.takeWhile Lx.dig = y at *
  cases hd1 : Lx.digI (c.toNat : Int) <;> cases hd2 : ((c.toNat : Int) == 126) <;> first | (rw [hd1, hd2] at hd; cases hd; done) | skip
  all_goals
    clear hd
    go_enter Tryz.func25, Tryz.ntmps25
    go_wp2_with (first | (go_at_call 36; refine (xlow_any _ _).mono ?_; rintro e w' ⟨rfl, rfl⟩) | (go_at_call 40; refine (xdig_any _ _).mono ?_; rintro e w' ⟨rfl, rfl⟩) | (go_at_call 38; refine (HR.out _).mono ?_; rintro e w' ⟨rfl, rfl⟩))
    have HG1 := Lib.hid (HG.out.below ((Below.refl w.heap.size w).alloc (Nat.le_refl _) (.cells #[.int .i64 0, .int .i64 0, .int .i64 0, .string { data := #[] }, .int .i64 0] 60)))
    refine (HT.out _ HG1.out).mono ?_
    rintro e w1 ⟨q, k, t, s, n, hP, rfl, hb⟩
    obtain ⟨hcell, hf⟩ := bcell hb
    have hz := hb.size
    have HP := Lib.hid hP; clear hP
    simp at hz
    go_wp2_with fail
    exact bodyPost_ret (v := .tuple #[.agg #[.int .i64 k, .int .i64 0, .int .i64 t, .string s, .int .i64 n], .bool q]) (by simp [results, Tryz.results25, go_sem, hcell]) rfl ⟨_, _, _, _, _, HP.out, rfl, below_set5 (below_in hb) _ (Nat.le_refl _) _ _ _ _ _⟩

set_option maxHeartbeats 1000000 in
theorem first_str (c : UInt8) (r : List UInt8) (P : Bool → Int → Int → ByteArray → Int → Prop) (hc : Wd.lowI (c.toNat : Int) = false) (hd1 : Lx.digI (c.toNat : Int) = false) (hd2 : ((c.toNat : Int) == 126) = false) (h34 : ((c.toNat : Int) == 34) = true)
    (T : ∀ w, Good w → Calls Tryz.prog 42 #[.string ⟨(c :: r).toArray⟩] w (TokIs P w)) (w : World) (hg : Good w) :
    Calls Tryz.prog 25 #[.string ⟨(c :: r).toArray⟩] w (TokIs P w) := by
  have g3 := ix_0 c r
  have HT := Lib.hid T; have HG := Lib.hid hg
  clear T hg
  go_enter Tryz.func25, Tryz.ntmps25
  go_wp2_with (first | (go_at_call 36; refine (xlow_any _ _).mono ?_; rintro e w' ⟨rfl, rfl⟩) | (go_at_call 40; refine (xdig_any _ _).mono ?_; rintro e w' ⟨rfl, rfl⟩))
  have HG1 := Lib.hid (HG.out.below ((Below.refl w.heap.size w).alloc (Nat.le_refl _) (.cells #[.int .i64 0, .int .i64 0, .int .i64 0, .string { data := #[] }, .int .i64 0] 60)))
  refine (HT.out _ HG1.out).mono ?_
  rintro e w1 ⟨q, k, t, s, n, hP, rfl, hb⟩
  obtain ⟨hcell, hf⟩ := bcell hb
  have hz := hb.size
  have HP := Lib.hid hP; clear hP
  simp at hz
  go_wp2_with fail
  exact bodyPost_ret (v := .tuple #[.agg #[.int .i64 k, .int .i64 0, .int .i64 t, .string s, .int .i64 n], .bool q]) (by simp [results, Tryz.results25, go_sem, hcell]) rfl ⟨_, _, _, _, _, HP.out, rfl, below_set5 (below_in hb) _ (Nat.le_refl _) _ _ _ _ _⟩

set_option maxHeartbeats 1000000 in
theorem first_sign (c : UInt8) (r : List UInt8) (P : Bool → Int → Int → ByteArray → Int → Prop) (hc : Wd.lowI (c.toNat : Int) = false) (hd1 : Lx.digI (c.toNat : Int) = false) (hd2 : ((c.toNat : Int) == 126) = false) (h34 : ((c.toNat : Int) == 34) = false)
    (T : ∀ w, Good w → Calls Tryz.prog 43 #[.string ⟨(c :: r).toArray⟩] w (TokIs P w)) (w : World) (hg : Good w) :
    Calls Tryz.prog 25 #[.string ⟨(c :: r).toArray⟩] w (TokIs P w) := by
  have g3 := ix_0 c r
  have HT := Lib.hid T; have HG := Lib.hid hg
  clear T hg
  go_enter Tryz.func25, Tryz.ntmps25
  go_wp2_with (first | (go_at_call 36; refine (xlow_any _ _).mono ?_; rintro e w' ⟨rfl, rfl⟩) | (go_at_call 40; refine (xdig_any _ _).mono ?_; rintro e w' ⟨rfl, rfl⟩))
  have HG1 := Lib.hid (HG.out.below ((Below.refl w.heap.size w).alloc (Nat.le_refl _) (.cells #[.int .i64 0, .int .i64 0, .int .i64 0, .string { data := #[] }, .int .i64 0] 60)))
  refine (HT.out _ HG1.out).mono ?_
  rintro e w1 ⟨q, k, t, s, n, hP, rfl, hb⟩
  obtain ⟨hcell, hf⟩ := bcell hb
  have hz := hb.size
  have HP := Lib.hid hP; clear hP
  simp at hz
  go_wp2_with fail
  exact bodyPost_ret (v := .tuple #[.agg #[.int .i64 k, .int .i64 0, .int .i64 t, .string s, .int .i64 n], .bool q]) (by simp [results, Tryz.results25, go_sem, hcell]) rfl ⟨_, _, _, _, _, HP.out, rfl, below_set5 (below_in hb) _ (Nat.le_refl _) _ _ _ _ _⟩

theorem c34 (c : UInt8) : ((c.toNat : Int) == 34) = (c == 34) := by
  rw [Bool.eq_iff_iff, beq_iff_eq, beq_iff_eq]
  exact ⟨fun h => UInt8.toNat_inj.1 (by have : (34 : UInt8).toNat = 34 := rfl; omega), fun h => by rw [h]; rfl⟩
theorem c126 (c : UInt8) : ((c.toNat : Int) == 126) = (c == 126) := by
  rw [Bool.eq_iff_iff, beq_iff_eq, beq_iff_eq]
  exact ⟨fun h => UInt8.toNat_inj.1 (by have : (126 : UInt8).toNat = 126 := rfl; omega), fun h => by rw [h]; rfl⟩

theorem tok_yes {o : Option Lx.Bare} {f : Nat} {a : Array Value} (h1 : ∀ b, o = some b → ∀ w, Good w → Calls Tryz.prog f a w (Hit b w)) (h2 : o = none → ∀ w, Good w → Calls Tryz.prog f a w (Miss w)) :
    ∀ w, Good w → Calls Tryz.prog f a w (TokIs (POf o) w) := by
  intro w hg
  cases o with
  | none => exact miss_in (h2 rfl w hg)
  | some b => exact hit_in (h1 b rfl w hg)

/-- WHAT first HANDS BACK. -/
theorem first_any (c : UInt8) (r : List UInt8) (hl : r.length ≤ 100000) (w : World) (hg : Good w) :
    Calls Tryz.prog 25 #[.string ⟨(c :: r).toArray⟩] w (TokIs (POf (Lx.first (c :: r))) w) := by
  have hm1 := Lx.tw_len Wd.part r
  have hm2 := Lx.tw_len Lx.dig r
  simp only [Lx.first]
  by_cases hc : Wd.low c = true
  · rw [if_pos hc]
    refine first_word c r hl _ hc (tok_yes ?_ ?_) w hg
    · intro b hb w hg
      simp only [Lx.wordT] at hb
      split at hb
      · rename_i hk; injection hb with hb; subst hb; exact word_key _ hk w
      · rename_i hk
        split at hb
        · rename_i hn; injection hb with hb; subst hb; exact word_name _ (by simp; omega) (by simpa using hk) hn w
        · cases hb
    · intro hb w hg
      simp only [Lx.wordT] at hb
      split at hb
      · cases hb
      · rename_i hk
        split at hb
        · cases hb
        · rename_i hn; exact word_none _ (by simp; omega) (by simpa using hk) (by simpa using hn) w
  · rw [if_neg hc]
    have hc' : Wd.lowI (c.toNat : Int) = false := by simpa [Wd.low] using hc
    by_cases hd : (Lx.dig c || c == 126) = true
    · rw [if_pos hd]
      refine first_num c r hl _ hc' (by rw [c126]; exact hd) (tok_yes ?_ ?_) w hg
      · intro b hb w hg
        simp only [Lx.numT, Option.map_eq_some_iff] at hb
        obtain ⟨n, hn, rfl⟩ := hb
        exact num_yes _ n hn w hg
      · intro hb w hg
        simp only [Lx.numT, Option.map_eq_none_iff] at hb
        exact num_no _ (by simp; omega) hb w hg
    · rw [if_neg hd]
      have hd' : Lx.dig c = false ∧ (c == 126) = false := by simpa using hd
      by_cases h34 : (c == 34) = true
      · rw [if_pos h34]
        have e : c = 34 := by simpa using h34
        subst e
        refine first_str 34 r _ hc' hd'.1 (by rw [c126]; exact hd'.2) (by rw [c34]; exact h34) (tok_yes ?_ ?_) w hg
        · intro b hb w hg
          split at hb
          · rename_i h
            simp only [Lx.strT, Option.map_eq_some_iff] at hb
            obtain ⟨u, hu, rfl⟩ := hb
            exact str_yes r hl h u hu w
          · cases hb
        · intro hb w hg
          split at hb
          · rename_i h
            simp only [Lx.strT, Option.map_eq_none_iff] at hb
            exact str_no r hl h hb w
          · rename_i h
            exact str_open r h w
      · rw [if_neg h34]
        refine first_sign c r _ hc' hd'.1 (by rw [c126]; exact hd'.2) (by rw [c34]; simpa using h34) (tok_yes ?_ ?_) w hg
        · exact fun b hb w hg => sign_yes c r b hb w
        · exact fun hb w hg => sign_none c r hb w
end Go.Proofs.YtideicoifinnoaaGreatDoor
namespace Go.Proofs.YtideicoifinnoaaGreatDoor
open Go Go.RowKit
open Go.Proofs

/-- The slice that begins here holds these bytes. -/
def Holds (w : World) (a : Option Addr) (l : List UInt8) : Prop :=
  l = [] ∨ ∃ b off, a = some ⟨b, off, none⟩ ∧ b < w.heap.size ∧ ∀ i (h : i < l.length), w.cell? ⟨b, off + i, none⟩ = some (.int .u8 (l[i].toNat : Int))
theorem Holds.below {w w' : World} {a : Option Addr} {l : List UInt8} (h : Holds w a l) {B : Nat} (hB : w.heap.size ≤ B) (hb : Below B w w') : Holds w' a l := by
  rcases h with h | ⟨b, off, h1, h2, h3⟩
  · exact Or.inl h
  · exact Or.inr ⟨b, off, h1, Nat.lt_of_lt_of_le h2 hb.size, fun i hi => by rw [hb.cell (p := ⟨b, off + i, none⟩) (Nat.lt_of_lt_of_le h2 hB)]; exact h3 i hi⟩
theorem conv_holds {w : World} {a : Option Addr} {l : List UInt8} (h : Holds w a l) (n cap : Nat) (hn : n = l.length) : (convert 25 9 (.slice a n cap)).run Tryz.prog w = .ok (.string ⟨l.toArray⟩) w := by
  subst hn
  rcases h with rfl | ⟨b, off, rfl, _, h3⟩
  · cases a with
    | none => exact Lib.run_convert_nil_bytes w _ _ 5 cap Tryz.underlying25 Tryz.underlying5 Tryz.underlying9
    | some ad => exact run_convert_bytes_back w _ _ 5 ad cap [] Tryz.underlying25 Tryz.underlying5 Tryz.underlying9 (fun j hj => by simp at hj)
  · refine run_convert_bytes_back w _ _ 5 _ cap l Tryz.underlying25 Tryz.underlying5 Tryz.underlying9 (fun j hj => ?_)
    rw [← h3 j hj]
    congr 1
    unfold Addr.add
    split <;> simp_all

def tokRow (t : Lx.Tok) : List Value := [.int .i64 (t.kind : Int), .int .i64 (t.frm : Int), .int .i64 (t.to_ : Int), .string ⟨t.s.toArray⟩, .int .i64 t.n]
def tokCells (ts : List Lx.Tok) : List Value := ts.flatMap tokRow
theorem tokCells_len (ts : List Lx.Tok) : (tokCells ts).length = ts.length * 5 := by
  induction ts with
  | nil => rfl
  | cons t r ih =>
    have e : tokCells (t :: r) = tokRow t ++ tokCells r := by simp [tokCells]
    rw [e, List.length_append, ih]; simp [tokRow]; omega
theorem tokCells_snoc (ts : List Lx.Tok) (t : Lx.Tok) : tokCells (ts ++ [t]) = tokCells ts ++ tokRow t := by simp [tokCells]
theorem info_tok : (Tryz.prog.info? 60).map (fun i => (i.zero, i.size, i.bytes)) = some (some (.agg #[.int .i64 0, .int .i64 0, .int .i64 0, .string ByteArray.empty, .int .i64 0]), 5, 48) := by kernel_rfl

theorem own_below {w w1 : World} {B : Nat} {e : TypeId} {sz : Nat} {v : Value} {n : Nat} {xs : List Value} (h : w.ownsRow B e sz v n xs) (hb : Below w.heap.size w w1) : w1.ownsRow B e sz v n xs :=
  h.kept (row := none) ⟨hb.os, hb.tape, hb.output, hb.size, fun i hi _ => hb.block i hi⟩ (by cases hv : v.ownBlock with
    | none => exact Or.inl rfl
    | some g => right; simp)
theorem cells5 (w : World) (g : Nat) (hg : g = w.heap.size) (a b c d e : Value) (t : TypeId) : ∀ j u, [a, b, c, d, e][j]? = some u → (w.alloc (.cells #[a, b, c, d, e] t)).cell? ((⟨g, 0, none⟩ : Addr).add j) = some u := by
  subst hg
  intro j u hj
  match j, hj with
  | 0, hj => simp at hj; subst hj; simp [Addr.add]
  | 1, hj => simp at hj; subst hj; simp [Addr.add]
  | 2, hj => simp at hj; subst hj; simp [Addr.add]
  | 3, hj => simp at hj; subst hj; simp [Addr.add]
  | 4, hj => simp at hj; subst hj; simp [Addr.add]
  | j + 5, hj => simp at hj
theorem own_shape' {w : World} {B sz : Nat} {e : TypeId} {v : Value} {n : Nat} {xs : List Value} (h : w.ownsRow B e sz v n xs) : ∃ a cap, v = .slice a n cap := by
  rcases h.2 with ⟨rfl, rfl⟩ | ⟨g, cap, cur, rfl, _⟩
  · exact ⟨none, 0, rfl⟩
  · exact ⟨_, cap, rfl⟩

theorem skip_drop (l : List UInt8) : Lx.skip (l.drop (Lx.skip l)) = 0 := by
  cases h : l.drop (Lx.skip l) with
  | nil => rfl
  | cons c r =>
    obtain ⟨h1, h2⟩ := Lx.skipB_stop l false c r h
    exact Lx.skip_none h1 h2
def scanAll (l : List UInt8) : Lx.Res := if 16384 < l.length then .bad 16384 else Lx.scan l 0
def ScanPost (R : Lx.Res) (w : World) (e : Ending) (w' : World) : Prop :=
  match R with
  | .bad a => e = .returned (.tuple #[.slice none 0 0, .int .i64 (a : Int), .int .i64 3]) ∧ Below w.heap.size w w'
  | .good ts => ∃ v, e = .returned (.tuple #[v, .int .i64 0, .int .i64 0]) ∧ w'.ownsRow w.heap.size 60 5 v ts.length (tokCells ts) ∧ Below w.heap.size w w'

theorem below_more {B : Nat} {a w : World} (h : Below B a w) (n : Nat) : Below B a (w.drewN n) := ⟨h.os, h.tape, h.output, h.size, h.block⟩
theorem own_drewN {w : World} {B : Nat} {e : TypeId} {sz : Nat} {v : Value} {n : Nat} {xs : List Value} (h : w.ownsRow B e sz v n xs) (k : Nat) : (w.drewN k).ownsRow B e sz v n xs := h
set_option maxHeartbeats 400000 in
theorem scan_big (a : Option Addr) (n cap : Nat) (h : 16384 < n) (w : World) :
    Calls Tryz.prog 10 #[.slice a n cap] w (ScanPost (.bad 16384) w) := by
  go_enter Tryz.func10, Tryz.ntmps10
  go_wp2_with fail
  go_ret3
  exact ⟨rfl, Below.refl _ _⟩

set_option maxRecDepth 100000 in
set_option maxHeartbeats 4000000 in
theorem scan_small (a : Option Addr) (cap : Nat) (l : List UInt8) (h : l.length ≤ 16384) (w : World) (hh : Holds w a l) (hg : Good w) :
    Calls Tryz.prog 10 #[.slice a l.length cap] w (ScanPost (Lx.scan l 0) w) := by
  obtain ⟨i0, hi, hz0, hz1, hz2⟩ := info_parts info_tok
  have hcv := conv_holds hh l.length cap rfl
  have HG := Lib.hid hg; clear hg
  obtain ⟨R, hR⟩ : ∃ R, R = Lx.scan l 0 := ⟨_, rfl⟩
  rw [← hR]
  have HR := Lib.hid hR; clear hR
  have hsk := Lx.skip_le l
  go_enter Tryz.func10, Tryz.ntmps10
  go_wp2_with (go_at_call 24; refine (blanks_any l (by omega) _).mono ?_; rintro e w' ⟨rfl, rfl⟩)
  go_loopw [2, 6] (fun v i wr => ∃ (ts : List Lx.Tok) (off : Nat), i = .int .i64 off ∧ off ≤ l.length ∧ ts.length ≤ off ∧ R = Lx.Res.glue ts (Lx.scan (l.drop off) off) ∧ Lx.skip (l.drop off) = 0 ∧ wr.ownsRow w.heap.size 60 5 v ts.length (tokCells ts) ∧ Below w.heap.size w wr) (fun _ i _ => l.length - (intOf i).toNat)
  case atStart => exact ⟨[], Lx.skip l, rfl, hsk, by simp, by rw [HR.out, Lx.scan_skip, Lx.Res.glue_nil, Nat.zero_add], skip_drop l, World.ownsRow_nil _ _ _ _, Below.refl _ _⟩
  case round =>
    obtain ⟨ts, off, rfl, hoff, htl, hrel, hs0, hown, hb⟩ := hrel
    have HREL := Lib.hid hrel; have HS0 := Lib.hid hs0
    clear hrel hs0
    have hbs := hb.size
    have HGr := Lib.hid (HG.out.below hb)
    have hsl := sl_from l off hoff
    by_cases hlt : off < l.length
    · cases hd : l.drop off with
      | nil => rw [List.drop_eq_nil_iff] at hd; omega
      | cons c r =>
        have hrl : (c :: r).length = l.length - off := by rw [← hd]; simp
        rw [hd] at hsl
        have hf := first_any c r (by simp at hrl; omega)
        have HF := Lib.hid hf; have HD := Lib.hid hd
        clear hf hd
        cases ho : Lx.first (c :: r) with
        | none =>
          have hbad : R = .bad off := by rw [HREL.out, HD.out, Lx.scan_bad (l := c :: r) off (by rw [← HD.out, HS0.out]; rfl) ho, ← HD.out, HS0.out]; rfl
          have hf := HF.out
          rw [ho] at hf
          have HF2 := Lib.hid hf; have HB := Lib.hid hbad
          clear ho hf hbad HF
          go_wp2_with (go_at_call 25; refine (HF2.out _ HGr.out).mono ?_; rintro e w1 ⟨q, k, t, s, n, hq, rfl, hb1⟩; obtain rfl : q = false := hq)
          go_ret3
          rw [HB.out]
          exact ⟨rfl, (hb.trans (hb1.mono hbs)).alloc (Nat.le_trans hbs hb1.size) _⟩
        | some b =>
          have hbl := Lx.first_len ho
          have hstep : R = Lx.Res.glue (ts ++ [b.at_ off]) (Lx.scan ((c :: r).drop b.len) (off + b.len)) := by
            rw [HREL.out, HD.out, Lx.scan_step (l := c :: r) off (by rw [← HD.out, HS0.out]; rfl) ho, Lx.Res.glue_glue, ← HD.out, HS0.out]; rfl
          have hdd : (c :: r).drop b.len = l.drop (off + b.len) := by rw [← HD.out, List.drop_drop]
          rw [hdd] at hstep
          have hf := HF.out
          rw [ho] at hf
          rw [hrl] at hbl
          obtain ⟨hb1', hb2'⟩ := hbl
          obtain ⟨va, vcap, rfl⟩ := own_shape' hown
          have hsl2 := sl_from l (off + b.len) (by omega)
          have hbk : ∀ w : World, Calls Tryz.prog 24 #[.string ⟨(l.drop (off + b.len)).toArray⟩] w fun e w' => e = .returned (.int .i64 (Lx.skip (l.drop (off + b.len)) : Int)) ∧ w' = w :=
            fun w => (blanks_any (l.drop (off + b.len)) (by simp; omega) w).mono fun e w' h => ⟨h.1, h.2.symm⟩
          have hskl := Lx.skip_le (l.drop (off + b.len))
          rw [List.length_drop] at hskl
          have hsk2 := skip_drop (l.drop (off + b.len))
          rw [List.drop_drop] at hsk2
          rw [Lx.scan_skip, List.drop_drop] at hstep
          obtain ⟨m, hm⟩ : ∃ m, m = Lx.skip (l.drop (off + b.len)) := ⟨_, rfl⟩
          rw [← hm] at hskl hsk2 hstep hbk
          have HF2 := Lib.hid hf; have HST := Lib.hid hstep; have HBK := Lib.hid hbk; have HSK2 := Lib.hid hsk2
          clear ho hf hstep HF hdd hrl hbk hsk2 hm
          rw [Int.natCast_add] at hsl2
          go_wp2_with (first | (go_at_call 25; refine (HF2.out _ HGr.out).mono ?_; rintro e w1 ⟨q, k, t, s, n, hq, rfl, hb1⟩; obtain ⟨rfl, rfl, rfl, rfl, rfl⟩ := hq; obtain ⟨hc1, hf1⟩ := bcell hb1) | (at_builtin; refine wpList_append_own _ rfl _ _ 34 rfl w.heap.size 60 i0 (.agg #[.int .i64 0, .int .i64 0, .int .i64 0, .string ByteArray.empty, .int .i64 0]) 5 48 Tryz.underlying34 hi hz0 hz1 hz2 rfl (by decide) _ _ _ rfl (((own_below hown hb1).alloc _).alloc _) ⟨w1.heap.size + 1, 0, none⟩ 1 1 (tokRow (b.at_ off)) rfl rfl ?c1 ?c2 ?c3 ?c4 ?c5 ?_))
          case c1 => exact cells5 (w1.alloc _) _ (by simp) _ _ _ _ _ _
          case c2 => intro u hu; simp [tokRow] at hu; rcases hu with rfl | rfl | rfl | rfl | rfl <;> rfl
          case c3 => unfold maxLen; omega
          case c4 => omega
          case c5 => have := hb1.size; simp; omega
          intro v' w2 hown' hg2 _
          have hs1 := hb1.size
          have hne : some w1.heap.size ≠ (Value.slice va ts.length vcap).ownBlock := fun e => by have := (hown.lt _ e.symm).2; omega
          have hcc : w2.cell? ⟨w1.heap.size, 2, none⟩ = some (.int .i64 ((off : Int) + (b.len : Int))) := by
            rw [World.cell?_of_block (hg2.block w1.heap.size (by simp; omega) hne)]; simp
          have hb2 : Below w.heap.size w w2 := (((hb.trans (hb1.mono hbs)).alloc (Nat.le_trans hbs hs1) _).alloc (by simp; omega) _).grown hg2 (by simp; omega) (fun k hk => (hown.lt k hk).1)
          have hwr : IntKind.i64.wrap ((off : Int) + (b.len : Int) + (m : Int)) = (off : Int) + (b.len : Int) + (m : Int) := IntWalk.i64_in _ (by omega)
          rw [show ts.length + 1 = (ts ++ [b.at_ off]).length from by simp, ← tokCells_snoc] at hown'
          have HOWN := Lib.hid hown'; have HB2 := Lib.hid hb2
          clear hown' hg2 hne hc1 hf1 hb2 hs1
          go_wp2_with fail
          go_quiet ((go_at_call 24; exact Calls.quiet_of_same (HBK.out _)))
          go_roundw
          case rel => (repeat apply Exists.intro); exact ⟨⟨ts ++ [b.at_ off], off + b.len + m, by go_num, by omega, by simp; omega, HST.out, HSK2.out, own_drewN HOWN.out _, below_more HB2.out _⟩, rfl⟩
          case measure => simp [intOf]; omega
    · have hfin : R = .good ts := by
        rw [HREL.out, List.drop_of_length_le (by omega)]; simp [Lx.scan, Lx.scanF, Lx.skip, Lx.skipB, Lx.Res.glue]
      obtain ⟨va, vcap, rfl⟩ := own_shape' hown
      have HF := Lib.hid hfin; clear hfin
      go_wp2_with fail
      go_ret3
      rw [HF.out]
      exact ⟨_, rfl, hown, hb⟩
theorem scan_any (a : Option Addr) (cap : Nat) (l : List UInt8) (w : World) (hh : Holds w a l) (hg : Good w) :
    Calls Tryz.prog 10 #[.slice a l.length cap] w (ScanPost (scanAll l) w) := by
  unfold scanAll
  split
  · rename_i h; exact scan_big a _ cap h w
  · rename_i h; exact scan_small a cap l (by omega) w hh hg
end Go.Proofs.YtideicoifinnoaaGreatDoor
